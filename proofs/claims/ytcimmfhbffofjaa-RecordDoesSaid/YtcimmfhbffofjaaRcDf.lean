import Derived.Test.YtcimmfhbffofjaaRcOf
import Derived.Test.YtcimmfhbffofjaaRcRp
import Derived.RegionTactic
import Derived.BigRegion
namespace Go.Proofs.Ytcimmfhbffofjaa
open Wd U Go.ChangeShapes Go.WideShapes Go.RowKit Go.Sort
set_option linter.unusedVariables false
set_option linter.unusedSimpArgs false

/-! Of of the document's own -/
theorem no_short {l : List Nat} (h : l.length < 8) : ∀ (x : Eff) (r : Int) (t : List Nat), recB x r = true → x.data = zer x.kind → l ≠ recW x r ++ t := by
  intro x r t hb _ he
  have := manyR_le (check_in (recB_parts hb).1)
  rw [he, List.length_append, recW_len] at h
  omega
theorem rec_hdr {x : Eff} {r : Int} (t : List Nat) (h : recB x r = true) {j : Nat} (hj : j < 8) : ∃ k : Nat, (recW x r ++ t)[j]? = some k ∧ k ≤ 1048576 ∧ (hdrI x r)[j]? = some (k : Int) := by
  obtain ⟨k, h1, h2, h3⟩ := hdr_at h hj
  refine ⟨k, ?_, h3, h2⟩
  rw [← h1]
  unfold recW bodyR
  rw [List.append_assoc, List.append_assoc, List.append_assoc, List.getElem?_append_left (by exact hj)]
  rfl
theorem no_big {l : List Nat} {j y : Nat} (hj : j < 8) (hy : l[j]? = some y) (hbig : 1099511627776 < y) : ∀ (x : Eff) (r : Int) (t : List Nat), recB x r = true → x.data = zer x.kind → l ≠ recW x r ++ t := by
  intro x r t hb _ he
  obtain ⟨k, h1, h2, _⟩ := rec_hdr t hb hj
  rw [he, h1] at hy
  cases hy
  omega
/-- what the document reads there -/
def dE (l : List Nat) (a1 a2 a3 a4 a5 a6 : Nat) : Eff := ⟨a1, a2, a3, a4, a5, a6, (dtx l 8).1, (dtx l (dtx l 8).2).1, none, 0, []⟩
theorem d_back {x : Eff} {r : Int} {l t : List Nat} (h : recB x r = true) (he : l = recW x r ++ t) {a1 a2 a3 a4 a5 a6 a7 : Nat} (h1 : l[1]? = some a1) (h2 : l[2]? = some a2) (h3 : l[3]? = some a3) (h4 : l[4]? = some a4) (h5 : l[5]? = some a5) (h6 : l[6]? = some a6) (h7 : l[7]? = some a7) :
    dE l a1 a2 a3 a4 a5 a6 = core x ∧ (a7 : Int) = r ∧ 0 ≤ (dtx l 8).2 ∧ 0 ≤ (dtx l (dtx l 8).2).2 := by
  have R := check_in (recB_parts h).1
  subst he
  have g : ∀ {j a : Nat}, j < 8 → (recW x r ++ t)[j]? = some a → (hdrI x r)[j]? = some (a : Int) := by
    intro j a hj ha
    obtain ⟨k, e1, _, e2⟩ := rec_hdr t h hj
    rw [e1] at ha
    cases ha
    exact e2
  have e1 : some x.kind = some (a1 : Int) := g (by omega) h1
  have e2 : some x.ino = some (a2 : Int) := g (by omega) h2
  have e3 : some x.dir = some (a3 : Int) := g (by omega) h3
  have e4 : some x.dst = some (a4 : Int) := g (by omega) h4
  have e5 : some x.page = some (a5 : Int) := g (by omega) h5
  have e6 : some x.size = some (a6 : Int) := g (by omega) h6
  have e7 : some r = some (a7 : Int) := g (by omega) h7
  have hd : (recW x r ++ t).drop 8 = encT x.name ++ (encT x.other ++ (sum (bodyR x r) :: t)) := by
    unfold recW bodyR
    simp [List.append_assoc]
  have b1 := dtx_back (p := 8) hd R.name
  have b2 := dtx_back b1.2 R.other
  have n1 : dtx (recW x r ++ t) 8 = (x.name, ((8 + (encT x.name).length : Nat) : Int)) := b1.1
  unfold dE core
  rw [n1]
  dsimp only
  rw [b2.1]
  dsimp only
  rw [← Option.some.inj e1, ← Option.some.inj e2, ← Option.some.inj e3, ← Option.some.inj e4, ← Option.some.inj e5, ← Option.some.inj e6]
  exact ⟨rfl, (Option.some.inj e7).symm, by omega, by omega⟩
theorem d_no {l : List Nat} {e : Eff} {a1 a2 a3 a4 a5 a6 a7 : Nat} (h1 : l[1]? = some a1) (h2 : l[2]? = some a2) (h3 : l[3]? = some a3) (h4 : l[4]? = some a4) (h5 : l[5]? = some a5) (h6 : l[6]? = some a6) (h7 : l[7]? = some a7)
    (hc : core e = dE l a1 a2 a3 a4 a5 a6) (hd : e.data = zer e.kind) (hno : recB e a7 = true → ∀ t, l ≠ recW e a7 ++ t) : ∀ (x : Eff) (r : Int) (t : List Nat), recB x r = true → x.data = zer x.kind → l ≠ recW x r ++ t := by
  intro x r t hb hx he
  obtain ⟨e1, e2, _, _⟩ := d_back hb he h1 h2 h3 h4 h5 h6 h7
  have e3 : core e = core x := hc.trans e1
  have e4 : e.data = x.data := by rw [hd, hx, core_kind e3]
  have e5 : recB e a7 = true := by rw [e2, recB_core e3 (by rw [e4])]; exact hb
  exact hno e5 t (by rw [e2, recW_core r e3]; exact he)
theorem d_end {l : List Nat} {a1 a2 a3 a4 a5 a6 a7 : Nat} (h1 : l[1]? = some a1) (h2 : l[2]? = some a2) (h3 : l[3]? = some a3) (h4 : l[4]? = some a4) (h5 : l[5]? = some a5) (h6 : l[6]? = some a6) (h7 : l[7]? = some a7)
    (hno : (dtx l 8).2 < 0 ∨ (dtx l (dtx l 8).2).2 < 0) : ∀ (x : Eff) (r : Int) (t : List Nat), recB x r = true → x.data = zer x.kind → l ≠ recW x r ++ t := by
  intro x r t hb hx he
  obtain ⟨_, _, e1, e2⟩ := d_back hb he h1 h2 h3 h4 h5 h6 h7
  omega
theorem word_at {w : World} {B L b off : Nat} {l : List Nat} (hr : Row w B (some ⟨b, off, none⟩) L (l.map wd)) {k : Nat} (hk : k < L) : ∃ a, l[k]? = some a ∧ w.cell? ⟨b, off + k, none⟩ = some (.int .u64 (a : Int)) := by
  obtain ⟨b', off', x, he, _, hx, cx⟩ := hr.get hk
  cases he
  exact ⟨x, hx, cx⟩
theorem dtx_le (l : List Nat) (p : Int) : (dtx l p).1.size ≤ 24 ∧ ((dtx l p).2 = -1 ∨ 0 ≤ p ∧ p < (dtx l p).2 ∧ (dtx l p).2 ≤ p + 4) := by
  unfold dtx
  split
  · rename_i h1
    refine ⟨textV_size 24 _, .inr ⟨h1.1, ?_⟩⟩
    show p < p + 1 + ((need _ : Nat) : Int) ∧ p + 1 + ((need _ : Nat) : Int) ≤ p + 4
    have h2 := h1.2
    cases hd : l.drop p.toNat with
    | nil => rw [hd] at h2; exact absurd h2 (by simp [textOk])
    | cons x t =>
      rw [hd, textOk_cons] at h2
      simp only [Bool.and_eq_true, decide_eq_true_eq] at h2
      have := h2.1.1.2
      show p < p + 1 + ((need x : Nat) : Int) ∧ p + 1 + ((need x : Nat) : Int) ≤ p + 4
      unfold need
      omega
  · exact ⟨Nat.zero_le _, .inl rfl⟩
theorem word_is {w : World} {B L b off : Nat} {l : List Nat} (hr : Row w B (some ⟨b, off, none⟩) L (l.map wd)) {k a : Nat} (hk : k < L) (hx : l[k]? = some a) : w.cell? ⟨b, off + k, none⟩ = some (.int .u64 (a : Int)) := by
  obtain ⟨a', h1, h2⟩ := word_at hr hk
  rw [hx] at h1
  cases h1
  exact h2
theorem words6 {w w' : World} {B L b off : Nat} {l : List Nat} (hr : Row w B (some ⟨b, off, none⟩) L (l.map wd)) (hB : B ≤ w.heap.size) (hL : 8 ≤ L) {a1 a2 a3 a4 a5 a6 a7 : Nat} (h1 : l[1]? = some a1) (h2 : l[2]? = some a2) (h3 : l[3]? = some a3) (h4 : l[4]? = some a4) (h5 : l[5]? = some a5) (h6 : l[6]? = some a6) (h7 : l[7]? = some a7) (hb : Below w.heap.size w w') :
    Below w.heap.size w w' ∧ w'.cell? ⟨b, off + 1, none⟩ = some (.int .u64 (a1 : Int)) ∧ w'.cell? ⟨b, off + 2, none⟩ = some (.int .u64 (a2 : Int)) ∧ w'.cell? ⟨b, off + 3, none⟩ = some (.int .u64 (a3 : Int)) ∧ w'.cell? ⟨b, off + 4, none⟩ = some (.int .u64 (a4 : Int)) ∧ w'.cell? ⟨b, off + 5, none⟩ = some (.int .u64 (a5 : Int)) ∧ w'.cell? ⟨b, off + 6, none⟩ = some (.int .u64 (a6 : Int)) ∧ w'.cell? ⟨b, off + 7, none⟩ = some (.int .u64 (a7 : Int)) := by
  have h := hr.below (hb.mono hB)
  exact ⟨hb, word_is h (by omega) h1, word_is h (by omega) h2, word_is h (by omega) h3, word_is h (by omega) h4, word_is h (by omega) h5, word_is h (by omega) h6, word_is h (by omega) h7⟩
end Go.Proofs.Ytcimmfhbffofjaa
