import Derived.Test.YtcimmfhbffofjaaWoBk
import Derived.Test.YtcimmfhbffofjaaCkFace
import Derived.Test.YtcimmfhbffofjaaEfBrx
namespace Go.Proofs.Ytcimmfhbffofjaa
open Wd U Go.ChangeShapes Go.WideShapes Go.RowKit Go.Sort
set_option linter.unusedVariables false
set_option linter.unusedSimpArgs false

/-! the words of a record -/
theorem nm_size {s : ByteArray} (h : nmB s = true) : s.size ≤ 24 := by
  unfold nmB nameN at h
  rw [decide_eq_true_iff] at h
  rw [← size_list]
  split at h
  · omega
  · unfold plainN at h
    split at h
    · omega
    · split at h
      · omega
      · omega
theorem em_size {s : ByteArray} (h : emB s = true) : s.size = 0 := by
  unfold emB at h
  rw [← size_list, List.isEmpty_iff.1 h]
  rfl
theorem nd_range {n : Int} (h : ndB n = true) : 1 ≤ n ∧ n ≤ 1048576 := by unfold ndB at h; exact of_decide_eq_true h
structure Eff.InR (e : Eff) : Prop where
  kind : 1 ≤ e.kind ∧ e.kind ≤ 8
  ino : 1 ≤ e.ino ∧ e.ino ≤ 1048576
  dir : 0 ≤ e.dir ∧ e.dir ≤ 1048576
  dst : 0 ≤ e.dst ∧ e.dst ≤ 1048576
  page : 0 ≤ e.page ∧ e.page ≤ 63
  size : 0 ≤ e.size ∧ e.size ≤ 16384
  name : e.name.size ≤ 24
  other : e.other.size ≤ 24
theorem place_r {e : Eff} (h : e.place = true) : (0 ≤ e.dir ∧ e.dir ≤ 1048576) ∧ e.name.size ≤ 24 := by
  unfold Eff.place at h
  obtain ⟨h1, h2⟩ := Bool.and_eq_true_iff.1 h
  have := nd_range h1
  exact ⟨by omega, nm_size h2⟩
theorem noPlace_r {e : Eff} (h : e.noPlace = true) : (0 ≤ e.dir ∧ e.dir ≤ 1048576) ∧ e.name.size ≤ 24 := by
  unfold Eff.noPlace at h
  obtain ⟨h1, h2⟩ := Bool.and_eq_true_iff.1 h
  have h1 := of_decide_eq_true h1
  have := em_size h2
  exact ⟨by omega, by omega⟩
theorem noOther_r {e : Eff} (h : e.noOther = true) : (0 ≤ e.dst ∧ e.dst ≤ 1048576) ∧ e.other.size ≤ 24 := by
  unfold Eff.noOther at h
  obtain ⟨h1, h2⟩ := Bool.and_eq_true_iff.1 h
  have h1 := of_decide_eq_true h1
  have := em_size h2
  exact ⟨by omega, by omega⟩
theorem check_in {e : Eff} (h : e.check = true) : e.InR := by
  unfold Eff.check at h
  obtain ⟨h1, h2⟩ := Bool.and_eq_true_iff.1 h
  have hi := nd_range h2
  unfold Eff.mayBe at h1
  split at h1
  · simp only [Bool.and_eq_true, Bool.or_eq_true, decide_eq_true_eq] at h1
    obtain ⟨⟨⟨⟨a, b⟩, c⟩, d⟩, f⟩ := h1
    have a := place_r a; have b := noOther_r b
    exact ⟨by omega, hi, a.1, b.1, by omega, by omega, a.2, b.2⟩
  · split at h1
    · simp only [Bool.and_eq_true, Bool.or_eq_true, decide_eq_true_eq] at h1
      obtain ⟨⟨⟨⟨a, b⟩, c⟩, d⟩, f⟩ := h1
      have a := place_r a; have b := noOther_r b
      exact ⟨by omega, hi, a.1, b.1, by omega, by omega, a.2, b.2⟩
    · split at h1
      · simp only [Bool.and_eq_true, Bool.or_eq_true, decide_eq_true_eq] at h1
        obtain ⟨⟨⟨⟨⟨a, b⟩, b'⟩, c⟩, d⟩, f⟩ := h1
        have a := place_r a; have b := nd_range b; have b' := nm_size b'
        exact ⟨by omega, hi, a.1, by omega, by omega, by omega, a.2, b'⟩
      · split at h1
        · simp only [Bool.and_eq_true, Bool.or_eq_true, decide_eq_true_eq] at h1
          obtain ⟨⟨⟨⟨⟨a, b⟩, c⟩, d⟩, f⟩, g⟩ := h1
          have a := noPlace_r a; have b := noOther_r b
          exact ⟨by omega, hi, a.1, b.1, by omega, by omega, a.2, b.2⟩
        · split at h1
          · simp only [Bool.and_eq_true, Bool.or_eq_true, decide_eq_true_eq] at h1
            obtain ⟨⟨⟨⟨⟨⟨a, b⟩, c⟩, d⟩, f⟩, g⟩, i⟩ := h1
            have a := noPlace_r a; have b := noOther_r b
            exact ⟨by omega, hi, a.1, b.1, by omega, by omega, a.2, b.2⟩
          · split at h1
            · simp only [Bool.and_eq_true, Bool.or_eq_true, decide_eq_true_eq] at h1
              obtain ⟨⟨⟨⟨a, b⟩, c⟩, d⟩, f⟩ := h1
              have a := noPlace_r a; have b := noOther_r b
              exact ⟨by omega, hi, a.1, b.1, by omega, by omega, a.2, b.2⟩
            · cases h1

def core (e : Eff) : Eff := { e with A := none, cp := 0, data := [] }
def zer (k : Int) : List Nat := if k = 7 then List.replicate 256 0 else []
def recB (e : Eff) (ref : Int) : Bool := e.check && decide (0 ≤ ref) && decide (ref ≤ 1048576) && (decide (e.kind = 7) || decide (ref = 0))
def manyR (e : Eff) : Nat := 11 + need e.name.size + need e.other.size
def bodyR (e : Eff) (ref : Int) : List Nat := [manyR e, e.kind.toNat, e.ino.toNat, e.dir.toNat, e.dst.toNat, e.page.toNat, e.size.toNat, ref.toNat] ++ encT e.name ++ encT e.other
def recW (e : Eff) (ref : Int) : List Nat := bodyR e ref ++ [sum (bodyR e ref)]
theorem recB_parts {e : Eff} {ref : Int} (h : recB e ref = true) : e.check = true ∧ 0 ≤ ref ∧ ref ≤ 1048576 ∧ (e.kind = 7 ∨ ref = 0) := by
  unfold recB at h
  simp only [Bool.and_eq_true, Bool.or_eq_true, decide_eq_true_eq] at h
  exact ⟨h.1.1.1, h.1.1.2, h.1.2, h.2⟩
theorem encT_length (s : ByteArray) : (encT s).length = 1 + need s.size := by
  unfold encT; rw [List.length_append, pk_len, bsOf_len]; simp
theorem bodyR_len (e : Eff) (ref : Int) : (bodyR e ref).length + 1 = manyR e := by
  unfold bodyR manyR
  rw [List.length_append, List.length_append, encT_length, encT_length]
  simp
  omega
theorem recW_len (e : Eff) (ref : Int) : (recW e ref).length = manyR e := by
  unfold recW
  rw [List.length_append, ← bodyR_len e ref]
  rfl
theorem manyR_le {e : Eff} (h : e.InR) : 11 ≤ manyR e ∧ manyR e ≤ 17 := by
  have := h.name; have := h.other
  unfold manyR need
  omega
theorem recW_form (e : Eff) (ref : Int) (t : List Nat) : recW e ref ++ t = manyR e :: e.kind.toNat :: e.ino.toNat :: e.dir.toNat :: e.dst.toNat :: e.page.toNat :: e.size.toNat :: ref.toNat :: (e.name.size :: (pk (bsOf e.name) ++ (e.other.size :: (pk (bsOf e.other) ++ (sum (bodyR e ref) :: t))))) := by
  unfold recW bodyR encT
  simp [List.append_assoc]
theorem check_core {a b : Eff} (h : core a = core b) (hd : a.data.length = b.data.length) : a.check = b.check := by
  obtain ⟨a0, a1, a2, a3, a4, a5, a6, a7, a8, a9, a10⟩ := a
  obtain ⟨b0, b1, b2, b3, b4, b5, b6, b7, b8, b9, b10⟩ := b
  unfold core at h
  injection h with h0 h1 h2 h3 h4 h5 h6 h7 h8 h9 h10
  dsimp only at h0 h1 h2 h3 h4 h5 h6 h7 hd
  subst h0 h1 h2 h3 h4 h5 h6 h7
  unfold Eff.check Eff.mayBe Eff.place Eff.noPlace Eff.noOther Eff.noData
  dsimp only
  rw [hd]
theorem core_kind {a b : Eff} (h : core a = core b) : a.kind = b.kind := by unfold core at h; injection h
theorem recB_core {a b : Eff} {r : Int} (h : core a = core b) (hd : a.data.length = b.data.length) : recB a r = recB b r := by
  unfold recB; rw [check_core h hd, core_kind h]
theorem recW_core {a b : Eff} (r : Int) (h : core a = core b) : recW a r = recW b r := by
  obtain ⟨a0, a1, a2, a3, a4, a5, a6, a7, a8, a9, a10⟩ := a
  obtain ⟨b0, b1, b2, b3, b4, b5, b6, b7, b8, b9, b10⟩ := b
  unfold core at h
  injection h with h0 h1 h2 h3 h4 h5 h6 h7 h8 h9 h10
  dsimp only at h0 h1 h2 h3 h4 h5 h6 h7
  subst h0 h1 h2 h3 h4 h5 h6 h7
  rfl
theorem same_core {a b : Eff} (h : core a = core b) (hd : a.data = b.data) : sameB a b = true := by
  obtain ⟨a0, a1, a2, a3, a4, a5, a6, a7, a8, a9, a10⟩ := a
  obtain ⟨b0, b1, b2, b3, b4, b5, b6, b7, b8, b9, b10⟩ := b
  unfold core at h
  injection h with h0 h1 h2 h3 h4 h5 h6 h7 h8 h9 h10
  dsimp only at h0 h1 h2 h3 h4 h5 h6 h7 hd
  subst h0 h1 h2 h3 h4 h5 h6 h7 hd
  unfold sameB
  simp
theorem core_bare (e : Eff) : e.bare = core e := rfl

/-! what is read there -/
theorem back_text' {s : ByteArray} {m : Int} (h : (s.size : Int) ≤ m) (hs : s.size ≤ 100) (rest : List Nat) : textOk m (s.size :: (pk (bsOf s) ++ rest)) = true ∧ textV m (s.size :: (pk (bsOf s) ++ rest)) = s ∧ textX m (s.size :: (pk (bsOf s) ++ rest)) = rest := by
  have hk : (pk (bsOf s)).length = need s.size := by rw [pk_len, bsOf_len]
  have ht : (pk (bsOf s) ++ rest).take (need s.size) = pk (bsOf s) := by rw [← hk, List.take_left]
  have hd : (pk (bsOf s) ++ rest).drop (need s.size) = rest := by rw [← hk, List.drop_left]
  have hm : mayU (pk (bsOf s)) (s.size : Int) = true := by rw [← bsOf_len s]; exact mayU_pk (bsOf_bytes s)
  have ok : textOk m (s.size :: (pk (bsOf s) ++ rest)) = true := by
    rw [textOk_cons, ht, hm, List.length_append, hk]
    have h1 : s.size ≤ topN := by unfold topN; omega
    simp [h1, h]
  refine ⟨ok, ?_, ?_⟩
  · unfold textV
    rw [ok]
    show strOf (bytesOf ((pk (bsOf s) ++ rest).take (need s.size)) s.size) = s
    have := bytes_pk (bsOf_bytes s)
    rw [bsOf_len] at this
    rw [ht, this, strOf_bsOf]
  · unfold textX; rw [ok]; exact hd
theorem textV_size (m : Nat) (xs : List Nat) : (textV m xs).size ≤ m := by
  unfold textV
  cases xs with
  | nil => simp [textOk]
  | cons x t =>
    cases h : textOk m (x :: t)
    · simp
    · rw [textOk_cons] at h
      simp only [Bool.and_eq_true, decide_eq_true_eq] at h
      simp only [if_true]
      rw [← size_list, strOf_len]
      unfold bytesOf
      rw [List.length_map, List.length_range]
      show x ≤ m
      have := h.1.1.2
      omega
theorem numV_le (xs : List Nat) : numV xs ≤ topN := by
  unfold numV
  cases xs with
  | nil => simp [numOk]
  | cons x t =>
    cases h : numOk (x :: t)
    · simp
    · unfold numOk at h
      simpa using h
def nX : Nat → List Nat → List Nat
  | 0, xs => xs
  | k + 1, xs => numX (nX k xs)
def nB : Nat → List Nat → Bool
  | 0, _ => false
  | k + 1, xs => numB (nX k xs) (nB k xs)
def rdE (xs : List Nat) : Eff := ⟨numV (nX 1 xs), numV (nX 2 xs), numV (nX 3 xs), numV (nX 4 xs), numV (nX 5 xs), numV (nX 6 xs), textV 24 (nX 8 xs), textV 24 (textX 24 (nX 8 xs)), none, 0, []⟩
def rdRef (xs : List Nat) : Int := numV (nX 7 xs)
theorem rd_back {e : Eff} {ref : Int} (hb : recB e ref = true) (t : List Nat) : rdE (recW e ref ++ t) = core e ∧ rdRef (recW e ref ++ t) = ref := by
  obtain ⟨hc, r0, r1, _⟩ := recB_parts hb
  have R := check_in hc
  have m := manyR_le R
  rw [recW_form]
  generalize hT : (e.name.size :: (pk (bsOf e.name) ++ (e.other.size :: (pk (bsOf e.other) ++ (sum (bodyR e ref) :: t))))) = T
  have tp : ∀ {n : Int}, 0 ≤ n → n ≤ 1048576 → n.toNat ≤ topN := by intro n a b; unfold topN; omega
  have s0 := back_num (x := manyR e) (by unfold topN; omega) (e.kind.toNat :: e.ino.toNat :: e.dir.toNat :: e.dst.toNat :: e.page.toNat :: e.size.toNat :: ref.toNat :: T)
  have s1 := back_num (tp (n := e.kind) (by have := R.kind; omega) (by have := R.kind; omega)) (e.ino.toNat :: e.dir.toNat :: e.dst.toNat :: e.page.toNat :: e.size.toNat :: ref.toNat :: T)
  have s2 := back_num (tp (n := e.ino) (by have := R.ino; omega) (by have := R.ino; omega)) (e.dir.toNat :: e.dst.toNat :: e.page.toNat :: e.size.toNat :: ref.toNat :: T)
  have s3 := back_num (tp (n := e.dir) R.dir.1 R.dir.2) (e.dst.toNat :: e.page.toNat :: e.size.toNat :: ref.toNat :: T)
  have s4 := back_num (tp (n := e.dst) R.dst.1 R.dst.2) (e.page.toNat :: e.size.toNat :: ref.toNat :: T)
  have s5 := back_num (tp (n := e.page) R.page.1 (by have := R.page; omega)) (e.size.toNat :: ref.toNat :: T)
  have s6 := back_num (tp (n := e.size) R.size.1 (by have := R.size; omega)) (ref.toNat :: T)
  have s7 := back_num (tp (n := ref) r0 r1) T
  have n1 : nX 1 (manyR e :: e.kind.toNat :: e.ino.toNat :: e.dir.toNat :: e.dst.toNat :: e.page.toNat :: e.size.toNat :: ref.toNat :: T) = e.kind.toNat :: e.ino.toNat :: e.dir.toNat :: e.dst.toNat :: e.page.toNat :: e.size.toNat :: ref.toNat :: T := s0.2.1
  generalize hL : (manyR e :: e.kind.toNat :: e.ino.toNat :: e.dir.toNat :: e.dst.toNat :: e.page.toNat :: e.size.toNat :: ref.toNat :: T) = L at n1
  have n2 : nX 2 L = _ := (congrArg numX n1).trans s1.2.1
  have n3 : nX 3 L = _ := (congrArg numX n2).trans s2.2.1
  have n4 : nX 4 L = _ := (congrArg numX n3).trans s3.2.1
  have n5 : nX 5 L = _ := (congrArg numX n4).trans s4.2.1
  have n6 : nX 6 L = _ := (congrArg numX n5).trans s5.2.1
  have n7 : nX 7 L = _ := (congrArg numX n6).trans s6.2.1
  have n8 : nX 8 L = _ := (congrArg numX n7).trans s7.2.1
  have t1 := back_text' (s := e.name) (m := 24) (by have := R.name; omega) (by have := R.name; omega) (e.other.size :: (pk (bsOf e.other) ++ (sum (bodyR e ref) :: t)))
  have t2 := back_text' (s := e.other) (m := 24) (by have := R.other; omega) (by have := R.other; omega) (sum (bodyR e ref) :: t)
  rw [hT] at t1
  constructor
  · unfold rdE core
    rw [n1, n2, n3, n4, n5, n6, n8, s1.1, s2.1, s3.1, s4.1, s5.1, s6.1, t1.2.1, t1.2.2, t2.2.1]
    have := R.kind; have := R.ino; have := R.dir; have := R.dst; have := R.page; have := R.size
    congr 1 <;> omega
  · unfold rdRef
    rw [n7, s7.1]
    omega
theorem rec_inj {a b : Eff} {r q : Int} {s t : List Nat} (ha : recB a r = true) (hb : recB b q = true) (h : recW a r ++ s = recW b q ++ t) : core a = core b ∧ r = q ∧ s = t := by
  have x := rd_back ha s
  have y := rd_back hb t
  rw [h] at x
  have e1 : core a = core b := x.1.symm.trans y.1
  have e2 : r = q := x.2.symm.trans y.2
  refine ⟨e1, e2, ?_⟩
  rw [recW_core r e1, e2] at h
  exact List.append_cancel_left h
end Go.Proofs.Ytcimmfhbffofjaa
