import Derived.Test.YtnijffgdapfgpaaPnOff
import Derived.Test.YtnijffgdapfgpaaEfTch
import Derived.Test.YtnijffgdapfgpaaEfFew
import Derived.Test.YtnijffgdapfgpaaEfBrx
import Derived.ScopeJumps
import Derived.WalkMore
/-! The project's list of what doesn't stay yet: where it lies, what it holds, its small functions. -/
namespace Go.Proofs.Ytnijffgdapfgpaa
open Wd U Go.Maps Go.ChangeShapes Go.WideShapes Go.RowKit Go.Sort
set_option linter.unusedVariables false
set_option maxRecDepth 100000
/-- an effect without its bytes, its names short -/
structure EfBare (e : Eff) : Prop where
  kind : i64R e.kind
  ino : i64R e.ino
  dir : i64R e.dir
  dst : i64R e.dst
  page : i64R e.page
  size : i64R e.size
  name : e.name.size ≤ 100
  other : e.other.size ≤ 100
  A : e.A = none
  cp : e.cp = 0
  data : e.data = []
theorem EfBare.ok {e : Eff} (h : EfBare e) (w : World) (B : Nat) : e.Ok w B := by
  obtain ⟨kind, ino, dir, dst, page, size, name, other, A, cp, data⟩ := e
  obtain ⟨h1, h2, h3, h4, h5, h6, h7, h8, h9, h10, h11⟩ := h
  simp only at h9 h10 h11
  subst h9 h10 h11
  exact ⟨h1, h2, h3, h4, h5, h6, (by unfold maxLen; simp only at h7 ⊢; omega), (by unfold maxLen; simp only at h8 ⊢; omega), (fun x hx => absurd hx (by simp)), ⟨rfl, fun hn => absurd hn (by simp)⟩, (by unfold maxLen; simp), Nat.le_refl _⟩
theorem Eff.bare_of {e : Eff} {w : World} {B : Nat} (h : e.Ok w B) (hf : e.few) : EfBare e.bare := ⟨h.kind, h.ino, h.dir, h.dst, h.page, h.size, hf.2.1, hf.2.2, rfl, rfl, rfl⟩
theorem EfBare.bare {e : Eff} (h : EfBare e) : e.bare = e := by
  obtain ⟨kind, ino, dir, dst, page, size, name, other, A, cp, data⟩ := e
  have h1 := h.A; have h2 := h.cp; have h3 := h.data
  simp only at h1 h2 h3
  subst h1 h2 h3
  rfl
def wcells (x : Eff × Int) : List Value := x.1.vals ++ [.int .i64 x.2]
def wval (x : Eff × Int) : Value := .agg #[.int .i64 x.1.kind, .int .i64 x.1.ino, .int .i64 x.1.dir, .int .i64 x.1.dst, .int .i64 x.1.page, .int .i64 x.1.size, .string x.1.name, .string x.1.other, .slice x.1.A x.1.data.length x.1.cp, .int .i64 x.2]
def pvals (l : List (Eff × Int)) : List Value := l.flatMap wcells
theorem wcells_len (x : Eff × Int) : (wcells x).length = 10 := rfl
theorem pvals_len (l : List (Eff × Int)) : (pvals l).length = l.length * 10 := by
  induction l with
  | nil => rfl
  | cons x l ih => unfold pvals at *; rw [List.flatMap_cons, List.length_append, ih, wcells_len]; simp; omega
theorem pvals_snoc (l : List (Eff × Int)) (x : Eff × Int) : pvals (l ++ [x]) = pvals l ++ wcells x := by unfold pvals; simp [List.flatMap_append]
theorem pvals_drop (x : Eff × Int) (l : List (Eff × Int)) : (pvals (x :: l)).drop 10 = pvals l := by unfold pvals; rw [List.flatMap_cons, List.drop_append_of_le_length (Nat.le_of_eq (wcells_len x).symm), List.drop_of_length_le (Nat.le_of_eq (wcells_len x)), List.nil_append]
theorem pvals_at : ∀ (l : List (Eff × Int)) (j k : Nat) (x : Eff × Int) (u : Value), l[j]? = some x → (wcells x)[k]? = some u → (pvals l)[j * 10 + k]? = some u := by
  intro l
  induction l with
  | nil => intro j k x u hj; simp at hj
  | cons y l ih =>
    intro j k x u hj hk
    have e : pvals (y :: l) = wcells y ++ pvals l := by unfold pvals; rw [List.flatMap_cons]
    have hl := wcells_len y
    rw [e]
    cases j with
    | zero =>
      simp at hj
      subst hj
      have : k < (wcells y).length := (List.getElem?_eq_some_iff.1 hk).1
      rw [Nat.zero_mul, Nat.zero_add, List.getElem?_append_left this]
      exact hk
    | succ j =>
      rw [List.getElem?_append_right (by rw [hl]; omega), hl, show (j + 1) * 10 + k - 10 = j * 10 + k by omega]
      exact ih j k x u (by simpa using hj) hk
theorem infoPW : (Try.prog.info? 44).map (fun i => (i.zero, i.size, i.bytes)) = some (some (wval (⟨0, 0, 0, 0, 0, 0, ByteArray.empty, ByteArray.empty, none, 0, []⟩, 0)), 10, 112) := by kernel_rfl
structure Pst where
  rows : List (Eff × Int)
  gone : Nat
structure PnAt (w : World) (B b : Nat) (S : Pst) : Prop where
  bb : B ≤ b
  len : S.rows.length ≤ 1000
  few : S.gone ≤ 1000000
  c : ∃ v, Cells w b 29 #[v, .int .i64 (S.gone : Int)] ∧ OffRow w B 44 10 v S.rows.length (pvals S.rows)
  bare : ∀ x ∈ S.rows, EfBare x.1 ∧ i64R x.2
abbrev PPtr (b : Nat) : Value := .pointer (some ⟨b, 0, none⟩)
section
variable {w w' : World} {B b : Nat} {S : Pst}
theorem PnAt.open_ (h : PnAt w B b S) : ∃ A c, Cells w b 29 #[.slice A S.rows.length c, .int .i64 (S.gone : Int)] ∧ OffRow w B 44 10 (.slice A S.rows.length c) S.rows.length (pvals S.rows) := by
  obtain ⟨v, h1, h2⟩ := h.c
  obtain ⟨A, c, rfl, _, _⟩ := h2.shape
  exact ⟨A, c, h1, h2⟩
theorem PnAt.lt (h : PnAt w B b S) : b < w.heap.size := by obtain ⟨v, h1, _⟩ := h.c; exact h1.lt
theorem PnAt.below (h : PnAt w B b S) (hb : Below w.heap.size w w') : PnAt w' B b S := by
  obtain ⟨v, h1, h2⟩ := h.c
  exact ⟨h.bb, h.len, h.few, ⟨v, h1.below' hb, h2.below hb⟩, h.bare⟩
theorem PnAt.other {B' : Nat} {T : TypeId} (h : PnAt w B b S) (hk : OffKept w w' B' T) (h1 : 29 ≠ T) (h2 : 44 ≠ T) : PnAt w' B b S := by
  obtain ⟨v, c1, c2⟩ := h.c
  exact ⟨h.bb, h.len, h.few, ⟨v, hk.cells c1 h1, hk.off c2 h2⟩, h.bare⟩
theorem PnAt.far (h : PnAt w B b S) {g i : Nat} {T : TypeId} {cs : Array Value} (hg : Cells w g T cs) (h1 : 29 ≠ T) (h2 : 44 ≠ T) (u : Value) : PnAt (w.setCell ⟨g, i, none⟩ u) B b S := by
  obtain ⟨v, c1, c2⟩ := h.c
  exact ⟨h.bb, h.len, h.few, ⟨v, c1.far (p := ⟨g, i, none⟩) (c1.ne hg h1) u, c2.keep fun q cs' hq => Below.heap_setCell w ⟨g, i, none⟩ u q (hq.ne hg h2)⟩, h.bare⟩
/-- the one at the k-th place -/
theorem off_at {T : TypeId} {A : Option Addr} {c n : Nat} {l : List (Eff × Int)} (h : OffRow w B T 10 (.slice A n c) n (pvals l)) (hn : l.length = n) {k : Nat} {x : Eff × Int} (hk : l[k]? = some x) :
    ∃ q off cur, A = some ⟨q, off, none⟩ ∧ B ≤ q ∧ Cells w q T cur ∧ ∀ (j : Nat) (u : Value), (wcells x)[j]? = some u → w.cell? ⟨q, off + (k * 10 + j), none⟩ = some u := by
  have hkl := (List.getElem?_eq_some_iff.1 hk).1
  rcases h.2 with ⟨h1, h2⟩ | ⟨q, off, cap, cur, h1, hB, hh, h2, h3, h4, h5⟩
  · omega
  · injection h1 with h1 _ h6
    exact ⟨q, off, cur, h1, hB, hh, fun j u hj => by rw [hh.cell]; exact h5 _ u (pvals_at l k j x u hk hj)⟩
theorem pnAll {A : Option Addr} {n c : Nat} {u : Value} (hc : Cells w b 29 #[.slice A n c, u]) : Calls Try.prog 18 #[PPtr b] w fun e w' => e = .returned (.slice A n c) ∧ w = w' := by
  have c0 : w.cell? ⟨b, 0, none⟩ = some (.slice A n c) := by rw [hc.cell]; rfl
  clear hc
  unfold PPtr
  go_enter Try.func18, Try.ntmps18
  go_wp2
  go_ret
  exact ⟨rfl, rfl⟩
theorem pnAll_nil (w : World) : Calls Try.prog 18 #[.pointer none] w fun e w' => e = .returned (.slice none 0 0) ∧ w = w' := by
  go_enter Try.func18, Try.ntmps18
  go_wp2
  go_ret
  exact ⟨rfl, rfl⟩
theorem pnLen {A : Option Addr} {n c : Nat} {u : Value} (hc : Cells w b 29 #[.slice A n c, u]) : Calls Try.prog 11 #[PPtr b] w fun e w' => e = .returned (.int .i64 (n : Int)) ∧ w = w' := by
  have K := Lib.hid (pnAll hc)
  clear hc
  unfold PPtr at *
  go_enter Try.func11, Try.ntmps11
  go_wp2_with (go_at_call 18; refine K.out.mono ?_; rintro e w1 ⟨rfl, rfl⟩)
  go_ret
  exact ⟨rfl, rfl⟩
theorem pnLen_nil (w : World) : Calls Try.prog 11 #[.pointer none] w fun e w' => e = .returned (.int .i64 0) ∧ w = w' := by
  have K := Lib.hid (pnAll_nil w)
  go_enter Try.func11, Try.ntmps11
  go_wp2_with (go_at_call 18; refine K.out.mono ?_; rintro e w1 ⟨rfl, rfl⟩)
  go_ret
  exact ⟨rfl, rfl⟩
theorem pnGone {v : Value} {g : Nat} (hc : Cells w b 29 #[v, .int .i64 (g : Int)]) : Calls Try.prog 12 #[PPtr b] w fun e w' => e = .returned (.int .i64 (g : Int)) ∧ w = w' := by
  have c1 : w.cell? ⟨b, 1, none⟩ = some (.int .i64 (g : Int)) := by rw [hc.cell]; rfl
  clear hc
  unfold PPtr
  go_enter Try.func12, Try.ntmps12
  go_wp2
  go_ret
  exact ⟨rfl, rfl⟩
theorem pnGone_nil (w : World) : Calls Try.prog 12 #[.pointer none] w fun e w' => e = .returned (.int .i64 0) ∧ w = w' := by
  go_enter Try.func12, Try.ntmps12
  go_wp2
  go_ret
  exact ⟨rfl, rfl⟩
theorem pnNext {A : Option Addr} {n c g : Nat} (hc : Cells w b 29 #[.slice A n c, .int .i64 (g : Int)]) (hn : n ≤ 1000) (hg : g ≤ 1000000) : Calls Try.prog 13 #[PPtr b] w fun e w' => e = .returned (.int .i64 ((g + n + 1 : Nat) : Int)) ∧ w = w' := by
  have K1 := Lib.hid (pnGone hc)
  have K2 := Lib.hid (pnLen hc)
  have q1 : wrap64 ((g : Int) + (n : Int)) = ((g + n : Nat) : Int) := by unfold wrap64; omega
  have q2 : wrap64 (((g + n : Nat) : Int) + 1) = ((g + n + 1 : Nat) : Int) := by unfold wrap64; omega
  clear hc
  unfold PPtr at *
  go_enter Try.func13, Try.ntmps13
  go_wp2_with (first
    | (go_at_call 12; refine K1.out.mono ?_; rintro e w1 ⟨rfl, rfl⟩)
    | (go_at_call 11; refine K2.out.mono ?_; rintro e w1 ⟨rfl, rfl⟩))
  go_ret
  exact ⟨rfl, rfl⟩
theorem pnNext_nil (w : World) : Calls Try.prog 13 #[.pointer none] w fun e w' => e = .returned (.int .i64 0) ∧ w = w' := by
  go_enter Try.func13, Try.ntmps13
  go_wp2
  go_ret
  exact ⟨rfl, rfl⟩
end
end Go.Proofs.Ytnijffgdapfgpaa
