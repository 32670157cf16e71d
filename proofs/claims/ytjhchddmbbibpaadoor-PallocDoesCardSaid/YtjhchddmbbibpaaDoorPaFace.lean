import Derived.Test.YtjhchddmbbibpaaDoorPaGv
import Derived.Test.YtjhchddmbbibpaaDoorPaFr
import Derived.Test.YtjhchddmbbibpaaDoorPaCp
import Derived.Test.YtjhchddmbbibpaaDoorPaUs
import Derived.Test.YtjhchddmbbibpaaDoorPaNw
namespace Go.Proofs.YtjhchddmbbibpaaDoor
open Wd Pa Go.ChangeShapes Go.WideShapes Go.RowKit Go.Sort
set_option linter.unusedVariables false
/-- pages at f, made since w0 -/
structure PgB (w0 w : World) (f : Pp) (n : Nat) (U : Nat → Bool) : Prop where
  p : ∃ ws, PgAt w w0.heap.size f n U ws
  b : Below w0.heap.size w0 w
theorem PgAt.lower {w : World} {B B' n : Nat} {f : Pp} {U : Nat → Bool} {ws : List Nat} (h : PgAt w B f n U ws) (hB : B' ≤ B) (ht : 0 < B') : PgAt w B' f n U ws :=
  ⟨h.cells, h.words, h.wds, h.few, h.lc, Nat.le_trans hB h.gB, Nat.le_trans hB h.hB, ht, h.tab⟩
section
variable {w0 w w' : World} {f : Pp} {n : Nat} {U : Nat → Bool}
theorem PgB.below (h : PgB w0 w f n U) (hb : Below w.heap.size w w') : PgB w0 w' f n U := by
  obtain ⟨⟨ws, p⟩, b⟩ := h
  exact ⟨⟨ws, p.below hb⟩, b.trans (hb.mono b.size)⟩
/-- pages stay where another block alone has changed -/
theorem PgB.kept {r : Nat} (h : PgB w0 w f n U) (hb : w.grownBy w' (some r)) (h1 : f.g ≠ r) (h2 : f.h ≠ r) (h3 : w0.heap.size ≤ r) : PgB w0 w' f n U := by
  obtain ⟨⟨ws, p⟩, b⟩ := h
  exact ⟨⟨ws, p.kept hb h1 h2 h3⟩, b.grown hb b.size (by intro q hq; cases hq; exact h3)⟩
theorem PgB.step {U' : Nat → Bool} (h : PgB w0 w f n U) (p : ∃ ws, PgAt w' w0.heap.size f n U' ws) (hg : w.grownBy w' (some f.h)) : PgB w0 w' f n U' := by
  obtain ⟨⟨ws, q⟩, b⟩ := h
  exact ⟨p, b.grown hg b.size (by intro q' hq; cases hq; exact q.hB)⟩
theorem PgB.few (h : PgB w0 w f n U) : n ≤ 1048576 := by obtain ⟨⟨ws, p⟩, b⟩ := h; exact p.few
theorem PgB.dom (h : PgB w0 w f n U) : ∀ i, U i = true → 1 ≤ i ∧ i ≤ n := by obtain ⟨⟨ws, p⟩, b⟩ := h; exact p.wds.dom
theorem PgB.drewN (h : PgB w0 w f n U) (d : Nat) : PgB w0 (w.drewN d) f n U := h.below (below_drewN (Below.refl _ _) d)
theorem grown_draws (w : World) (d : Nat) (r : Option Nat) : w.grownBy (w.drewN d) r := grown_of_below (below_drewN (Below.refl _ _) d) r
theorem pgb_new {n : Int} {l : List Int} {A : Option Addr} {c N : Nat} (hT : Tb w0) (hB : 0 < w0.heap.size) (hb : Below w0.heap.size w0 w) (hN : N = many n) (hl : Row w w.heap.size A l.length (l.map (Value.int .i64))) (hle : l.length ≤ 1000) :
    Calls Tryd.prog 8 #[.int .i64 n, .slice A l.length c] w fun e w' => ∃ f, e = .returned f.ptr ∧ PgB w0 w' f N (usedOf N l) ∧ Below w.heap.size w w' := by
  have hs := hb.size
  refine (new_is (hT.below hb hB) (by omega) hN hl hle).mono ?_
  rintro e w' ⟨f, ws, rfl, p, b⟩
  exact ⟨f, rfl, ⟨⟨ws, p.lower hs hB⟩, hb.trans (b.mono hs)⟩, b⟩
theorem pgb_take_some (h : PgB w0 w f n U) (hx : ∃ q, 1 ≤ q ∧ q ≤ n ∧ U q = false) : Calls Tryd.prog 10 #[f.ptr] w fun e w' => ∃ r, 1 ≤ r ∧ r ≤ n ∧ U r = false ∧ (∀ q, 1 ≤ q → q < r → U q = true) ∧ e = .returned (.tuple #[.int .i64 r, .bool true]) ∧ PgB w0 w' f n (put U r true) ∧ w.grownBy w' (some f.h) := by
  obtain ⟨⟨ws, p⟩, b⟩ := id h
  refine (take_is p).mono ?_
  rintro e w' (⟨r, ws', h1, h2, h3, h4, rfl, p', hg⟩ | ⟨hall, _, _⟩)
  · exact ⟨r, h1, h2, h3, h4, rfl, h.step ⟨ws', p'⟩ hg, hg⟩
  · obtain ⟨q, q1, q2, q3⟩ := hx
    rw [hall q q1 q2] at q3
    cases q3
theorem pgb_take_none (h : PgB w0 w f n U) (hx : ∀ q, 1 ≤ q → q ≤ n → U q = true) : Calls Tryd.prog 10 #[f.ptr] w fun e w' => e = .returned (.tuple #[.int .i64 0, .bool false]) ∧ PgB w0 w' f n U ∧ w.grownBy w' (some f.h) := by
  obtain ⟨⟨ws, p⟩, b⟩ := id h
  refine (take_is p).mono ?_
  rintro e w' (⟨r, ws', h1, h2, h3, h4, rfl, p', hg⟩ | ⟨_, rfl, d, rfl⟩)
  · rw [hx r h1 h2] at h3
    cases h3
  · exact ⟨rfl, h.drewN d, grown_draws _ _ _⟩
theorem pgb_give_yes (h : PgB w0 w f n U) (i : Int) (hu : U i.toNat = true) : Calls Tryd.prog 12 #[f.ptr, .int .i64 i] w fun e w' => e = .returned (.bool true) ∧ PgB w0 w' f n (put U i.toNat false) ∧ w.grownBy w' (some f.h) := by
  obtain ⟨⟨ws, p⟩, b⟩ := id h
  refine (give_is p i).mono ?_
  rintro e w' (⟨_, rfl, p', hg⟩ | ⟨h1, _⟩)
  · exact ⟨rfl, h.step p' hg, hg⟩
  · rw [hu] at h1; cases h1
theorem pgb_give_no (h : PgB w0 w f n U) (i : Int) (hu : U i.toNat = false) : Calls Tryd.prog 12 #[f.ptr, .int .i64 i] w fun e w' => e = .returned (.bool false) ∧ PgB w0 w' f n U ∧ w.grownBy w' (some f.h) := by
  obtain ⟨⟨ws, p⟩, b⟩ := id h
  refine (give_is p i).mono ?_
  rintro e w' (⟨h1, _⟩ | ⟨_, rfl, d, rfl⟩)
  · rw [hu] at h1; cases h1
  · exact ⟨rfl, h.drewN d, grown_draws _ _ _⟩
theorem pgb_has (h : PgB w0 w f n U) (i : Int) (u : Bool) (hu : U i.toNat = u) : Calls Tryd.prog 14 #[f.ptr, .int .i64 i] w fun e w' => e = .returned (.bool u) ∧ PgB w0 w' f n U ∧ Below w.heap.size w w' := by
  obtain ⟨⟨ws, p⟩, b⟩ := id h
  refine (has_is p i).mono ?_
  rintro e w' ⟨rfl, d, rfl⟩
  exact ⟨by rw [hu], h.drewN d, below_drewN (Below.refl _ _) d⟩
theorem pgb_free (h : PgB w0 w f n U) (c : Nat) (hc : (upto U n).length + c = n) : Calls Tryd.prog 16 #[f.ptr] w fun e w' => e = .returned (.int .i64 c) ∧ PgB w0 w' f n U ∧ Below w.heap.size w w' := by
  obtain ⟨⟨ws, p⟩, b⟩ := id h
  refine (free_is p).mono ?_
  rintro e w' ⟨rfl, d, rfl⟩
  exact ⟨by rw [show n - (upto U n).length = c by omega], h.drewN d, below_drewN (Below.refl _ _) d⟩
theorem pgb_used (h : PgB w0 w f n U) (k : Nat) (hk : (upto U n).length = k) : Calls Tryd.prog 18 #[f.ptr] w fun e w' => ∃ A c, e = .returned (.slice A k c) ∧ w'.ownsRow w.heap.size 3 1 (.slice A k c) k ((upto U n).map i64) ∧ PgB w0 w' f n U ∧ Below w.heap.size w w' := by
  obtain ⟨⟨ws, p⟩, b⟩ := id h
  refine (used_is p).mono ?_
  rintro e w' ⟨v, rfl, ho, hb⟩
  rw [hk] at ho
  obtain ⟨A, c, rfl, _⟩ := Row.of_own ho
  exact ⟨A, c, rfl, ho, h.below hb, hb⟩
theorem pgb_copy (h : PgB w0 w f n U) : Calls Tryd.prog 19 #[f.ptr] w fun e w' => ∃ c, e = .returned c.ptr ∧ PgB w0 w' c n U ∧ PgB w0 w' f n U ∧ f.g ≠ c.h ∧ f.h ≠ c.h ∧ c.g ≠ f.h ∧ c.h ≠ f.h ∧ Below w.heap.size w w' := by
  obtain ⟨⟨ws, p⟩, b⟩ := id h
  have hs := b.size
  have g1 := p.cells.lt
  have g2 := p.words.lt
  refine (copy_is p).mono ?_
  rintro e w' ⟨c, rfl, p', c1, c2, hb⟩
  exact ⟨c, rfl, ⟨⟨ws, p'.lower hs (by have := p.tB; omega)⟩, b.trans (hb.mono hs)⟩, h.below hb, by omega, by omega, by omega, by omega, hb⟩
end
/-- the example's calls -/
def U0 : Nat → Bool := usedOf 3 [2]
theorem u_two : usedOf 3 [2] 1 = false ∧ usedOf 3 [2] 2 = true ∧ usedOf 3 [2] 3 = false := by decide
end Go.Proofs.YtjhchddmbbibpaaDoor
