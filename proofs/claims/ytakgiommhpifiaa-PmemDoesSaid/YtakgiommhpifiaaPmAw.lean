import Derived.Test.YtakgiommhpifiaaPmCr
import Derived.Test.YtakgiommhpifiaaTrue
namespace Go.Proofs.Ytakgiommhpifiaa
open Wd Pm Go.Maps Go.RowKit
set_option linter.unusedVariables false

/-! chapter 4's example -/
theorem keys_nil {F : IFn} {l : List Int} (h : KeysOf F l) : keptL l [] = [] := by cases l <;> rfl
def aw0 : St := .fresh 64
theorem aw_step {σ : St} {b : Bool} {go : St → St} (h1 : refErr σ.dead b = 0) (h2 : σ.ar ≠ 1) : σ.tried b go = ((go σ.drained).counted, 0) := by
  unfold St.tried; rw [if_pos h1, if_neg h2]
def aw1 : St := ((St.fresh 64).drained.hold 3 7).counted
def aw2 : St := (aw1.drained.send 0).counted
def aw3 : St := (aw2.drained.persist).counted
def aw4 : St := (aw3.drained.hold 4 8).counted
theorem ref0 : refErr false true = 0 := by unfold refErr; rfl
theorem t1 : (St.fresh 64).tried (hasW (St.fresh 64).n 3) (·.hold 3 7) = (aw1, 0) := by
  rw [show hasW (St.fresh 64).n 3 = true from hasW_iff.2 (by decide)]
  exact aw_step ref0 (by decide)
theorem t2 : aw1.tried (hasL aw1.n 0) (·.send 0) = (aw2, 0) := by
  rw [show hasL aw1.n 0 = true from hasL_iff.2 (by decide)]
  exact aw_step ref0 (by decide)
theorem t3 : aw2.tried true St.persist = (aw3, 0) := aw_step ref0 (by decide)
theorem t4 : aw3.tried (hasW aw3.n 4) (·.hold 4 8) = (aw4, 0) := by
  rw [show hasW aw3.n 4 = true from hasW_iff.2 (by decide)]
  exact aw_step ref0 (by decide)
theorem s3 (l : List Int) (h : KeysOf aw4.hd l) : (aw4.crash l []).stays 3 = 7 := by
  unfold St.stays
  rw [show hasW (aw4.crash l []).n 3 = true from hasW_iff.2 (show (0 : Int) ≤ 3 ∧ (3 : Int) < ((64 : Nat) : Int) by decide), if_pos rfl]
  unfold St.crash
  rw [keys_nil h, evSt_nil]
  decide
theorem s4 (l : List Int) (h : KeysOf aw4.hd l) : (aw4.crash l []).stays 4 = 0 := by
  unfold St.stays
  rw [show hasW (aw4.crash l []).n 4 = true from hasW_iff.2 (show (0 : Int) ≤ 4 ∧ (4 : Int) < ((64 : Nat) : Int) by decide), if_pos rfl]
  unfold St.crash
  rw [keys_nil h, evSt_nil]
  decide

/-- from a world in which the device lies in new blocks to one where it lies in new blocks -/
def Fresh (w : World) (f : Fp) : Prop := ∀ k ∈ f.blocks, w.heap.size ≤ k
theorem Goes.fresh {w w1 w2 : World} {f : Fp} {σ : St} (g : Goes w1 f σ w2) (h : Fresh w f) (b : Below w.heap.size w w1) : ∃ f', f'.ptr = f.ptr ∧ Dev w2 f' σ ∧ Fresh w f' ∧ Below w.heap.size w w2 := by
  obtain ⟨f', d, e, n, t⟩ := g
  refine ⟨f', by unfold Fp.ptr; rw [e], d, fun k hk => ?_, ?_⟩
  · rcases n k hk with h1 | h1
    · exact h k h1
    · exact Nat.le_trans b.size h1
  · exact b.trans (t.below (.inr b.size) h)

theorem awake_true (w : World) : Calls Try.prog 4 #[] w (TrueB w) := by
  go_enter Try.func4, Try.ntmps4
  go_wp2_with fail
  refine (new_dev 64 w).mono ?_
  rintro e w0 ⟨f, rfl, d0, n0, b0⟩
  rw [show clampN 64 = 64 from by decide] at d0
  have hp : f.ptr = .pointer (some ⟨f.p, 0, none⟩) := rfl
  rw [hp]
  clear hp
  go_wp2_with fail
  have c1 := store_dev d0 (by decide) 3 7 (by unfold U64; decide)
  rw [t1] at c1
  refine c1.mono ?_
  clear c1
  rintro e w1 ⟨rfl, g1⟩
  obtain ⟨f1, e1, d1, n1, b1⟩ := g1.fresh n0 b0
  go_wp2_with fail
  have c2 := flush_dev d1 (by decide) 0
  rw [t2, e1] at c2
  refine c2.mono ?_
  clear c2
  rintro e w2 ⟨rfl, g2⟩
  obtain ⟨f2, e2, d2, n2, b2⟩ := g2.fresh n1 b1
  go_wp2_with fail
  have c3 := fence_dev d2 (by decide)
  rw [t3, e2, e1] at c3
  refine c3.mono ?_
  clear c3
  rintro e w3 ⟨rfl, g3⟩
  obtain ⟨f3, e3, d3, n3, b3⟩ := g3.fresh n2 b2
  go_wp2_with fail
  have c4 := store_dev d3 (by decide) 4 8 (by unfold U64; decide)
  rw [t4, e3, e2, e1] at c4
  refine c4.mono ?_
  clear c4
  rintro e w4 ⟨rfl, g4⟩
  obtain ⟨f4, e4, d4, n4, b4⟩ := g4.fresh n3 b3
  go_wp2_with fail
  have c5 := crash_dev d4 w.heap.size n4 b4.size none 0 [] Row.nil (by decide)
  rw [e4, e3, e2, e1] at c5
  refine c5.mono ?_
  clear c5
  rintro e w5 ⟨rfl, l, hl, g5⟩
  obtain ⟨f5, e5, d5, n5, b5⟩ := g5.fresh n4 b4
  have c6 := stays_dev d5 3
  have c7 := stays_dev d5 4
  rw [s3 l hl, e5, e4, e3, e2, e1] at c6
  rw [s4 l hl, e5, e4, e3, e2, e1] at c7
  have B5 := Lib.hid b5
  clear b5 e1 e2 e3 e4 e5
  go_wp2_with fail
  refine c6.mono ?_
  rintro e w' ⟨rfl, rfl⟩
  go_wp2_with fail
  refine c7.mono ?_
  rintro e w' ⟨rfl, rfl⟩
  go_wp2
  go_ret
  exact ⟨rfl, B5.out⟩
end Go.Proofs.Ytakgiommhpifiaa
