import Derived.Test.YtanjikflljdjcaaDoorCcOpen
import Derived.Test.YtanjikflljdjcaaDoorTrue
import Derived.WalkKit
import Derived.WalkMore
/-
  The project's small functions of calls: within, Writes, Fds, Has, Most; the law's Few.
-/
namespace Go.Proofs.YtanjikflljdjcaaDoor
open Wd U Go.RowKit Go.ChangeShapes Go.WideShapes Go.Sort
set_option linter.unusedVariables false
set_option maxRecDepth 100000

def wnB (x m : Int) : Bool := decide (0 ≤ x) && decide (x ≤ m)
theorem cWithin (x m : Int) (w : World) : Calls Tryd.prog 20 #[.int .i64 x, .int .i64 m] w (Grows (.bool (wnB x m)) w) := by
  unfold wnB
  cases q1 : decide (0 ≤ x) <;> cases q2 : decide (x ≤ m) <;>
  · go_enter Tryd.func20, Tryd.ntmps20
    go_wp2
    go_ret
    exact ⟨rfl, grow_none _⟩
def Cal.wrB (c : Cal) : Bool := c.kind == 4 || c.kind == 6
def Cal.fdB (c : Cal) : Bool := decide (2 ≤ c.kind) && decide (c.kind ≤ 8)
def Cal.most (c : Cal) : Int := if c.kind = 15 then 1 else if c.wrB = true ∧ 0 < c.data.length then (((c.data.length + 255) / 256 + 2 : Nat) : Int) else 0
def Cal.few (c : Cal) : Prop := c.data.length ≤ 2000 ∧ c.path.size ≤ 300 ∧ c.other.size ≤ 300
instance (c : Cal) : Decidable c.few := by unfold Cal.few; exact inferInstance

theorem cWrites (c : Cal) (w : World) : Calls Tryd.prog 15 #[c.val] w (Grows (.bool c.wrB) w) := by
  obtain ⟨kind, fd, flags, n, off, path, other, A, cp, data⟩ := c
  unfold Cal.val Cal.wrB
  dsimp only
  cases q1 : (kind == 4) <;> cases q2 : (kind == 6) <;>
  · go_enter Tryd.func15, Tryd.ntmps15
    go_wp2
    go_ret
    exact ⟨rfl, grow_one _ _⟩
theorem cFds (c : Cal) (w : World) : Calls Tryd.prog 14 #[c.val] w (Grows (.bool c.fdB) w) := by
  obtain ⟨kind, fd, flags, n, off, path, other, A, cp, data⟩ := c
  unfold Cal.val Cal.fdB
  dsimp only
  cases q1 : decide (2 ≤ kind) <;> cases q2 : decide (kind ≤ 8) <;>
  · go_enter Tryd.func14, Tryd.ntmps14
    go_wp2
    go_ret
    exact ⟨rfl, grow_one _ _⟩
theorem few_call (c : Cal) (w : World) (oc : c.Ok w w.heap.size) : Calls Tryd.prog 6 #[c.val] w (Grows (.bool (decide c.few)) w) := by
  have l1 := oc.le; have l2 := oc.path; have l3 := oc.other
  clear oc
  obtain ⟨kind, fd, flags, n, off, path, other, A, cp, data⟩ := c
  unfold Cal.val Cal.few
  unfold maxLen at l1 l2 l3
  dsimp only at l1 l2 l3 ⊢
  have e : decide (data.length ≤ 2000 ∧ path.size ≤ 300 ∧ other.size ≤ 300) = (decide (data.length ≤ 2000) && (decide (path.size ≤ 300) && decide (other.size ≤ 300))) := by simp
  rw [e]
  clear e
  have z1 : decide ((data.length : Int) ≤ 2000) = decide (data.length ≤ 2000) := by simp; omega
  have z2 : decide ((path.size : Int) ≤ 300) = decide (path.size ≤ 300) := by simp; omega
  have z3 : decide ((other.size : Int) ≤ 300) = decide (other.size ≤ 300) := by simp; omega
  cases q1 : decide (data.length ≤ 2000) <;> cases q2 : decide (path.size ≤ 300) <;> cases q3 : decide (other.size ≤ 300) <;> rw [q1] at z1 <;> rw [q2] at z2 <;> rw [q3] at z3 <;>
  · go_enter Tryd.func6, Tryd.ntmps6
    go_wp2
    go_ret
    exact ⟨rfl, grow_one _ _⟩
theorem most_num (L : Nat) : ((L : Int) + 256 - 1) / 256 + 2 = (((L + 255) / 256 + 2 : Nat) : Int) := by omega
theorem cMost (c : Cal) (w : World) (h : c.data.length ≤ 2000) : Calls Tryd.prog 13 #[c.val] w (Grows (.int .i64 c.most) w) := by
  obtain ⟨kind, fd, flags, n, off, path, other, A, cp, data⟩ := c
  dsimp only at h
  by_cases h15 : kind = 15
  · have q : (kind == 15) = true := by simpa using h15
    have e : Cal.most ⟨kind, fd, flags, n, off, path, other, A, cp, data⟩ = 1 := by unfold Cal.most; rw [if_pos h15]
    rw [e]
    unfold Cal.val
    dsimp only
    clear e h15
    go_enter Tryd.func13, Tryd.ntmps13
    go_wp2
    go_ret
    exact ⟨rfl, grow_one _ _⟩
  · have q : (kind == 15) = false := by simpa using h15
    have K := Lib.hid (fun w => cWrites ⟨kind, fd, flags, n, off, path, other, A, cp, data⟩ w)
    have e : Cal.most ⟨kind, fd, flags, n, off, path, other, A, cp, data⟩ = if (Cal.wrB ⟨kind, fd, flags, n, off, path, other, A, cp, data⟩) = true ∧ 0 < data.length then (((data.length + 255) / 256 + 2 : Nat) : Int) else 0 := by unfold Cal.most; rw [if_neg h15]
    rw [e]
    clear e h15
    obtain ⟨B, hB⟩ : ∃ B, Cal.wrB ⟨kind, fd, flags, n, off, path, other, A, cp, data⟩ = B := ⟨_, rfl⟩
    rw [hB] at K ⊢
    clear hB
    unfold Cal.val at K ⊢
    dsimp only at K ⊢
    cases B
    · rw [if_neg (by simp)]
      go_enter Tryd.func13, Tryd.ntmps13
      go_wp2_with fail
      refine (K.out _).mono ?_
      rintro e' w1 h1
      obtain ⟨rfl, b1⟩ := h1.below
      have G := Lib.hid (grow_trans (grow_one w _) h1.2)
      clear h1
      have c7 : w1.cell? ⟨w.heap.size, 7, none⟩ = some (.slice A data.length cp) := ((Cells.new w 24 _).below' b1).cell 7
      go_wp2
      go_ret
      exact ⟨rfl, G.out⟩
    · obtain ⟨L, hL⟩ : ∃ L, data.length = L := ⟨_, rfl⟩
      rw [hL] at h
      by_cases h0 : 0 < L
      · have qz : ((L : Int) == 0) = false := by simp; omega
        have HM := Lib.hid (most_num L)
        rw [hL]
        rw [hL] at K
        rw [if_pos ⟨rfl, h0⟩, ← HM.out]
        have HL := Lib.hid hL
        clear hL
        go_enter Tryd.func13, Tryd.ntmps13
        go_wp2_with fail
        refine (K.out _).mono ?_
        rintro e' w1 h1
        obtain ⟨rfl, b1⟩ := h1.below
        have G := Lib.hid (grow_trans (grow_one w _) h1.2)
        clear h1
        have c7 : w1.cell? ⟨w.heap.size, 7, none⟩ = some (.slice A L cp) := ((Cells.new w 24 _).below' b1).cell 7
        go_wp2
        go_ret
        exact ⟨rfl, G.out⟩
      · obtain rfl : L = 0 := by omega
        rw [hL]
        rw [hL] at K
        rw [if_neg (by omega)]
        have HL := Lib.hid hL
        clear hL h0
        go_enter Tryd.func13, Tryd.ntmps13
        go_wp2_with fail
        refine (K.out _).mono ?_
        rintro e' w1 h1
        obtain ⟨rfl, b1⟩ := h1.below
        have G := Lib.hid (grow_trans (grow_one w _) h1.2)
        clear h1
        have c7 : w1.cell? ⟨w.heap.size, 7, none⟩ = some (.slice A (0 : Nat) cp) := ((Cells.new w 24 _).below' b1).cell 7
        go_wp2
        go_ret
        exact ⟨rfl, G.out⟩
end Go.Proofs.YtanjikflljdjcaaDoor
