import Derived.Test.YtimlfpiaaocdeaaGeCode
import Derived.Laws.StructEq
import Derived.Deep.DeepCutAuto
namespace Go.Proofs.Ytimlfpiaaocdeaa
open Wd Go.ChangeShapes Go.WideShapes Go.RowKit Go.Sort
set_option linter.unusedVariables false

def TrueB (w : World) (e : Ending) (w' : World) : Prop := e = .returned (.bool true) ∧ Below w.heap.size w w'

theorem eq5 (a b c d e : Int) (w : World) : Sem.run Try.prog (binOp .eql 25 (.agg #[.int .i64 a, .int .i64 b, .int .i64 c, .int .i64 d, .int .i64 e]) (.agg #[.int .i64 a, .int .i64 b, .int .i64 c, .int .i64 d, .int .i64 e])) w = .ok (.bool true) w := by
  simp [binOp, Op.equal, Op.maxDepth, go_sem]

theorem geomAwake_true (w : World) : Calls Try.prog 6 #[] w (TrueB w) := by
  go_enter Try.func6, Try.ntmps6
  go_wp2_with fail
  refine (geomOf_yes 64 (by omega) (by omega) _).mono ?_
  rintro e w2 h
  obtain ⟨rfl, hb⟩ := h.below
  rw [show geomV 64 = .agg #[.int .i64 64, .int .i64 8, .int .i64 127, .int .i64 127, .int .i64 47] from rfl]
  have HB := Lib.hid hb
  clear hb h
  have e5 := fun w => eq5 64 8 127 127 47 w
  go_wp2
  go_ret
  exact ⟨rfl, HB.out.alloc (by have := HB.out.size; omega) _⟩

theorem root_half (e k : Int) (hk : k = 0 ∨ k = 1) : rootV e k / 2 = e ∧ rootV e k % 2 = k := by
  unfold rootV
  rcases hk with rfl | rfl <;> simp <;> omega
theorem epoch_root (e k : Int) (h0 : 0 ≤ e) (h1 : e ≤ 1099511627776) (hk : k = 0 ∨ k = 1) (w : World) : Calls Try.prog 9 #[.int .u64 (rootV e k)] w (Grows (.tuple #[.int .i64 e, .int .i64 k, .bool true]) w) := by
  obtain ⟨a, b⟩ := root_half e k hk
  have := gEpoch_yes (rootV e k) (by unfold rootV; split <;> omega) (by omega) w
  rwa [a, b] at this

theorem roots_eq (e k m j : Int) (hk : k = 0 ∨ k = 1) (hj : j = 0 ∨ j = 1) : (rootV e k == rootV m j) = (decide (e = m) && decide (k = j)) := by
  rw [Bool.eq_iff_iff]
  simp only [beq_iff_eq, Bool.and_eq_true, decide_eq_true_eq]
  unfold rootV
  rcases hk with rfl | rfl <;> rcases hj with rfl | rfl <;> simp <;> omega

set_option maxRecDepth 100000 in
theorem roots_far (e k m j : Int) (w : World) (h : e < 0 ∨ 0 ≤ e ∧ 1099511627776 < e ∨ 0 ≤ e ∧ e ≤ 1099511627776 ∧ m < 0 ∨ 0 ≤ e ∧ e ≤ 1099511627776 ∧ 0 ≤ m ∧ 1099511627776 < m ∨ 0 ≤ e ∧ e ≤ 1099511627776 ∧ 0 ≤ m ∧ m ≤ 1099511627776 ∧ k < 0 ∨ 0 ≤ e ∧ e ≤ 1099511627776 ∧ 0 ≤ m ∧ m ≤ 1099511627776 ∧ 0 ≤ k ∧ 1 < k ∨ 0 ≤ e ∧ e ≤ 1099511627776 ∧ 0 ≤ m ∧ m ≤ 1099511627776 ∧ 0 ≤ k ∧ k ≤ 1 ∧ j < 0 ∨ 0 ≤ e ∧ e ≤ 1099511627776 ∧ 0 ≤ m ∧ m ≤ 1099511627776 ∧ 0 ≤ k ∧ k ≤ 1 ∧ 0 ≤ j ∧ 1 < j) :
    Calls Try.prog 5 #[.int .i64 e, .int .i64 k, .int .i64 m, .int .i64 j] w (TrueB w) := by
  rcases h with h1 | ⟨h1, h2⟩ | ⟨h1, h2, h3⟩ | ⟨h1, h2, h3, h4⟩ | ⟨h1, h2, h3, h4, h5⟩ | ⟨h1, h2, h3, h4, h5, h6⟩ | ⟨h1, h2, h3, h4, h5, h6, h7⟩ | ⟨h1, h2, h3, h4, h5, h6, h7, h8⟩
  all_goals
    go_enter Try.func5, Try.ntmps5
    go_wp2_with fail
    refine (geomAwake_true _).mono ?_
    rintro e w2 ⟨rfl, hb⟩
    have HB := Lib.hid hb
    clear hb
    go_wp2
    go_ret
    exact ⟨rfl, HB.out⟩

set_option maxRecDepth 100000 in
theorem roots_any (e k m j : Int) (w : World) (h1 : 0 ≤ e) (h2 : e ≤ 1099511627776) (h3 : 0 ≤ m) (h4 : m ≤ 1099511627776) (hk : k = 0 ∨ k = 1) (hj : j = 0 ∨ j = 1) :
    Calls Try.prog 5 #[.int .i64 e, .int .i64 k, .int .i64 m, .int .i64 j] w (TrueB w) := by
  have heq := roots_eq e k m j hk hj
  have HK := Lib.hid hk; have HJ := Lib.hid hj; have HEQ := Lib.hid heq
  have k1 : 0 ≤ k := by omega
  have k2 : k ≤ 1 := by omega
  have j1 : 0 ≤ j := by omega
  have j2 : j ≤ 1 := by omega
  clear heq hk hj
  go_enter Try.func5, Try.ntmps5
  go_wp2_with fail
  refine (geomAwake_true _).mono ?_
  rintro e' w2 ⟨rfl, hb⟩
  have HB := Lib.hid hb
  clear hb
  go_wp2_with fail
  refine (gRoot e k h1 h2 _).mono ?_
  rintro e' w3 h
  obtain ⟨rfl, hb⟩ := h.below
  have HB3 := Lib.hid (HB.out.trans (hb.mono HB.out.size))
  clear hb h
  go_wp2_with fail
  refine (epoch_root e k h1 h2 HK.out _).mono ?_
  rintro e' w4 h
  obtain ⟨rfl, hb⟩ := h.below
  have HB4 := Lib.hid (HB3.out.trans (hb.mono HB3.out.size))
  clear hb h
  go_wp2_with fail
  refine (gRoot e k h1 h2 _).mono ?_
  rintro e' w5 h
  obtain ⟨rfl, hb⟩ := h.below
  have HB5 := Lib.hid (HB4.out.trans (hb.mono HB4.out.size))
  clear hb h
  go_wp2_with fail
  refine (gRoot m j h3 h4 _).mono ?_
  rintro e' w6 h
  obtain ⟨rfl, hb⟩ := h.below
  have HB6 := Lib.hid (HB5.out.trans (hb.mono HB5.out.size))
  clear hb h
  by_cases c1 : e = m
  · have hc1 : (e == m) = true := by simpa using c1
    by_cases c2 : k = j
    · have hc2 : (k == j) = true := by simpa using c2
      have hh : (rootV e k == rootV m j) = true := by rw [HEQ.out]; simp [c1, c2]
      clear c1 c2
      go_wp2
      go_ret
      exact ⟨rfl, HB6.out⟩
    · have hc2 : (k == j) = false := by simpa using c2
      have hh : (rootV e k == rootV m j) = false := by rw [HEQ.out]; simp [c1, c2]
      clear c1 c2
      go_wp2
      go_ret
      exact ⟨rfl, HB6.out⟩
  · have hc1 : (e == m) = false := by simpa using c1
    have hh : (rootV e k == rootV m j) = false := by rw [HEQ.out]; simp [c1]
    clear c1
    go_wp2
    go_ret
    exact ⟨rfl, HB6.out⟩

theorem geomRoots_walk (e : Int) (_ : (Lit.int .i64 e).wf = true) (k : Int) (_ : (Lit.int .i64 k).wf = true) (m : Int) (_ : (Lit.int .i64 m).wf = true) (j : Int) (_ : (Lit.int .i64 j).wf = true) (w : World) :
    Calls Try.prog 5 #[.int .i64 e, .int .i64 k, .int .i64 m, .int .i64 j] w (TrueB w) := by
  by_cases h : 0 ≤ e ∧ e ≤ 1099511627776 ∧ 0 ≤ m ∧ m ≤ 1099511627776 ∧ 0 ≤ k ∧ k ≤ 1 ∧ 0 ≤ j ∧ j ≤ 1
  · exact roots_any e k m j w h.1 h.2.1 h.2.2.1 h.2.2.2.1 (by omega) (by omega)
  · exact roots_far e k m j w (by omega)
end Go.Proofs.Ytimlfpiaaocdeaa
