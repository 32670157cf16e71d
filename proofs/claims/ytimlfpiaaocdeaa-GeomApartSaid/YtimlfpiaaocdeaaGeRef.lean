import Derived.Test.YtimlfpiaaocdeaaGrow
import Derived.IntWalk
namespace Go.Proofs.Ytimlfpiaaocdeaa
open Wd Go.ChangeShapes Go.WideShapes Go.RowKit Go.Sort
set_option linter.unusedVariables false

/-- what a device of so many pages has -/
def bankG (p : Int) : Int := p / 8
def imageG (p : Int) : Int := (32 * (p / 8) - 2) / 2
def logG (p : Int) : Int := 32 * (p / 8) - 2 - (32 * (p / 8) - 2) / 2
def dataG (p : Int) : Int := p - 1 - 2 * (p / 8)
def mayG (p : Int) : Bool := decide (64 ≤ p) && decide (p ≤ 1048576)
def geomV (p : Int) : Value := .agg #[.int .i64 p, .int .i64 (bankG p), .int .i64 (imageG p), .int .i64 (logG p), .int .i64 (dataG p)]
def noneV : Value := .agg #[.int .i64 0, .int .i64 0, .int .i64 0, .int .i64 0, .int .i64 0]

def bankP (B k : Int) : Int := if k = 1 then 32 * (1 + B) else 32
def pageP (B D p : Int) : Int := if 1 ≤ p ∧ p ≤ D then 32 * (2 * B + p) else 0

theorem refGeom_yes (p : Int) (h1 : 64 ≤ p) (h2 : p ≤ 1048576) (w : World) : Calls Try.prog 8 #[.int .i64 p] w (Grows (.tuple #[geomV p, .bool true]) w) := by
  unfold geomV bankG imageG logG dataG
  go_enter Try.func8, Try.ntmps8
  go_wp2
  refine bodyPost_ret (v := .tuple #[.agg #[.int .i64 p, .int .i64 (p / 8), .int .i64 ((32 * (p / 8) - 2) / 2), .int .i64 (32 * (p / 8) - 2 - (32 * (p / 8) - 2) / 2), .int .i64 (p - 1 - 2 * (p / 8))], .bool true]) (by simp [results, Try.results8, go_sem]) rfl ⟨rfl, ?_⟩
  exact grow_one w _

theorem refGeom_no (p : Int) (h : p < 64 ∨ 1048576 < p) (w : World) : Calls Try.prog 8 #[.int .i64 p] w (Grows (.tuple #[noneV, .bool false]) w) := by
  unfold noneV
  rcases h with h | h
  · go_enter Try.func8, Try.ntmps8
    go_wp2
    refine bodyPost_ret (v := .tuple #[.agg #[.int .i64 0, .int .i64 0, .int .i64 0, .int .i64 0, .int .i64 0], .bool false]) (by simp [results, Try.results8, go_sem]) rfl ⟨rfl, ?_⟩
    exact grow_one w _
  · have h' : ¬ p < 64 := by omega
    go_enter Try.func8, Try.ntmps8
    go_wp2
    refine bodyPost_ret (v := .tuple #[.agg #[.int .i64 0, .int .i64 0, .int .i64 0, .int .i64 0, .int .i64 0], .bool false]) (by simp [results, Try.results8, go_sem]) rfl ⟨rfl, ?_⟩
    exact grow_one w _

theorem refBankAt_any (P B I L D k : Int) (hB : 0 ≤ B) (hB2 : B ≤ 200000) (w : World) : Calls Try.prog 12 #[.agg #[.int .i64 P, .int .i64 B, .int .i64 I, .int .i64 L, .int .i64 D], .int .i64 k] w (Grows (.int .i64 (bankP B k)) w) := by
  unfold bankP
  by_cases h : k = 1
  · rw [if_pos h]
    subst h
    go_enter Try.func12, Try.ntmps12
    go_wp2
    go_ret
    exact ⟨rfl, grow_one w _⟩
  · rw [if_neg h]
    have hk : (k == 1) = false := by simpa using h
    clear h
    go_enter Try.func12, Try.ntmps12
    go_wp2
    go_ret
    exact ⟨rfl, grow_one w _⟩
theorem bankP_bd (B k : Int) (hB : 0 ≤ B) (hB2 : B ≤ 200000) : 0 ≤ bankP B k ∧ bankP B k ≤ 6400032 := by
  unfold bankP; split <;> omega

theorem refImageAt_any (P B I L D k : Int) (hB : 0 ≤ B) (hB2 : B ≤ 200000) (w : World) : Calls Try.prog 14 #[.agg #[.int .i64 P, .int .i64 B, .int .i64 I, .int .i64 L, .int .i64 D], .int .i64 k] w (Grows (.int .i64 (bankP B k + 2)) w) := by
  obtain ⟨b1, b2⟩ := bankP_bd B k hB hB2
  go_enter Try.func14, Try.ntmps14
  go_wp2_with fail
  refine (refBankAt_any P B I L D k hB hB2 _).mono ?_
  rintro e w2 ⟨rfl, hg⟩
  have HG := Lib.hid hg
  clear hg
  go_wp2
  go_ret
  exact ⟨rfl, grow_trans (grow_one w _) HG.out⟩

theorem refLogAt_any (P B I L D k : Int) (hB : 0 ≤ B) (hB2 : B ≤ 200000) (hI : 0 ≤ I) (hI2 : I ≤ 10000000) (w : World) : Calls Try.prog 16 #[.agg #[.int .i64 P, .int .i64 B, .int .i64 I, .int .i64 L, .int .i64 D], .int .i64 k] w (Grows (.int .i64 (bankP B k + 2 + I)) w) := by
  obtain ⟨b1, b2⟩ := bankP_bd B k hB hB2
  go_enter Try.func16, Try.ntmps16
  have hfol : Try.prog.follows Departure.mixedOrders = true := by kernel_rfl
  have e1 : IntKind.i64.wrap (bankP B k + 2) = bankP B k + 2 := IntWalk.i64_in _ (by omega)
  have e2 : IntKind.i64.wrap (bankP B k + 2 + I) = bankP B k + 2 + I := IntWalk.i64_in _ (by omega)
  clear b1 b2
  go_wp2_with fail
  obtain ⟨W1, hW⟩ : ∃ W1, w.alloc (.cells #[.int .i64 P, .int .i64 B, .int .i64 I, .int .i64 L, .int .i64 D] 25) = W1 := ⟨_, rfl⟩
  have hc := fun i => (Cells.new w 25 #[.int .i64 P, .int .i64 B, .int .i64 I, .int .i64 L, .int .i64 D]).cell i
  have hz : w.heap.size < W1.heap.size := by rw [← hW]; simp
  have hg := grow_one w (.cells #[.int .i64 P, .int .i64 B, .int .i64 I, .int .i64 L, .int .i64 D] 25)
  rw [hW] at hc hg ⊢
  have HG := Lib.hid hg
  have c0 := cell_grown hz (hc 0)
  have c1 := cell_grown hz (hc 1)
  have c2 := cell_grown hz (hc 2)
  have c3 := cell_grown hz (hc 3)
  have c4 := cell_grown hz (hc 4)
  clear hc hz hW hg
  refine wp_region_quiet_grown hfol (by kernel_rfl) ?_
  repeat (go_big_quiet_step (first | (go_at_call 12; exact Grows.in (refBankAt_any P B I L D k hB hB2) _ _ _)))
  refine wpQuiet_nil ?_
  intro _ hw'
  obtain ⟨⟨nq, osq⟩, hw''⟩ := hw'
  subst hw''
  go_wp2
  go_ret
  exact ⟨rfl, grow_trans HG.out ⟨_, _, rfl⟩⟩

theorem refPageAt_any (P B I L D p : Int) (hB : 0 ≤ B) (hB2 : B ≤ 200000) (hD : D ≤ 10000000) (w : World) : Calls Try.prog 18 #[.agg #[.int .i64 P, .int .i64 B, .int .i64 I, .int .i64 L, .int .i64 D], .int .i64 p] w (Grows (.int .i64 (pageP B D p)) w) := by
  unfold pageP
  by_cases h1 : 1 ≤ p
  · by_cases h2 : p ≤ D
    · rw [if_pos ⟨h1, h2⟩]
      have h3 : ¬ p < 1 := by omega
      have h4 : ¬ D < p := by omega
      go_enter Try.func18, Try.ntmps18
      go_wp2
      go_ret
      exact ⟨rfl, grow_one w _⟩
    · rw [if_neg (by omega)]
      have h3 : ¬ p < 1 := by omega
      have h4 : D < p := by omega
      go_enter Try.func18, Try.ntmps18
      go_wp2
      go_ret
      exact ⟨rfl, grow_one w _⟩
  · rw [if_neg (by omega)]
    have h3 : p < 1 := by omega
    go_enter Try.func18, Try.ntmps18
    go_wp2
    go_ret
    exact ⟨rfl, grow_one w _⟩
end Go.Proofs.Ytimlfpiaaocdeaa
