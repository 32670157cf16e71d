import Derived.Test.YtajmboolgekdeaaInClo
import Derived.Test.YtajmboolgekdeaaInTx
import Derived.BigQuiet
namespace Go.Proofs.Ytajmboolgekdeaa
open Wd Ino Go.RowKit Go.ChangeShapes Go.WideShapes Go.Sort
set_option linter.unusedVariables false
set_option maxRecDepth 100000

/-! how many pages; whether a number is between -/
def needP (n : Int) : Int := if n < 1 then 0 else (n - 1) / 256 + 1
theorem need_eq (n : Int) (h : i64R n) : wrap64 (wrap64 (n - 1) / 256 + 1) = (n - 1) / 256 + 1 ∨ n < 1 := by unfold i64R at h; unfold wrap64; omega
theorem iNeed_is (n : Int) (h : i64R n) (w : World) : Calls Try.prog 18 #[.int .i64 n] w fun e w' => e = .returned (.int .i64 (needP n)) ∧ w = w' := by
  unfold i64R at h
  by_cases hn : n < 1
  · have e : needP n = 0 := by unfold needP; rw [if_pos hn]
    rw [e]
    clear e
    go_enter Try.func18, Try.ntmps18
    go_wp2
    go_ret
    exact ⟨rfl, rfl⟩
  · have e : needP n = (n - 1) / 256 + 1 := by unfold needP; rw [if_neg hn]
    rw [e]
    clear e
    go_enter Try.func18, Try.ntmps18
    go_wp2
    go_ret
    exact ⟨rfl, rfl⟩

theorem iNeed (n : Int) (h : i64R n) (w : World) : Calls Try.prog 18 #[.int .i64 n] w (Grows (.int .i64 (needP n)) w) := by
  refine (iNeed_is n h w).mono ?_
  rintro e w' ⟨rfl, rfl⟩
  exact ⟨rfl, grow_none _⟩

theorem rNeed_is (n : Int) (h : i64R n) (w : World) : Calls Try.prog 19 #[.int .i64 n] w fun e w' => e = .returned (.int .i64 (needP n)) ∧ w = w' := by
  unfold i64R at h
  by_cases hn : n < 1
  · have e : needP n = 0 := by unfold needP; rw [if_pos hn]
    rw [e]
    clear e
    by_cases hm : 0 < n.tmod 256
    · exfalso
      have h1 : n ≤ 0 := by omega
      have h2 : 0 ≤ (-n).tmod 256 := Int.tmod_nonneg 256 (by omega)
      rw [Int.neg_tmod] at h2
      omega
    · go_enter Try.func19, Try.ntmps19
      go_wp2
      go_ret
      exact ⟨rfl, rfl⟩
  · have hd : n.tdiv 256 = n / 256 := Int.tdiv_eq_ediv_of_nonneg (by omega)
    have hmd : n.tmod 256 = n % 256 := Int.tmod_eq_emod_of_nonneg (by omega)
    by_cases hm : 0 < n % 256
    · have e : needP n = n / 256 + 1 := by unfold needP; rw [if_neg hn]; omega
      rw [e]
      clear e
      go_enter Try.func19, Try.ntmps19
      go_wp2
      go_ret
      exact ⟨rfl, rfl⟩
    · have e : needP n = n / 256 := by unfold needP; rw [if_neg hn]; omega
      rw [e]
      clear e
      go_enter Try.func19, Try.ntmps19
      go_wp2
      go_ret
      exact ⟨rfl, rfl⟩

theorem rNeed (n : Int) (h : i64R n) (w : World) : Calls Try.prog 19 #[.int .i64 n] w (Grows (.int .i64 (needP n)) w) := by
  refine (rNeed_is n h w).mono ?_
  rintro e w' ⟨rfl, rfl⟩
  exact ⟨rfl, grow_none _⟩

def inB (x a b : Int) : Bool := decide (a ≤ x) && decide (x ≤ b)
theorem iWithin_is (x a b : Int) (w : World) : Calls Try.prog 23 #[.int .i64 x, .int .i64 a, .int .i64 b] w fun e w' => e = .returned (.bool (inB x a b)) ∧ w = w' := by
  unfold inB
  by_cases h1 : a ≤ x
  · have q1 : decide (a ≤ x) = true := decide_eq_true h1
    by_cases h2 : x ≤ b
    · have q2 : decide (x ≤ b) = true := decide_eq_true h2
      rw [q1, q2]
      clear h1 h2
      go_enter Try.func23, Try.ntmps23
      go_wp2
      go_ret
      exact ⟨rfl, rfl⟩
    · have q2 : decide (x ≤ b) = false := decide_eq_false h2
      rw [q1, q2]
      clear h1 h2
      go_enter Try.func23, Try.ntmps23
      go_wp2
      go_ret
      exact ⟨rfl, rfl⟩
  · have q1 : decide (a ≤ x) = false := decide_eq_false h1
    rw [q1, Bool.false_and]
    clear h1
    go_enter Try.func23, Try.ntmps23
    go_wp2
    go_ret
    exact ⟨rfl, rfl⟩

theorem iWithin (x a b : Int) (w : World) : Calls Try.prog 23 #[.int .i64 x, .int .i64 a, .int .i64 b] w (Grows (.bool (inB x a b)) w) := by
  refine (iWithin_is x a b w).mono ?_
  rintro e w' ⟨rfl, rfl⟩
  exact ⟨rfl, grow_none _⟩

theorem rNumber_is (x : Int) (w : World) : Calls Try.prog 31 #[.int .i64 x] w fun e w' => e = .returned (.bool (inB x 1 1048576)) ∧ w = w' := by
  unfold inB
  by_cases h1 : 1 ≤ x
  · have q1 : decide (1 ≤ x) = true := decide_eq_true h1
    by_cases h2 : x ≤ 1048576
    · have q2 : decide (x ≤ 1048576) = true := decide_eq_true h2
      rw [q1, q2]
      clear h1 h2
      go_enter Try.func31, Try.ntmps31
      go_wp2
      go_ret
      exact ⟨rfl, rfl⟩
    · have q2 : decide (x ≤ 1048576) = false := decide_eq_false h2
      rw [q1, q2]
      clear h1 h2
      go_enter Try.func31, Try.ntmps31
      go_wp2
      go_ret
      exact ⟨rfl, rfl⟩
  · have q1 : decide (1 ≤ x) = false := decide_eq_false h1
    rw [q1, Bool.false_and]
    clear h1
    go_enter Try.func31, Try.ntmps31
    go_wp2
    go_ret
    exact ⟨rfl, rfl⟩

theorem rNumber (x : Int) (w : World) : Calls Try.prog 31 #[.int .i64 x] w (Grows (.bool (inB x 1 1048576)) w) := by
  refine (rNumber_is x w).mono ?_
  rintro e w' ⟨rfl, rfl⟩
  exact ⟨rfl, grow_none _⟩

/-! a node's cells -/
def ncells (i k l s u : Int) (pv nv : Value) : Array Value := #[.int .i64 i, .int .i64 k, .int .i64 l, .int .i64 s, .int .i64 u, pv, nv]
def nv (i k l s u : Int) (pv mv : Value) : Value := .agg #[.int .i64 i, .int .i64 k, .int .i64 l, .int .i64 s, .int .i64 u, pv, mv]
theorem cells7 {w : World} {g : Nat} {i k l s u : Int} {pv mv : Value} (h : Cells w g 25 (ncells i k l s u pv mv)) : w.cell? ⟨g, 0, none⟩ = some (.int .i64 i) ∧ w.cell? ⟨g, 1, none⟩ = some (.int .i64 k) ∧ w.cell? ⟨g, 2, none⟩ = some (.int .i64 l) ∧ w.cell? ⟨g, 3, none⟩ = some (.int .i64 s) ∧ w.cell? ⟨g, 4, none⟩ = some (.int .i64 u) ∧
    w.cell? ⟨g, 5, none⟩ = some pv ∧ w.cell? ⟨g, 6, none⟩ = some mv := ⟨h.cell 0, h.cell 1, h.cell 2, h.cell 3, h.cell 4, h.cell 5, h.cell 6⟩
/-- a fresh node -/
def newUp (kind up : Int) : Int := if kind = 2 then up else 0
theorem iNew (ino kind up : Int) (w : World) : Calls Try.prog 20 #[.int .i64 ino, .int .i64 kind, .int .i64 up] w (Grows (nv ino kind 1 0 (newUp kind up) (.slice none 0 0) (.slice none 0 0)) w) := by
  by_cases h : kind = 2
  · have q : (kind == 2) = true := by simpa using h
    have e : newUp kind up = up := by unfold newUp; rw [if_pos h]
    rw [e]
    clear e h
    go_enter Try.func20, Try.ntmps20
    go_wp2
    exact bodyPost_ret (results_cell_row rfl _ _ w.heap.size _ _ (0, 0) _ rfl ((heap_alloc_old _ _ (by simp)).trans (heap_alloc_new _ _)) Try.underlying25 rfl (by kernel_rfl)) rfl ⟨rfl, grow_alloc (grow_one _ _) _⟩
  · have q : (kind == 2) = false := by simpa using h
    have e : newUp kind up = 0 := by unfold newUp; rw [if_neg h]
    rw [e]
    clear e h
    go_enter Try.func20, Try.ntmps20
    go_wp2
    exact bodyPost_ret (results_cell_row rfl _ _ w.heap.size _ _ (0, 0) _ rfl ((heap_alloc_old _ _ (by simp)).trans (heap_alloc_new _ _)) Try.underlying25 rfl (by kernel_rfl)) rfl ⟨rfl, grow_alloc (grow_one _ _) _⟩

/-- whether a node may be -/
def upB (ino up : Int) : Bool := if ino = 1 then up == 1 else inB up 1 1048576
def dirB (ino links size up : Int) (np : Nat) : Bool := (((size == 0) && ((np : Int) == 0)) && (links == 1)) && upB ino up
def fileB (size up : Int) (np nn : Nat) : Bool := (((up == 0) && ((nn : Int) == 0)) && inB size 0 16384) && ((np : Int) == needP size)
def rightB (ino kind links size up : Int) (np nn : Nat) : Bool :=
  if (inB ino 1 1048576 && inB links 0 16) = true then (if kind = 1 then fileB size up np nn else if kind = 2 then dirB ino links size up np else false) else false

theorem iRightUp (ino kind links size up : Int) (pv mv : Value) (w : World) : Calls Try.prog 38 #[nv ino kind links size up pv mv] w (Grows (.bool (upB ino up)) w) := by
  have hc := Cells.new w 25 (ncells ino kind links size up pv mv)
  have HG := Lib.hid (grow_one w (.cells (ncells ino kind links size up pv mv) 25))
  obtain ⟨c0, _, _, _, c4, _, _⟩ := cells7 hc
  unfold nv
  unfold upB
  unfold ncells at c0 c4 HG
  clear hc
  by_cases h : ino = 1
  · have q : (ino == 1) = true := by simpa using h
    rw [if_pos h]
    clear h
    go_enter Try.func38, Try.ntmps38
    go_wp2
    go_ret
    exact ⟨rfl, HG.out⟩
  · have q : (ino == 1) = false := by simpa using h
    rw [if_neg h]
    clear h
    go_enter Try.func38, Try.ntmps38
    go_wp2_with fail
    refine (iWithin_is up 1 1048576 _).mono ?_
    rintro e w1 ⟨rfl, rfl⟩
    go_wp2
    go_ret
    exact ⟨rfl, HG.out⟩
theorem iRightDir (ino kind links size up : Int) (A : Option Addr) (np c : Nat) (mv : Value) (w : World) : Calls Try.prog 30 #[nv ino kind links size up (.slice A np c) mv] w (Grows (.bool (dirB ino links size up np)) w) := by
  have hc := Cells.new w 25 (ncells ino kind links size up (.slice A np c) mv)
  have HG := Lib.hid (grow_one w (.cells (ncells ino kind links size up (.slice A np c) mv) 25))
  obtain ⟨c0, c1, c2, c3, c4, c5, c6⟩ := cells7 hc
  have KU := Lib.hid (fun w => iRightUp ino kind links size up (.slice A np c) mv w)
  unfold nv at KU ⊢
  unfold dirB
  unfold ncells at c0 c1 c2 c3 c4 c5 c6 HG
  clear hc
  cases q1 : (size == 0)
  · rw [Bool.false_and, Bool.false_and, Bool.false_and]
    go_enter Try.func30, Try.ntmps30
    go_wp2
    go_ret
    exact ⟨rfl, HG.out⟩
  · cases q2 : ((np : Int) == 0)
    · rw [Bool.true_and, Bool.false_and, Bool.false_and]
      go_enter Try.func30, Try.ntmps30
      go_wp2
      go_ret
      exact ⟨rfl, HG.out⟩
    · cases q3 : (links == 1)
      · rw [Bool.and_false, Bool.false_and]
        go_enter Try.func30, Try.ntmps30
        go_wp2
        go_ret
        exact ⟨rfl, HG.out⟩
      · rw [Bool.true_and, Bool.true_and, Bool.true_and]
        go_enter Try.func30, Try.ntmps30
        go_wp2_with fail
        refine (KU.out _).mono ?_
        rintro e w1 ⟨rfl, hg⟩
        go_wp2
        go_ret
        exact ⟨rfl, grow_trans HG.out hg⟩
end Go.Proofs.Ytajmboolgekdeaa
