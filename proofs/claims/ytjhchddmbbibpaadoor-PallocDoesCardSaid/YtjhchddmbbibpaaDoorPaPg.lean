import Derived.Test.YtjhchddmbbibpaaDoorPaSml
import Derived.ScopeJumps
import Derived.WalkMore
namespace Go.Proofs.YtjhchddmbbibpaaDoor
open Wd Pa Go.ChangeShapes Go.WideShapes Go.RowKit Go.Sort
set_option linter.unusedVariables false

/-- where the pages lie: the struct, the words and their room; no block below B is theirs -/
structure Pp where
  g : Nat
  h : Nat
  c : Nat
  ex : List Value
def Pp.ptr (f : Pp) : Value := .pointer (some ⟨f.g, 0, none⟩)
structure PgAt (w : World) (B : Nat) (f : Pp) (n : Nat) (U : Nat → Bool) (ws : List Nat) : Prop where
  cells : Cells w f.g 48 #[.int .i64 n, .slice (some ⟨f.h, 0, none⟩) ws.length f.c]
  words : Cells w f.h 49 (ws.map w64 ++ f.ex).toArray
  wds : Wds n U ws
  few : n ≤ 1048576
  lc : ws.length ≤ f.c
  gB : B ≤ f.g
  hB : B ≤ f.h
  tB : 0 < B
  tab : Tb w
/-- pages, somewhere from block B on -/
def Pg (w : World) (B : Nat) (f : Pp) (n : Nat) (U : Nat → Bool) : Prop := ∃ ws, PgAt w B f n U ws
section
variable {w w' : World} {B n : Nat} {f : Pp} {U : Nat → Bool} {ws : List Nat}
theorem PgAt.size (h : PgAt w B f n U ws) : B ≤ w.heap.size := Nat.le_trans h.gB (Nat.le_of_lt h.cells.lt)
theorem PgAt.gt (h : PgAt w B f n U ws) : 0 < w.heap.size := Nat.lt_of_lt_of_le h.tB h.size
theorem PgAt.ne (h : PgAt w B f n U ws) : f.g ≠ f.h := h.cells.ne h.words (by decide)
theorem PgAt.kept {r : Nat} (h : PgAt w B f n U ws) (hb : w.grownBy w' (some r)) (h1 : f.g ≠ r) (h2 : f.h ≠ r) (h3 : B ≤ r) : PgAt w' B f n U ws :=
  ⟨h.cells.grown hb (by simpa using h1), h.words.grown hb (by simpa using h2), h.wds, h.few, h.lc, h.gB, h.hB, h.tB, fun j hj => by
    have := h.tB
    exact hb.cell (h.tab j hj) (by simp; omega)⟩
theorem PgAt.below (h : PgAt w B f n U ws) (hb : Below w.heap.size w w') : PgAt w' B f n U ws :=
  ⟨h.cells.below' hb, h.words.below' hb, h.wds, h.few, h.lc, h.gB, h.hB, h.tB, h.tab.below hb h.gt⟩
theorem PgAt.grow (h : PgAt w B f n U ws) (q : Nat) (os : Array Obj) : PgAt (grow (w.drewN q) os) B f n U ws := h.below (below_grow' w q os)
theorem PgAt.cN (h : PgAt w B f n U ws) : w.cell? ⟨f.g, 0, none⟩ = some (.int .i64 n) := by rw [h.cells.cell]; rfl
theorem PgAt.cW (h : PgAt w B f n U ws) : w.cell? ⟨f.g, 1, none⟩ = some (.slice (some ⟨f.h, 0, none⟩) ws.length f.c) := by rw [h.cells.cell]; rfl
theorem PgAt.cX (h : PgAt w B f n U ws) {v x : Nat} (hx : ws[v]? = some x) : w.cell? ⟨f.h, v, none⟩ = some (.int .u64 x) := by
  have hv : v < ws.length := (List.getElem?_eq_some_iff.1 hx).1
  rw [h.words.cell]
  have : (ws.map w64 ++ f.ex)[v]? = some (.int .u64 x) := by
    rw [List.getElem?_append_left (by simpa using hv), List.getElem?_map, hx]
    rfl
  simpa using this

set_option maxRecDepth 100000 in
theorem made_yes (h : PgAt w B f n U ws) : Calls Tryd.prog 26 #[f.ptr] w fun e w' => e = .returned (.bool true) ∧ w = w' := by
  have cW := h.cW
  have hq := fun (w : World) => run_neq_slice_nil (P := Tryd.prog) w 46 49 (some ⟨f.h, 0, none⟩) ws.length f.c Tryd.underlying46
  unfold Pp.ptr
  clear h
  go_enter Tryd.func26, Tryd.ntmps26
  go_wp2
  go_ret
  exact ⟨rfl, rfl⟩
set_option maxRecDepth 100000 in
theorem made_no (w : World) : Calls Tryd.prog 26 #[.pointer none] w fun e w' => e = .returned (.bool false) ∧ w = w' := by
  go_enter Tryd.func26, Tryd.ntmps26
  go_wp2
  go_ret
  exact ⟨rfl, rfl⟩
set_option maxRecDepth 100000 in
theorem many_is (h : PgAt w B f n U ws) : Calls Tryd.prog 29 #[f.ptr] w fun e w' => e = .returned (.int .i64 n) ∧ w = w' := by
  have cN := h.cN
  have hm := Lib.hid (made_yes h)
  unfold Pp.ptr at hm ⊢
  clear h
  go_enter Tryd.func29, Tryd.ntmps29
  go_wp2_with fail
  refine hm.out.mono ?_
  rintro e w1 ⟨rfl, rfl⟩
  go_wp2
  go_ret
  exact ⟨rfl, rfl⟩
set_option maxRecDepth 100000 in
theorem many_no (w : World) : Calls Tryd.prog 29 #[.pointer none] w fun e w' => e = .returned (.int .i64 0) ∧ w = w' := by
  go_enter Tryd.func29, Tryd.ntmps29
  go_wp2_with fail
  refine (made_no _).mono ?_
  rintro e w1 ⟨rfl, rfl⟩
  go_wp2
  go_ret
  exact ⟨rfl, rfl⟩
set_option maxRecDepth 100000 in
/-- may, over whatever 'many' answers -/
theorem may_of {p : Value} {n : Nat} {w : World} (hm : Calls Tryd.prog 29 #[p] w fun e w' => e = .returned (.int .i64 n) ∧ w = w') (hp : p.oneCell' = true) (i : Int) (b : Bool) (hb : b = decide (1 ≤ i ∧ i ≤ n)) :
    Calls Tryd.prog 21 #[p, .int .i64 i] w fun e w' => e = .returned (.bool b) ∧ w = w' := by
  have HM := Lib.hid hm
  clear hm
  by_cases h1 : 1 ≤ i
  · by_cases h2 : i ≤ n
    · obtain rfl : b = true := by rw [hb]; exact decide_eq_true ⟨h1, h2⟩
      have q1 : decide (i ≥ 1) = true := decide_eq_true h1
      have q2 : decide (i ≤ (n : Int)) = true := decide_eq_true h2
      clear hb
      go_enter Tryd.func21, Tryd.ntmps21
      go_wp2_with (go_at_call 29; refine HM.out.mono ?_; rintro e w1 ⟨rfl, rfl⟩)
      go_ret
      exact ⟨rfl, rfl⟩
    · obtain rfl : b = false := by rw [hb]; exact decide_eq_false fun h => h2 h.2
      have q1 : decide (i ≥ 1) = true := decide_eq_true h1
      have q2 : decide (i ≤ (n : Int)) = false := decide_eq_false h2
      clear hb
      go_enter Tryd.func21, Tryd.ntmps21
      go_wp2_with (go_at_call 29; refine HM.out.mono ?_; rintro e w1 ⟨rfl, rfl⟩)
      go_ret
      exact ⟨rfl, rfl⟩
  · obtain rfl : b = false := by rw [hb]; exact decide_eq_false fun h => h1 h.1
    have q1 : decide (i ≥ 1) = false := decide_eq_false h1
    clear hb
    go_enter Tryd.func21, Tryd.ntmps21
    go_wp2
    go_ret
    exact ⟨rfl, rfl⟩
theorem may_is (h : PgAt w B f n U ws) (i : Int) (b : Bool) (hb : b = decide (1 ≤ i ∧ i ≤ n)) : Calls Tryd.prog 21 #[f.ptr, .int .i64 i] w fun e w' => e = .returned (.bool b) ∧ w = w' :=
  may_of (many_is h) rfl i b hb
theorem may_no (w : World) (i : Int) : Calls Tryd.prog 21 #[.pointer none, .int .i64 i] w fun e w' => e = .returned (.bool false) ∧ w = w' :=
  may_of (n := 0) (many_no w) rfl i false (by symm; apply decide_eq_false; omega)
end
end Go.Proofs.YtjhchddmbbibpaaDoor
