import Derived.Test.YtnjikgcigobcdaaGreatMA
import Derived.Test.YtnjikgcigobcdaaGreatChecked
import Derived.WalkKit
import Derived.WalkLawsBesides
import Derived.Deep.QuietTactic
import Derived.BigQuiet
import Derived.KernelRfl
import Derived.Outline
import Derived.Laws.Cover2
import Derived.Shelf.SlSortCmp.QuietGrown
import Derived.IntWalk

namespace Go.Proofs.YtnjikgcigobcdaaGreat
open Wd Go.ChangeShapes Go.WideShapes Go.RowKit Go.Sort
set_option linter.unusedVariables false

/-- it returns v; the world has drawn some, and has some blocks more -/
def Grows (v : Value) (w : World) (e : Ending) (w' : World) : Prop := e = .returned v ∧ ∃ q os, w' = grow (w.drewN q) os
theorem below_grow' (w : World) (n : Nat) (os : Array Obj) : Below w.heap.size w (grow (w.drewN n) os) :=
  ⟨rfl, rfl, rfl, by simp, fun k hk => heap_grow_old (w.drewN n) os hk⟩
theorem Grows.below {v : Value} {w w' : World} {e : Ending} (h : Grows v w e w') : e = .returned v ∧ Below w.heap.size w w' := by
  obtain ⟨rfl, q, os, rfl⟩ := h
  exact ⟨rfl, below_grow' _ _ _⟩
theorem grow_none (w : World) : ∃ q os, w = grow (w.drewN q) os := ⟨0, #[], by rw [grow_empty]; rfl⟩
theorem grow_one (w : World) (o : Obj) : ∃ q os, w.alloc o = grow (w.drewN q) os := ⟨0, #[o], rfl⟩
theorem grow_trans {w w1 w2 : World} (h : ∃ q os, w1 = grow (w.drewN q) os) (k : ∃ q os, w2 = grow (w1.drewN q) os) : ∃ q os, w2 = grow (w.drewN q) os := by
  obtain ⟨q, os, rfl⟩ := h
  obtain ⟨q', os', rfl⟩ := k
  exact ⟨q + q', os ++ os', by show grow (grow ((w.drewN q).drewN q') os) os' = _; rw [grow_grow, World.drewN_drewN]⟩
theorem grow_alloc {w w1 : World} (h : ∃ q os, w1 = grow (w.drewN q) os) (o : Obj) : ∃ q os, w1.alloc o = grow (w.drewN q) os := grow_trans h (grow_one w1 o)
theorem grow_drewN {w w1 : World} (h : ∃ q os, w1 = grow (w.drewN q) os) (n : Nat) : ∃ q os, w1.drewN n = grow (w.drewN q) os := grow_trans h ⟨n, #[], by rw [grow_empty]⟩
/-- met in a region that draws -/
theorem Grows.in {P : Program} {f : FuncId} {args : Array Value} {v : Value} (h : ∀ w, Calls P f args w (Grows v w)) (w : World) (n : Nat) (os : Array Obj) :
    Calls P f args (grow (w.drewN n) os) fun e w'' => e = .returned v ∧ ∃ p : GrownBy, w'' = grow (w.drewN p.n) p.os :=
  Calls.grown_of (h _)
theorem Grows.inAt {P : Program} {f : FuncId} {args : Array Value} {v : Value} {w : World} (h : ∀ n os, Calls P f args (grow (w.drewN n) os) (Grows v (grow (w.drewN n) os))) (n : Nat) (os : Array Obj) :
    Calls P f args (grow (w.drewN n) os) fun e w'' => e = .returned v ∧ ∃ p : GrownBy, w'' = grow (w.drewN p.n) p.os := Calls.grown_of (h n os)
end Go.Proofs.YtnjikgcigobcdaaGreat

namespace Go.Proofs.YtnjikgcigobcdaaGreat
open Wd Go.ChangeShapes Go.WideShapes Go.RowKit Go.Sort
set_option linter.unusedVariables false

/-- what a device of so many pages has -/
def bankG (p : Int) : Int := p / 8
def imageG (p : Int) : Int := (32 * (p / 8) - 2) / 2
def logG (p : Int) : Int := 32 * (p / 8) - 2 - (32 * (p / 8) - 2) / 2
def dataG (p : Int) : Int := p - 1 - 2 * (p / 8)
def mayG (p : Int) : Bool := decide (64 ≤ p) && decide (p ≤ 1048576)
def geomV (p : Int) : Value := .agg #[.int .i64 p, .int .i64 (bankG p), .int .i64 (imageG p), .int .i64 (logG p), .int .i64 (dataG p)]
def noneV : Value := .agg #[.int .i64 0, .int .i64 0, .int .i64 0, .int .i64 0, .int .i64 0]

def bankP (B k : Int) : Int := if k = 1 then 32 * (1 + B) else 32
def pageP (B D p : Int) : Int := if 1 ≤ p ∧ p ≤ D then 32 * (2 * B + p) else 0

theorem bankP_bd (B k : Int) (hB : 0 ≤ B) (hB2 : B ≤ 200000) : 0 ≤ bankP B k ∧ bankP B k ≤ 6400032 := by
  unfold bankP; split <;> omega
end Go.Proofs.YtnjikgcigobcdaaGreat

namespace Go.Proofs.YtnjikgcigobcdaaGreat
open Wd Go.ChangeShapes Go.WideShapes Go.RowKit Go.Sort
set_option linter.unusedVariables false

/-! the project's own contracts: to be proved anew for what lands -/
theorem geomOf_yes (p : Int) (h1 : 64 ≤ p) (h2 : p ≤ 1048576) (w : World) : Calls Tryz.prog 41 #[.int .i64 p] w (Grows (.tuple #[geomV p, .bool true]) w) := by
  unfold geomV bankG imageG logG dataG
  go_enter Tryz.func41, Tryz.ntmps41
  go_wp2
  refine bodyPost_ret (v := .tuple #[.agg #[.int .i64 p, .int .i64 (p / 8), .int .i64 ((32 * (p / 8) - 2) / 2), .int .i64 (32 * (p / 8) - 2 - (32 * (p / 8) - 2) / 2), .int .i64 (p - 1 - 2 * (p / 8))], .bool true]) (by simp [results, Tryz.results41, go_sem, Int.mul_comm]) rfl ⟨rfl, ?_⟩
  exact grow_one w _

theorem geomOf_no (p : Int) (h : p < 64 ∨ 1048576 < p) (w : World) : Calls Tryz.prog 41 #[.int .i64 p] w (Grows (.tuple #[noneV, .bool false]) w) := by
  unfold noneV
  rcases h with h | h
  · go_enter Tryz.func41, Tryz.ntmps41
    go_wp2
    refine bodyPost_ret (v := .tuple #[.agg #[.int .i64 0, .int .i64 0, .int .i64 0, .int .i64 0, .int .i64 0], .bool false]) (by simp [results, Tryz.results41, go_sem]) rfl ⟨rfl, ?_⟩
    exact grow_one w _
  · have h' : ¬ p < 64 := by omega
    go_enter Tryz.func41, Tryz.ntmps41
    go_wp2
    refine bodyPost_ret (v := .tuple #[.agg #[.int .i64 0, .int .i64 0, .int .i64 0, .int .i64 0, .int .i64 0], .bool false]) (by simp [results, Tryz.results41, go_sem]) rfl ⟨rfl, ?_⟩
    exact grow_one w _

/-- what 'from' hands out: a place behind the page's first word -/
def atV (n : Nat) : Value := .func (.func 93) #[] #[.pointer (some ⟨n, 0, none⟩)]
theorem size_al (w : World) (o : Obj) : (w.alloc o).heap.size = w.heap.size + 1 := by simp
theorem gFrom (p b : Int) (h0 : 0 ≤ p) (h1 : p ≤ 20000000) (hb : b = 32 * p) (w : World) : Calls Tryz.prog 72 #[.int .i64 p] w fun e w' => e = .returned (atV w.heap.size) ∧ w' = w.alloc (.cells #[.int .i64 b] 3) := by
  have hmf : ∀ (fn : Fn) (first cap : Array Value) (w : World), (Instr.makeFunc fn first cap).run Tryz.prog w = .ok (.func fn first cap) w := fun _ _ _ _ => rfl
  have hw : IntKind.i64.wrap (p * 32) = b := by rw [IntWalk.i64_in _ (by omega)]; omega
  unfold atV
  clear hb
  go_enter Tryz.func72, Tryz.ntmps72
  go_wp2
  go_ret
  exact ⟨rfl, rfl⟩

theorem gBehind (n : Nat) (b x c : Int) (w : World) (hc : Cells w n 3 #[.int .i64 b]) (hb : 0 ≤ b) (hb2 : b ≤ 1000000000) (hx : 0 ≤ x) (hx2 : x ≤ 1000000000) (h : c = b + x) :
    Calls Tryz.prog 93 #[.int .i64 x, .pointer (some ⟨n, 0, none⟩)] w fun e w' => e = .returned (.int .i64 c) ∧ w' = w := by
  have hw : IntKind.i64.wrap (b + x) = c := by rw [IntWalk.i64_in _ (by omega)]; omega
  have h0 : w.cell? ⟨n, 0, none⟩ = some (.int .i64 b) := hc.cell 0
  clear h
  go_enter Tryz.func93, Tryz.ntmps93
  go_wp2
  go_ret
  exact ⟨rfl, rfl⟩

/-- the world that inBank leaves -/
def inW (P B I L D k : Int) (w : World) : World := (w.alloc (.cells #[.int .i64 P, .int .i64 B, .int .i64 I, .int .i64 L, .int .i64 D] 49)).alloc (.cells #[.int .i64 (bankP B k)] 3)
theorem gIn (P B I L D k : Int) (hB : 0 ≤ B) (hB2 : B ≤ 200000) (w : World) : Calls Tryz.prog 87 #[.agg #[.int .i64 P, .int .i64 B, .int .i64 I, .int .i64 L, .int .i64 D], .int .i64 k] w fun e w' => e = .returned (atV (w.heap.size + 1)) ∧ w' = inW P B I L D k w := by
  unfold inW
  have ha : ∀ v, (w.alloc v).heap.size = w.heap.size + 1 := fun v => by simp
  by_cases h : k = 1
  · have hb : bankP B k = 32 * (1 + B) := by unfold bankP; rw [if_pos h]
    rw [hb]
    subst h
    clear hb
    go_enter Tryz.func87, Tryz.ntmps87
    go_wp2_with fail
    refine (gFrom (1 + B) _ (by omega) (by omega) rfl _).mono ?_
    rintro e w2 ⟨rfl, rfl⟩
    rw [ha]
    unfold atV
    go_wp2
    go_ret
    exact ⟨rfl, rfl⟩
  · have hb : bankP B k = 32 := by unfold bankP; rw [if_neg h]
    have hk : (k == 1) = false := by simpa using h
    rw [hb]
    clear h hb
    go_enter Tryz.func87, Tryz.ntmps87
    go_wp2_with fail
    refine (gFrom 1 _ (by omega) (by omega) rfl _).mono ?_
    rintro e w2 ⟨rfl, rfl⟩
    rw [ha]
    unfold atV
    go_wp2
    go_ret
    exact ⟨rfl, rfl⟩

theorem inW_cell (P B I L D k : Int) (w w1 : World) (h : w1 = inW P B I L D k w) : Cells w1 (w.heap.size + 1) 3 #[.int .i64 (bankP B k)] := by
  subst h
  have := Cells.new (w.alloc (.cells #[.int .i64 P, .int .i64 B, .int .i64 I, .int .i64 L, .int .i64 D] 49)) 3 #[.int .i64 (bankP B k)]
  rw [show (w.alloc (.cells #[.int .i64 P, .int .i64 B, .int .i64 I, .int .i64 L, .int .i64 D] 49)).heap.size = w.heap.size + 1 by simp] at this
  exact this
theorem inW_grow (P B I L D k : Int) (w : World) : ∃ q os, inW P B I L D k w = grow (w.drewN q) os := grow_alloc (grow_one w _) _

theorem gBankAt (P B I L D k : Int) (hB : 0 ≤ B) (hB2 : B ≤ 200000) (w : World) : Calls Tryz.prog 78 #[.agg #[.int .i64 P, .int .i64 B, .int .i64 I, .int .i64 L, .int .i64 D], .int .i64 k] w (Grows (.int .i64 (bankP B k)) w) := by
  obtain ⟨b1, b2⟩ := bankP_bd B k hB hB2
  go_enter Tryz.func78, Tryz.ntmps78
  go_wp2_with fail
  refine (gIn P B I L D k hB hB2 _).mono ?_
  rintro e w2 ⟨rfl, hw2⟩
  have hc := inW_cell P B I L D k _ w2 hw2
  rw [size_al] at hc
  have hg : ∃ q os, w2 = grow (w.drewN q) os := hw2 ▸ grow_trans (grow_one w _) (inW_grow P B I L D k _)
  have HG := Lib.hid hg
  have HC := Lib.hid hc
  clear hg hc hw2
  unfold atV
  go_wp2_with fail
  refine (gBehind _ (bankP B k) 0 (bankP B k) _ HC.out b1 (by omega) (by omega) (by omega) (by omega)).mono ?_
  rintro e w3 ⟨rfl, rfl⟩
  go_wp2
  go_ret
  exact ⟨rfl, HG.out⟩

theorem gImageAt (P B I L D k : Int) (hB : 0 ≤ B) (hB2 : B ≤ 200000) (w : World) : Calls Tryz.prog 51 #[.agg #[.int .i64 P, .int .i64 B, .int .i64 I, .int .i64 L, .int .i64 D], .int .i64 k] w (Grows (.int .i64 (bankP B k + 2)) w) := by
  obtain ⟨b1, b2⟩ := bankP_bd B k hB hB2
  go_enter Tryz.func51, Tryz.ntmps51
  go_wp2_with fail
  refine (gIn P B I L D k hB hB2 _).mono ?_
  rintro e w2 ⟨rfl, hw2⟩
  have hc := inW_cell P B I L D k _ w2 hw2
  rw [size_al] at hc
  have hg : ∃ q os, w2 = grow (w.drewN q) os := hw2 ▸ grow_trans (grow_one w _) (inW_grow P B I L D k _)
  have HG := Lib.hid hg
  have HC := Lib.hid hc
  clear hg hc hw2
  unfold atV
  go_wp2_with fail
  refine (gBehind _ (bankP B k) 2 (bankP B k + 2) _ HC.out b1 (by omega) (by omega) (by omega) (by omega)).mono ?_
  rintro e w3 ⟨rfl, rfl⟩
  go_wp2
  go_ret
  exact ⟨rfl, HG.out⟩

theorem size_dr (w : World) : w.drew.heap.size = w.heap.size := rfl
theorem inW_dr (P B I L D k : Int) (w : World) : inW P B I L D k w.drew = (inW P B I L D k w).drew := rfl
theorem inW_cell2 (P B I L D k : Int) (w : World) : Cells ((((w.alloc (.cells #[.int .i64 P, .int .i64 B, .int .i64 I, .int .i64 L, .int .i64 D] 49)).alloc (.cells #[.int .i64 P, .int .i64 B, .int .i64 I, .int .i64 L, .int .i64 D] 49)).alloc (.cells #[.int .i64 (bankP B k)] 3)).drew) (w.heap.size + 1 + 1) 3 #[.int .i64 (bankP B k)] := by
  have := inW_cell P B I L D k (w.alloc (.cells #[.int .i64 P, .int .i64 B, .int .i64 I, .int .i64 L, .int .i64 D] 49)) _ rfl
  rw [size_al] at this
  exact this
theorem gLogAt (P B I L D k : Int) (hB : 0 ≤ B) (hB2 : B ≤ 200000) (hI : 0 ≤ I) (hI2 : I ≤ 10000000) (w : World) : Calls Tryz.prog 53 #[.agg #[.int .i64 P, .int .i64 B, .int .i64 I, .int .i64 L, .int .i64 D], .int .i64 k] w (Grows (.int .i64 (bankP B k + 2 + I)) w) := by
  obtain ⟨b1, b2⟩ := bankP_bd B k hB hB2
  have hfol : Tryz.prog.follows Departure.mixedOrders = true := by kernel_rfl
  have e2 : IntKind.i64.wrap (2 + I) = 2 + I := IntWalk.i64_in _ (by omega)
  have HC := Lib.hid (inW_cell2 P B I L D k w)
  have q1 : (2 + I) ≤ 1000000000 := by omega
  have q0 : 0 ≤ (2 + I) := by omega
  have q2 : bankP B k + 2 + I = bankP B k + (2 + I) := by omega
  have q3 : bankP B k ≤ 1000000000 := by omega
  rw [q2]
  clear q2
  go_enter Tryz.func53, Tryz.ntmps53
  go_wp2_with fail
  go_region_with (first
    | (go_at_call 87
       refine (gIn P B I L D k hB hB2 _).mono ?_
       rintro e w2 ⟨rfl, rfl⟩
       simp only [inW_dr, size_al, size_dr]
       unfold atV inW)
    | (go_at_call 93
       refine (gBehind _ (bankP B k) (2 + I) (bankP B k + (2 + I)) _ HC.out b1 q3 q0 q1 rfl).mono ?_
       rintro e w2 ⟨rfl, rfl⟩))
  all_goals
    go_wp2
    go_ret
    exact ⟨rfl, grow_drewN (grow_alloc (grow_alloc (grow_one w _) _) _) 1⟩

theorem gWords (P B I L D : Int) (hP : 0 ≤ P) (hP2 : P ≤ 1048576) (w : World) : Calls Tryz.prog 42 #[.agg #[.int .i64 P, .int .i64 B, .int .i64 I, .int .i64 L, .int .i64 D]] w (Grows (.int .i64 (32 * P)) w) := by
  go_enter Tryz.func42, Tryz.ntmps42
  go_wp2_with fail
  refine (gFrom P _ (by omega) (by omega) rfl _).mono ?_
  rintro e w2 ⟨rfl, hw2⟩
  have hc := hw2 ▸ Cells.new (w.alloc (.cells #[.int .i64 P, .int .i64 B, .int .i64 I, .int .i64 L, .int .i64 D] 49)) 3 #[.int .i64 (32 * P)]
  rw [size_al] at hc
  have hg : ∃ q os, w2 = grow (w.drewN q) os := hw2 ▸ grow_alloc (grow_one w _) _
  have HG := Lib.hid hg
  have HC := Lib.hid hc
  clear hg hc hw2
  unfold atV
  go_wp2_with fail
  refine (gBehind _ (32 * P) 0 (32 * P) _ HC.out (by omega) (by omega) (by omega) (by omega) (by omega)).mono ?_
  rintro e w3 ⟨rfl, rfl⟩
  go_wp2
  go_ret
  exact ⟨rfl, HG.out⟩

def rootV (e k : Int) : Int := 2 * e + (if k = 1 then 1 else 0)

theorem gRoot (e k : Int) (h0 : 0 ≤ e) (h1 : e ≤ 1099511627776) (w : World) : Calls Tryz.prog 84 #[.int .i64 e, .int .i64 k] w (Grows (.int .u64 (rootV e k)) w) := by
  unfold rootV
  by_cases h : k = 1
  · rw [if_pos h]
    subst h
    go_enter Tryz.func84, Tryz.ntmps84
    go_wp2
    go_ret
    exact ⟨by first | rfl | (congr 2; omega), grow_none w⟩
  · rw [if_neg h]
    have hk : (k == 1) = false := by simpa using h
    clear h
    go_enter Tryz.func84, Tryz.ntmps84
    go_wp2
    go_ret
    exact ⟨by rw [Int.add_zero]; rfl, grow_none w⟩
end Go.Proofs.YtnjikgcigobcdaaGreat
