import Derived.Test.YtdfgehmabfacbaaMpAny
import Derived.ScopeJumps
import Derived.WalkMore
import Derived.Laws.Cover3
/-! The project's cache: where it lies, what it holds, and its small functions. -/
namespace Go.Proofs.Ytdfgehmabfacbaa
open Wd Sm Go.Maps Go.ChangeShapes Go.WideShapes Go.RowKit Go.Sort
set_option linter.unusedVariables false
theorem keyedC : Go.Maps.Keyed Try.prog 3 := Go.Maps.int_keyed Try.underlying3
def zpage : Array Value := Array.replicate 256 (.int .u8 0)
theorem zeroPage (w : World) : (zeroValue 42).run Try.prog w = .ok (.agg zpage) w := by kernel_rfl
/-- a page's cells -/
structure PageC (c : Array Value) : Prop where
  size : c.size = 256
  one : ∀ v ∈ c.toList, v.oneCell' = true
theorem PageC.zero : PageC zpage := ⟨by simp [zpage], fun v hv => by simp only [zpage, Array.toList_replicate, List.mem_replicate] at hv; rw [hv.2]; rfl⟩
structure Cst where
  most : Nat
  last : Nat
  ids : List Int
  F : VFn
structure Cst.Ok (S : Cst) : Prop where
  lo : 8 ≤ S.most
  hi : S.most ≤ 256
  few : S.ids.length ≤ S.most
  last : S.last ≤ 1000000
  rise : S.ids.Pairwise (· < ·)
  le : ∀ x ∈ S.ids, 1 ≤ x ∧ x ≤ S.last
  mem : ∀ x, x ∈ S.ids ↔ (S.F x).isSome = true
  page : ∀ x v, S.F x = some v → ∃ c, v = .agg c ∧ PageC c
structure CaAt (w : World) (base p m : Nat) (S : Cst) : Prop where
  ok : S.Ok
  bp : base ≤ p
  bm : base ≤ m
  c : Cells w p 41 #[.map (some m), .int .i64 S.most, .int .i64 S.last]
  v : Mv Try.prog 3 w m S.last S.F
theorem neqMapC (w : World) (r : Option Nat) : (binOp .neq 39 (.map r) (.map none)).run Try.prog w = .ok (.bool r.isSome) w := by
  have := run_neq_map_nil (P := Try.prog) w 39 3 42 r Try.underlying39
  cases r <;> simpa using this
section
variable {w w' : World} {base p m : Nat} {S : Cst}
theorem CaAt.c0 (h : CaAt w base p m S) : w.cell? ⟨p, 0, none⟩ = some (.map (some m)) := by rw [h.c.cell]; rfl
theorem CaAt.c1 (h : CaAt w base p m S) : w.cell? ⟨p, 1, none⟩ = some (.int .i64 S.most) := by rw [h.c.cell]; rfl
theorem CaAt.c2 (h : CaAt w base p m S) : w.cell? ⟨p, 2, none⟩ = some (.int .i64 S.last) := by rw [h.c.cell]; rfl
theorem CaAt.below {B : Nat} (h : CaAt w base p m S) (hb : Below B w w') (hp : p < B) (hm : m < B) : CaAt w' base p m S := ⟨h.ok, h.bp, h.bm, h.c.below hb hp, h.v.same (hb.block m hm)⟩
theorem CaAt.below' (h : CaAt w base p m S) (hb : Below w.heap.size w w') : CaAt w' base p m S := h.below hb h.c.lt h.v.lt
theorem CaAt.keep (h : CaAt w base p m S) (h1 : w'.heap[p]? = w.heap[p]?) (h2 : w'.heap[m]? = w.heap[m]?) : CaAt w' base p m S := ⟨h.ok, h.bp, h.bm, by unfold Cells; rw [h1]; exact h.c, h.v.same h2⟩
abbrev CPtr (p : Nat) : Value := .pointer (some ⟨p, 0, none⟩)
theorem caMade (h : CaAt w base p m S) : Calls Try.prog 16 #[CPtr p] w fun e w' => e = .returned (.bool true) ∧ w = w' := by
  have c0 := h.c0
  have hq := fun (w : World) => neqMapC w (some m)
  clear h
  unfold CPtr
  go_enter Try.func16, Try.ntmps16
  go_wp2
  go_ret
  exact ⟨rfl, rfl⟩
theorem caMade_nil (w : World) : Calls Try.prog 16 #[.pointer none] w fun e w' => e = .returned (.bool false) ∧ w = w' := by
  go_enter Try.func16, Try.ntmps16
  go_wp2
  go_ret
  exact ⟨rfl, rfl⟩
theorem caMost (h : CaAt w base p m S) : Calls Try.prog 14 #[CPtr p] w fun e w' => e = .returned (.int .i64 S.most) ∧ w = w' := by
  have c1 := h.c1
  have K := Lib.hid (caMade h)
  clear h
  unfold CPtr at *
  go_enter Try.func14, Try.ntmps14
  go_wp2_with fail
  refine K.out.mono ?_
  rintro e w' ⟨rfl, rfl⟩
  go_wp2
  go_ret
  exact ⟨rfl, rfl⟩
theorem caMost_nil (w : World) : Calls Try.prog 14 #[.pointer none] w fun e w' => e = .returned (.int .i64 0) ∧ w = w' := by
  go_enter Try.func14, Try.ntmps14
  go_wp2_with fail
  refine (caMade_nil _).mono ?_
  rintro e w' ⟨rfl, rfl⟩
  go_wp2
  go_ret
  exact ⟨rfl, rfl⟩
end
end Go.Proofs.Ytdfgehmabfacbaa
