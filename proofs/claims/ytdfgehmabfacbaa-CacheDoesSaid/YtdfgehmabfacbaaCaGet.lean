import Derived.Test.YtdfgehmabfacbaaCaNew
import Derived.Deep.WholeRow
/-! A page told; a page gone. -/
namespace Go.Proofs.Ytdfgehmabfacbaa
open Wd Sm Go.Maps Go.RowKit Go.ChangeShapes Go.WideShapes Go.Sort
set_option linter.unusedVariables false
set_option maxRecDepth 100000
theorem wfC {x : Int} (h : -9223372036854775808 ≤ x ∧ x ≤ 9223372036854775807) : (Lit.int .i64 x).wf = true := WalkArith.wf_i64 (by omega)
theorem info256 : (Try.prog.info? 42).map (·.size) = some 256 := by kernel_rfl
theorem all_one {c : Array Value} (h : PageC c) : c.all (·.oneCell') = true := by
  rw [Array.all_eq_true_iff_forall_mem]
  exact fun v hv => h.one v (by simpa using hv)
/-- the world once a page lies in a variable of its own -/
abbrev pageW (w : World) (c : Array Value) : World := w.alloc (.cells c 42)
theorem store_page (w : World) {c : Array Value} (h : PageC c) : (storeCells ⟨w.heap.size, 0, none⟩ c.toList 0).run Try.prog (w.alloc (.cells zpage 42)) = .ok () (pageW w c) :=
  run_storeCells_new (P := Try.prog) w 42 zpage c (by rw [h.size]; exact info256) (by rw [h.size, PageC.zero.size]) (all_one h)
section
variable {w w' : World} {base p m : Nat} {S : Cst}
theorem CaAt.look (h : CaAt w base p m S) (x : Int) (hx : -9223372036854775808 ≤ x ∧ x ≤ 9223372036854775807) : (Instr.lookup 39 (.map (some m)) (.int .i64 x) true).run Try.prog w = .ok (.tuple #[(S.F x).getD (.agg zpage), .bool (S.F x).isSome]) w :=
  h.v.look_ok keyedC Try.underlying39 Try.underlying3 (zeroPage w) x (wfC hx)
theorem caGet_yes (h : CaAt w base p m S) (x : Int) (hx : -9223372036854775808 ≤ x ∧ x ≤ 9223372036854775807) {c : Array Value} (hc : S.F x = some (.agg c)) :
    Calls Try.prog 8 #[CPtr p, .int .i64 x] w fun e w' => e = .returned (.tuple #[.slice (some ⟨w.heap.size, 0, none⟩) 256 256, .bool true]) ∧ pageW w c = w' := by
  have hl := h.look x hx
  rw [hc] at hl
  simp only [Option.getD_some, Option.isSome_some] at hl
  obtain ⟨c', e', hpc⟩ := h.ok.page x _ hc
  injection e' with e'
  subst e'
  have hsc := store_page w hpc
  have hz := zeroPage w
  have c0 := h.c0
  have hsz := hpc.size
  have K := Lib.hid (caMade h)
  clear h hc
  unfold CPtr at *
  go_enter Try.func8, Try.ntmps8
  go_wp2_with fail
  refine K.out.mono ?_
  rintro e w' ⟨rfl, rfl⟩
  go_wp2_with fail
  go_ret2
  exact ⟨rfl, rfl⟩
theorem caGet_no (h : CaAt w base p m S) (x : Int) (hx : -9223372036854775808 ≤ x ∧ x ≤ 9223372036854775807) (hc : S.F x = none) :
    Calls Try.prog 8 #[CPtr p, .int .i64 x] w fun e w' => e = .returned (.tuple #[.slice none 0 0, .bool false]) ∧ pageW w zpage = w' := by
  have hl := h.look x hx
  rw [hc] at hl
  simp only [Option.getD_none, Option.isSome_none] at hl
  have hsc := store_page w PageC.zero
  have hz := zeroPage w
  have c0 := h.c0
  have hsz : zpage.size = 256 := PageC.zero.size
  have K := Lib.hid (caMade h)
  clear h hc
  unfold CPtr at *
  go_enter Try.func8, Try.ntmps8
  go_wp2_with fail
  refine K.out.mono ?_
  rintro e w' ⟨rfl, rfl⟩
  go_wp2_with fail
  go_ret2
  exact ⟨rfl, rfl⟩
theorem caGet_nil (w : World) (x : Int) : Calls Try.prog 8 #[.pointer none, .int .i64 x] w fun e w' => e = .returned (.tuple #[.slice none 0 0, .bool false]) ∧ w = w' := by
  go_enter Try.func8, Try.ntmps8
  go_wp2_with fail
  refine (caMade_nil _).mono ?_
  rintro e w' ⟨rfl, rfl⟩
  go_wp2
  go_ret2
  exact ⟨rfl, rfl⟩
/-- the cache behind a Drop -/
def dropC (S : Cst) (x : Int) : Cst := ⟨S.most, S.last, S.ids.filter (fun y => decide (y ≠ x)), fun y => if y = x then none else S.F y⟩
theorem dropC_ok (h : S.Ok) (x : Int) : (dropC S x).Ok := by
  unfold dropC
  refine ⟨h.lo, h.hi, Nat.le_trans (List.length_filter_le _ _) h.few, h.last, h.rise.filter _, fun y hy => h.le y (List.mem_filter.1 hy).1, fun y => ?_, fun y v hv => ?_⟩
  · rw [List.mem_filter, h.mem]
    by_cases e : y = x <;> simp [e]
  · by_cases e : y = x
    · simp [e] at hv
    · simp only [if_neg e] at hv
      exact h.page y v hv
theorem dropC_none (h : S.Ok) {x : Int} (hx : S.F x = none) : dropC S x = S := by
  unfold dropC
  obtain ⟨a, b, ids, F⟩ := S
  dsimp only at hx ⊢
  congr 1
  · refine List.filter_eq_self.2 fun y hy => ?_
    rw [decide_eq_true_eq]
    rintro rfl
    have := (h.mem y).1 hy
    dsimp only at this
    rw [hx] at this
    cases this
  · funext y
    split
    · rename_i e; rw [e, hx]
    · rfl
theorem CaAt.turned (h : CaAt w base p m S) {S' : Cst} (ok : S'.Ok) (ht : w.mapTurned w' m) (hm : S'.most = S.most) (hl : S'.last = S.last) (hv : Mv Try.prog 3 w' m S'.last S'.F) : CaAt w' base p m S' := by
  refine ⟨ok, h.bp, h.bm, ?_, hv⟩
  rw [hm, hl]
  unfold Cells
  rw [turned_block ht fun e => h.v.cells h.c e.symm]
  exact h.c
def DropCa (base p m : Nat) (S : Cst) (x : Int) (w : World) (e : Ending) (w' : World) : Prop := e = .returned (.bool (S.F x).isSome) ∧ CaAt w' base p m (dropC S x) ∧ Below base w w' ∧ w.heap.size ≤ w'.heap.size ∧ ∀ q, q ≠ m → q < w.heap.size → w'.heap[q]? = w.heap[q]?
theorem caDrop (h : CaAt w base p m S) (x : Int) (hx : -9223372036854775808 ≤ x ∧ x ≤ 9223372036854775807) : Calls Try.prog 9 #[CPtr p, .int .i64 x] w (DropCa base p m S x w) := by
  have hl := h.look x hx
  obtain ⟨c, hc, hpc⟩ : ∃ c, (S.F x).getD (.agg zpage) = .agg c ∧ PageC c := by
    cases hf : S.F x with
    | none => exact ⟨zpage, rfl, PageC.zero⟩
    | some v => obtain ⟨c, rfl, hp⟩ := h.ok.page x v hf; exact ⟨c, rfl, hp⟩
  rw [hc] at hl
  have hsc := store_page w hpc
  have hz := zeroPage w
  have hb1 : Below w.heap.size w (pageW w c) := (Below.refl _ _).alloc (Nat.le_refl _) _
  have h1 := h.below' hb1
  obtain ⟨w2, hd, hv2, ht2⟩ := h1.v.drop keyedC Try.underlying39 Try.underlying3 x (wfC hx) 0
  have HF : CaAt w2 base p m (dropC S x) ∧ Below base w w2 ∧ w.heap.size ≤ w2.heap.size ∧ ∀ q, q ≠ m → q < w.heap.size → w2.heap[q]? = w.heap[q]? := ⟨h1.turned (dropC_ok h.ok x) ht2 rfl rfl hv2, turned_below ht2 (hb1.mono (Nat.le_trans h.bp (Nat.le_of_lt h.c.lt))) h.bm, by rw [turned_size ht2]; exact hb1.size, fun q h2 h3 => (turned_block ht2 h2).trans (hb1.block q h3)⟩
  have HFIN := Lib.hid HF
  have c0 := h.c0
  have c1 := h1.c0
  have hsz := hpc.size
  have K := Lib.hid (caMade h)
  obtain ⟨R, hR⟩ : ∃ R, R = (S.F x).isSome := ⟨_, rfl⟩
  rw [← hR] at hl
  have HR := Lib.hid hR
  clear h h1 hc hv2 ht2 HF hR hb1
  unfold CPtr at *
  go_enter Try.func9, Try.ntmps9
  go_wp2_with fail
  refine K.out.mono ?_
  rintro e w' ⟨rfl, rfl⟩
  go_wp2_with fail
  go_ret
  exact ⟨by rw [← HR.out]; rfl, HFIN.out⟩
theorem caDrop_nil (w : World) (x : Int) : Calls Try.prog 9 #[.pointer none, .int .i64 x] w fun e w' => e = .returned (.bool false) ∧ w = w' := by
  go_enter Try.func9, Try.ntmps9
  go_wp2_with fail
  refine (caMade_nil _).mono ?_
  rintro e w' ⟨rfl, rfl⟩
  go_wp2
  go_ret
  exact ⟨rfl, rfl⟩
end
end Go.Proofs.Ytdfgehmabfacbaa
