import Derived.Test.YtdfgehmabfacbaaCaGet
import Derived.Deep.MidRow
import Derived.StillTailTactics
/-! A page put. -/
namespace Go.Proofs.Ytdfgehmabfacbaa
open Wd Sm Go.Maps Go.RowKit Go.ChangeShapes Go.WideShapes Go.Sort
set_option linter.unusedVariables false
set_option maxRecDepth 100000
/-- the cache behind a Put that is taken -/
def putC (S : Cst) (c : Array Value) : Cst := ⟨S.most, S.last + 1, S.ids ++ [(S.last : Int) + 1], fun y => if y = (S.last : Int) + 1 then some (.agg c) else S.F y⟩
theorem putC_ok {S : Cst} (h : S.Ok) {c : Array Value} (hc : PageC c) (hf : S.ids.length < S.most) (hl : S.last < 1000000) : (putC S c).Ok := by
  unfold putC
  refine ⟨h.lo, h.hi, ?_, ?_, ?_, ?_, ?_, ?_⟩
  · simp only [List.length_append, List.length_singleton]; exact hf
  · dsimp only; omega
  · refine List.pairwise_append.2 ⟨h.rise, List.pairwise_singleton _ _, fun a ha b hb => ?_⟩
    rw [List.mem_singleton] at hb
    have := (h.le a ha).2
    omega
  · intro x hx
    dsimp only at hx ⊢
    rcases List.mem_append.1 hx with h1 | h1
    · have := h.le x h1; omega
    · rw [List.mem_singleton] at h1; omega
  · intro x
    dsimp only
    rw [List.mem_append, List.mem_singleton, h.mem]
    by_cases e : x = (S.last : Int) + 1 <;> simp [e]
  · intro x v hv
    dsimp only at hv
    split at hv
    · cases hv; exact ⟨c, rfl, hc⟩
    · exact h.page x v hv
theorem still_load_mid {P : Program} {op : Oper} {a : Act} {w : World} {K : Act → Prop} (ty : TypeId) (x : Operand) (ho : op.op = .load ty x)
    (b o : Nat) (hx : a.eval x = .pointer (some ⟨b, o, none⟩)) (cs : List Value) (d : TypeDesc) (hc : w.rangeAt b o cs)
    (hu : P.underlying ty = some d) (hd : d.isRow = true) (hi : (P.info? ty).map (·.size) = some cs.length)
    (h : K (a.put op.dst (.agg cs.toArray))) : op.still P a w K := by
  unfold Oper.still execOp
  simp only [ho, hx, Instr.loadAt, Instr.sureAddr, Sem.run_bind, Sem.run_pure, Result.andThen_ok, run_loadVar_mid w b o ty cs d hc hu hd hi]
  exact ⟨rfl, h⟩
section
variable {w w' : World} {base p m : Nat} {S : Cst}
theorem load_page {w : World} {g o : Nat} {xs : List Value} (hl : xs.length = 256) (h : ∀ j (hj : j < xs.length), w.cell? ⟨g, o + j, none⟩ = some xs[j]) :
    (loadCellsFrom ⟨g, o, none⟩ 0 256 #[]).run Try.prog w = .ok xs.toArray w := by
  have := run_loadCells_list (P := Try.prog) w ⟨g, o, none⟩ xs (fun j v hv => by
    obtain ⟨hj, rfl⟩ := List.getElem?_eq_some_iff.1 hv
    rw [Addr.add_mid]; exact h j hj)
  rw [hl] at this
  exact this
theorem caPut_no (h : CaAt w base p m S) (A : Option Addr) (n c : Nat) (hn : n ≤ maxLen) (hno : ¬ (n = 256 ∧ S.ids.length < S.most)) :
    Calls Try.prog 7 #[CPtr p, .slice A n c] w fun e w' => e = .returned (.tuple #[.int .i64 0, .bool false]) ∧ w = w' := by
  have K := Lib.hid (caRoom h 1)
  have hf := h.ok.few
  by_cases hr : S.ids.length < S.most
  · have e1 : roomB S 1 = true := roomB_of (by omega) (by omega)
    have e2 : ¬ (n = 256) := fun e => hno ⟨e, hr⟩
    have e3 : ¬ ((n : Int) = 256) := by omega
    rw [e1] at K
    clear h e1 hno
    unfold CPtr at *
    go_enter Try.func7, Try.ntmps7
    go_wp2_with fail
    refine K.out.mono ?_
    rintro e w' ⟨rfl, rfl⟩
    go_wp2_with fail
    go_ret2
    exact ⟨rfl, rfl⟩
  · have e1 : roomB S 1 = false := roomB_hi (by omega)
    rw [e1] at K
    clear h e1 hno
    unfold CPtr at *
    go_enter Try.func7, Try.ntmps7
    go_wp2_with fail
    refine K.out.mono ?_
    rintro e w' ⟨rfl, rfl⟩
    go_wp2_with fail
    go_ret2
    exact ⟨rfl, rfl⟩
theorem caPut_nil (w : World) (v : Value) : Calls Try.prog 7 #[.pointer none, v] w fun e w' => e = .returned (.tuple #[.int .i64 0, .bool false]) ∧ w = w' := by
  go_enter Try.func7, Try.ntmps7
  go_wp2_with fail
  refine (caRoom_nil _ _).mono ?_
  rintro e w' ⟨rfl, rfl⟩
  go_wp2
  go_ret2
  exact ⟨rfl, rfl⟩
def PutCa (base p m : Nat) (S : Cst) (c : Array Value) (w : World) (e : Ending) (w' : World) : Prop := e = .returned (.tuple #[.int .i64 ((S.last : Int) + 1), .bool true]) ∧ CaAt w' base p m (putC S c) ∧ Below base w w' ∧ (∀ q, q ≠ p → q ≠ m → w'.heap[q]? = w.heap[q]?) ∧ w'.heap.size = w.heap.size
theorem caPut_yes (h : CaAt w base p m S) {g o cp : Nat} {xs : List Value} (hg : g ≠ p) (hxl : xs.length = 256) (hx1 : ∀ v ∈ xs, v.oneCell' = true) (hx : ∀ j (hj : j < xs.length), w.cell? ⟨g, o + j, none⟩ = some xs[j]) (hr : S.ids.length < S.most) (hl : S.last < 1000000) :
    Calls Try.prog 7 #[CPtr p, .slice (some ⟨g, o, none⟩) 256 cp] w (PutCa base p m S xs.toArray w) := by
  have K := Lib.hid (caRoom h 1)
  have hpc : PageC xs.toArray := ⟨by simpa using hxl, by simpa using hx1⟩
  rw [roomB_of (by omega) (by omega)] at K
  have c2 := h.c2
  have f2 := h.c.free 2
  obtain ⟨w1, hw1⟩ : ∃ w1, w.setCell ⟨p, 2, none⟩ (.int .i64 ((S.last : Int) + 1)) = w1 := ⟨_, rfl⟩
  have hc1 : Cells w1 p 41 #[.map (some m), .int .i64 S.most, .int .i64 ((S.last : Int) + 1)] := by rw [← hw1]; exact h.c.set 2 _
  have hb1 : Below base w w1 := by rw [← hw1]; exact (Below.refl _ _).setCell (p := ⟨p, 2, none⟩) h.bp _
  have ho1 : ∀ q, q ≠ p → w1.heap[q]? = w.heap[q]? := fun q hq => by rw [← hw1]; exact Below.heap_setCell w _ _ q hq
  have hs1 : w1.heap.size = w.heap.size := by rw [← hw1]; simp
  have hne : m ≠ p := h.v.cells h.c
  have hv1 := h.v.same (ho1 m hne)
  have hx' : ∀ j (hj : j < xs.length), w1.cell? ⟨g, o + j, none⟩ = some xs[j] := fun j hj => by rw [← hx j hj]; unfold World.cell?; rw [ho1 g hg]
  have hra : w1.drew.rangeAt g o xs := fun j v hv => by
    obtain ⟨hj, rfl⟩ := List.getElem?_eq_some_iff.1 hv
    exact hx' j hj
  have HRA := Lib.hid hra
  have harr := fun w => run_arrayAt (P := Try.prog) w 42 5 256 (some ⟨g, o, none⟩) 256 cp Try.underlying42 (Nat.le_refl _)
  have d0 : w1.cell? ⟨p, 0, none⟩ = some (.map (some m)) := by rw [hc1.cell]; rfl
  have d2 : w1.cell? ⟨p, 2, none⟩ = some (.int .i64 ((S.last : Int) + 1)) := by rw [hc1.cell]; rfl
  have hwrap : IntKind.i64.wrap ((S.last : Int) + 1) = (S.last : Int) + 1 := by rw [IntKind.wrap_i64]; omega
  obtain ⟨w2, hu, hv2, ht2⟩ := (hv1.same (w' := w1.drew) rfl).store keyedC Try.underlying39 Try.underlying3 (by unfold maxLen; omega) ((S.last : Int) + 1) (.agg xs.toArray) (wfC (by omega))
  have hp2 : Cells w2 p 41 #[.map (some m), .int .i64 S.most, .int .i64 ((S.last : Int) + 1)] := by unfold Cells; rw [turned_block ht2 hne.symm]; exact hc1
  have e2 : w2.cell? ⟨p, 2, none⟩ = some (.int .i64 ((S.last : Int) + 1)) := by rw [hp2.cell]; rfl
  have FIN := Lib.hid (show CaAt w2 base p m (putC S xs.toArray) ∧ Below base w w2 ∧ (∀ q, q ≠ p → q ≠ m → w2.heap[q]? = w.heap[q]?) ∧ w2.heap.size = w.heap.size from
    ⟨⟨putC_ok h.ok hpc hr hl, h.bp, h.bm, hp2, hv2⟩, turned_below ht2 (below_drewN hb1 1) h.bm, fun q h1 h2 => (turned_block ht2 h2).trans (ho1 q h1), (turned_size ht2).trans hs1⟩)
  clear hra h hv1 hc1 hb1 hs1 ho1 hv2 ht2 hp2 hx hx' hpc hx1 hr
  have HL := Lib.hid hl
  unfold CPtr at *
  go_enter Try.func7, Try.ntmps7
  go_wp2_with fail
  refine K.out.mono ?_
  rintro e w' ⟨rfl, rfl⟩
  go_wp2_with fail
  refine wp_region_still_tail 11 (by kernel_rfl) (by kernel_rfl) ?_
  simp only [List.take_succ_cons, List.take_zero, List.drop_succ_cons, List.drop_zero]
  iterate 10 still_step
  refine wpStill_step (fun K hK => ?_)
  rw [if_pos (by rfl)]
  refine still_load_mid 42 _ rfl g o rfl xs _ HRA.out Try.underlying42 rfl (by rw [hxl]; exact info256) (hK _ ?_)
  clear hK K
  refine wpStill_nil ?_
  change wpList _ _ _ _ _ w1.drew
  go_wp2_with fail
  go_ret2
  exact ⟨rfl, FIN.out⟩
end
end Go.Proofs.Ytdfgehmabfacbaa
