import Derived.Test.YtcmgngjafnpnoaaFdTc
import Derived.Deep.RegionHeld3
/-! The project's table: told, opened, set, closed. -/
namespace Go.Proofs.Ytcmgngjafnpnoaa
open Wd Go.RowKit Go.ChangeShapes Go.WideShapes Go.Sort
set_option linter.unusedVariables false
set_option maxRecDepth 100000
section
variable {w : World} {g : Nat} {T : List Opn}
theorem results_open_tmp {fn : Func} {p u : Tmp} (h : fn.results = #[.cell p 27, .tmp u]) (tmps : Array Value) (w : World) (g : Nat) (cs : Array Value)
    (hp : tmps.getD p undef = .pointer (some ⟨g, 0, none⟩)) (hg : w.heap[g]? = some (.cells cs 27 (0, 0))) (hs : cs.size = 3) :
    (results fn tmps).run Try.prog w = .ok (.tuple #[.agg cs, tmps.getD u undef]) w := by
  have hi : (Try.prog.info? 27).map (·.size) = some cs.size := by rw [hs]; kernel_rfl
  have hp' : tmps[p]?.getD undef = .pointer (some ⟨g, 0, none⟩) := by simpa using hp
  simp [results, h, hp', asAddr, run_loadVar_row w g 27 27 cs (0, 0) _ hg Try.underlying27 rfl hi]
theorem set3_far (w : World) {g q i j k : Nat} (h : g ≠ q) (a b c : Value) : (((w.setCell ⟨q, i, none⟩ a).setCell ⟨q, j, none⟩ b).setCell ⟨q, k, none⟩ c).heap[g]? = w.heap[g]? := by
  rw [Below.heap_setCell _ ⟨q, k, none⟩ c g h, Below.heap_setCell _ ⟨q, j, none⟩ b g h, Below.heap_setCell _ ⟨q, i, none⟩ a g h]
theorem set3_cells {w : World} {q : Nat} {t : TypeId} {x y z : Value} (h : Cells w q t #[x, y, z]) (a b c : Value) : Cells (((w.setCell ⟨q, 0, none⟩ a).setCell ⟨q, 1, none⟩ b).setCell ⟨q, 2, none⟩ c) q t #[a, b, c] := ((h.set 0 a).set 1 b).set 2 c
theorem set3_below {w0 w : World} {q i j k : Nat} (h : Below w0.heap.size w0 w) (hq : w0.heap.size ≤ q) (a b c : Value) : Below w0.heap.size w0 (((w.setCell ⟨q, i, none⟩ a).setCell ⟨q, j, none⟩ b).setCell ⟨q, k, none⟩ c) :=
  ((h.setCell (p := ⟨q, i, none⟩) hq a).setCell (p := ⟨q, j, none⟩) hq b).setCell (p := ⟨q, k, none⟩) hq c
theorem isT_eq {T : List Opn} (h : GoodT T) {k : Nat} {o : Opn} (hk : T[k]? = some o) (hl : k < 16) : isT T k = openP o ∧ getT T k = o := by
  have e1 : isT T k = openP o := by
    rw [openP_eq h o (List.mem_of_getElem? hk)]
    unfold isT
    rw [Int.toNat_natCast, hk, decide_eq_true (by omega : (0 : Int) ≤ (k : Int)), decide_eq_true (by omega : (k : Int) < 16)]
    rfl
  refine ⟨e1, ?_⟩
  unfold getT
  rw [e1, Int.toNat_natCast, hk]
  rcases h.2 o (List.mem_of_getElem? hk) with rfl | h1
  · rfl
  · unfold openP; rw [decide_eq_true h1]; rfl
theorem isT_away {T : List Opn} {fd : Int} (h : fd < 0 ∨ 16 ≤ fd) : isT T fd = false ∧ getT T fd = Opn.zero := by
  have e1 : isT T fd = false := by
    unfold isT
    rcases h with h | h
    · rw [decide_eq_false (by omega : ¬ (0 : Int) ≤ fd)]; rfl
    · rw [decide_eq_false (by omega : ¬ fd < (16 : Int)), Bool.and_false]; rfl
  exact ⟨e1, by unfold getT; rw [e1]; rfl⟩
theorem tGet (h : Tb w g T) (hT : GoodT T) (fd : Int) : Calls Try.prog 16 #[fptr g, .int .i64 fd] w fun e w' => e = RetOB (getT T fd) (isT T fd) ∧ Below w.heap.size w w' := by
  unfold RetOB fptr
  by_cases hin : 0 ≤ fd ∧ fd < 16
  · obtain ⟨k, rfl⟩ : ∃ k : Nat, fd = k := ⟨fd.toNat, by omega⟩
    have hk16 : k < 16 := by omega
    obtain ⟨o, ho⟩ : ∃ o, T[k]? = some o := ⟨_, List.getElem?_eq_getElem (by rw [hT.1]; exact hk16)⟩
    obtain ⟨e1, e2⟩ := isT_eq hT ho hk16
    rw [e1, e2]
    have K := Lib.hid (fun w => fIsOpen o w)
    unfold openP Opn.val at *
    have q1 : decide ((k : Int) < 0) = false := by simp
    have q2 : decide ((k : Int) ≥ 16) = false := by simp; omega
    have i2 : (k : Int) < 16 := by omega
    have i3 : (0 : Int) ≤ (k : Int) := by omega
    obtain ⟨c0, c1, c2⟩ := h.at ho
    have H := Lib.hid h
    have HO := Lib.hid ho
    clear hin ho e1 e2 h
    go_enter Try.func16, Try.ntmps16
    have hR := Cells.new w 27 #[.int .i64 0, .int .i64 0, .int .i64 0]
    have hb1 : Below w.heap.size w (w.alloc (.cells #[.int .i64 0, .int .i64 0, .int .i64 0] 27)) := below_of_grown (World.grownBy_alloc w _ none)
    go_wp2_with fail
    have HR := Lib.hid hR; have HB1 := Lib.hid hb1
    have HH := Lib.hid (show Tb _ g T from H.out.below' hb1)
    have HL := Lib.hid HH.out.lt
    have HNE := Lib.hid (show g ≠ w.heap.size from Nat.ne_of_lt H.out.lt)
    generalize w.alloc (.cells #[.int .i64 0, .int .i64 0, .int .i64 0] 27) = w1 at *
    have s9 : ∀ w' : World, w'.heap[g]? = w1.heap[g]? → w'.cell? ⟨g, k * 3, none⟩ = some (.int .i64 o.ino) ∧ w'.cell? ⟨g, k * 3 + 1, none⟩ = some (.int .i64 o.off) ∧ w'.cell? ⟨g, k * 3 + 2, none⟩ = some (.int .i64 o.fl) :=
      fun w' hb => Tb.at (show Tb _ g T from hb.trans HH.out) HO.out
    have S9 := Lib.hid s9
    have b0 : Below w1.heap.size w1 w1.drew := ⟨rfl, rfl, rfl, Nat.le_refl _, fun _ _ => rfl⟩
    clear hR hb1 c0 c1 c2 s9
    go_region_held3 (fun w' => w'.cell? ⟨g, k * 3, none⟩ = some (.int .i64 o.ino) ∧ w'.cell? ⟨g, k * 3 + 1, none⟩ = some (.int .i64 o.off) ∧ w'.cell? ⟨g, k * 3 + 2, none⟩ = some (.int .i64 o.fl))
      (first | exact S9.out _ rfl | exact S9.out _ (kA.block g HL.out) | exact S9.out _ ((set3_far _ HNE.out _ _ _).trans (kA.block g HL.out)))
      (first
        | (go_at_call 19; (with_reducible refine (K.out _).mono ?_); rintro e w3 h3; obtain ⟨rfl, b3⟩ := h3.below; clear h3; have kA : Below w1.heap.size w1 w3 := b0.trans (b3.mono b0.size); have r3 := HR.out.below' kA; have f0 := r3.free 0; have f1 := r3.free 1; have f2 := r3.free 2; have y0 : w3.cell? ⟨w.heap.size, 0, none⟩ = some (.int .i64 0) := r3.cell 0; have y1 : w3.cell? ⟨w.heap.size, 1, none⟩ = some (.int .i64 0) := r3.cell 1; have y2 : w3.cell? ⟨w.heap.size, 2, none⟩ = some (.int .i64 0) := r3.cell 2))
    all_goals
      have hb3 : Below w.heap.size w w3 := HB1.out.trans (kA.mono HB1.out.size)
      go_wp2
      exact bodyPost_ret (results_open_tmp rfl _ _ w.heap.size #[.int .i64 o.ino, .int .i64 o.off, .int .i64 o.fl] rfl (set3_cells r3 _ _ _) rfl) rfl ⟨rfl, set3_below hb3 (Nat.le_refl _) _ _ _⟩
  · have hout : fd < 0 ∨ 16 ≤ fd := by omega
    obtain ⟨e1, e2⟩ := isT_away (T := T) hout
    rw [e1, e2]
    unfold Opn.val Opn.zero
    rcases hout with ho | ho
    · have q1 : decide (fd < 0) = true := by simp; omega
      clear hin e1 e2 h
      go_enter Try.func16, Try.ntmps16
      go_wp2_with fail
      exact bodyPost_ret (results_open_tmp rfl _ _ w.heap.size #[.int .i64 0, .int .i64 0, .int .i64 0] rfl (heap_alloc_new w _) rfl) rfl ⟨rfl, below_of_grown (World.grownBy_alloc w _ none)⟩
    · have q1 : decide (fd < 0) = false := by simp; omega
      have q2 : decide (fd ≥ 16) = true := by simp; omega
      clear hin e1 e2 h
      go_enter Try.func16, Try.ntmps16
      go_wp2_with fail
      exact bodyPost_ret (results_open_tmp rfl _ _ w.heap.size #[.int .i64 0, .int .i64 0, .int .i64 0] rfl (heap_alloc_new w _) rfl) rfl ⟨rfl, below_of_grown (World.grownBy_alloc w _ none)⟩
end
end Go.Proofs.Ytcmgngjafnpnoaa
