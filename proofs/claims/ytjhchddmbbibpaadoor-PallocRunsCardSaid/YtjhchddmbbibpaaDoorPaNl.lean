import Derived.Test.YtjhchddmbbibpaaDoorPaGv
namespace Go.Proofs.YtjhchddmbbibpaaDoor
open Wd Pa Go.ChangeShapes Go.WideShapes Go.RowKit Go.Sort
set_option linter.unusedVariables false
/-! pages that nobody made -/
set_option maxRecDepth 100000 in
theorem next_no (w : World) (T : Int) : Calls Tryd.prog 25 #[.pointer none, .int .i64 1, .int .u64 T] w fun e w' => e = .returned (.int .i64 1) ∧ w = w' := by
  have KM := Lib.hid (many_no w)
  go_enter Tryd.func25, Tryd.ntmps25
  go_wp2
  refine wp_scope_jumps 0 (fun _ _ => False) (fun a' _ => 0) rfl ?_ (fun _ _ h => h.elim)
  go_wp2_with (go_at_call 29; refine KM.out.mono ?_; rintro e w1 ⟨rfl, rfl⟩)
  simp only [Exit.jump]
  go_ret
  exact ⟨rfl, rfl⟩
set_option maxRecDepth 100000 in
theorem take_no (w : World) : Calls Tryd.prog 10 #[.pointer none] w fun e w' => e = .returned (.tuple #[.int .i64 0, .bool false]) ∧ w = w' := by
  have KN := Lib.hid (next_no w 18446744073709551615)
  have KM := Lib.hid (may_no w 1)
  go_enter Tryd.func10, Tryd.ntmps10
  go_wp2_with (first
    | (go_at_call 25; refine KN.out.mono ?_; rintro e w1 ⟨rfl, rfl⟩)
    | (go_at_call 21; refine KM.out.mono ?_; rintro e w1 ⟨rfl, rfl⟩))
  go_ret2
  exact ⟨rfl, rfl⟩
set_option maxRecDepth 100000 in
theorem has_no (w : World) (i : Int) : Calls Tryd.prog 14 #[.pointer none, .int .i64 i] w (Tells false w) := by
  have KM := Lib.hid (fun q => may_no (w.drewN q) i)
  go_enter Tryd.func14, Tryd.ntmps14
  go_wp2_with fail
  go_quiet (first
    | (go_at_call 21; exact quiet_eq (KM.out _)))
  go_wp2
  go_ret
  exact ⟨rfl, _, rfl⟩
set_option maxRecDepth 100000 in
theorem give_no (w : World) (i : Int) : Calls Tryd.prog 12 #[.pointer none, .int .i64 i] w (Tells false w) := by
  have KH := Lib.hid (has_no w i)
  go_enter Tryd.func12, Tryd.ntmps12
  go_wp2_with fail
  refine KH.out.mono ?_
  rintro e w1 ⟨rfl, d, rfl⟩
  go_wp2
  go_ret
  exact ⟨rfl, d, rfl⟩
set_option maxRecDepth 100000 in
theorem free_no (w : World) : Calls Tryd.prog 16 #[.pointer none] w fun e w' => e = .returned (.int .i64 0) ∧ w = w' := by
  have KM := Lib.hid (made_no w)
  go_enter Tryd.func16, Tryd.ntmps16
  go_wp2_with (go_at_call 26; refine KM.out.mono ?_; rintro e w1 ⟨rfl, rfl⟩)
  go_ret
  exact ⟨rfl, rfl⟩
set_option maxRecDepth 100000 in
theorem copy_no (w : World) : Calls Tryd.prog 19 #[.pointer none] w fun e w' => e = .returned (.pointer none) ∧ w = w' := by
  have KM := Lib.hid (made_no w)
  go_enter Tryd.func19, Tryd.ntmps19
  go_wp2_with (go_at_call 26; refine KM.out.mono ?_; rintro e w1 ⟨rfl, rfl⟩)
  go_ret
  exact ⟨rfl, rfl⟩
def NoneRel (W : World) (v i : Value) (w : World) : Prop := v = .slice none 0 0 ∧ i = .int .i64 1 ∧ w = W
set_option maxRecDepth 100000 in
theorem used_no (w : World) : Calls Tryd.prog 18 #[.pointer none] w fun e w' => e = .returned (.slice none 0 0) ∧ w = w' := by
  have KN := Lib.hid (next_no w 0)
  have KM := Lib.hid (may_no w 1)
  go_enter Tryd.func18, Tryd.ntmps18
  go_wp2_with (go_at_call 25; refine KN.out.mono ?_; rintro e w1 ⟨rfl, rfl⟩)
  go_loopw [3, 4] (fun v i wr => NoneRel w v i wr) (fun _ i _ => 0)
  case atStart => exact ⟨rfl, rfl, rfl⟩
  case round =>
    obtain ⟨rfl, rfl, rfl⟩ := hrel
    go_wp2_with (go_at_call 21; refine KM.out.mono ?_; rintro e w1 ⟨rfl, rfl⟩)
    go_ret
    exact ⟨rfl, rfl⟩
set_option maxRecDepth 100000 in
theorem runs_no (w : World) : Calls Tryd.prog 20 #[.pointer none] w fun e w' => e = .returned (.slice none 0 0) ∧ w = w' := by
  have KN := Lib.hid (next_no w 0)
  have KM := Lib.hid (may_no w 1)
  go_enter Tryd.func20, Tryd.ntmps20
  go_wp2_with (go_at_call 25; refine KN.out.mono ?_; rintro e w1 ⟨rfl, rfl⟩)
  go_loopw [3, 4] (fun v i wr => NoneRel w v i wr) (fun _ i _ => 0)
  case atStart => exact ⟨rfl, rfl, rfl⟩
  case round =>
    obtain ⟨rfl, rfl, rfl⟩ := hrel
    go_wp2_with (go_at_call 21; refine KM.out.mono ?_; rintro e w1 ⟨rfl, rfl⟩)
    go_ret
    exact ⟨rfl, rfl⟩
end Go.Proofs.YtjhchddmbbibpaaDoor
