import Derived.Test.YtcdpmifgjaongaaGreatDoorG28
/-! The project's State: Last. -/
namespace Go.Proofs.YtcdpmifgjaongaaGreatDoor
open Wd Ino Sm Go.RowKit Go.ChangeShapes Go.WideShapes Go.Sort
set_option linter.unusedVariables false
set_option maxRecDepth 100000
variable {w : World} {base m g b : Nat} {S : Stt}
theorem pLast (h : PSt w base m g b S) : Calls Tryz.prog 22 #[SPtr g] w (Grows (.int .i64 S.last) w) := by
  have KM := Lib.hid (pMade h)
  have H := Lib.hid h
  unfold SPtr at *
  clear h
  go_enter Tryz.func22, Tryz.ntmps22
  go_wp2_with fail
  refine (KM.out).mono ?_
  rintro e' w2 ⟨rfl, hw2⟩
  have HG2 := Lib.hid hw2
  have c1 := (H.out.cells.below' (grown_b hw2)).cell 1
  clear hw2 KM H
  go_wp2_with fail
  go_ret
  exact ⟨rfl, HG2.out⟩
end Go.Proofs.YtcdpmifgjaongaaGreatDoor
