import Derived.Test.YtcdpmifgjaongaaGreatDoorG34
/-! Calls on a State that nobody made. -/
namespace Go.Proofs.YtcdpmifgjaongaaGreatDoor
open Wd Ino Sm U Go.Maps Go.RowKit Go.ChangeShapes Go.WideShapes Go.Shelf Go.Sort
set_option linter.unusedVariables false
set_option maxRecDepth 100000
abbrev nilS : Value := .pointer none
theorem nMade (w : World) : Calls Tryz.prog 32 #[nilS] w (Grows (.bool false) w) := by
  go_enter Tryz.func32, Tryz.ntmps32
  go_wp2
  go_ret
  exact ⟨rfl, grow_none _⟩
theorem nRight (w : World) : Calls Tryz.prog 19 #[nilS] w (Ends (.bool false) w) := by
  go_enter Tryz.func19, Tryz.ntmps19
  go_wp2_with fail
  refine (nMade _).mono ?_
  rintro e w1 ⟨rfl, hw1⟩
  have B1 : Hid (Below w.heap.size w w1) := Lib.hid (grown_b hw1)
  clear hw1
  go_wp2
  go_ret
  exact ⟨rfl, B1.out⟩
theorem nLast (w : World) : Calls Tryz.prog 22 #[nilS] w (Ends (.int .i64 0) w) := by
  go_enter Tryz.func22, Tryz.ntmps22
  go_wp2_with fail
  refine (nMade _).mono ?_
  rintro e w1 ⟨rfl, hw1⟩
  have B1 : Hid (Below w.heap.size w w1) := Lib.hid (grown_b hw1)
  clear hw1
  go_wp2
  go_ret
  exact ⟨rfl, B1.out⟩
theorem nWords (w : World) : Calls Tryz.prog 21 #[nilS] w (Ends (.int .i64 0) w) := by
  go_enter Tryz.func21, Tryz.ntmps21
  go_wp2_with fail
  refine (nMade _).mono ?_
  rintro e w1 ⟨rfl, hw1⟩
  have B1 : Hid (Below w.heap.size w w1) := Lib.hid (grown_b hw1)
  clear hw1
  go_wp2
  go_ret
  exact ⟨rfl, B1.out⟩
theorem nRefs (w : World) : Calls Tryz.prog 24 #[nilS] w (Ends (.slice none 0 0) w) := by
  go_enter Tryz.func24, Tryz.ntmps24
  go_wp2_with fail
  refine (nMade _).mono ?_
  rintro e w1 ⟨rfl, hw1⟩
  have B1 : Hid (Below w.heap.size w w1) := Lib.hid (grown_b hw1)
  clear hw1
  go_wp2
  go_ret
  exact ⟨rfl, B1.out⟩
theorem nOrphans (w : World) : Calls Tryz.prog 25 #[nilS] w (Ends (.slice none 0 0) w) := by
  go_enter Tryz.func25, Tryz.ntmps25
  go_wp2_with fail
  refine (nMade _).mono ?_
  rintro e w1 ⟨rfl, hw1⟩
  have B1 : Hid (Below w.heap.size w w1) := Lib.hid (grown_b hw1)
  clear hw1
  go_wp2
  go_ret
  exact ⟨rfl, B1.out⟩
theorem nCopy (w : World) : Calls Tryz.prog 20 #[nilS] w (Ends nilS w) := by
  go_enter Tryz.func20, Tryz.ntmps20
  go_wp2_with fail
  refine (nMade _).mono ?_
  rintro e w1 ⟨rfl, hw1⟩
  have B1 : Hid (Below w.heap.size w w1) := Lib.hid (grown_b hw1)
  clear hw1
  go_wp2
  go_ret
  exact ⟨rfl, B1.out⟩
theorem nFind (w : World) (p : ByteArray) : Calls Tryz.prog 9 #[nilS, .string p] w (Ends (.tuple #[.int .i64 0, .int .i64 91]) w) := by
  go_enter Tryz.func9, Tryz.ntmps9
  go_wp2_with fail
  refine (nMade _).mono ?_
  rintro e w1 ⟨rfl, hw1⟩
  have B1 : Hid (Below w.heap.size w w1) := Lib.hid (grown_b hw1)
  clear hw1
  go_wp2
  go_ret2
  exact ⟨rfl, B1.out⟩
theorem nApply (w : World) (e : Eff) (r : Int) : Calls Tryz.prog 18 #[nilS, e.val, .int .i64 r] w (Ends (.tuple #[.slice none 0 0, .int .i64 91]) w) := by
  obtain ⟨kind, ino, dir, dst, page, size, name, other, A, cp, data⟩ := e
  unfold Eff.val
  go_enter Tryz.func18, Tryz.ntmps18
  go_wp2_with fail
  refine (nMade _).mono ?_
  rintro e w1 ⟨rfl, hw1⟩
  have B1 : Hid (Below w.heap.size w w1) := Lib.hid ((below_of_grown (World.grownBy_alloc w _ none)).trans ((grown_b hw1).mono (by simp)))
  clear hw1
  go_wp2
  go_ret2
  exact ⟨rfl, B1.out⟩
theorem nGet (w : World) (i : Int) : Calls Tryz.prog 13 #[nilS, .int .i64 i] w (Ends (.tuple #[zeroNdd.val, .bool false]) w) := by
  have hg1 : Below w.heap.size w (w.alloc (.cells (ncells 0 0 0 0 0 (.slice none 0 0) (.slice none 0 0)) 38)) := below_of_grown (World.grownBy_alloc w _ none)
  have hz1 : Cells (w.alloc (.cells (ncells 0 0 0 0 0 (.slice none 0 0) (.slice none 0 0)) 38)) w.heap.size 38 (ncells 0 0 0 0 0 (.slice none 0 0) (.slice none 0 0)) := Cells.new _ _ _
  have HG1 := Lib.hid hg1; have HZ1 := Lib.hid hz1
  unfold ncells at HG1 HZ1
  clear hg1 hz1
  go_enter Tryz.func13, Tryz.ntmps13
  go_wp2_with fail
  refine (nMade _).mono ?_
  rintro e w1 ⟨rfl, hw1⟩
  have B1 : Hid (Below w.heap.size w w1) := Lib.hid (HG1.out.trans ((grown_b hw1).mono HG1.out.size))
  have hz := HZ1.out.below' (grown_b hw1)
  have HZ : Hid (Cells w1 w.heap.size 38 (ncells 0 0 0 0 0 (.slice none 0 0) (.slice none 0 0))) := Lib.hid hz
  have r0 := hz.free 0; have r1 := hz.free 1; have r2 := hz.free 2; have r3 := hz.free 3; have r4 := hz.free 4; have r5 := hz.free 5; have r6 := hz.free 6
  obtain ⟨z0, z1, z2, z3, z4, z5, z6⟩ := cells7 HZ.out
  clear hw1 hz
  go_wp2
  refine bodyPost_ret (results_node_tmp rfl _ _ w.heap.size (ncells 0 0 0 0 0 (.slice none 0 0) (.slice none 0 0)) rfl (set7_cells HZ.out) rfl) rfl ?_
  exact ⟨rfl, set7_below B1.out (Nat.le_refl _)⟩
theorem nNodes (w : World) : Calls Tryz.prog 23 #[nilS] w (Ends (.func (.func 53) #[] #[]) w) := by
  go_enter Tryz.func23, Tryz.ntmps23
  go_wp2_with fail
  refine (nMade _).mono ?_
  rintro e w1 ⟨rfl, hw1⟩
  have B1 : Hid (Below w.heap.size w w1) := Lib.hid (grown_b hw1)
  clear hw1
  go_wp2
  go_ret
  exact ⟨rfl, B1.out⟩
end Go.Proofs.YtcdpmifgjaongaaGreatDoor
