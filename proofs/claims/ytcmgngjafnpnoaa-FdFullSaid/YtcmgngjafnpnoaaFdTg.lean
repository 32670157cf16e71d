import Derived.Test.YtcmgngjafnpnoaaFdTf
/-! The project's table: made; none; the face. -/
namespace Go.Proofs.Ytcmgngjafnpnoaa
open Wd Go.RowKit Go.ChangeShapes Go.WideShapes Go.Sort
set_option linter.unusedVariables false
set_option maxRecDepth 100000
theorem tNew (w : World) : Calls Try.prog 7 #[] w fun e w' => ∃ g, e = .returned (fptr g) ∧ Tb w' g noneT ∧ Below w.heap.size w w' ∧ w.heap.size ≤ g := by
  go_enter Try.func7, Try.ntmps7
  go_wp2_with fail
  go_ret
  exact ⟨w.heap.size, rfl, Cells.new w _ _, below_of_grown (World.grownBy_alloc w _ none), Nat.le_refl _⟩
theorem nNext_ (w : World) (k : Int) (f : Value) : Calls Try.prog 17 #[.pointer none, .int .i64 k, f] w fun e w' => e = .returned (.int .i64 16) ∧ w = w' := by
  go_enter Try.func17, Try.ntmps17
  go_wp2
  go_step3
  go_wp2
  rw [Exit.noGoto_ret]
  go_ret
  exact ⟨rfl, rfl⟩
theorem nThose (w : World) (f : Value) : Calls Try.prog 20 #[.pointer none, f] w fun e w' => e = .returned (.slice none 0 0) ∧ w = w' := by
  have K := Lib.hid (nNext_ w 0 f)
  go_enter Try.func20, Try.ntmps20
  go_wp2_with fail
  refine K.out.mono ?_
  rintro e w1 ⟨rfl, rfl⟩
  go_wp2
  go_loopw [5, 6] (fun v i wr => v = .slice none 0 0 ∧ i = .int .i64 16 ∧ wr = w) (fun _ _ _ => 0)
  case atStart => exact ⟨rfl, rfl, rfl⟩
  case round =>
    obtain ⟨rfl, rfl, rfl⟩ := hrel
    go_wp2_with fail
    go_ret
    exact ⟨rfl, rfl⟩
theorem nNext (w : World) : Calls Try.prog 8 #[.pointer none] w fun e w' => e = RetIB 0 false ∧ Below w.heap.size w w' := by
  have K := Lib.hid (nNext_ w 0 (.func (.func 18) #[] #[]))
  unfold RetIB
  go_enter Try.func8, Try.ntmps8
  go_wp2_with fail
  refine K.out.mono ?_
  rintro e w1 ⟨rfl, rfl⟩
  go_wp2_with fail
  go_ret2
  exact ⟨rfl, Below.refl _ _⟩
theorem nAll (w : World) : Calls Try.prog 12 #[.pointer none] w fun e w' => ∃ A c, e = .returned (.slice A 0 c) ∧ Below w.heap.size w w' := by
  have K := Lib.hid (nThose w (.func (.func 19) #[] #[]))
  go_enter Try.func12, Try.ntmps12
  go_wp2_with fail
  refine K.out.mono ?_
  rintro e w1 ⟨rfl, rfl⟩
  go_wp2_with fail
  go_ret
  exact ⟨_, _, rfl, Below.refl _ _⟩
theorem nLen (w : World) : Calls Try.prog 13 #[.pointer none] w fun e w' => e = .returned (.int .i64 0) ∧ w = w' := by
  have K := Lib.hid (nThose w (.func (.func 19) #[] #[]))
  go_enter Try.func13, Try.ntmps13
  go_wp2_with fail
  refine K.out.mono ?_
  rintro e w1 ⟨rfl, rfl⟩
  go_wp2_with fail
  go_ret
  exact ⟨rfl, rfl⟩
theorem nFull (w : World) : Calls Try.prog 14 #[.pointer none] w fun e w' => e = .returned (.bool false) ∧ Below w.heap.size w w' := by
  have K := Lib.hid (nLen w)
  go_enter Try.func14, Try.ntmps14
  go_wp2_with fail
  refine K.out.mono ?_
  rintro e w1 ⟨rfl, rfl⟩
  go_wp2_with fail
  go_ret
  exact ⟨rfl, Below.refl _ _⟩
theorem nUsers (ino : Int) (w : World) : Calls Try.prog 15 #[.pointer none, .int .i64 ino] w fun e w' => e = .returned (.int .i64 0) ∧ Below w.heap.size w w' := by
  have K := Lib.hid (nThose (w.alloc (.cells #[.int .i64 ino] 3)) (.func (.func 21) #[] #[.pointer (some ⟨w.heap.size, 0, none⟩)]))
  go_enter Try.func15, Try.ntmps15
  go_wp2_with fail
  refine K.out.mono ?_
  rintro e w1 ⟨rfl, rfl⟩
  go_wp2_with fail
  go_ret
  exact ⟨rfl, below_of_grown (World.grownBy_alloc w _ none)⟩
theorem nOpen (o : Opn) (w : World) : Calls Try.prog 11 #[.pointer none, o.val] w fun e w' => e = RetIB 0 false ∧ Below w.heap.size w w' := by
  have hb1 : Below w.heap.size w (w.alloc (.cells #[.int .i64 o.ino, .int .i64 o.off, .int .i64 o.fl] 27)) := below_of_grown (World.grownBy_alloc w _ none)
  have K := Lib.hid (nNext (w.alloc (.cells #[.int .i64 o.ino, .int .i64 o.off, .int .i64 o.fl] 27)))
  have HB1 := Lib.hid hb1
  clear hb1
  unfold RetIB Opn.val at *
  go_enter Try.func11, Try.ntmps11
  go_wp2_with fail
  refine K.out.mono ?_
  rintro e w1 ⟨rfl, hb⟩
  have HB := Lib.hid (HB1.out.trans (hb.mono HB1.out.size))
  clear hb
  go_wp2_with fail
  go_ret2
  exact ⟨rfl, HB.out⟩
theorem nGet (fd : Int) (w : World) : Calls Try.prog 16 #[.pointer none, .int .i64 fd] w fun e w' => e = RetOB Opn.zero false ∧ Below w.heap.size w w' := by
  unfold RetOB Opn.val Opn.zero
  go_enter Try.func16, Try.ntmps16
  go_wp2_with fail
  exact bodyPost_ret (results_open_tmp rfl _ _ w.heap.size #[.int .i64 0, .int .i64 0, .int .i64 0] rfl (heap_alloc_new w _) rfl) rfl ⟨rfl, below_of_grown (World.grownBy_alloc w _ none)⟩
theorem nSet (fd : Int) (o : Opn) (w : World) : Calls Try.prog 10 #[.pointer none, .int .i64 fd, o.val] w fun e w' => e = .returned (.bool false) ∧ Below w.heap.size w w' := by
  have hb1 : Below w.heap.size w (w.alloc (.cells #[.int .i64 o.ino, .int .i64 o.off, .int .i64 o.fl] 27)) := below_of_grown (World.grownBy_alloc w _ none)
  have K := Lib.hid (nGet fd (w.alloc (.cells #[.int .i64 o.ino, .int .i64 o.off, .int .i64 o.fl] 27)))
  have HB1 := Lib.hid hb1
  clear hb1
  unfold RetOB Opn.val Opn.zero at *
  dsimp only at K
  go_enter Try.func10, Try.ntmps10
  go_wp2_with fail
  refine K.out.mono ?_
  rintro e w1 ⟨rfl, hb⟩
  have HB := Lib.hid (HB1.out.trans (hb.mono HB1.out.size))
  clear hb
  go_wp2_with fail
  go_ret
  exact ⟨rfl, HB.out.alloc HB.out.size _⟩
theorem nClose (fd : Int) (w : World) : Calls Try.prog 9 #[.pointer none, .int .i64 fd] w fun e w' => e = RetOB Opn.zero false ∧ Below w.heap.size w w' := by
  have hb1 : Below w.heap.size w (w.alloc (.cells #[.int .i64 0, .int .i64 0, .int .i64 0] 27)) := below_of_grown (World.grownBy_alloc w _ none)
  have hB := Cells.new w 27 #[.int .i64 0, .int .i64 0, .int .i64 0]
  have K := Lib.hid (nGet fd (w.alloc (.cells #[.int .i64 0, .int .i64 0, .int .i64 0] 27)))
  have HB1 := Lib.hid hb1; have HB := Lib.hid hB
  clear hb1 hB
  unfold RetOB Opn.val Opn.zero at *
  dsimp only at K
  go_enter Try.func9, Try.ntmps9
  go_wp2_with fail
  refine K.out.mono ?_
  rintro e w2 ⟨rfl, hb2⟩
  go_upto_region 4 with fail
  have hr2 := (HB.out.below' hb2).alloc (.cells #[.int .i64 0, .int .i64 0, .int .i64 0] 27)
  have hW := Cells.new w2 27 #[.int .i64 0, .int .i64 0, .int .i64 0]
  have HB2 := HB1.out.trans (hb2.mono HB1.out.size)
  have HB3 := Lib.hid (HB2.alloc HB2.size (.cells #[.int .i64 0, .int .i64 0, .int .i64 0] 27))
  clear hb2 HB2
  generalize w2.alloc (.cells #[.int .i64 0, .int .i64 0, .int .i64 0] 27) = w3 at *
  generalize w2.heap.size = q at *
  have HR := Lib.hid hr2
  have f0 := hr2.free 0; have f1 := hr2.free 1; have f2 := hr2.free 2
  have y0 := hr2.cell 0
  have y1 := hr2.cell 1
  have y2 := hr2.cell 2
  have x0 := hW.cell 0
  have x1 := hW.cell 1
  have x2 := hW.cell 2
  simp only [List.getElem?_toArray, List.getElem?_cons_zero, List.getElem?_cons_succ] at y0 y1 y2 x0 x1 x2
  clear hW hr2
  go_wp2_with fail
  exact bodyPost_ret (results_open_tmp rfl _ _ w.heap.size #[.int .i64 0, .int .i64 0, .int .i64 0] rfl (set3_cells HR.out _ _ _) rfl) rfl ⟨rfl, set3_below HB3.out (Nat.le_refl _) _ _ _⟩
def fdFace : FdFace where
  st := Tb
  lt := fun h => h.lt
  same := fun h e => e.trans h
  kind := fun h => ⟨_, h⟩
  new := tNew
  next := tNext
  open_ := tOpen
  get := fun h hT fd _ => tGet h hT fd
  set := fun h hT fd o _ => tSet h hT fd o
  close := fun h hT fd _ => tClose h hT fd
  users := tUsers
  len := tLen
  full := tFull
  all := tAll
  nopen := nOpen
  nget := nGet
  nclose := nClose
  nnext := nNext
  nset := nSet
  nlen := fun w => (nLen w).mono fun e w' ⟨h1, h2⟩ => ⟨h1, h2 ▸ Below.refl _ _⟩
  nusers := nUsers
  nall := nAll
  nfull := nFull
end Go.Proofs.Ytcmgngjafnpnoaa
