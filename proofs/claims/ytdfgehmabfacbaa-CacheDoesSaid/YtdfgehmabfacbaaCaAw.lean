import Derived.Test.YtdfgehmabfacbaaCaIds
import Derived.Test.YtdfgehmabfacbaaTrue
/-! A page of zeros put; chapter 20's example. -/
namespace Go.Proofs.Ytdfgehmabfacbaa
open Wd Sm Go.Maps Go.RowKit Go.ChangeShapes Go.WideShapes Go.Sort
set_option linter.unusedVariables false
set_option maxRecDepth 100000
theorem infoB : (Try.prog.info? 5).map (fun i => (i.zero, i.size, i.bytes)) = some (some (.int .u8 0), 1, 1) := by kernel_rfl
def zB : List Value := List.replicate 256 (.int .u8 0)
abbrev zeroW (w : World) : World := w.alloc (.cells zB.toArray 5)
theorem mk256 (w : World) : (Instr.makeSlice 23 (.int .i64 256) (.int .i64 256)).run Try.prog w = .ok (.slice (some ⟨w.heap.size, 0, none⟩) 256 256) (zeroW w) :=
  make_row (P := Try.prog) 23 5 (.int .u8 0) 1 Try.underlying23 infoB rfl 256 (by omega) (by omega) w
section
variable {w w' : World} {base p m : Nat} {S : Cst}
/-- a page of zeros, put -/
def PutZ (base p m : Nat) (S : Cst) (w : World) (e : Ending) (w' : World) : Prop :=
  (S.ids.length < S.most → e = .returned (.tuple #[.int .i64 ((S.last : Int) + 1), .bool true]) ∧ CaAt w' base p m (putC S zB.toArray)) ∧
  (¬ S.ids.length < S.most → e = .returned (.tuple #[.int .i64 0, .bool false]) ∧ CaAt w' base p m S) ∧ Below base w w'
theorem caPutZ (h : CaAt w base p m S) (hl : S.last < 1000000) : Calls Try.prog 7 #[CPtr p, .slice (some ⟨w.heap.size, 0, none⟩) 256 256] (zeroW w) (PutZ base p m S w) := by
  have hb : Below w.heap.size w (zeroW w) := (Below.refl _ _).alloc (Nat.le_refl _) _
  have h1 := h.below' hb
  have hbase : base ≤ w.heap.size := Nat.le_trans h.bp (Nat.le_of_lt h.c.lt)
  by_cases hr : S.ids.length < S.most
  · refine (caPut_yes h1 (g := w.heap.size) (o := 0) (cp := 256) (xs := zB) (fun e => by have := h.c.lt; omega) (by simp [zB]) (fun v hv => by rw [(List.mem_replicate.1 hv).2]; rfl) (fun j hj => ?_) hr hl).mono ?_
    · rw [(Cells.new w 5 zB.toArray).cell (0 + j)]
      simp
    · rintro e w' ⟨rfl, h2, h3, _, _⟩
      exact ⟨fun _ => ⟨rfl, h2⟩, fun hh => absurd hr hh, (hb.mono hbase).trans h3⟩
  · refine (caPut_no h1 (some ⟨w.heap.size, 0, none⟩) 256 256 (by unfold maxLen; omega) (fun hh => hr hh.2)).mono ?_
    rintro e w' ⟨rfl, rfl⟩
    exact ⟨fun hh => absurd hh hr, fun _ => ⟨rfl, h1⟩, hb.mono hbase⟩
theorem cAwake (w : World) : Calls Try.prog 5 #[] w (TrueB w) := by
  have KN := Lib.hid (caNew w 0)
  have hmk := mk256
  go_enter Try.func5, Try.ntmps5
  go_wp2_with fail
  refine KN.out.mono ?_
  rintro e w1 ⟨rfl, h1, b1⟩
  have KP := Lib.hid (caPutZ h1 (by show (0 : Nat) < 1000000; omega))
  have B1 := Lib.hid b1
  clear b1 KN h1
  go_wp2_with fail
  refine KP.out.mono ?_
  rintro e w2 ⟨hy, _, b2⟩
  obtain ⟨rfl, h2⟩ := hy (by show (0 : Nat) < mostOf 0; decide)
  have KM := Lib.hid (caMost h2); have KL := Lib.hid (caLen h2)
  have B2 := Lib.hid (B1.out.trans b2)
  have hz : ((newC 0).last : Int) + 1 = 1 := by decide
  have hm : (((putC (newC 0) zB.toArray).most : Nat) : Int) = 8 := rfl
  have hl : (((putC (newC 0) zB.toArray).ids.length : Nat) : Int) = 1 := rfl
  rw [hm] at KM
  rw [hl] at KL
  rw [hz]
  clear hy b2 KP h2 hz hm hl
  go_wp2_with fail
  refine KM.out.mono ?_
  rintro e w3 ⟨rfl, rfl⟩
  go_wp2_with fail
  refine KL.out.mono ?_
  rintro e w3 ⟨rfl, rfl⟩
  go_wp2
  go_ret
  exact ⟨rfl, B2.out⟩
end
end Go.Proofs.Ytdfgehmabfacbaa
