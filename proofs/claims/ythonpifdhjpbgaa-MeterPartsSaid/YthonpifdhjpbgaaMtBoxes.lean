import Derived.Test.YthonpifdhjpbgaaMtBox
import Derived.Test.YthonpifdhjpbgaaSoTop
import Derived.Test.YthonpifdhjpbgaaSoRefW
import Derived.BigRegion
namespace Go.Proofs.Ythonpifdhjpbgaa
open Wd So Go.ChangeShapes Go.WideShapes Go.RowKit
set_option linter.unusedVariables false

theorem infoInt : (Try.prog.info? 3).map (fun i => (i.zero, i.size, i.bytes)) = some (some (.int .i64 0), 1, 8) := by kernel_rfl

def nat_ (c : Nat) : Value := .int .i64 (c : Int)
/-- a block of counts -/
def IRow (w : World) (g : Nat) (cs : List Nat) : Prop := Cells w g 3 (cs.map nat_).toArray
theorem IRow.cell {w : World} {g : Nat} {cs : List Nat} (h : IRow w g cs) {j c : Nat} (hx : cs[j]? = some c) : w.cell? ⟨g, j, none⟩ = some (.int .i64 (c : Int)) := by
  rw [Cells.cell h]; simp [hx, nat_]
theorem IRow.set {w : World} {g : Nat} {cs : List Nat} (h : IRow w g cs) (j c : Nat) : IRow (w.setCell ⟨g, j, none⟩ (.int .i64 (c : Int))) g (cs.set j c) := by
  have := Cells.set h j (.int .i64 (c : Int))
  unfold IRow
  rw [List.map_set, ← List.setIfInBounds_toArray]
  exact this

/-- counts in a block of its own -/
def Boxed (cs : List Nat) (n : Nat) (W : World) (e : Ending) (w : World) : Prop :=
  ∃ g, e = .returned (.slice (some ⟨g, 0, none⟩) n n) ∧ IRow w g cs ∧ W.heap.size ≤ g ∧ Below W.heap.size W w

def BoxesRel (l ys : List Nat) (g o : Nat) (W : World) (i : Value) (w : World) : Prop :=
  ∃ k : Nat, k ≤ l.length ∧ i = .int .i64 k ∧ IRow w o (boxes (ys.map rk) ((l.take k).map rk)) ∧ FRow w g ys ∧ Below W.heap.size W w

set_option maxHeartbeats 1000000 in
theorem boxes_any (l xs : List Nat) (A E : Option Addr) (c d m : Nat) (w : World) (hn : l.length ≤ 1000) (hL : xs.length = m) (hm : m ≤ 40) (hwl : Words l) (hwx : Words xs)
    (hr : Row w w.heap.size A l.length (l.map (Value.float .f64))) (hx : Row w w.heap.size E m (xs.map (Value.float .f64)))
    (zs : List Nat) (hz : zs.Perm xs) (hzs : Srt rk 0 m zs) :
    Calls Try.prog 18 #[.slice A l.length c, .slice E m d] w (Boxed (boxes (zs.map rk) (l.map rk)) (m + 1) w) := by
  have hmk := fun W => make_row (P := Try.prog) 36 3 (.int .i64 0) 8 Try.underlying36 infoInt rfl (m + 1) (by omega) (by omega) W
  rw [show ((m + 1 : Nat) : Int) = (m : Int) + 1 from rfl] at hmk
  have HL := Lib.hid hL; have HR := Lib.hid hr; have HX := Lib.hid hx; have HWL := Lib.hid hwl; have HWX := Lib.hid hwx; have HZ := Lib.hid hz; have HZS := Lib.hid hzs
  clear hL hr hx hwl hwx hz hzs
  go_enter Try.func18, Try.ntmps18
  go_wp2_with fail
  refine (sort_any E m d xs _ HL.out hm HWX.out HX.out).mono ?_
  rintro e w2 ⟨g, ys, rfl, hp, hs, hf, hg, hb⟩
  have hyl : ys.length = m := hp.length_eq.trans HL.out
  have hzl : zs.length = m := HZ.out.length_eq.trans HL.out
  have hrk : ys.map rk = zs.map rk := srt_unique (hp.trans HZ.out.symm) (by rw [hyl]; exact hs) (by rw [hzl]; exact HZS.out)
  have HYW := Lib.hid (HWX.out.perm hp); have HRK := Lib.hid hrk; have HB := Lib.hid hb; have HF := Lib.hid hf; have HS := Lib.hid hs; have HYL := Lib.hid hyl
  have hgl : g < w2.heap.size := Cells.lt hf
  have hbs : w.heap.size ≤ w2.heap.size := hb.size
  clear hyl hzl hrk hb hf hs hp
  go_wp2
  go_loopw [17] (fun i wr => BoxesRel l ys g w2.heap.size w i wr) (fun i _ => l.length - (intOf i).toNat)
  case atStart =>
    refine ⟨0, Nat.zero_le _, rfl, ?_, HF.out.alloc _, HB.out.alloc hbs _⟩
    have := Cells.new w2 3 ((List.replicate (m + 1) (nat_ 0))).toArray
    unfold IRow boxes
    rw [List.take_zero, List.map_nil, List.foldl_nil, List.map_replicate, List.length_map, HYL.out]
    exact this
  case round =>
    obtain ⟨k, hk, rfl, hi, hf, hbl⟩ := hrel
    have HI := Lib.hid hi; have HF2 := Lib.hid hf; have HBL := Lib.hid hbl
    clear hi hf
    by_cases hlt : k < l.length
    · obtain ⟨b, off, x, rfl, hbb, hx, cx⟩ := (HR.out.below hbl).get hlt
      have hwx := HWL.out.at hx
      have ht := take_one hx
      have hrow : Row wr wr.heap.size (some ⟨g, 0, none⟩) m (ys.map (Value.float .f64)) := by
        have h := Row.of_cells (B := wr.heap.size) HF2.out (Cells.lt HF2.out)
        rw [show (List.map (Value.float .f64) ys).toArray.size = m by rw [List.size_toArray, List.length_map]; exact HYL.out] at h
        exact h
      have HT := Lib.hid ht; have HROW := Lib.hid hrow
      clear ht hx hrow hbl
      go_wp2_with fail
      refine (box_any ys x (some ⟨g, 0, none⟩) m m _ _ HYL.out (by omega) HS.out HYW.out hwx HROW.out).mono ?_
      rintro e w3 ⟨rfl, rfl⟩
      obtain ⟨i, hi⟩ : ∃ i, bx (ys.map rk) (rk x) = i := ⟨_, rfl⟩
      have hil : i ≤ m := by rw [← hi]; have := bx_le (ys.map rk) (rk x); rw [List.length_map, HYL.out] at this; exact this
      rw [hi]
      have HII := Lib.hid hi
      clear hi
      obtain ⟨q, hq⟩ : ∃ q, (boxes (ys.map rk) ((l.take k).map rk))[i]? = some q := ⟨_, List.getElem?_eq_getElem (by rw [boxes_len, List.length_map, HYL.out]; omega)⟩
      have hq1 : q ≤ 1000 := by have := boxes_bd hq; rw [List.length_map, List.length_take] at this; omega
      have cq := HI.out.cell hq
      have fq : wr.frozen? ⟨w2.heap.size, i, none⟩ = false := Cells.free HI.out i
      have HQ := Lib.hid hq
      have i1 : (i : Int) < (m : Int) + 1 := by omega
      clear hq
      go_wp2
      go_roundw
      case rel =>
        refine ⟨k + 1, by omega, by go_num, ?_, ?_, HBL.out.setCell hbs _⟩
        · rw [HT.out, List.map_append, List.map_cons, List.map_nil, boxes_snoc, HII.out]
          unfold bump
          rw [HQ.out]
          exact HI.out.set i (q + 1)
        · exact Cells.far HF2.out (by show g ≠ w2.heap.size; omega) _
      case measure => simp [intOf]; omega
    · obtain rfl : k = l.length := by omega
      go_wp2
      go_ret
      refine ⟨_, rfl, ?_, hbs, HBL.out⟩
      have := HI.out
      rw [List.take_length, HRK.out] at this
      exact this
end Go.Proofs.Ythonpifdhjpbgaa
