import Derived.Test.YtjhchddmbbibpaaDoorPaTk
import Derived.Test.YtjhchddmbbibpaaDoorApp
namespace Go.Proofs.YtjhchddmbbibpaaDoor
open Wd Pa Go.ChangeShapes Go.WideShapes Go.RowKit Go.Sort
set_option linter.unusedVariables false
theorem infoI : (Tryd.prog.info? 3).map (fun i => (i.zero, i.size, i.bytes)) = some (some (.int .i64 0), 1, 8) := by kernel_rfl
def i64 (x : Nat) : Value := .int .i64 x
/-- a row of ints that the call made -/
def MadeInts (w : World) (l : List Nat) (e : Ending) (w' : World) : Prop := ∃ v, e = .returned v ∧ w'.ownsRow w.heap.size 3 1 v l.length (l.map i64) ∧ Below w.heap.size w w'
def UsedRel (n : Nat) (U : Nat → Bool) (w : World) (v i : Value) (wr : World) : Prop := ∃ r : Nat, 1 ≤ r ∧ r ≤ n + 1 ∧ (r ≤ n → U r = true) ∧ i = .int .i64 r ∧ wr.ownsRow w.heap.size 3 1 v (upto U (r - 1)).length ((upto U (r - 1)).map i64) ∧ Below w.heap.size w wr
theorem used_step {U : Nat → Bool} {n r q : Nat} (h1 : 1 ≤ r) (hu : U r = true) (h : Nx U n (r + 1) false q) : upto U (q - 1) = upto U (r - 1) ++ [r] := by
  have h2 := h.ge
  rw [upto_skip (m := r) (by omega) fun p a b => h.no p (by omega) (by omega)]
  obtain ⟨k, rfl⟩ : ∃ k, r = k + 1 := ⟨r - 1, by omega⟩
  exact upto_next hu
section
variable {w : World} {B n : Nat} {f : Pp} {U : Nat → Bool} {ws : List Nat}
set_option maxRecDepth 100000 in
set_option maxHeartbeats 400000 in
theorem used_is (h : PgAt w B f n U ws) : Calls Tryd.prog 18 #[f.ptr] w (MadeInts w (upto U n)) := by
  have hfew := h.few
  have KN := Lib.hid (next_is h 1 false 1 0 rfl (Nat.le_refl _) (by omega) rfl)
  have HW := Lib.hid h
  clear h
  unfold Pp.ptr at KN ⊢
  go_enter Tryd.func18, Tryd.ntmps18
  go_wp2_with (go_at_call 25; refine KN.out.mono ?_; rintro e w1 ⟨r0, rfl, hn0, d0, rfl⟩)
  go_loopw [3, 4] (fun v i wr => UsedRel n U w v i wr) (fun _ i _ => n + 1 - (intOf i).toNat)
  case atStart =>
    refine ⟨r0, hn0.ge, hn0.le, fun h => by simpa using hn0.yes h, rfl, ?_, below_drewN (Below.refl _ _) _⟩
    have h2 := hn0.ge
    rw [upto_skip (m := 0) (by omega) fun p a b => hn0.no p (by omega) (by omega)]
    exact own_nil _ _ _
  case round =>
    obtain ⟨r, h1, h2, hu, rfl, hown, hb⟩ := hrel
    have HO := Lib.hid hown; have HB := Lib.hid hb
    have hs := hb.size
    by_cases hr : r ≤ n
    · have KM := Lib.hid (may_is (HW.out.below hb) (r : Int) true (by rw [eq_comm, decide_eq_true_eq]; omega))
      have HU := Lib.hid (hu hr)
      have hle : (upto U (r - 1)).length ≤ 1048576 := Nat.le_trans upto_len_le (by omega)
      have KX := Lib.hid (fun (W : World) (hb : Below w.heap.size w W) => next_is (HW.out.below hb) (r + 1) false ((r : Int) + 1) 0 (by omega) (by omega) (by omega) rfl)
      unfold Pp.ptr at KM KX
      clear hown hb hu hn0 KN
      obtain ⟨wo, rfl⟩ : ∃ wo : World, wo = wr := ⟨_, rfl⟩
      go_wp2_with (first
        | (go_at_call 21; refine KM.out.mono ?_; rintro e w1 ⟨rfl, rfl⟩)
        | (at_builtin; refine wpList_append_row _ rfl (.tmp 14) (.tmp 16) 22 rfl w.heap.size 3 (.int .i64 0) 8 Tryd.underlying22 infoI rfl _ _ _ rfl (HO.out.alloc _) _ (some ⟨wo.heap.size, 0, none⟩) 1 1 [.int .i64 (r : Int)] rfl (Row.one _ _ _) (by simp [Value.oneCell']) (by unfold maxLen; omega) (by omega) (by simp; omega) ?_; intro v5 w5 hown5 hgr5 hat5; have hb5 := Lib.hid (show Below w.heap.size w w5 from (HB.out.alloc hs _).grown hgr5 (by simp; omega) (own_base HO.out)); have HO5 := Lib.hid hown5; clear hown5 hgr5 hat5)
        | (go_at_call 25; refine (KX.out _ hb5.out).mono ?_; rintro e w6 ⟨r2, rfl, hn2, d2, rfl⟩; have HN2 := Lib.hid hn2; clear hn2))
      go_roundw
      case rel =>
        refine ⟨r2, by have := HN2.out.ge; omega, HN2.out.le, fun h => by simpa using HN2.out.yes h, rfl, ?_, below_drewN hb5.out _⟩
        rw [used_step h1 HU.out HN2.out]
        simpa [i64] using own_drewN HO5.out d2
      case measure => simp [intOf]; have := HN2.out.ge; omega
    · have KM := Lib.hid (may_is (HW.out.below hb) (r : Int) false (by rw [eq_comm, decide_eq_false_iff_not]; omega))
      unfold Pp.ptr at KM
      obtain rfl : r = n + 1 := by omega
      clear hown hb hu hn0 KN h2 hr
      go_wp2_with (go_at_call 21; refine KM.out.mono ?_; rintro e w1 ⟨rfl, rfl⟩)
      go_ret
      exact ⟨_, rfl, HO.out, HB.out⟩
end
end Go.Proofs.YtjhchddmbbibpaaDoor
