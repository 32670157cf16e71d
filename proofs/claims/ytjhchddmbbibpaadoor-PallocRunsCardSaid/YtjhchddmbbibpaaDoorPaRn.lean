import Derived.Test.YtjhchddmbbibpaaDoorPaTk
import Derived.Maps.AppendAt
import Derived.OwnWalk
namespace Go.Proofs.YtjhchddmbbibpaaDoor
open Wd Pa Go.ChangeShapes Go.WideShapes Go.RowKit Go.Sort
set_option linter.unusedVariables false
theorem infoR : (Tryd.prog.info? 43).map (fun i => (i.zero, i.size, i.bytes)) = some (some (.agg #[.int .i64 0, .int .i64 0]), 2, 16) := by kernel_rfl
def r2 (p : Nat × Nat) : List Value := [.int .i64 (p.1 : Nat), .int .i64 (p.2 : Nat)]
def rvals (rs : List (Nat × Nat)) : List Value := rs.flatMap r2
theorem rvals_snoc (rs : List (Nat × Nat)) (p : Nat × Nat) : rvals (rs ++ [p]) = rvals rs ++ r2 p := by unfold rvals; simp [List.flatMap_append]
theorem flat_len {rs : List (Nat × Nat)} (h : ∀ a ∈ rs, a.1 ≤ a.2) : rs.length ≤ (flat rs).length := by
  induction rs with
  | nil => exact Nat.zero_le _
  | cons p rs ih =>
    have h1 := ih fun a ha => h a (by simp [ha])
    have h2 := h p (by simp)
    unfold flat at h1 ⊢
    rw [List.flatMap_cons, List.length_append, List.length_range', List.length_cons]
    omega
theorem _root_.Pa.Rns.len {U : Nat → Bool} {n b : Nat} {rs : List (Nat × Nat)} (h : Rns U n b rs) : rs.length ≤ b - 1 := by
  have h1 := flat_len fun a ha => (h.ok a ha).2.1
  rw [h.all] at h1
  exact Nat.le_trans h1 upto_len_le
theorem cells_two {w : World} {g : Nat} {t : TypeId} {x y : Value} (h : Cells w g t #[x, y]) : ∀ (j : Nat) (u : Value), [x, y][j]? = some u → w.cell? ((⟨g, 0, none⟩ : Addr).add j) = some u := by
  intro j u hu
  have e : (⟨g, 0, none⟩ : Addr).add j = ⟨g, j, none⟩ := by unfold Addr.add; split <;> simp_all
  rw [e, h.cell j, ← Array.getElem?_toList]
  exact hu
theorem rown_below {w w' : World} {base n sz : Nat} {e : TypeId} {v : Value} {xs : List Value} (h : w.ownsRow base e sz v n xs) (hb : Below w.heap.size w w') : w'.ownsRow base e sz v n xs := by
  refine ⟨h.1, ?_⟩
  rcases h.2 with ⟨h1, h0⟩ | ⟨g, cap, cur, h1, h2, hh, h3⟩
  · exact .inl ⟨h1, h0⟩
  · exact .inr ⟨g, cap, cur, h1, h2, (hb.block g (lt_of_block hh)).trans hh, h3⟩
theorem r2_is {r b : Nat} (hb : 1 ≤ b) : [Value.int .i64 (r : Int), Value.int .i64 ((b : Int) - 1)] = r2 (r, b - 1) := by
  unfold r2
  rw [show ((b - 1 : Nat) : Int) = (b : Int) - 1 by omega]
theorem one2 (x y : Int) : ∀ u ∈ [Value.int .i64 x, Value.int .i64 y], u.oneCell' = true := by
  intro u hu
  simp only [List.mem_cons, List.not_mem_nil, or_false] at hu
  rcases hu with rfl | rfl <;> rfl
/-- a row of runs that the call made -/
def MadeRuns (n : Nat) (U : Nat → Bool) (w : World) (e : Ending) (w' : World) : Prop := ∃ v rs, e = .returned v ∧ Rns U n (n + 1) rs ∧ w'.ownsRow w.heap.size 43 2 v rs.length (rvals rs) ∧ Below w.heap.size w w'
def RunsRel (n : Nat) (U : Nat → Bool) (w : World) (v i : Value) (wr : World) : Prop := ∃ (r : Nat) (rs : List (Nat × Nat)), 1 ≤ r ∧ r ≤ n + 1 ∧ (r ≤ n → U r = true) ∧ i = .int .i64 r ∧ Rns U n r rs ∧ wr.ownsRow w.heap.size 43 2 v rs.length (rvals rs) ∧ Below w.heap.size w wr
section
variable {w : World} {B n : Nat} {f : Pp} {U : Nat → Bool} {ws : List Nat}
set_option maxRecDepth 100000 in
set_option maxHeartbeats 1000000 in
theorem runs_is (h : PgAt w B f n U ws) : Calls Tryd.prog 20 #[f.ptr] w (MadeRuns n U w) := by
  have hfew := h.few
  have KN := Lib.hid (next_is h 1 false 1 0 rfl (Nat.le_refl _) (by omega) rfl)
  have HW := Lib.hid h
  obtain ⟨ie, i1, i2, i3, i4⟩ := info_parts infoR
  have I1 := Lib.hid i1; have I2 := Lib.hid i2; have I3 := Lib.hid i3; have I4 := Lib.hid i4
  have hU : U (n + 1) = false := h.wds.off (by omega)
  have HUN := Lib.hid hU
  clear h i1 i2 i3 i4 hU
  unfold Pp.ptr at KN ⊢
  go_enter Tryd.func20, Tryd.ntmps20
  go_wp2_with (go_at_call 25; refine KN.out.mono ?_; rintro e w1 ⟨r0, rfl, hn0, d0, rfl⟩)
  go_loopw [3, 4] (fun v i wr => RunsRel n U w v i wr) (fun _ i _ => n + 1 - (intOf i).toNat)
  case atStart => exact ⟨r0, [], hn0.ge, hn0.le, fun h => by simpa using hn0.yes h, rfl, rns_start hn0, own_drewN (World.ownsRow_nil _ _ _ _) _, below_drewN (Below.refl _ _) _⟩
  case round =>
    obtain ⟨r, rs, h1, h2, hu, rfl, hrs, hown, hb⟩ := hrel
    have HO := Lib.hid hown; have HB := Lib.hid hb; have HRS := Lib.hid hrs
    have hs := hb.size
    by_cases hr : r ≤ n
    · have KM := Lib.hid (may_is (HW.out.below hb) (r : Int) true (by rw [eq_comm, decide_eq_true_eq]; omega))
      have HU := Lib.hid (hu hr)
      have hle : rs.length ≤ 1048576 := Nat.le_trans hrs.len (by omega)
      have KX := Lib.hid (next_is (HW.out.below hb) r true (r : Int) 18446744073709551615 rfl h1 (by omega) rfl)
      unfold Pp.ptr at KM KX
      clear hown hb hu hn0 KN hrs
      obtain ⟨wo, rfl⟩ : ∃ wo : World, wo = wr := ⟨_, rfl⟩
      go_wp2_with (first
        | (go_at_call 21; refine KM.out.mono ?_; rintro e w1 ⟨rfl, rfl⟩)
        | fail)
      refine KX.out.mono ?_
      rintro e w6 ⟨b, rfl, hnb, d2, hw6⟩
      have hb1 := hnb.ge; have hb2 := hnb.le
      have q1 : wrap64 ((b : Int) - 1) = ((b - 1 : Nat) : Int) := by unfold wrap64; omega
      have HB6 := Lib.hid (show Below w.heap.size w w6 by rw [hw6]; exact below_drewN HB.out d2)
      have HO6 := Lib.hid (show w6.ownsRow w.heap.size 43 2 u3 rs.length (rvals rs) by rw [hw6]; exact own_drewN HO.out d2)
      have hs6 := HB6.out.size
      have HNB := Lib.hid hnb
      have KY := Lib.hid (fun (W : World) (hb : Below w.heap.size w W) => next_is (HW.out.below hb) b false (b : Int) 0 rfl (by omega) hb2 rfl)
      unfold Pp.ptr at KY
      clear hnb hw6 KM KX HO HB
      clear q1
      go_wp2_with (first
        | (at_builtin; refine wpList_append_own_at _ rfl (.tmp 14) (.tmp 19) 41 rfl w.heap.size 43 ie (.agg #[.int .i64 0, .int .i64 0]) 2 16 Tryd.underlying41 I1.out I2.out I3.out I4.out rfl (by decide) u3 rs.length (rvals rs) rfl (rown_below HO6.out ((Below.refl _ _).alloc (Nat.le_refl _) _)) ⟨w6.heap.size, 0, none⟩ 1 1 [.int .i64 (r : Int), .int .i64 ((b : Int) - 1)] rfl rfl (cells_two (Cells.new w6 43 _)) (one2 _ _) (by unfold maxLen; omega) (by omega) (by simp; omega) ?_; intro v7 w7 hown7 hgr7 _ hat7; have hb7 := Lib.hid (show Below w.heap.size w w7 from (HB6.out.alloc hs6 _).grown hgr7 (by simp; omega) (own_base HO6.out)); have HO7 := Lib.hid hown7; clear hown7 hgr7 hat7)
        | (go_at_call 25; refine (KY.out _ hb7.out).mono ?_; rintro e w8 ⟨rr, rfl, hnr, d3, rfl⟩; have HNR := Lib.hid hnr; clear hnr))
      have hst := rns_step HRS.out h1 hr HNB.out HU.out HNR.out HUN.out
      go_roundw
      case rel =>
        refine ⟨rr, rs ++ [(r, b - 1)], by have := HNR.out.ge; omega, HNR.out.le, fun h => by simpa using HNR.out.yes h, rfl, hst.1, ?_, below_drewN hb7.out _⟩
        rw [rvals_snoc, ← r2_is (by omega), List.length_append]
        exact own_drewN HO7.out d3
      case measure => simp [intOf]; have := HNR.out.ge; have := hst.2; omega
    · have KM := Lib.hid (may_is (HW.out.below hb) (r : Int) false (by rw [eq_comm, decide_eq_false_iff_not]; omega))
      unfold Pp.ptr at KM
      obtain rfl : r = n + 1 := by omega
      clear hown hb hu hn0 KN h2 hr
      go_wp2_with (go_at_call 21; refine KM.out.mono ?_; rintro e w1 ⟨rfl, rfl⟩)
      go_ret
      exact ⟨_, rs, rfl, HRS.out, HO.out, HB.out⟩
end
end Go.Proofs.YtjhchddmbbibpaaDoor
