import Derived.Test.YtlfmfdbgchpjgaaExAw
namespace Go.Proofs.Ytlfmfdbgchpjgaa
open Wd Ex Go.RowKit Go.ChangeShapes Go.WideShapes Go.Sort
set_option linter.unusedVariables false
set_option maxRecDepth 100000

def Rng (p : Int) : Prop := 0 ≤ p ∧ p < 1048576
theorem OwnX.far {w : World} {base g : Nat} {v : Value} {l : List Ext} (h : OwnX w base v l) (hg : g < base) (j : Nat) (u : Value) : OwnX (w.setCell ⟨g, j, none⟩ u) base v l := by
  rcases h with ⟨h1, h2⟩
  refine ⟨h1, ?_⟩
  rcases h2 with h2 | ⟨g', cap, cur, e, h3, hh, h4⟩
  · exact .inl h2
  · exact .inr ⟨g', cap, cur, e, h3, (show Cells w g' _ cur from hh).far (p := ⟨g, j, none⟩) (by simp only; omega) u, h4⟩
theorem set_arr (nw : List Int) (d : Nat) (p : Int) : ((nw.map iv).toArray).setIfInBounds d (.int .i64 p) = ((nw.set d p).map iv).toArray := by
  apply Array.ext_getElem?
  intro t
  rw [Array.getElem?_setIfInBounds, List.getElem?_toArray, List.getElem?_toArray, List.size_toArray, List.length_map, List.getElem?_map, List.getElem?_map, List.getElem?_set]
  by_cases h : d = t
  · subst h
    by_cases hd : d < nw.length
    · rw [if_pos rfl, if_pos hd, if_pos rfl, if_pos hd]; rfl
    · rw [if_pos rfl, if_neg hd, if_pos rfl, if_neg hd]; rfl
  · rw [if_neg h, if_neg h]
def BuRel (ps os : List Int) (g : Nat) (w : World) (v i : Value) (wr : World) : Prop := ∃ (k : Nat) (nw : List Int), k ≤ os.length ∧ i = .int .i64 k ∧ nw.length = ps.length ∧ (∀ p ∈ nw, Rng p) ∧ Cells wr g 3 ((nw.map iv).toArray) ∧ OwnX wr (g + 1) v (exts nw) ∧ Below w.heap.size w wr
theorem row_arr {w : World} {g : Nat} {l : List Int} (h : Cells w g 3 ((l.map iv).toArray)) : Row w w.heap.size (some ⟨g, 0, none⟩) l.length (l.map iv) := by
  have := Row.of_cells (B := w.heap.size) h h.lt
  simpa using this
theorem exts_zero (n : Nat) (hn : n ≤ 1000) : exts (List.replicate n 0) = [] := by
  have hp : ∀ p ∈ List.replicate n (0 : Int), 0 ≤ p ∧ p < 1048576 := fun p hp => by rw [(List.mem_replicate.1 hp).2]; omega
  obtain ⟨h1, h2⟩ := exts_all _ hp (by rw [List.length_replicate]; omega)
  refine uniq h1 trivial fun k => ?_
  rw [h2]
  show _ = 0
  rw [List.getElem?_replicate]
  split
  · split <;> rfl
  · rfl
set_option maxHeartbeats 8000000 in
theorem builds_any {w : World} {A C : Option Addr} {c d : Nat} {ps os : List Int} (hr : Row w w.heap.size A ps.length (ps.map iv)) (hy : Row w w.heap.size C os.length (os.map iv)) (hps : ps.length ≤ maxLen) (hos : os.length ≤ maxLen) :
    Calls Try.prog 5 #[.slice A ps.length c, .slice C os.length d] w (TrueB w) := by
  have KW := Lib.hid (xAwake w)
  have HR := Lib.hid hr; have HY := Lib.hid hy
  unfold maxLen at hps hos
  clear hr hy
  by_cases h40 : 40 < ps.length
  · go_enter Try.func5, Try.ntmps5
    go_wp2_with fail
    refine KW.out.mono ?_
    rintro e w1 ⟨rfl, b1⟩
    go_wp2
    go_ret
    exact ⟨rfl, b1⟩
  · by_cases h60 : 60 < os.length
    · go_enter Try.func5, Try.ntmps5
      go_wp2_with fail
      refine KW.out.mono ?_
      rintro e w1 ⟨rfl, b1⟩
      go_wp2
      go_ret
      exact ⟨rfl, b1⟩
    · have hmk := fun w => Wd.make_row (P := Try.prog) 22 3 (.int .i64 0) 8 Try.underlying22 infoII rfl ps.length (by omega) (by omega) w
      go_enter Try.func5, Try.ntmps5
      go_wp2_with fail
      refine KW.out.mono ?_
      rintro e w1 ⟨rfl, b1⟩
      have B1 := Lib.hid b1
      clear b1 KW
      go_wp2
      go_loopw [23] (fun i wr => ∃ k : Nat, k ≤ ps.length ∧ i = .int .i64 k ∧ (∀ p ∈ ps.take k, Rng p) ∧ wr = w1) (fun i _ => ps.length - (intOf i).toNat)
      case atStart => exact ⟨0, Nat.zero_le _, rfl, by simp, rfl⟩
      case round =>
        obtain ⟨k, hk, rfl, hall, rfl⟩ := hrel
        have HA := Lib.hid hall
        clear hall
        by_cases hlt : k < ps.length
        · obtain ⟨b, off, p, rfl, hbb, hx, cx⟩ := (HR.out.below B1.out).get hlt
          unfold iv at cx
          have hlt2 : (k : Int) < (ps.length : Int) := Int.ofNat_lt.2 hlt
          have HX := Lib.hid hx
          clear hx
          by_cases p0 : p < 0
          · go_wp2
            go_ret
            exact ⟨rfl, B1.out⟩
          · by_cases p1 : 1048576 ≤ p
            · go_wp2
              go_ret
              exact ⟨rfl, B1.out⟩
            · have HP := Lib.hid (show Rng p from ⟨by omega, by omega⟩)
              go_wp2
              go_roundw
              case rel =>
                refine ⟨k + 1, by omega, by go_num, ?_, by first | rfl | trivial⟩
                intro x hx
                rw [List.take_add_one, HX.out] at hx
                rcases List.mem_append.1 hx with h | h
                · exact HA.out x h
                · obtain rfl : x = p := by simpa using h
                  exact HP.out
              case measure => simp [intOf]; omega
        · obtain rfl : k = ps.length := by omega
          have hall := HA.out
          rw [List.take_length] at hall
          have HALL := Lib.hid hall
          clear hall
          obtain ⟨N, hN⟩ : ∃ N, ps.length = N := ⟨_, rfl⟩
          have HN := Lib.hid hN
          rw [hN] at hmk h40 ⊢
          clear hN hlt hk HA
          go_wp2
          have c0 : Cells (wr.alloc (.cells (Array.replicate N (.int .i64 0)) 3)) wr.heap.size 3 (((List.replicate N (0 : Int)).map iv).toArray) := by
            have := Cells.new wr 3 (Array.replicate N (.int .i64 0))
            rw [List.map_replicate, List.toArray_replicate]; exact this
          have C0 := Lib.hid c0
          have BG := Lib.hid (B1.out.alloc B1.out.size (.cells (Array.replicate N (.int .i64 0)) 3))
          obtain ⟨g, hg⟩ : ∃ g, wr.heap.size = g := ⟨_, rfl⟩
          rw [hg] at C0 ⊢
          have HG := Lib.hid (show w.heap.size ≤ g by rw [← hg]; exact B1.out.size)
          clear c0 hg
          go_loopw [7, 39] (fun v i wr => BuRel ps os g w v i wr) (fun _ i _ => os.length - (intOf i).toNat)
          case atStart => exact ⟨0, List.replicate N 0, Nat.zero_le _, rfl, by rw [List.length_replicate]; exact HN.out.symm, fun p hp => by rw [(List.mem_replicate.1 hp).2]; exact ⟨by omega, by omega⟩, C0.out, by rw [exts_zero N (by omega)]; exact own_nilX _ _, BG.out⟩
          case round =>
            obtain ⟨k, nw, hk, rfl, hnl, hnr, hc, hown, hb⟩ := hrel
            have HC := Lib.hid hc; have HO := Lib.hid hown; have HB := Lib.hid hb; have HNL := Lib.hid hnl; have HNR := Lib.hid hnr
            obtain ⟨A0, c0', rfl, hcap, hx0⟩ := hown.form
            have rgt := (exts_all nw (fun p hp => hnr p hp) (by omega)).1
            have hel := (exts_tame nw (fun p hp => by have := (hnr p hp).2; omega) (by omega) nw.length (Nat.le_refl _)).2
            rw [List.take_length] at hel
            by_cases hlt : k < os.length
            · obtain ⟨b, off, i, rfl, hbb, hx, cx⟩ := (HY.out.below HB.out).get hlt
              unfold iv at cx
              have hlt2 : (k : Int) < (os.length : Int) := Int.ofNat_lt.2 hlt
              by_cases i0 : i < 0
              · clear hx hbb hx0 rgt hc hown hb hnl hnr
                go_wp2
                go_roundw
                case rel => exact ⟨k + 1, nw, by omega, by go_num, HNL.out, HNR.out, HC.out, HO.out, HB.out⟩
                case measure => simp [intOf]; omega
              · by_cases i1 : (N : Int) ≤ i
                · clear hx hbb hx0 rgt hc hown hb hnl hnr
                  go_wp2
                  go_roundw
                  case rel => exact ⟨k + 1, nw, by omega, by go_num, HNL.out, HNR.out, HC.out, HO.out, HB.out⟩
                  case measure => simp [intOf]; omega
                · obtain ⟨j, rfl⟩ : ∃ j : Nat, i = j := ⟨i.toNat, by omega⟩
                  have hjN : j < N := by omega
                  have hj2 : (j : Int) < (N : Int) := by omega
                  have hj3 : (0 : Int) ≤ (j : Int) := Int.natCast_nonneg j
                  obtain ⟨b2, off2, p, hA, hb2, hp, cp⟩ := (HR.out.below HB.out).get (k := j) (by rw [HN.out]; exact hjN)
                  cases hA
                  unfold iv at cp
                  have rp := HALL.out p (List.mem_of_getElem? hp)
                  have hb2w : b2 < w.heap.size := hb2
                  have pe := put_exts (fun q hq => hnr q hq) (by omega) (i := j) (by rw [HNL.out, HN.out]; exact hjN) rp.1 rp.2
                  have KP := Lib.hid (xPut (c := c0') hx0 (Nat.le_refl _) (rightB_iff.2 rgt) (by omega) (j : Int) p hj3 (by omega) rp.1 rp.2)
                  rw [pe.1] at KP
                  have RP := Lib.hid rp; have RG := Lib.hid pe.2
                  obtain ⟨el, hel'⟩ : ∃ el, (exts nw).length = el := ⟨_, rfl⟩
                  rw [hel'] at KP hel hcap ⊢
                  clear hx hbb hx0 rgt hc hown hb hp rp pe i0 i1 hel'
                  go_wp2_with fail
                  refine KP.out.mono ?_
                  rintro e w2 ⟨v2, rfl, own2, b2'⟩
                  have B2 := Lib.hid (HB.out.trans (b2'.mono HB.out.size))
                  have C2 := Lib.hid (HC.out.below' b2')
                  have cp2 : w2.cell? ⟨b2, off2 + j, none⟩ = some (.int .i64 p) := (b2'.cell (p := ⟨b2, off2 + j, none⟩) (Nat.lt_of_lt_of_le hb2w HB.out.size)).trans cp
                  have HO2 := Lib.hid (own2.mono (show g + 1 ≤ wr.heap.size by have := HC.out.lt; omega))
                  have fz := C2.out.free j
                  have hjj : ∃ y, (nw.map iv).toArray[j]? = some y := ⟨_, Array.getElem?_eq_getElem (by rw [List.size_toArray, List.length_map, HNL.out, HN.out]; exact hjN)⟩
                  obtain ⟨y, hy⟩ := hjj
                  have cg : w2.cell? ⟨g, j, none⟩ = some y := (C2.out.cell j).trans hy
                  clear own2 b2' hy KP
                  go_upto_region 19 with fail
                  have C3 := C2.out.set j (.int .i64 p)
                  rw [set_arr] at C3
                  have O3 := Lib.hid (HO2.out.far (show g < g + 1 by omega) j (.int .i64 p))
                  have B3 := Lib.hid (B2.out.setCell (p := ⟨g, j, none⟩) HG.out (.int .i64 p))
                  obtain ⟨w3, hw3⟩ : ∃ w3, w2.setCell ⟨g, j, none⟩ (.int .i64 p) = w3 := ⟨_, rfl⟩
                  rw [hw3] at C3 O3 B3 ⊢
                  have HC3 := Lib.hid C3
                  have hrow := row_arr C3
                  have hnr3 : ∀ q ∈ nw.set j p, Rng q := fun q hq => by
                    rcases List.mem_or_eq_of_mem_set hq with h | rfl
                    · exact HNR.out q h
                    · exact RP.out
                  have hl3 : (nw.set j p).length = N := by rw [List.length_set, HNL.out, HN.out]
                  have KE := Lib.hid (xExtents (c := N) hrow (Nat.le_refl _) (fun q hq => by have := (hnr3 q hq).2; omega) (by rw [hl3]; omega))
                  have HEL := Lib.hid (exts_tame (nw.set j p) (fun p hp => by have := (hnr3 p hp).2; omega) (by rw [hl3]; omega) (nw.set j p).length (Nat.le_refl _)).2
                  rw [List.take_length] at HEL
                  rw [hl3] at KE HEL
                  have HNR3 := Lib.hid hnr3; have HL3 := Lib.hid hl3
                  obtain ⟨A3, c3, hv3, _, _⟩ := O3.out.form
                  subst hv3
                  obtain ⟨ex, hex⟩ : ∃ ex, exts (nw.set j p) = ex := ⟨_, rfl⟩
                  rw [hex] at KE HEL O3 ⊢
                  have HEX := Lib.hid hex
                  clear hrow hnr3 hl3 hex hw3 C3 cp2 cg fz C2 HO2
                  go_wp2_with fail
                  refine KE.out.mono ?_
                  rintro e w4 ⟨v4, rfl, own4, b4⟩
                  have B4 := Lib.hid (B3.out.trans (b4.mono B3.out.size))
                  have C4 := Lib.hid (HC3.out.below' b4)
                  have O4 := Lib.hid (O3.out.below b4)
                  obtain ⟨A4, c4, rfl, _, hx4⟩ := own4.form
                  obtain ⟨A5, c5, hv5, _, hx5⟩ := O4.out.form
                  have hA5 : A3 = A5 ∧ c3 = c5 := by injection hv5 with a b c; exact ⟨a, c⟩
                  obtain ⟨rfl, rfl⟩ := hA5
                  have KS := Lib.hid (xSameX (c := c3) (d := c4) (by have := HEL.out; omega) hx5 hx4)
                  clear own4 b4 hx4 hx5 hv5 KE
                  go_wp2_with fail
                  refine KS.out.mono ?_
                  rintro e w5 hg5
                  obtain ⟨rfl, b5⟩ := grows_b hg5
                  have B5 := Lib.hid (B4.out.trans (b5.mono B4.out.size))
                  have C5 := Lib.hid (C4.out.below' b5)
                  have O5 := Lib.hid (O4.out.below b5)
                  clear hg5 b5 KS
                  go_wp2
                  go_roundw
                  case rel => exact ⟨k + 1, nw.set j p, by omega, by go_num, by rw [HL3.out]; exact HN.out.symm, HNR3.out, C5.out, by rw [HEX.out]; exact O5.out, B5.out⟩
                  case measure => simp [intOf]; omega
            · obtain rfl : k = os.length := by omega
              have KR := Lib.hid (xRight (c := c0') hx0 (Nat.le_refl _) (small_right rgt) (by omega))
              rw [rightB_iff.2 rgt] at KR
              obtain ⟨el, hel'⟩ : ∃ el, (exts nw).length = el := ⟨_, rfl⟩
              rw [hel'] at KR hel hcap ⊢
              clear hx0 rgt hc hown hb hnl hnr hel'
              go_wp2_with fail
              refine KR.out.mono ?_
              rintro e w2 hg2
              obtain ⟨rfl, b2⟩ := grows_b hg2
              have B2 := Lib.hid (HB.out.trans (b2.mono HB.out.size))
              clear hg2 b2 KR
              go_wp2
              go_ret
              exact ⟨rfl, B2.out⟩
end Go.Proofs.Ytlfmfdbgchpjgaa
