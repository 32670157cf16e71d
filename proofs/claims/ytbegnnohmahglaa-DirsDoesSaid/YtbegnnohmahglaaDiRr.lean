import Derived.Test.YtbegnnohmahglaaDiRp
import Derived.Test.YtbegnnohmahglaaNkChk
import Derived.BigQuiet
import Derived.Deep.Cut
namespace Go.Proofs.Ytbegnnohmahglaa
open Wd Ino Go.RowKit Go.ChangeShapes Go.WideShapes Go.Sort
set_option linter.unusedVariables false
set_option maxRecDepth 100000

/-! whether a row of names is as it may be -/
def inoB (n : Int) : Bool := decide (1 ≤ n) && decide (n ≤ 1048576)
set_option maxHeartbeats 1000000 in
theorem rNumber (n : Int) (w : World) : Calls Try.prog 30 #[.int .i64 n] w (Grows (.bool (inoB n)) w) := by
  unfold inoB
  by_cases h1 : 1 ≤ n
  · rw [decide_eq_true h1, Bool.true_and]
    by_cases h2 : n ≤ 1048576
    · rw [decide_eq_true h2]
      go_enter Try.func30, Try.ntmps30
      go_wp2
      go_ret
      exact ⟨rfl, grow_none _⟩
    · rw [decide_eq_false h2]
      go_enter Try.func30, Try.ntmps30
      go_wp2
      go_ret
      exact ⟨rfl, grow_none _⟩
  · rw [decide_eq_false h1, Bool.false_and]
    go_enter Try.func30, Try.ntmps30
    go_wp2
    go_ret
    exact ⟨rfl, grow_none _⟩
theorem rName (s : ByteArray) (hs : s.size ≤ 1000) (w : World) : Calls Try.prog 20 #[.string s] w (Grows (.int .i64 (nameN s.toList)) w) := by
  refine (refName_any s hs w).mono ?_
  rintro e w' ⟨rfl, rfl⟩
  exact ⟨rfl, grow_none _⟩
theorem okE_is (e : Ent) : okE e = (decide (nameN e.s.toList = 0) && inoB e.n) := rfl
def RtRel (l : List Ent) (w : World) (i : Value) (wr : World) : Prop := ∃ k : Nat, k ≤ l.length ∧ i = .int .i64 k ∧ RightN (l.take k) ∧ ∃ q os, wr = grow (w.drewN q) os
theorem rt_next0 {l : List Ent} {e : Ent} (he : l[0]? = some e) (ho : okE e = true) : RightN (l.take (0 + 1)) :=
  RightN.step (by rw [List.take_zero]; exact RightN.nil) he ho (fun d h => absurd h (by omega))
theorem rt_next {l : List Ent} {m : Nat} {d e : Ent} (h : RightN (l.take (m + 1))) (hd : l[m]? = some d) (he : l[m + 1]? = some e) (ho : okE e = true) (hl : lessN d.s e.s = true) : RightN (l.take (m + 1 + 1)) :=
  h.step he ho fun x _ hx => by
    rw [Nat.add_sub_cancel, hd] at hx
    cases hx
    exact hl

set_option maxHeartbeats 8000000 in
theorem rRightE {w : World} {hi : Nat} {A : Option Addr} {c : Nat} {l : List Ent} (h : Ens w hi A l) (hh : hi ≤ w.heap.size) (hm : l.length ≤ 1000) (hs : ∀ e ∈ l, e.s.size ≤ 1000) : Calls Try.prog 16 #[.slice A l.length c] w (Grows (.bool (decide (RightN l))) w) := by
  have H := Lib.hid h; have HS := Lib.hid hs
  have hfol : Try.prog.follows .mixedOrders = true := by kernel_rfl
  clear h hs
  go_enter Try.func16, Try.ntmps16
  go_wp2
  go_loopw [7] (fun i wr => RtRel l w i wr) (fun i _ => l.length - (intOf i).toNat)
  case atStart => exact ⟨0, Nat.zero_le _, rfl, by rw [List.take_zero]; exact RightN.nil, grow_none _⟩
  case round =>
    obtain ⟨k, hk, rfl, hrt, hgr⟩ := hrel
    have HR := Lib.hid hrt
    have HB := Lib.hid (grown_self hgr)
    by_cases hlt : k < l.length
    · obtain ⟨e, he⟩ : ∃ e, l[k]? = some e := ⟨_, List.getElem?_eq_getElem hlt⟩
      have HG := Lib.hid (grow_alloc hgr (.cells #[.string e.s, .int .i64 e.n] 32))
      obtain ⟨b, off, rfl, hbB, x0, x1⟩ := ens_cells (H.out.below (HB.out.mono hh)) he
      have hlt2 : (k : Int) < (l.length : Int) := Int.ofNat_lt.2 hlt
      have hse := HS.out e (List.mem_of_getElem? he)
      have HE := Lib.hid he
      have HOK := Lib.hid (okE_is e)
      obtain ⟨N, hN⟩ : ∃ N, nameN e.s.toList = N := ⟨_, rfl⟩
      obtain ⟨B, hB⟩ : ∃ B, inoB e.n = B := ⟨_, rfl⟩
      have KN := Lib.hid (fun w => rName e.s hse w)
      have KB := Lib.hid (fun w => rNumber e.n w)
      rw [hN] at KN HOK
      rw [hB] at KB HOK
      have hc1 := Cells.new wr 32 (ecells e)
      have hl1 := hc1.lt
      obtain ⟨c0, c1⟩ := ecells2 hc1
      unfold ecells at c0 c1 hl1
      have g0 := cell_grown (a := ⟨wr.heap.size, 0, none⟩) hl1 c0
      have g1 := cell_grown (a := ⟨wr.heap.size, 1, none⟩) hl1 c1
      have HH := Lib.hid ((H.out.below (HB.out.mono hh)).below (((Below.refl wr.heap.size wr).alloc (Nat.le_refl _) (.cells #[.string e.s, .int .i64 e.n] 32)).mono (Nat.le_trans hh HB.out.size)))
      have hbs : hi ≤ (wr.alloc (.cells #[.string e.s, .int .i64 e.n] 32)).heap.size := by have := HB.out.size; simp; omega
      clear hgr hrt hN hB hc1 c0 c1 he hse
      by_cases q1 : N = 0
      · subst q1
        have p1 : ((0 : Int) != 0) = false := rfl
        rw [show decide ((0 : Int) = 0) = true from rfl, Bool.true_and] at HOK
        cases B with
        | false =>
          have HNO := Lib.hid (show decide (RightN l) = false from decide_eq_false (RightN.not_ok HE.out HOK.out))
          go_upto_region 4 with fail
          refine wp_region_quiet_grown hfol (by kernel_rfl) ?_
          repeat (go_big_quiet_step (first
            | (go_at_call 20; (with_reducible exact Grows.in KN.out _ _ _))
            | (go_at_call 30; (with_reducible exact Grows.in KB.out _ _ _))))
          refine wpQuiet_nil ?_
          intro _ hw'
          obtain ⟨⟨nr, osr⟩, hw''⟩ := hw'
          subst hw''
          go_wp2
          go_ret
          exact ⟨by rw [HNO.out]; rfl, grow_trans HG.out ⟨nr, osr, rfl⟩⟩
        | true =>
          by_cases hz : k = 0
          · have HN := Lib.hid (show RightN (l.take (k + 1)) by subst hz; exact rt_next0 HE.out HOK.out)
            have p2 : decide (0 < k) = false := decide_eq_false (by omega)
            clear hz
            go_upto_region 4 with fail
            refine wp_region_quiet_grown hfol (by kernel_rfl) ?_
            repeat (go_big_quiet_step (first
              | (go_at_call 20; (with_reducible exact Grows.in KN.out _ _ _))
              | (go_at_call 30; (with_reducible exact Grows.in KB.out _ _ _))))
            refine wpQuiet_nil ?_
            intro _ hw'
            obtain ⟨⟨nr, osr⟩, hw''⟩ := hw'
            subst hw''
            go_wp2
            go_roundw
            case rel => exact ⟨k + 1, by omega, by go_num, HN.out, grow_trans HG.out ⟨nr, osr, rfl⟩⟩
            case measure => simp [intOf]; omega
          · obtain ⟨m, hK⟩ : ∃ m, m + 1 = k := ⟨k - 1, by omega⟩
            obtain ⟨d, hd⟩ : ∃ d, l[m]? = some d := ⟨_, List.getElem?_eq_getElem (by omega)⟩
            obtain ⟨b', off', hbo, hbB', a0, a1⟩ := ens_cells HH.out hd
            cases hbo
            have hl2 : b < (wr.alloc (.cells #[.string e.s, .int .i64 e.n] 32)).heap.size := Nat.lt_of_lt_of_le hbB' hbs
            have d0 := cell_grown (a := ⟨b, off + m * 2, none⟩) hl2 a0
            have HD := Lib.hid hd
            have HK := Lib.hid hK
            have p2 : decide (0 < k) = true := decide_eq_true (by omega)
            have i0 : IntKind.i64.wrap ((k : Int) - 1) = (m : Int) := by rw [IntKind.wrap_i64]; omega
            have i1 : (0 : Int) ≤ (m : Int) := by omega
            have i2 : (m : Int) < (l.length : Int) := by omega
            clear hd hl2 a0 a1 hbB' hbs hK hz
            cases hq : lessN d.s e.s with
            | true =>
              have HN := Lib.hid (show RightN (l.take (k + 1)) by
                have h1 := HK.out; subst h1
                exact rt_next HR.out HD.out HE.out HOK.out hq)
              have p4 : Op.bytesLess d.s.toList e.s.toList = true := hq
              clear hq
              go_upto_region 4 with fail
              refine wp_region_quiet_grown hfol (by kernel_rfl) ?_
              repeat (go_big_quiet_step (first
                | (go_at_call 20; (with_reducible exact Grows.in KN.out _ _ _))
                | (go_at_call 30; (with_reducible exact Grows.in KB.out _ _ _))))
              refine wpQuiet_nil ?_
              intro _ hw'
              obtain ⟨⟨nr, osr⟩, hw''⟩ := hw'
              subst hw''
              go_wp2
              go_roundw
              case rel => exact ⟨k + 1, by omega, by go_num, HN.out, grow_trans HG.out ⟨nr, osr, rfl⟩⟩
              case measure => simp [intOf]; omega
            | false =>
              have HNO := Lib.hid (show decide (RightN l) = false from decide_eq_false (by have h1 := HK.out; subst h1; exact RightN.not_less HD.out HE.out hq))
              have p4 : Op.bytesLess d.s.toList e.s.toList = false := hq
              clear hq
              go_upto_region 4 with fail
              refine wp_region_quiet_grown hfol (by kernel_rfl) ?_
              repeat (go_big_quiet_step (first
                | (go_at_call 20; (with_reducible exact Grows.in KN.out _ _ _))
                | (go_at_call 30; (with_reducible exact Grows.in KB.out _ _ _))))
              refine wpQuiet_nil ?_
              intro _ hw'
              obtain ⟨⟨nr, osr⟩, hw''⟩ := hw'
              subst hw''
              go_wp2
              go_ret
              exact ⟨by rw [HNO.out]; rfl, grow_trans HG.out ⟨nr, osr, rfl⟩⟩
      · have HNO := Lib.hid (show decide (RightN l) = false from decide_eq_false (RightN.not_ok HE.out (by rw [HOK.out, decide_eq_false q1, Bool.false_and])))
        have p1 : (N != 0) = true := by simpa using q1
        clear q1
        go_upto_region 4 with fail
        refine wp_region_quiet_grown hfol (by kernel_rfl) ?_
        repeat (go_big_quiet_step (first
          | (go_at_call 20; (with_reducible exact Grows.in KN.out _ _ _))
          | (go_at_call 30; (with_reducible exact Grows.in KB.out _ _ _))))
        refine wpQuiet_nil ?_
        intro _ hw'
        obtain ⟨⟨nr, osr⟩, hw''⟩ := hw'
        subst hw''
        go_wp2
        go_ret
        exact ⟨by rw [HNO.out]; rfl, grow_trans HG.out ⟨nr, osr, rfl⟩⟩
    · obtain rfl : k = l.length := by omega
      have hrt := HR.out
      rw [List.take_length] at hrt
      have HNO := Lib.hid (show decide (RightN l) = true from decide_eq_true hrt)
      have HG := Lib.hid hgr
      clear hrt hgr
      go_wp2
      go_ret
      exact ⟨by rw [HNO.out]; rfl, HG.out⟩

set_option maxHeartbeats 8000000 in
theorem dRight {w : World} {hi : Nat} {A : Option Addr} {c : Nat} {l : List Ent} (h : Ens w hi A l) (hh : hi ≤ w.heap.size) (hm : l.length ≤ 1000) (hs : ∀ e ∈ l, e.s.size ≤ 1000) : Calls Try.prog 15 #[.slice A l.length c] w (Grows (.bool (decide (RightN l))) w) := by
  have H := Lib.hid h; have HS := Lib.hid hs
  have hfol : Try.prog.follows .mixedOrders = true := by kernel_rfl
  clear h hs
  go_enter Try.func15, Try.ntmps15
  go_wp2
  go_loopw [7] (fun i wr => RtRel l w i wr) (fun i _ => l.length - (intOf i).toNat)
  case atStart => exact ⟨0, Nat.zero_le _, rfl, by rw [List.take_zero]; exact RightN.nil, grow_none _⟩
  case round =>
    obtain ⟨k, hk, rfl, hrt, hgr⟩ := hrel
    have HR := Lib.hid hrt
    have HB := Lib.hid (grown_self hgr)
    by_cases hlt : k < l.length
    · obtain ⟨e, he⟩ : ∃ e, l[k]? = some e := ⟨_, List.getElem?_eq_getElem hlt⟩
      have HG := Lib.hid (grow_alloc hgr (.cells #[.string e.s, .int .i64 e.n] 32))
      obtain ⟨b, off, rfl, hbB, x0, x1⟩ := ens_cells (H.out.below (HB.out.mono hh)) he
      have hlt2 : (k : Int) < (l.length : Int) := Int.ofNat_lt.2 hlt
      have hse := HS.out e (List.mem_of_getElem? he)
      have HE := Lib.hid he
      have HOK := Lib.hid (okE_is e)
      obtain ⟨N, hN⟩ : ∃ N, nameN e.s.toList = N := ⟨_, rfl⟩
      obtain ⟨B, hB⟩ : ∃ B, inoB e.n = B := ⟨_, rfl⟩
      have KN := Lib.hid (fun w => nCheck e.s hse w)
      rw [hN] at KN HOK
      have HC1 := Lib.hid (Cells.new wr 32 (ecells e))
      have HH := Lib.hid ((H.out.below (HB.out.mono hh)).below (((Below.refl wr.heap.size wr).alloc (Nat.le_refl _) (.cells #[.string e.s, .int .i64 e.n] 32)).mono (Nat.le_trans hh HB.out.size)))
      have HBS := Lib.hid (show hi ≤ (wr.alloc (.cells #[.string e.s, .int .i64 e.n] 32)).heap.size by have := HB.out.size; simp; omega)
      clear hgr hrt hN he hse
      go_wp2_with fail
      refine (KN.out _).mono ?_
      rintro e1 w2 ⟨rfl, hw2⟩
      have HG2 := Lib.hid (grow_trans HG.out hw2)
      have hb2 := grown_self hw2
      have hc2 := HC1.out.below' hb2
      have HH2 := Lib.hid (HH.out.below (hb2.mono HBS.out))
      have HBS2 := Lib.hid (Nat.le_trans HBS.out hb2.size)
      have hl1 := hc2.lt
      obtain ⟨c0, c1⟩ := ecells2 hc2
      have g0 := cell_grown (a := ⟨wr.heap.size, 0, none⟩) hl1 c0
      clear hw2 hb2 hc2 x0 x1 hB
      by_cases q1 : N = 0
      · subst q1
        have p1 : ((0 : Int) != 0) = false := rfl
        rw [show decide ((0 : Int) = 0) = true from rfl, Bool.true_and] at HOK
        by_cases q2 : e.n < 1
        · have HNO := Lib.hid (show decide (RightN l) = false from decide_eq_false (RightN.not_ok HE.out (by rw [HOK.out]; unfold inoB; rw [decide_eq_false (by omega), Bool.false_and])))
          have p2 : decide (e.n < 1) = true := decide_eq_true q2
          clear q2 g0
          go_wp2
          go_ret
          exact ⟨by rw [HNO.out]; rfl, HG2.out⟩
        · by_cases q3 : 1048576 < e.n
          · have HNO := Lib.hid (show decide (RightN l) = false from decide_eq_false (RightN.not_ok HE.out (by rw [HOK.out]; unfold inoB; rw [decide_eq_false (show ¬ e.n ≤ 1048576 by omega), Bool.and_false])))
            have p2 : decide (e.n < 1) = false := decide_eq_false q2
            have p3 : decide (1048576 < e.n) = true := decide_eq_true q3
            clear q2 q3 g0
            go_wp2
            go_ret
            exact ⟨by rw [HNO.out]; rfl, HG2.out⟩
          · have HOK2 := Lib.hid (show okE e = true by rw [HOK.out]; unfold inoB; rw [decide_eq_true (show 1 ≤ e.n by omega), decide_eq_true (show e.n ≤ 1048576 by omega)]; rfl)
            have p2 : decide (e.n < 1) = false := decide_eq_false q2
            have p3 : decide (1048576 < e.n) = false := decide_eq_false q3
            clear q2 q3 HOK
            by_cases hz : k = 0
            · have HN := Lib.hid (show RightN (l.take (k + 1)) by subst hz; exact rt_next0 HE.out HOK2.out)
              have p4 : decide (0 < k) = false := decide_eq_false (by omega)
              clear hz
              go_upto_region 6 with fail
              refine wp_region_quiet_grown hfol (by kernel_rfl) ?_
              repeat (go_big_quiet_step (first
                | (go_at_call 29; (with_reducible exact Grows.in KL.out _ _ _))))
              refine wpQuiet_nil ?_
              intro _ hw'
              obtain ⟨⟨nr, osr⟩, hw''⟩ := hw'
              subst hw''
              go_wp2
              go_roundw
              case rel => exact ⟨k + 1, by omega, by go_num, HN.out, grow_trans HG2.out ⟨nr, osr, rfl⟩⟩
              case measure => simp [intOf]; omega
            · obtain ⟨m, hK⟩ : ∃ m, m + 1 = k := ⟨k - 1, by omega⟩
              obtain ⟨d, hd⟩ : ∃ d, l[m]? = some d := ⟨_, List.getElem?_eq_getElem (by omega)⟩
              obtain ⟨b', off', hbo, hbB', a0, a1⟩ := ens_cells HH2.out hd
              cases hbo
              have hl2 : b < w2.heap.size := Nat.lt_of_lt_of_le hbB' HBS2.out
              have d0 := cell_grown (a := ⟨b, off + m * 2, none⟩) hl2 a0
              have KL := Lib.hid (fun w => nLess d.s e.s w)
              have HD := Lib.hid hd
              have HK := Lib.hid hK
              have p4 : decide (0 < k) = true := decide_eq_true (by omega)
              have i0 : IntKind.i64.wrap ((k : Int) - 1) = (m : Int) := by rw [IntKind.wrap_i64]; omega
              have i1 : (0 : Int) ≤ (m : Int) := by omega
              have i2 : (m : Int) < (l.length : Int) := by omega
              clear hd hl2 a0 a1 hbB' hK hz
              obtain ⟨L, hq⟩ : ∃ L, lessN d.s e.s = L := ⟨_, rfl⟩
              rw [hq] at KL
              cases L with
              | true =>
                have HN := Lib.hid (show RightN (l.take (k + 1)) by
                  have h1 := HK.out; subst h1
                  exact rt_next HR.out HD.out HE.out HOK2.out hq)
                clear hq
                go_upto_region 6 with fail
                refine wp_region_quiet_grown hfol (by kernel_rfl) ?_
                repeat (go_big_quiet_step (first
                  | (go_at_call 29; (with_reducible exact Grows.in KL.out _ _ _))))
                refine wpQuiet_nil ?_
                intro _ hw'
                obtain ⟨⟨nr, osr⟩, hw''⟩ := hw'
                subst hw''
                go_wp2
                go_roundw
                case rel => exact ⟨k + 1, by omega, by go_num, HN.out, grow_trans HG2.out ⟨nr, osr, rfl⟩⟩
                case measure => simp [intOf]; omega
              | false =>
                have HNO := Lib.hid (show decide (RightN l) = false from decide_eq_false (by have h1 := HK.out; subst h1; exact RightN.not_less HD.out HE.out hq))
                clear hq
                go_upto_region 6 with fail
                refine wp_region_quiet_grown hfol (by kernel_rfl) ?_
                repeat (go_big_quiet_step (first
                  | (go_at_call 29; (with_reducible exact Grows.in KL.out _ _ _))))
                refine wpQuiet_nil ?_
                intro _ hw'
                obtain ⟨⟨nr, osr⟩, hw''⟩ := hw'
                subst hw''
                go_wp2
                go_ret
                exact ⟨by rw [HNO.out]; rfl, grow_trans HG2.out ⟨nr, osr, rfl⟩⟩
      · have HNO := Lib.hid (show decide (RightN l) = false from decide_eq_false (RightN.not_ok HE.out (by rw [HOK.out, decide_eq_false q1, Bool.false_and])))
        have p1 : (N != 0) = true := by simpa using q1
        clear q1
        clear g0
        go_wp2
        go_ret
        exact ⟨by rw [HNO.out]; rfl, HG2.out⟩
    · obtain rfl : k = l.length := by omega
      have hrt := HR.out
      rw [List.take_length] at hrt
      have HNO := Lib.hid (show decide (RightN l) = true from decide_eq_true hrt)
      have HG := Lib.hid hgr
      clear hrt hgr
      go_wp2
      go_ret
      exact ⟨by rw [HNO.out]; rfl, HG.out⟩
end Go.Proofs.Ytbegnnohmahglaa
