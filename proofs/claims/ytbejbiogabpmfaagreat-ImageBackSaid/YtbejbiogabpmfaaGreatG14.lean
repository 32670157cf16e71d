import Derived.Test.YtbejbiogabpmfaaGreatG10
import Derived.Test.YtbejbiogabpmfaaGreatG13
import Derived.BigQuiet
import Derived.Deep.Cut
import Derived.Test.YtbejbiogabpmfaaGreatG07
import Derived.Test.YtbejbiogabpmfaaGreatG12
import Derived.BigRegion
import Derived.StillTailTactics
import Derived.WalkKit
import Derived.WalkMore
import Derived.Test.YtbejbiogabpmfaaGreatG06

namespace Go.Proofs.YtbejbiogabpmfaaGreat
open Wd Ino Go.RowKit Go.ChangeShapes Go.WideShapes Go.Sort
set_option linter.unusedVariables false
set_option maxRecDepth 100000

/-! whether a row of names is as it may be -/
def inoB (n : Int) : Bool := decide (1 ≤ n) && decide (n ≤ 1048576)
theorem okE_is (e : Ent) : okE e = (decide (nameN e.s.toList = 0) && inoB e.n) := rfl
def RtRel (l : List Ent) (w : World) (i : Value) (wr : World) : Prop := ∃ k : Nat, k ≤ l.length ∧ i = .int .i64 k ∧ RightN (l.take k) ∧ ∃ q os, wr = grow (w.drewN q) os
theorem rt_next0 {l : List Ent} {e : Ent} (he : l[0]? = some e) (ho : okE e = true) : RightN (l.take (0 + 1)) :=
  RightN.step (by rw [List.take_zero]; exact RightN.nil) he ho (fun d h => absurd h (by omega))
theorem rt_next {l : List Ent} {m : Nat} {d e : Ent} (h : RightN (l.take (m + 1))) (hd : l[m]? = some d) (he : l[m + 1]? = some e) (ho : okE e = true) (hl : lessN d.s e.s = true) : RightN (l.take (m + 1 + 1)) :=
  h.step he ho fun x _ hx => by
    rw [Nat.add_sub_cancel, hd] at hx
    cases hx
    exact hl

set_option maxHeartbeats 8000000 in
theorem dRight {w : World} {hi : Nat} {A : Option Addr} {c : Nat} {l : List Ent} (h : Ens w hi A l) (hh : hi ≤ w.heap.size) (hm : l.length ≤ 1000) (hs : ∀ e ∈ l, e.s.size ≤ 1000) : Calls Tryz.prog 168 #[.slice A l.length c] w (Grows (.bool (decide (RightN l))) w) := by
  have H := Lib.hid h; have HS := Lib.hid hs
  have hfol : Tryz.prog.follows .mixedOrders = true := by kernel_rfl
  clear h hs
  go_enter Tryz.func168, Tryz.ntmps168
  go_wp2
  go_loopw [7] (fun i wr => RtRel l w i wr) (fun i _ => l.length - (intOf i).toNat)
  case atStart => exact ⟨0, Nat.zero_le _, rfl, by rw [List.take_zero]; exact RightN.nil, grow_none _⟩
  case round =>
    obtain ⟨k, hk, rfl, hrt, hgr⟩ := hrel
    have HR := Lib.hid hrt
    have HB := Lib.hid (grown_self hgr)
    by_cases hlt : k < l.length
    · obtain ⟨e, he⟩ : ∃ e, l[k]? = some e := ⟨_, List.getElem?_eq_getElem hlt⟩
      have HG := Lib.hid (grow_alloc hgr (.cells #[.string e.s, .int .i64 e.n] 103))
      obtain ⟨b, off, rfl, hbB, x0, x1⟩ := ens_cells (H.out.below (HB.out.mono hh)) he
      have hlt2 : (k : Int) < (l.length : Int) := Int.ofNat_lt.2 hlt
      have hse := HS.out e (List.mem_of_getElem? he)
      have HE := Lib.hid he
      have HOK := Lib.hid (okE_is e)
      obtain ⟨N, hN⟩ : ∃ N, nameN e.s.toList = N := ⟨_, rfl⟩
      obtain ⟨B, hB⟩ : ∃ B, inoB e.n = B := ⟨_, rfl⟩
      have KN := Lib.hid (fun w => nCheck e.s hse w)
      rw [hN] at KN HOK
      have HC1 := Lib.hid (Cells.new wr 103 (ecells e))
      have HH := Lib.hid ((H.out.below (HB.out.mono hh)).below (((Below.refl wr.heap.size wr).alloc (Nat.le_refl _) (.cells #[.string e.s, .int .i64 e.n] 103)).mono (Nat.le_trans hh HB.out.size)))
      have HBS := Lib.hid (show hi ≤ (wr.alloc (.cells #[.string e.s, .int .i64 e.n] 103)).heap.size by have := HB.out.size; simp; omega)
      clear hgr hrt hN he hse
      go_wp2_with fail
      refine (KN.out _).mono ?_
      rintro e1 w2 ⟨rfl, hw2⟩
      have HG2 := Lib.hid (grow_trans HG.out hw2)
      have hb2 := grown_self hw2
      have hc2 := HC1.out.below' hb2
      have HH2 := Lib.hid (HH.out.below (hb2.mono HBS.out))
      have HBS2 := Lib.hid (Nat.le_trans HBS.out hb2.size)
      have hl1 := hc2.lt
      obtain ⟨c0, c1⟩ := ecells2 hc2
      have g0 := cell_grown (a := ⟨wr.heap.size, 0, none⟩) hl1 c0
      clear hw2 hb2 hc2 x0 x1 hB
      by_cases q1 : N = 0
      · subst q1
        have p1 : ((0 : Int) != 0) = false := rfl
        rw [show decide ((0 : Int) = 0) = true from rfl, Bool.true_and] at HOK
        by_cases q2 : e.n < 1
        · have HNO := Lib.hid (show decide (RightN l) = false from decide_eq_false (RightN.not_ok HE.out (by rw [HOK.out]; unfold inoB; rw [decide_eq_false (by omega), Bool.false_and])))
          have p2 : decide (e.n < 1) = true := decide_eq_true q2
          clear q2 g0
          go_wp2
          go_ret
          exact ⟨by rw [HNO.out]; rfl, HG2.out⟩
        · by_cases q3 : 1048576 < e.n
          · have HNO := Lib.hid (show decide (RightN l) = false from decide_eq_false (RightN.not_ok HE.out (by rw [HOK.out]; unfold inoB; rw [decide_eq_false (show ¬ e.n ≤ 1048576 by omega), Bool.and_false])))
            have p2 : decide (e.n < 1) = false := decide_eq_false q2
            have p3 : decide (1048576 < e.n) = true := decide_eq_true q3
            clear q2 q3 g0
            go_wp2
            go_ret
            exact ⟨by rw [HNO.out]; rfl, HG2.out⟩
          · have HOK2 := Lib.hid (show okE e = true by rw [HOK.out]; unfold inoB; rw [decide_eq_true (show 1 ≤ e.n by omega), decide_eq_true (show e.n ≤ 1048576 by omega)]; rfl)
            have p2 : decide (e.n < 1) = false := decide_eq_false q2
            have p3 : decide (1048576 < e.n) = false := decide_eq_false q3
            clear q2 q3 HOK
            by_cases hz : k = 0
            · have HN := Lib.hid (show RightN (l.take (k + 1)) by subst hz; exact rt_next0 HE.out HOK2.out)
              have p4 : decide (0 < k) = false := decide_eq_false (by omega)
              clear hz
              go_upto_region 6 with fail
              refine wp_region_quiet_grown hfol (by kernel_rfl) ?_
              repeat (go_big_quiet_step (first
                | (go_at_call 189; (with_reducible exact Grows.in KL.out _ _ _))))
              refine wpQuiet_nil ?_
              intro _ hw'
              obtain ⟨⟨nr, osr⟩, hw''⟩ := hw'
              subst hw''
              go_wp2
              go_roundw
              case rel => exact ⟨k + 1, by omega, by go_num, HN.out, grow_trans HG2.out ⟨nr, osr, rfl⟩⟩
              case measure => simp [intOf]; omega
            · obtain ⟨m, hK⟩ : ∃ m, m + 1 = k := ⟨k - 1, by omega⟩
              obtain ⟨d, hd⟩ : ∃ d, l[m]? = some d := ⟨_, List.getElem?_eq_getElem (by omega)⟩
              obtain ⟨b', off', hbo, hbB', a0, a1⟩ := ens_cells HH2.out hd
              cases hbo
              have hl2 : b < w2.heap.size := Nat.lt_of_lt_of_le hbB' HBS2.out
              have d0 := cell_grown (a := ⟨b, off + m * 2, none⟩) hl2 a0
              have KL := Lib.hid (fun w => nLessD d.s e.s w)
              have HD := Lib.hid hd
              have HK := Lib.hid hK
              have p4 : decide (0 < k) = true := decide_eq_true (by omega)
              have i0 : IntKind.i64.wrap ((k : Int) - 1) = (m : Int) := by rw [IntKind.wrap_i64]; omega
              have i1 : (0 : Int) ≤ (m : Int) := by omega
              have i2 : (m : Int) < (l.length : Int) := by omega
              clear hd hl2 a0 a1 hbB' hK hz
              obtain ⟨L, hq⟩ : ∃ L, lessN d.s e.s = L := ⟨_, rfl⟩
              rw [hq] at KL
              cases L with
              | true =>
                have HN := Lib.hid (show RightN (l.take (k + 1)) by
                  have h1 := HK.out; subst h1
                  exact rt_next HR.out HD.out HE.out HOK2.out hq)
                clear hq
                go_upto_region 6 with fail
                refine wp_region_quiet_grown hfol (by kernel_rfl) ?_
                repeat (go_big_quiet_step (first
                  | (go_at_call 189; (with_reducible exact Grows.in KL.out _ _ _))))
                refine wpQuiet_nil ?_
                intro _ hw'
                obtain ⟨⟨nr, osr⟩, hw''⟩ := hw'
                subst hw''
                go_wp2
                go_roundw
                case rel => exact ⟨k + 1, by omega, by go_num, HN.out, grow_trans HG2.out ⟨nr, osr, rfl⟩⟩
                case measure => simp [intOf]; omega
              | false =>
                have HNO := Lib.hid (show decide (RightN l) = false from decide_eq_false (by have h1 := HK.out; subst h1; exact RightN.not_less HD.out HE.out hq))
                clear hq
                go_upto_region 6 with fail
                refine wp_region_quiet_grown hfol (by kernel_rfl) ?_
                repeat (go_big_quiet_step (first
                  | (go_at_call 189; (with_reducible exact Grows.in KL.out _ _ _))))
                refine wpQuiet_nil ?_
                intro _ hw'
                obtain ⟨⟨nr, osr⟩, hw''⟩ := hw'
                subst hw''
                go_wp2
                go_ret
                exact ⟨by rw [HNO.out]; rfl, grow_trans HG2.out ⟨nr, osr, rfl⟩⟩
      · have HNO := Lib.hid (show decide (RightN l) = false from decide_eq_false (RightN.not_ok HE.out (by rw [HOK.out, decide_eq_false q1, Bool.false_and])))
        have p1 : (N != 0) = true := by simpa using q1
        clear q1
        clear g0
        go_wp2
        go_ret
        exact ⟨by rw [HNO.out]; rfl, HG2.out⟩
    · obtain rfl : k = l.length := by omega
      have hrt := HR.out
      rw [List.take_length] at hrt
      have HNO := Lib.hid (show decide (RightN l) = true from decide_eq_true hrt)
      have HG := Lib.hid hgr
      clear hrt hgr
      go_wp2
      go_ret
      exact ⟨by rw [HNO.out]; rfl, HG.out⟩
end Go.Proofs.YtbejbiogabpmfaaGreat

namespace Go.Proofs.YtbejbiogabpmfaaGreat
open Wd Ino Go.RowKit Go.ChangeShapes Go.WideShapes Go.Sort
set_option linter.unusedVariables false
set_option maxRecDepth 100000

set_option maxHeartbeats 4000000 in
theorem dPutO {w : World} {hi : Nat} {A : Option Addr} {c : Nat} {l : List Ent} (h : Ens w hi A l) (hh : hi ≤ w.heap.size) (hm : l.length ≤ 1000) (hs : ∀ e ∈ l, e.s.size ≤ 1000) (s : ByteArray) (hsz : s.size ≤ 1000) (n : Int) : Calls Tryz.prog 174 #[.slice A l.length c, .string s, .int .i64 n] w (GivesO (putR s n l) (!hasN s l) w) := by
  have H := Lib.hid h; have HS := Lib.hid hs
  have K := Lib.hid (dLook (c := c) h hh hm s)
  clear h hs
  cases hn : hasN s l with
  | true =>
    have HR := Lib.hid (show putR s n l = l by unfold putR; rw [if_pos hn])
    rw [hn] at K
    clear hn
    go_enter Tryz.func174, Tryz.ntmps174
    go_wp2_with fail
    refine K.out.mono ?_
    rintro e1 w1 ⟨rfl, hw1⟩
    have hb1 := grown_self hw1
    have HB := Lib.hid hb1
    have KO := Lib.hid (dOwn (c := c) (H.out.below (hb1.mono hh)) (Nat.le_trans hh hb1.size) hm HS.out)
    clear hw1 K hb1
    go_wp2_with fail
    refine KO.out.mono ?_
    rintro e1 w2 ⟨v, rfl, ho, hb2⟩
    obtain ⟨A1, c1, rfl, hc1, hx1⟩ := ho.form
    have HX := Lib.hid (ho.mono HB.out.size)
    have HB2 := Lib.hid (HB.out.trans (hb2.mono HB.out.size))
    clear ho hb2 hx1 KO
    go_wp2_with fail
    go_ret2
    rw [HR.out]
    exact ⟨A1, c1, rfl, hc1, HX.out, HB2.out⟩
  | false =>
    have HR := Lib.hid (show putR s n l = putN s n l by unfold putR; rw [if_neg (by rw [hn]; decide)])
    obtain ⟨k, hk⟩ : ∃ k, lookN s l = k := ⟨_, rfl⟩
    have hkl : k ≤ l.length := by rw [← hk]; exact lookN_le s l
    have HI := Lib.hid (show insE l k ⟨s, n⟩ = putN s n l by
      unfold insE putN
      rw [← hk]
      unfold lookN
      rw [if_neg (by rw [hn]; decide)])
    rw [hn, hk] at K
    clear hn hk
    go_enter Tryz.func174, Tryz.ntmps174
    go_wp2_with fail
    refine K.out.mono ?_
    rintro e1 w1 ⟨rfl, hw1⟩
    have hb1 := grown_self hw1
    have HB := Lib.hid hb1
    have KO := Lib.hid (dOwn (c := c) (H.out.below (hb1.mono hh)) (Nat.le_trans hh hb1.size) hm HS.out)
    clear hw1 K hb1
    go_wp2_with fail
    refine KO.out.mono ?_
    rintro e1 w2 ⟨v, rfl, ho, hb2⟩
    obtain ⟨A1, c1, rfl, hc1, hx1⟩ := ho.form
    have HO := Lib.hid ho; have HB2 := Lib.hid hb2
    have KC := Lib.hid (cloneG s (by omega))
    clear ho hb2 hx1 KO
    go_wp2_with fail
    refine (KC.out _).mono ?_
    rintro e1 w3 ⟨rfl, hw3⟩
    have hb3 := grown_self hw3
    have hb4 := hb3.alloc hb3.size (.cells (ecells ⟨s, n⟩) 103)
    have KI := Lib.hid (dIns rfl (HO.out.below hb4) hm (Nat.le_trans HB2.out.size hb4.size) hkl ⟨s, n⟩ w3.heap.size (Cells.new w3 103 (ecells ⟨s, n⟩)) (fun q hq => by
      have h1 := ownE_lt HO.out q hq
      have h2 := hb3.size
      omega))
    have HB4 := Lib.hid (HB.out.trans ((HB2.out.trans (hb4.mono HB2.out.size)).mono HB.out.size))
    have HB1 := Lib.hid (show w.heap.size ≤ w1.heap.size from HB.out.size)
    unfold ecells at KI HB4
    dsimp only at KI
    clear hw3 hb3 hb4
    go_wp2_with fail
    refine KI.out.mono ?_
    rintro e1 w5 ⟨v5, rfl, ho5, hb5⟩
    rw [HI.out, ← HR.out] at ho5
    obtain ⟨A5, c5, rfl, hc5, hx5⟩ := ho5.form
    have HX5 := Lib.hid (ho5.mono HB1.out)
    have HB5 := Lib.hid (HB4.out.trans (hb5.mono HB1.out))
    clear ho5 hb5 hx5 KI
    go_wp2_with fail
    go_ret2
    exact ⟨A5, c5, rfl, hc5, HX5.out, HB5.out⟩
end Go.Proofs.YtbejbiogabpmfaaGreat

/-! Small functions of the project's State: what a node is, and which names there are. -/
namespace Go.Proofs.YtbejbiogabpmfaaGreat
open Wd Ino Sm Go.RowKit Go.ChangeShapes Go.WideShapes Go.Sort
set_option linter.unusedVariables false
set_option maxRecDepth 100000
def SPtr (g : Nat) : Value := .pointer (some ⟨g, 0, none⟩)
section
variable {w : World} {base m g b : Nat} {S : Stt}
theorem PSt.c0 (h : PSt w base m g b S) : w.cell? ⟨g, 0, none⟩ = some (.map (some b)) := h.cells.cell 0
theorem PSt.c1 (h : PSt w base m g b S) : w.cell? ⟨g, 1, none⟩ = some (.int .i64 S.last) := h.cells.cell 1
theorem PSt.fr (h : PSt w base m g b S) (i : Nat) : w.frozen? ⟨g, i, none⟩ = false := h.cells.free i
theorem OwnNd.ens {n : Nd} (h : OwnNd w base n) : n.names.length ≤ n.bc ∧ Ens w w.heap.size n.B n.names := by
  obtain ⟨A, c, hv, hc, hr⟩ := h.2.form
  injection hv with h1 h2 h3
  rw [h1, h3]; exact ⟨hc, hr⟩
theorem equalIn_map_nil (d : Nat) (t k e : TypeId) (p : Option Nat) (h : Tryz.prog.underlying t = some (.map k e)) (w : World) : (Op.equalIn (d + 1) t (.map p) (.map none)).run Tryz.prog w = .ok p.isNone w := by
  cases p <;> simp [Op.equalIn, run_underlying h]
theorem ne_nilmap (t k e : TypeId) (p : Option Nat) (h : Tryz.prog.underlying t = some (.map k e)) (w : World) : (binOp .neq t (.map p) (.map none)).run Tryz.prog w = .ok (.bool (!p.isNone)) w := by
  simp only [binOp]
  simp [show Op.equal t (.map p) (.map none) = Op.equalIn (9999 + 1) t (.map p) (.map none) from rfl, equalIn_map_nil 9999 t k e p h]

theorem nil_len (N : List Ent) : decide (N = []) = ((N.length : Int) == 0) := by
  cases N with
  | nil => rfl
  | cons a l =>
    have h1 : ((((a :: l).length : Nat) : Int) == 0) = false := by
      rw [List.length_cons]
      simp
      omega
    rw [h1]
    rfl

theorem pMade (h : PSt w base m g b S) : Calls Tryz.prog 56 #[SPtr g] w (Grows (.bool true) w) := by
  have c0 := h.c0
  have q0 := fun w => ne_nilmap 106 _ _ (some b) Tryz.underlying106 w
  clear h
  unfold SPtr
  go_enter Tryz.func56, Tryz.ntmps56
  go_wp2
  go_ret
  exact ⟨rfl, grow_none _⟩

theorem pIs (h : PSt w base m g b S) (x k : Int) (hx : i64R x) : Calls Tryz.prog 137 #[SPtr g, .int .i64 x, .int .i64 k] w (Grows (.bool (decide (kindS S.l x = k))) w) := by
  have c0 := h.c0
  obtain ⟨n, hn, ho, lk⟩ := h.look hx
  have lk0 := lk w rfl
  obtain ⟨i, ki, l, s, u, A, ac, P, B, bc, N⟩ := n
  have hk : kindS S.l x = ki := by unfold kindS; rw [← hn]; rfl
  rw [hk]
  unfold Nd.val at lk0
  dsimp only at lk0
  clear h lk ho hn hk
  unfold SPtr
  by_cases e : ki = k
  · have q0 : decide (ki = k) = true := decide_eq_true e
    rw [q0]
    go_enter Tryz.func137, Tryz.ntmps137
    go_wp2
    go_ret
    exact ⟨rfl, grow_none _⟩
  · have q0 : decide (ki = k) = false := decide_eq_false e
    have q1 : (ki == k) = false := by simpa using e
    rw [q0]
    go_enter Tryz.func137, Tryz.ntmps137
    go_wp2
    go_ret
    exact ⟨rfl, grow_none _⟩

theorem pFree (h : PSt w base m g b S) (hs : SmS S.l) (d : Int) (hd : i64R d) (s : ByteArray) : Calls Tryz.prog 132 #[SPtr g, .int .i64 d, .string s] w (Grows (.bool (freeS S.l d s)) w) := by
  have c0 := h.c0
  obtain ⟨n, hn, ho, lk⟩ := h.look hd
  have lk0 := lk w rfl
  have hsm := hs.get d
  have hN : namesS S.l d = n.names := by unfold namesS; rw [← hn]; rfl
  have hlen : n.names.length ≤ 1000 := by have := hsm.q; rw [← hn] at this; exact Nat.le_trans this (by decide)
  obtain ⟨hbc, hE⟩ := ho.ens
  have KF := Lib.hid (dFind (c := n.bc) hE (Nat.le_refl _) hlen s)
  unfold freeS
  rw [hN]
  obtain ⟨H, hH⟩ : ∃ H, hasN s n.names = H := ⟨_, rfl⟩
  obtain ⟨I, hI⟩ : ∃ H, inoN s n.names = H := ⟨_, rfl⟩
  rw [hH, hI] at KF
  rw [hH]
  have KI2 := Lib.hid (fun w' (hb : Below w.heap.size w w') => pIs (h.below hb) d 2 hd)
  obtain ⟨q, hq⟩ : ∃ q, decide (kindS S.l d = 2) = q := ⟨_, rfl⟩
  rw [hq] at KI2 ⊢
  obtain ⟨i, ki, l, t, u, A, ac, P, B, bc, N⟩ := n
  unfold Nd.val at lk0
  dsimp only at lk0 KF
  clear h lk ho hn hN hs hsm hlen hE hbc hH hI hq
  unfold SPtr at *
  go_enter Tryz.func132, Tryz.ntmps132
  go_wp2_with fail
  refine (KF.out).mono ?_
  rintro e w1 ⟨rfl, q1, os1, rfl⟩
  go_wp2_with fail
  refine (KI2.out _ (below_grow' _ _ _)).mono ?_
  rintro e w2 ⟨rfl, hw2⟩
  have HG := Lib.hid (grow_trans ⟨q1, os1, rfl⟩ hw2)
  clear hw2
  cases q <;> cases H <;> (go_wp2; go_ret; exact ⟨rfl, HG.out⟩)

theorem pHas (h : PSt w base m g b S) (hs : SmS S.l) (d : Int) (hd : i64R d) (s : ByteArray) (i : Int) : Calls Tryz.prog 134 #[SPtr g, .int .i64 d, .string s, .int .i64 i] w (Grows (.bool (hasS S.l d s i)) w) := by
  have c0 := h.c0
  obtain ⟨n, hn, ho, lk⟩ := h.look hd
  have lk0 := lk w rfl
  have hsm := hs.get d
  have hN : namesS S.l d = n.names := by unfold namesS; rw [← hn]; rfl
  have hlen : n.names.length ≤ 1000 := by have := hsm.q; rw [← hn] at this; exact Nat.le_trans this (by decide)
  obtain ⟨hbc, hE⟩ := ho.ens
  have KF := Lib.hid (dFind (c := n.bc) hE (Nat.le_refl _) hlen s)
  unfold hasS
  rw [hN]
  obtain ⟨H, hH⟩ : ∃ H, hasN s n.names = H := ⟨_, rfl⟩
  obtain ⟨I, hI⟩ : ∃ H, inoN s n.names = H := ⟨_, rfl⟩
  rw [hH, hI] at KF
  rw [hH, hI]
  obtain ⟨j, ki, l, t, u, A, ac, P, B, bc, N⟩ := n
  unfold Nd.val at lk0
  dsimp only at lk0 KF
  clear h lk ho hn hN hs hsm hlen hE hbc hH hI
  unfold SPtr at *
  by_cases e : I = i
  · have q0 : decide (I = i) = true := decide_eq_true e
    rw [q0]
    go_enter Tryz.func134, Tryz.ntmps134
    go_wp2_with fail
    refine (KF.out).mono ?_
    rintro e w1 ⟨rfl, HG⟩
    have HG := Lib.hid HG
    cases H <;> (go_wp2; go_ret; exact ⟨rfl, HG.out⟩)
  · have q0 : decide (I = i) = false := decide_eq_false e
    have q1 : (I == i) = false := by simpa using e
    rw [q0]
    go_enter Tryz.func134, Tryz.ntmps134
    go_wp2_with fail
    refine (KF.out).mono ?_
    rintro e w1 ⟨rfl, HG⟩
    have HG := Lib.hid HG
    cases H <;> (go_wp2; go_ret; exact ⟨rfl, HG.out⟩)

theorem pLoose (h : PSt w base m g b S) (i k : Int) (hi : i64R i) : Calls Tryz.prog 135 #[SPtr g, .int .i64 i, .int .i64 k] w (Grows (.bool (looseS S.l i k)) w) := by
  have c0 := h.c0
  obtain ⟨n, hn, ho, lk⟩ := h.look hi
  have hN : namesS S.l i = n.names := by unfold namesS; rw [← hn]; rfl
  have KI2 := Lib.hid (pIs h i k hi)
  have LK := Lib.hid lk
  have HC := Lib.hid h
  unfold looseS
  rw [hN]
  obtain ⟨q, hq⟩ : ∃ q, decide (kindS S.l i = k) = q := ⟨_, rfl⟩
  rw [hq] at KI2 ⊢
  obtain ⟨j, ki, l, t, u, A, ac, P, B, bc, N⟩ := n
  unfold Nd.val at LK
  dsimp only at LK ⊢
  clear h lk ho hn hN hq
  unfold SPtr at *
  have nl : decide (N = []) = ((N.length : Int) == 0) := nil_len N
  rw [nl]
  by_cases e1 : i = 1
  · have q1 : decide (i = 1) = true := decide_eq_true e1
    have q2 : (i == 1) = true := by simpa using e1
    have q4 : (i != 1) = false := by simpa using e1
    rw [q1]
    clear e1 nl
    go_enter Tryz.func135, Tryz.ntmps135
    go_wp2_with fail
    refine (KI2.out).mono ?_
    rintro e w1 ⟨rfl, HG⟩
    have HG := Lib.hid HG
    cases q <;> (go_wp2; go_ret; exact ⟨rfl, HG.out⟩)
  · have q1 : decide (i = 1) = false := decide_eq_false e1
    have q2 : (i == 1) = false := by simpa using e1
    have q4 : (i != 1) = true := by simpa using e1
    rw [q1]
    clear e1 nl
    obtain ⟨z, hz⟩ : ∃ z, ((N.length : Int) == 0) = z := ⟨_, rfl⟩
    rw [hz]
    go_enter Tryz.func135, Tryz.ntmps135
    go_wp2_with fail
    refine (KI2.out).mono ?_
    rintro e w1 ⟨rfl, q3, os3, rfl⟩
    have hb := below_grow' w q3 os3
    have c0 := HC.out.cells.below' hb
    have c0 := c0.cell 0
    have lk0 := LK.out _ (hb.block b HC.out.blt)
    have HG := Lib.hid (show ∃ q os, grow (w.drewN q3) os3 = grow (w.drewN q) os from ⟨q3, os3, rfl⟩)
    clear hb
    obtain ⟨w2, hw2⟩ : ∃ w2, grow (w.drewN q3) os3 = w2 := ⟨_, rfl⟩
    rw [hw2] at c0 lk0 HG ⊢
    clear hw2
    cases q <;> cases z <;> (go_wp2; go_ret; exact ⟨rfl, HG.out⟩)
end
end Go.Proofs.YtbejbiogabpmfaaGreat

/-! The document's State in memory: a row of nodes that may be shorter than its block. -/
namespace Go.Proofs.YtbejbiogabpmfaaGreat
open Wd Ino Sm Go.RowKit Go.ChangeShapes Go.WideShapes Go.Sort
set_option linter.unusedVariables false
set_option maxRecDepth 100000
/-- a row that is owned, in a block that may be greater than its room -/
def RowP (w : World) (base : Nat) (e : TypeId) (sz : Nat) (v : Value) (n : Nat) (xs : List Value) : Prop := xs.length = n * sz ∧ ((v = .slice none 0 0 ∧ n = 0) ∨
  ∃ g cap cur, v = .slice (some ⟨g, 0, none⟩) n cap ∧ base ≤ g ∧ Cells w g e cur ∧ n ≤ cap ∧ cap ≤ maxLen ∧ cap * sz ≤ cur.size ∧ cur.toList.take (n * sz) = xs)
theorem RowP.of {w : World} {base sz n : Nat} {e : TypeId} {v : Value} {xs : List Value} (h : w.ownsRow base e sz v n xs) : RowP w base e sz v n xs := by
  refine ⟨h.1, ?_⟩
  rcases h.2 with ⟨rfl, rfl⟩ | ⟨g, cap, cur, hv, hb, hh, h1, h2, hs, ht⟩
  · exact .inl ⟨rfl, rfl⟩
  · exact .inr ⟨g, cap, cur, hv, hb, hh, h1, h2, by rw [hs]; exact Nat.le_refl _, ht⟩
theorem KeepC.rowP {w w' : World} {Ts : List TypeId} (h : KeepC Ts w w') {base n sz : Nat} {e : TypeId} {v : Value} {xs : List Value} (he : e ∉ Ts) (ho : RowP w base e sz v n xs) : RowP w' base e sz v n xs := by
  refine ⟨ho.1, ?_⟩
  rcases ho.2 with ho | ⟨g, cap, cur, hv, hb, hh, h1⟩
  · exact .inl ho
  · exact .inr ⟨g, cap, cur, hv, hb, h _ _ _ he hh, h1⟩
structure DSx (w : World) (base g : Nat) (Ls : List Nd) (v : Value) (S : Stt) : Prop where
  lo : base ≤ g
  cells : Cells w g 75 #[v, .int .i64 S.last]
  row : RowP w base 51 7 v Ls.length (ndvals Ls)
  own : ∀ n ∈ Ls, OwnNd w base n
  eq : Ls.map Nd.plain = S.l
end Go.Proofs.YtbejbiogabpmfaaGreat

namespace Go.Proofs.YtbejbiogabpmfaaGreat
open Wd U Go.RowKit Go.ChangeShapes Go.WideShapes
set_option linter.unusedVariables false

/-! whether effects are few -/
def Eff.few (e : Eff) : Prop := e.data.length ≤ 300 ∧ e.name.size ≤ 100 ∧ e.other.size ≤ 100
instance (e : Eff) : Decidable e.few := by unfold Eff.few; exact inferInstance
def fewE (l : List Eff) : Bool := l.all (fun e => decide e.few) && decide (l.length ≤ 30)
theorem fewE_iff {l : List Eff} : fewE l = true ↔ (∀ e ∈ l, e.few) ∧ l.length ≤ 30 := by unfold fewE; simp
def FewERel (w : World) (l : List Eff) (i : Value) (wr : World) : Prop := ∃ k : Nat, k ≤ l.length ∧ i = .int .i64 k ∧ (∀ e ∈ l.take k, e.few) ∧ Below w.heap.size w wr
def RetB (w : World) (b : Bool) (e : Ending) (w' : World) : Prop := e = .returned (.bool b) ∧ Below w.heap.size w w'
theorem no_few {l : List Eff} {k : Nat} {e : Eff} (h : l[k]? = some e) (hn : ¬ e.few) : fewE l = false := by
  cases hf : fewE l
  · rfl
  · exact absurd ((fewE_iff.1 hf).1 e (List.mem_of_getElem? h)) hn
theorem effs_cells {w : World} {B : Nat} {A : Option Addr} {l : List Eff} (h : Effs w B A l) {k : Nat} {e : Eff} (hk : l[k]? = some e) : ∃ b off, A = some ⟨b, off, none⟩ ∧ b < B ∧
    w.cell? ⟨b, off + k * 9, none⟩ = some (.int .i64 e.kind) ∧ w.cell? ⟨b, off + k * 9 + 1, none⟩ = some (.int .i64 e.ino) ∧ w.cell? ⟨b, off + k * 9 + 2, none⟩ = some (.int .i64 e.dir) ∧ w.cell? ⟨b, off + k * 9 + 3, none⟩ = some (.int .i64 e.dst) ∧
    w.cell? ⟨b, off + k * 9 + 4, none⟩ = some (.int .i64 e.page) ∧ w.cell? ⟨b, off + k * 9 + 5, none⟩ = some (.int .i64 e.size) ∧ w.cell? ⟨b, off + k * 9 + 6, none⟩ = some (.string e.name) ∧ w.cell? ⟨b, off + k * 9 + 7, none⟩ = some (.string e.other) ∧
    w.cell? ⟨b, off + k * 9 + 8, none⟩ = some (.slice e.A e.data.length e.cp) := by
  obtain ⟨b, off, rfl, hb, hx⟩ := h.at_ (by have := (List.getElem?_eq_some_iff.1 hk).1; omega)
  have g := hx k e hk
  exact ⟨b, off, rfl, hb, g 0 _ rfl, g 1 _ rfl, g 2 _ rfl, g 3 _ rfl, g 4 _ rfl, g 5 _ rfl, g 6 _ rfl, g 7 _ rfl, g 8 _ rfl⟩
theorem take_snocE {α : Type} {l : List α} {k : Nat} {x : α} (h : l[k]? = some x) : l.take (k + 1) = l.take k ++ [x] := by rw [List.take_add_one, h]; rfl

set_option maxRecDepth 100000 in
set_option maxHeartbeats 1000000 in
theorem few_any {w : World} {A : Option Addr} {c : Nat} {l : List Eff} (h : Effs w w.heap.size A l) (hm : l.length ≤ maxLen) : Calls Tryz.prog 8 #[.slice A l.length c] w (RetB w (fewE l)) := by
  unfold maxLen at hm
  go_enter Tryz.func8, Tryz.ntmps8
  go_wp2
  go_loopw [7] (fun i wr => FewERel w l i wr) (fun i _ => l.length - (intOf i).toNat)
  case atStart => exact ⟨0, Nat.zero_le _, rfl, by simp, Below.refl _ _⟩
  case round =>
    obtain ⟨k, hk, rfl, hall, hb⟩ := hrel
    by_cases hlt : k < l.length
    · obtain ⟨e, he⟩ : ∃ e, l[k]? = some e := ⟨_, List.getElem?_eq_getElem hlt⟩
      have hD := h.below hb
      obtain ⟨b, off, rfl, hbB, x0, x1, x2, x3, x4, x5, x6, x7, x8⟩ := effs_cells hD he
      have ok := hD.ok e (List.mem_of_getElem? he)
      have le1 := ok.le
      have le2 := ok.name
      have le3 := ok.other
      unfold maxLen at le1 le2 le3
      have HB := Lib.hid hb; have HA := Lib.hid hall; have HE := Lib.hid he
      clear hD hb hall he ok
      have hkl : (k : Int) < (l.length : Int) := by omega
      by_cases q1 : e.data.length ≤ 300
      · have p1 : decide ((e.data.length : Int) > 300) = false := decide_eq_false (by omega)
        by_cases q2 : e.name.size ≤ 100
        · have p2 : decide ((e.name.size : Int) > 100) = false := decide_eq_false (by omega)
          by_cases q3 : e.other.size ≤ 100
          · have p3 : decide ((e.other.size : Int) > 100) = false := decide_eq_false (by omega)
            have HF := Lib.hid (⟨q1, q2, q3⟩ : e.few)
            go_wp2
            go_roundw
            case rel =>
              refine ⟨k + 1, by omega, by go_num, ?_, HB.out.alloc HB.out.size _⟩
              rw [take_snocE HE.out]
              intro x hx
              rcases List.mem_append.1 hx with h | h
              · exact HA.out x h
              · simp at h; subst h; exact HF.out
            case measure => simp [intOf]; omega
          · have p3 : decide ((e.other.size : Int) > 100) = true := decide_eq_true (by omega)
            have HF := Lib.hid (no_few HE.out fun f => q3 f.2.2)
            clear q3
            go_wp2
            go_ret
            exact ⟨by rw [HF.out]; rfl, HB.out.alloc HB.out.size _⟩
        · have p2 : decide ((e.name.size : Int) > 100) = true := decide_eq_true (by omega)
          have HF := Lib.hid (no_few HE.out fun f => q2 f.2.1)
          clear q2
          go_wp2
          go_ret
          exact ⟨by rw [HF.out]; rfl, HB.out.alloc HB.out.size _⟩
      · have p1 : decide ((e.data.length : Int) > 300) = true := decide_eq_true (by omega)
        have HF := Lib.hid (no_few HE.out fun f => q1 f.1)
        clear q1
        go_wp2
        go_ret
        exact ⟨by rw [HF.out]; rfl, HB.out.alloc HB.out.size _⟩
    · obtain rfl : k = l.length := by omega
      have e : fewE l = decide ((l.length : Int) ≤ 30) := by
        unfold fewE
        rw [List.all_eq_true.2 (fun d hd => by simpa using hall d (by rw [List.take_of_length_le (Nat.le_refl _)]; exact hd)), Bool.true_and]
        by_cases h30 : l.length ≤ 30
        · rw [decide_eq_true h30, decide_eq_true (by omega)]
        · rw [decide_eq_false h30, decide_eq_false (by omega)]
      have HE := Lib.hid e
      have HB := Lib.hid hb
      clear hb hall e h
      go_wp2
      go_ret
      exact ⟨by rw [HE.out]; simp, HB.out⟩
end Go.Proofs.YtbejbiogabpmfaaGreat

/-! The document's State: where a node stands, of which kind it is, and which node has a name. -/
namespace Go.Proofs.YtbejbiogabpmfaaGreat
open Wd Ino Sm Go.RowKit Go.ChangeShapes Go.WideShapes Go.Sort
set_option linter.unusedVariables false
set_option maxRecDepth 100000
theorem flat_at {α : Type} {f : α → List Value} {K : Nat} (hK : ∀ a, (f a).length = K) : ∀ (l : List α) (j k : Nat) (x : α) (y : Value), l[j]? = some x → (f x)[k]? = some y → (l.flatMap f)[j * K + k]? = some y := by
  intro l
  induction l with
  | nil => intro j k e x hj; simp at hj
  | cons q l ih =>
    intro j k e x hj hk
    rw [List.flatMap_cons]
    cases j with
    | zero =>
      simp at hj
      subst hj
      have : k < (f q).length := (List.getElem?_eq_some_iff.1 hk).1
      rw [Nat.zero_mul, Nat.zero_add, List.getElem?_append_left this]
      exact hk
    | succ j =>
      rw [List.getElem?_append_right (by rw [hK, Nat.add_mul]; omega), hK, show (j + 1) * K + k - K = j * K + k by rw [Nat.add_mul]; omega]
      exact ih j k e x (by simpa using hj) hk
theorem flat_len {α : Type} {f : α → List Value} {K : Nat} (hK : ∀ a, (f a).length = K) (l : List α) : (l.flatMap f).length = l.length * K := by
  induction l with
  | nil => simp
  | cons a l ih => rw [List.flatMap_cons, List.length_append, ih, hK, List.length_cons, Nat.add_mul]; omega
theorem cells_len (n : Nd) : n.cells.length = 7 := rfl
/-- a row that is owned, of elements of any size: each cell -/
theorem ownK_cell {w : World} {base n sz g cap : Nat} {e : TypeId} {xs : List Value} (h : RowP w base e sz (.slice (some ⟨g, 0, none⟩) n cap) n xs) {k : Nat} {u : Value} (hk : xs[k]? = some u) : w.cell? ⟨g, k, none⟩ = some u ∧ w.frozen? ⟨g, k, none⟩ = false ∧ base ≤ g := by
  have hl := h.1
  rcases h.2 with ⟨h0, _⟩ | ⟨g', cap', cur, hv, hb, hh, h1, h2, hs, ht⟩
  · cases h0
  · injection hv with hv _ hc
    injection hv with hv
    injection hv with hv
    subst hv hc
    have hkn : k < n * sz := by have := (List.getElem?_eq_some_iff.1 hk).1; omega
    have hc : Cells w g e cur := hh
    refine ⟨?_, hc.free k, hb⟩
    rw [hc.cell k]
    rw [← ht, List.getElem?_take_of_lt hkn] at hk
    simpa using hk
theorem ownK_set {w : World} {base n sz g cap : Nat} {e : TypeId} {xs : List Value} (h : RowP w base e sz (.slice (some ⟨g, 0, none⟩) n cap) n xs) (k : Nat) (u : Value) : RowP (w.setCell ⟨g, k, none⟩ u) base e sz (.slice (some ⟨g, 0, none⟩) n cap) n (xs.set k u) := by
  rcases h with ⟨hl, h⟩
  refine ⟨by rw [List.length_set]; exact hl, ?_⟩
  rcases h with ⟨h0, _⟩ | ⟨g', cap', cur, hv, hb, hh, h1, h2, hs, ht⟩
  · cases h0
  · injection hv with hv _ hc
    injection hv with hv
    injection hv with hv
    subst hv hc
    refine .inr ⟨g, cap, cur.setIfInBounds k u, rfl, hb, Cells.set hh k u, h1, h2, by rw [Array.size_setIfInBounds]; exact hs, ?_⟩
    rw [Array.toList_setIfInBounds, List.take_set, ht]
theorem ownK_form {w : World} {base n sz : Nat} {e : TypeId} {v : Value} {xs : List Value} (h : RowP w base e sz v n xs) : ∃ A c, v = .slice A n c ∧ n ≤ c ∧ (0 < n → ∃ gL, A = some ⟨gL, 0, none⟩) := by
  rcases h.2 with ⟨rfl, rfl⟩ | ⟨g, cap, cur, rfl, hb, hh, hc, _⟩
  · exact ⟨none, 0, rfl, Nat.le_refl _, fun h => by omega⟩
  · exact ⟨_, cap, rfl, hc, fun _ => ⟨g, rfl⟩⟩
section
variable {w w' : World} {base g : Nat} {Ls : List Nd} {v : Value} {S : Stt}
theorem DSx.len (h : DSx w base g Ls v S) : S.l.length = Ls.length := by rw [← h.eq]; simp
theorem DSx.form (h : DSx w base g Ls v S) : ∃ A c, v = .slice A Ls.length c ∧ Ls.length ≤ c ∧ ∀ k n, Ls[k]? = some n → ∃ gL, A = some ⟨gL, 0, none⟩ ∧ base ≤ gL ∧ ∀ j u, n.cells[j]? = some u → w.cell? ⟨gL, k * 7 + j, none⟩ = some u ∧ w.frozen? ⟨gL, k * 7 + j, none⟩ = false := by
  obtain ⟨A, c, rfl, hc, hA⟩ := ownK_form h.row
  refine ⟨A, c, rfl, hc, fun k n hk => ?_⟩
  obtain ⟨gL, rfl⟩ := hA (by have := (List.getElem?_eq_some_iff.1 hk).1; omega)
  have hb : base ≤ gL := by
    have h0 := flat_at cells_len Ls k 0 n (.int .i64 n.ino) hk rfl
    exact (ownK_cell h.row h0).2.2
  exact ⟨gL, rfl, hb, fun j u hj => by
    have h1 := ownK_cell h.row (flat_at cells_len Ls k j n u hk hj)
    exact ⟨h1.1, h1.2.1⟩⟩
theorem DSx.keep (h : DSx w base g Ls v S) {Ts : List TypeId} (hk : KeepC Ts w w') (h1 : 3 ∉ Ts) (h2 : 103 ∉ Ts) (h3 : 51 ∉ Ts) (h4 : 75 ∉ Ts) : DSx w' base g Ls v S :=
  ⟨h.lo, hk _ _ _ h4 h.cells, hk.rowP h3 h.row, fun n hn => (h.own n hn).keep hk h1 h2, h.eq⟩
theorem DSx.below (h : DSx w base g Ls v S) (hb : Below w.heap.size w w') : DSx w' base g Ls v S := h.keep (KeepC.of (Ts := []) hb) (by simp) (by simp) (by simp) (by simp)
theorem DSx.c0 (h : DSx w base g Ls v S) : w.cell? ⟨g, 0, none⟩ = some v := h.cells.cell 0
theorem DSx.c1 (h : DSx w base g Ls v S) : w.cell? ⟨g, 1, none⟩ = some (.int .i64 S.last) := h.cells.cell 1
def idxS (l : List Nod) (i : Int) : Nat := l.findIdx (fun n => decide (n.ino = i))
def atI (l : List Nod) (i : Int) : Int := if idxS l i < l.length then (idxS l i : Int) else -1
theorem idx_at {l : List Nod} {i : Int} {k : Nat} {n : Nod} (h0 : ∀ x ∈ l.take k, x.ino ≠ i) (hk : l[k]? = some n) (hn : n.ino = i) : idxS l i = k := by
  unfold idxS
  have hkl := (List.getElem?_eq_some_iff.1 hk).1
  have e : l = l.take k ++ l.drop k := (List.take_append_drop k l).symm
  rw [e, List.findIdx_append]
  have h1 : (l.take k).findIdx (fun n => decide (n.ino = i)) = (l.take k).length := List.findIdx_eq_length.2 fun x hx => by simpa using h0 x hx
  rw [h1, if_neg (by omega), List.drop_eq_getElem_cons hkl, List.findIdx_cons, List.length_take]
  have h2 : l[k] = n := (List.getElem?_eq_some_iff.1 hk).2
  rw [h2]
  simp [hn]
  omega
theorem idx_none {l : List Nod} {i : Int} (h0 : ∀ x ∈ l, x.ino ≠ i) : idxS l i = l.length := by
  unfold idxS
  exact List.findIdx_eq_length.2 fun x hx => by simpa using h0 x hx
theorem idx_some {l : List Nod} {i : Int} {n : Nod} (h : atS l i = some n) : idxS l i < l.length ∧ l[idxS l i]? = some n := by
  induction l with
  | nil => cases h
  | cons a l ih =>
    rw [atS_cons] at h
    unfold idxS
    rw [List.findIdx_cons]
    by_cases e : a.ino = i
    · rw [if_pos e] at h
      obtain rfl := Option.some.inj h
      simp [e]
    · rw [if_neg e] at h
      obtain ⟨h1, h2⟩ := ih h
      unfold idxS at h1 h2
      rw [show decide (a.ino = i) = false from decide_eq_false e]
      refine ⟨?_, ?_⟩
      · show List.findIdx (fun n => decide (n.ino = i)) l + 1 < (a :: l).length
        rw [List.length_cons]; omega
      · show (a :: l)[List.findIdx (fun n => decide (n.ino = i)) l + 1]? = some n
        rw [List.getElem?_cons_succ]; exact h2
theorem atI_some {l : List Nod} {i : Int} {n : Nod} (h : atS l i = some n) : atI l i = (idxS l i : Int) := by unfold atI; rw [if_pos (idx_some h).1]
theorem atI_none {l : List Nod} {i : Int} (h : atS l i = none) : atI l i = -1 := by unfold atI; rw [if_neg (by rw [idx_none (atS_none.1 h)]; omega)]
def AtRel (l : List Nod) (i : Int) (w : World) (x : Value) (wr : World) : Prop := ∃ k : Nat, k ≤ l.length ∧ x = .int .i64 k ∧ (∀ n ∈ l.take k, n.ino ≠ i) ∧ ∃ q os, wr = grow (w.drewN q) os
theorem rAt (h : DSx w base g Ls v S) (hlen : Ls.length ≤ 1000) (i : Int) : Calls Tryz.prog 99 #[SPtr g, .int .i64 i] w (Grows (.int .i64 (atI S.l i)) w) := by
  have H := Lib.hid h
  have HL := Lib.hid h.len
  obtain ⟨A, c, rfl, hc, _⟩ := h.form
  have c0 := h.c0
  clear h hc
  unfold SPtr
  go_enter Tryz.func99, Tryz.ntmps99
  go_wp2
  go_loopw [12] (fun x wr => AtRel S.l i w x wr) (fun x _ => Ls.length - (intOf x).toNat)
  case atStart => exact ⟨0, Nat.zero_le _, rfl, by simp, grow_none _⟩
  case round =>
    obtain ⟨k, hk, rfl, hno, hgr⟩ := hrel
    have HNO := Lib.hid hno; have HG := Lib.hid hgr
    have h2 := H.out.below (grown_b hgr)
    rw [HL.out] at hk
    by_cases hlt : k < Ls.length
    · obtain ⟨n, hn⟩ : ∃ n, Ls[k]? = some n := ⟨_, List.getElem?_eq_getElem hlt⟩
      have HN := Lib.hid (show S.l[k]? = some n.plain by rw [← H.out.eq, List.getElem?_map, hn]; rfl)
      obtain ⟨A', c', hv, _, hF⟩ := h2.form
      injection hv with hv1 hv2 hv3
      obtain ⟨gL, hA, _, hx⟩ := hF k n hn
      have hA2 : A = some ⟨gL, 0, none⟩ := hv1.trans hA
      subst hA2
      obtain ⟨j, ki, l, t, u, A0, ac, P, B, bc, N⟩ := n
      obtain ⟨off, hoff⟩ : ∃ off, k * 7 = off := ⟨_, rfl⟩
      rw [hoff] at hx
      have x0 := (hx 0 _ rfl).1; have x1 := (hx 1 _ rfl).1; have x2 := (hx 2 _ rfl).1; have x3 := (hx 3 _ rfl).1; have x4 := (hx 4 _ rfl).1; have x5 := (hx 5 _ rfl).1; have x6 := (hx 6 _ rfl).1
      have hlt2 : (k : Int) < (Ls.length : Int) := Int.ofNat_lt.2 hlt
      dsimp only at x0 x1 x2 x3 x4 x5 x6
      rw [← hoff] at x0 x1 x2 x3 x4 x5 x6
      rw [Nat.add_zero] at x0
      clear hno hgr h2 hn hv1 hv2 hv3 hA hF hx hoff
      by_cases e : j = i
      · have q0 : (j == i) = true := by simpa using e
        have HR := Lib.hid (show atI S.l i = (k : Int) by
          have h3 := idx_at HNO.out HN.out e
          unfold atI
          rw [h3, if_pos (by rw [HL.out]; exact hlt)])
        clear e
        go_wp2
        go_ret
        rw [HR.out]
        exact ⟨rfl, grow_alloc HG.out _⟩
      · have q0 : (j == i) = false := by simpa using e
        have HNX := Lib.hid (show ∀ x ∈ S.l.take (k + 1), x.ino ≠ i by
          rw [take_snocE HN.out]
          intro x hx
          rcases List.mem_append.1 hx with hx | hx
          · exact HNO.out x hx
          · rw [List.mem_singleton.1 hx]; exact e)
        have HKL := Lib.hid (show k + 1 ≤ S.l.length by rw [HL.out]; omega)
        clear e
        go_wp2
        go_roundw
        case rel => exact ⟨k + 1, HKL.out, by go_num, HNX.out, grow_alloc HG.out _⟩
        case measure => simp [intOf]; omega
    · obtain rfl : k = Ls.length := by omega
      have HR := Lib.hid (show atI S.l i = -1 by
        have h3 := HNO.out
        rw [← HL.out, List.take_length] at h3
        exact atI_none (atS_none.2 h3))
      clear hno hgr h2
      go_wp2
      go_ret
      rw [HR.out]
      exact ⟨rfl, HG.out⟩
end
end Go.Proofs.YtbejbiogabpmfaaGreat
