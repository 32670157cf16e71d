import Derived.Test.YtnijffgdapfgpaaPnOr
import Derived.Test.YtnijffgdapfgpaaEfAll
import Derived.Deep.DeepCutAuto
import Derived.Deep.RegionLaw
import Derived.StillTailTactics
import Derived.OwnWalk
import Derived.Deep.RegionHeld3
/-! PendDoes: its walk. -/
namespace Go.Proofs.Ytnijffgdapfgpaa
open Wd U Go.Maps Go.RowKit Go.ChangeShapes Go.WideShapes Go.Sort
set_option linter.unusedVariables false
set_option linter.unusedSimpArgs false
set_option maxRecDepth 100000
@[irreducible] def StpN (p : Prop) : Prop := p
theorem stpN {p : Prop} (h : StpN p) : p := by unfold StpN at h; exact h
theorem unstpN {p : Prop} (h : p) : StpN p := by unfold StpN; exact h
/-- between a round's deed and its questions -/
structure PdMid (W : World) (L bl j : Nat) (v g a : Value) (R : List (Eff × Int)) (gn a' : Nat) (wx : World) : Prop where
  g : g = .int .i64 gn
  a : a = .int .i64 a'
  gle : gn ≤ j
  ale : a' ≤ L
  rle : R.length ≤ a'
  p : PnAt wx W.heap.size bl ⟨R, gn⟩
  o : OffRow wx W.heap.size 32 9 v R.length (evs (efsOf R))
  b : Below W.heap.size W wx
def PdMidE (W : World) (L bl j : Nat) (v g a : Value) (wx : World) : Prop := ∃ R gn a', PdMid W L bl j v g a R gn a' wx
def PdRel (W : World) (L bl K : Nat) (v g a i : Value) (wr : World) : Prop := ∃ (j : Nat) (R : List (Eff × Int)) (gn a' : Nat), j ≤ K ∧ i = .int .i64 j ∧ PdMid W L bl j v g a R gn a' wr
theorem efs_at {w : World} {B : Nat} {A : Option Addr} {c n : Nat} {l : List (Eff × Int)} (h : OffRow w B 32 9 (.slice A n c) n (evs (efsOf l))) (hn : l.length = n) {k : Nat} {x : Eff × Int} (hk : l[k]? = some x) :
    ∃ q off cur, A = some ⟨q, off, none⟩ ∧ B ≤ q ∧ Cells w q 32 cur ∧ ∀ (j : Nat) (u : Value), x.1.vals[j]? = some u → w.cell? ⟨q, off + (k * 9 + j), none⟩ = some u := by
  have hkl := (List.getElem?_eq_some_iff.1 hk).1
  rcases h.2 with ⟨h1, h2⟩ | ⟨q, off, cap, cur, h1, hB, hh, h2, h3, h4, h5⟩
  · omega
  · injection h1 with h1 _ h6
    exact ⟨q, off, cur, h1, hB, hh, fun j u hj => by rw [hh.cell]; exact h5 _ u (evs_at (efsOf l) k j x.1 u (by unfold efsOf; rw [List.getElem?_map, hk]; rfl) hj)⟩
theorem slice_efs {w : World} {B n : Nat} {v : Value} {xs : List Value} (h : OffRow w B 32 9 v (n + 1) xs) :
    ∃ A c, (∀ W : World, (Instr.slice 22 v (some (.int .i64 1)) none none).run Try.prog W = .ok (.slice A n c) W) ∧ OffRow w B 32 9 (.slice A n c) n (xs.drop 9) := by
  obtain ⟨i, i1, i2, i3, i4⟩ := info_parts infoEf
  obtain ⟨A, c, h1, h2, _⟩ := run_slice_off (P := Try.prog) elemEf Try.underlying22 i1 i3 h
  exact ⟨A, c, h1, h2⟩
theorem efsOf_cons (x : Eff × Int) (l : List (Eff × Int)) : efsOf (x :: l) = x.1 :: efsOf l := rfl
theorem efsOf_snoc (l : List (Eff × Int)) (x : Eff × Int) : efsOf (l ++ [x]) = efsOf l ++ [x.1] := by unfold efsOf; simp
theorem efsOf_len (l : List (Eff × Int)) : (efsOf l).length = l.length := by unfold efsOf; simp
theorem lastN_le {n : Int} {l : List (Eff × Int)} : ∀ k, k ≤ l.length → lastN n (l.take k) ≤ k := by
  intro k
  induction k with
  | zero => intro _; rw [List.take_zero]; exact Nat.le_refl _
  | succ k ih =>
    intro hk
    rw [lastN_snoc (List.getElem?_eq_getElem hk)]
    have := ih (by omega)
    split <;> omega
theorem pd_w1 {a L : Nat} (h : a < L) (hL : L ≤ 30) : wrap64 ((a : Int) + 7) = (a : Int) + 7 ∧ wrap64 ((a : Int) + 1) = (a : Int) + 1 ∧ i64R ((a : Int) + 7) := by unfold wrap64 i64R; omega
theorem pd_w2 {g j K N a L : Nat} (hg : g ≤ j) (hj : j < K) (hK : ¬ 60 < K) (hN : N ≤ a) (ha : a ≤ L) (hL : L ≤ 30) : wrap64 ((g : Int) + (N : Int)) = (g : Int) + (N : Int) ∧ wrap64 ((g : Int) + (N : Int) + 1) = (g : Int) + (N : Int) + 1 ∧ wrap64 ((g : Int) + 1) = (g : Int) + 1 ∧ g < 1000000 ∧ N < 1000 ∧ g ≤ j + 1 := by unfold wrap64; omega
theorem pd_w3 {g j K N a L : Nat} (hg : g ≤ j) (hj : j < K) (hK : ¬ 60 < K) (hN : N ≤ a) (ha : a ≤ L) (hL : L ≤ 30) : g < 1000000 ∧ g ≤ j + 1 := by omega
theorem pd_w4 {g j K N a L : Nat} (hg : g ≤ j + 1) (hj : j < K) (hK : ¬ 60 < K) (hN : N ≤ a) (ha : a ≤ L) (hL : L ≤ 30) : g ≤ 1000000 ∧ N ≤ 1000 ∧ g < 1000000 ∧ N < 1000000 := by omega
theorem pd_wrap {g : Nat} (h : g < 1000000) : IntKind.i64.wrap (g : Int) = (g : Int) ∧ IntKind.i64.wrap ((g : Int) + 1) = (g : Int) + 1 := by
  constructor <;> (rw [IntKind.wrap_i64]; omega)
theorem pd_wrap2 {g M : Nat} (h : g < 1000000) (h2 : M < 1000000) : IntKind.i64.wrap ((g : Int) + (M : Int)) = (g : Int) + (M : Int) ∧ IntKind.i64.wrap ((g : Int) + (M : Int) + 1) = (g : Int) + (M : Int) + 1 := by
  constructor <;> (rw [IntKind.wrap_i64]; omega)
theorem pd_n {N l : Nat} (h : l + 1 = N) : (0 : Int) < (N : Int) ∧ decide ((N : Int) > 0) = true ∧ decide (0 < N) = true ∧ 0 < N := ⟨by omega, decide_eq_true (by omega), decide_eq_true (by omega), by omega⟩
def PdLast (n : Int) (w : World) (R : List (Eff × Int)) (gn : Nat) (last i : Value) (wr : World) : Prop := ∃ k : Nat, k ≤ R.length ∧ i = .int .i64 k ∧ last = .int .i64 ((gn + lastN n (R.take k) : Nat) : Int) ∧ Below w.heap.size w wr
set_option maxHeartbeats 40000000 in
theorem lPend {W : World} {A A2 : Option Addr} {c c2 : Nat} {es : List Eff} {ps : List Bool} (h : Effs W W.heap.size A es) (hm : es.length ≤ maxLen) (h2 : Row W W.heap.size A2 ps.length (ps.map Value.bool)) (hm2 : ps.length ≤ maxLen) (ino : Int) :
    Calls Try.prog 3 #[.slice A es.length c, .slice A2 ps.length c2, .int .i64 ino] W (TrueB W) := by
  have KA := Lib.hid (pAwake W)
  have H := Lib.hid h; have HM := Lib.hid hm; have HP := Lib.hid h2
  clear h hm h2 hm2
  go_enter Try.func3, Try.ntmps3
  go_wp2_with fail
  refine KA.out.mono ?_
  rintro e w1 ⟨rfl, b1⟩
  have B1 := Lib.hid b1
  have KF := Lib.hid (few_any (c := c) ((H.out.below b1).more b1.size) HM.out)
  clear b1 KA
  by_cases hf : fewE es = true
  case neg =>
    have hf2 : fewE es = false := by cases hh : fewE es <;> simp_all
    rw [hf2] at KF
    clear hf
    go_wp2_with fail
    refine KF.out.mono ?_
    rintro e w2 ⟨rfl, b2⟩
    have B2 := Lib.hid (B1.out.trans (b2.mono B1.out.size))
    go_wp2
    go_ret
    exact ⟨rfl, B2.out⟩
  rw [hf] at KF
  obtain ⟨hall, hl30⟩ := fewE_iff.1 hf
  have HALL := Lib.hid hall
  clear hall hf
  by_cases hp60 : 60 < ps.length
  · have hq : (60 : Int) < (ps.length : Int) := by omega
    go_wp2_with fail
    refine KF.out.mono ?_
    rintro e w2 ⟨rfl, b2⟩
    have B2 := Lib.hid (B1.out.trans (b2.mono B1.out.size))
    go_wp2
    go_ret
    exact ⟨rfl, B2.out⟩
  have hq : ¬ ((60 : Int) < (ps.length : Int)) := by omega
  have hq1 : decide ((ps.length : Int) > 60) = false := decide_eq_false (by omega)
  have hq2 : decide (60 < ps.length) = false := decide_eq_false (by omega)
  obtain ⟨K, hK⟩ : ∃ K, ps.length = K := ⟨_, rfl⟩
  obtain ⟨L, hL⟩ : ∃ L, es.length = L := ⟨_, rfl⟩
  rw [hK] at hp60 hq hq1 hq2 ⊢
  rw [hL] at KF hl30 ⊢
  have HK := Lib.hid hK; have HL := Lib.hid hL
  clear hK hL
  go_wp2_with fail
  refine KF.out.mono ?_
  rintro e w2 ⟨rfl, b2⟩
  have b12 := B1.out.trans (b2.mono B1.out.size)
  have B2 := Lib.hid b12
  obtain ⟨bl, hbl⟩ : ∃ bl, w2.heap.size = bl := ⟨_, rfl⟩
  obtain ⟨w3, hw3⟩ : ∃ w3, w2.alloc (.cells #[.slice none 0 0, .int .i64 0] 29) = w3 := ⟨_, rfl⟩
  have hp0 : PnAt w3 W.heap.size bl ⟨[], 0⟩ := by rw [← hw3, ← hbl]; exact PnAt.new w2 b12.size
  have b3 : Below W.heap.size W w3 := by rw [← hw3]; exact b12.alloc b12.size _
  have HP0 := Lib.hid hp0; have B3 := Lib.hid b3
  clear b2 b12 hp0 b3 KF
  go_wp2
  clear hw3
  go_loopw [8, 9, 10, 34] (fun v g a i wr => PdRel W L bl K v g a i wr) (fun _ _ _ i _ => K - (intOf i).toNat)
  case atStart => exact ⟨0, [], 0, 0, Nat.zero_le _, rfl, ⟨rfl, rfl, Nat.le_refl _, Nat.zero_le _, Nat.le_refl _, HP0.out, OffRow.nil _ _ _ _, B3.out⟩⟩
  case round =>
    obtain ⟨j, R, gn, at0, hj, rfl, hmid⟩ := hrel
    have hg := hmid.g; have ha := hmid.a
    subst hg ha
    obtain ⟨AV, cV, hv, hcv, hcm⟩ := hmid.o.shape
    clear hcm
    subst hv
    by_cases hlt : j < K
    case neg =>
      obtain rfl : j = K := by omega
      have HB := Lib.hid hmid.b
      clear hmid
      go_wp2
      go_ret
      exact ⟨rfl, HB.out⟩
    obtain ⟨bp, hbp⟩ : ∃ x, ps[j]? = some x := ⟨_, List.getElem?_eq_getElem (by rw [HK.out]; exact hlt)⟩
    have hprow := HP.out.below hmid.b
    rw [HK.out] at hprow
    obtain ⟨pb, po, rfl, hpB, hpc⟩ := hprow.2 (by omega)
    have hpj : wr.cell? ⟨pb, po + j, none⟩ = some (.bool bp) := by
      have hjl : j < (ps.map Value.bool).length := by rw [List.length_map, HK.out]; exact hlt
      rw [hpc j hjl]
      have : (ps.map Value.bool)[j]? = some (.bool bp) := by rw [List.getElem?_map, hbp]; rfl
      rw [List.getElem?_eq_getElem hjl] at this
      exact this
    have hlt2 : (j : Int) < (K : Int) := Int.ofNat_lt.2 hlt
    have HMID := Lib.hid hmid
    have hgl := hmid.gle; have hal := hmid.ale; have hrl := hmid.rle
    obtain ⟨N, hN⟩ : ∃ N, R.length = N := ⟨_, rfl⟩
    rw [hN] at hcv hrl ⊢
    have ho := hmid.o
    rw [hN] at ho
    have HO := Lib.hid ho
    have HN := Lib.hid hN
    clear ho hN hprow hpc hbp hmid
    go_upto_if 38 with fail
    go_cut [8, 9, 10, 13] from 39 to 154 (fun v g a _ wx => PdMidE W L bl (j + 1) v g a wx)
    case first =>
      by_cases hbt : bp = true
      · subst hbt
        cases R with
        | nil =>
          have hN0 : N = 0 := HN.out.symm
          subst hN0
          have KP := Lib.hid (pnPop_none HMID.out.p rfl)
          unfold PPtr at *
          go_wp2_with fail
          refine KP.out.mono ?_
          rintro e _ ⟨rfl, rfl⟩
          go_wp2
          go_meet
          exact ⟨[], gn, at0, rfl, rfl, by omega, hal, by simp, HMID.out.p, HMID.out.o, HMID.out.b⟩
        | cons x l =>
          have hN0 : l.length + 1 = N := HN.out
          have KP := Lib.hid (pnPop HMID.out.p rfl (pd_w2 hgl hlt hp60 hrl hal hl30).2.2.2.1)
          obtain ⟨A3, c3, hsl, ho3⟩ := slice_efs HMID.out.o
          rw [efsOf_cons, evs_drop] at ho3
          obtain ⟨hNp, hNp2, hNp3, hNp4⟩ := pd_n hN0
          obtain ⟨hgb, hgj⟩ := pd_w3 hgl hlt hp60 hrl hal hl30
          have HO3 := Lib.hid ho3
          have HN0 := Lib.hid hN0
          rw [show (x :: l).length = N from hN0] at hsl
          obtain ⟨L3, hL3⟩ : ∃ L3, l.length = L3 := ⟨_, rfl⟩
          rw [hL3] at hsl
          have HL3 := Lib.hid hL3
          clear hL3 ho3 hN0
          unfold PPtr at *
          go_wp2_with fail
          refine KP.out.mono ?_
          rintro e w5 ⟨rfl, hp5, hk5⟩
          have HP5 := Lib.hid hp5; have HK5 := Lib.hid hk5
          clear hp5 hk5 KP
          go_wp2
          go_meet
          refine ⟨l, gn + 1, at0, rfl, rfl, Nat.succ_le_succ hgl, hal, Nat.le_trans (Nat.le_of_succ_le (Nat.le_of_eq HN0.out)) hrl, HP5.out, ?_, HMID.out.b.trans HK5.out.below⟩
          have := HK5.out.off HO3.out (by decide) (by decide)
          rw [HL3.out] at this ⊢
          exact this
      · have hbf : bp = false := (Bool.not_eq_true bp).mp hbt
        subst hbf
        clear hbt
        by_cases hat : at0 < L
        · obtain ⟨e, he⟩ : ∃ e, es[at0]? = some e := ⟨_, List.getElem?_eq_getElem (by rw [HL.out]; exact hat)⟩
          obtain ⟨q, off, rfl, hqB, x0, x1, x2, x3, x4, x5, x6, x7, x8⟩ := effs_cells (H.out.below HMID.out.b) he
          have hbare := Eff.bare_of ((H.out.below HMID.out.b).ok e (List.mem_of_getElem? he)) (HALL.out e (List.mem_of_getElem? he))
          obtain ⟨kind, ino', dir, dst, page, size, name, other, EA, ecp, data⟩ := e
          have hat2 : (at0 : Int) < (L : Int) := Int.ofNat_lt.2 hat
          have HID7 := Lib.hid (pd_w1 hat hl30).2.2
          have HN1000 := Lib.hid (pd_w2 hgl hlt hp60 hrl hal hl30).2.2.2.2.1
          obtain ⟨hgb, hgj⟩ := pd_w3 hgl hlt hp60 hrl hal hl30
          have hN3 : N < 1000000 := Nat.lt_of_lt_of_le HN1000.out (by decide)
          have hat3 : at0 < 1000000 := Nat.lt_of_lt_of_le hat (Nat.le_trans hl30 (by decide))
          have HBA := Lib.hid hbare; have HQ := Lib.hid hqB
          clear hbare he hqB
          dsimp only at x0 x1 x2 x3 x4 x5 x6 x7 x8
          go_upto_region 19 with fail
          obtain ⟨w4, hw4'⟩ : ∃ w4, wr.alloc (.cells (effCells ⟨kind, ino', dir, dst, page, size, name, other, EA, ecp, data⟩) 32) = w4 := ⟨_, rfl⟩
          have b4 : Below wr.heap.size wr w4 := by rw [← hw4']; exact (Below.refl _ _).alloc (Nat.le_refl _) _
          have c4 : Cells w4 wr.heap.size 32 (effCells ⟨kind, ino', dir, dst, page, size, name, other, EA, ecp, data⟩) := by rw [← hw4']; exact Cells.new _ _ _
          have KD := Lib.hid (pnAdd (HMID.out.p.below b4) ⟨kind, ino', dir, dst, page, size, name, other, EA, ecp, data⟩ ((at0 : Int) + 7) HBA.out HID7.out (by show R.length < 1000; rw [HN.out]; exact HN1000.out) (Nat.le_trans HMID.out.b.size b4.size))
          unfold effCells at hw4' c4
          dsimp only at hw4' c4
          rw [hw4']
          have d0 := c4.cell 0; have d1 := c4.cell 1; have d2 := c4.cell 2; have d3 := c4.cell 3; have d4 := c4.cell 4; have d5 := c4.cell 5; have d6 := c4.cell 6; have d7 := c4.cell 7; have d8 := c4.cell 8
          simp at d0 d1 d2 d3 d4 d5 d6 d7 d8
          unfold Eff.val PPtr at KD
          dsimp only at KD
          rw [HN.out] at KD
          have C4 := Lib.hid c4; have B4 := Lib.hid b4
          have hcast : ((gn + N + 1 : Nat) : Int) = (gn : Int) + (N : Int) + 1 := rfl
          rw [hcast] at KD
          clear hcast c4 b4 hw4' x0 x1 x2 x3 x4 x5 x6 x7 x8
          go_upto_region 19 with fail
          go_wp2_with (go_at_call 8; refine KD.out.mono ?_; rintro e5 w5 ⟨rfl, hp5, hk5⟩; refine stpN ?_)
          have HP5 := Lib.hid hp5; have HK5 := Lib.hid hk5
          have c5 := hk5.cells C4.out (by decide) (by decide)
          have C5 := Lib.hid c5
          have d8 : w5.cell? ⟨wr.heap.size, 8, none⟩ = some (.slice EA data.length ecp) := by rw [c5.cell]; rfl
          have f8 := c5.free 8
          clear c5 hp5 hk5 KD d0 d1 d2 d3 d4 d5 d6 d7
          refine unstpN ?_
          go_upto_region 22 with fail
          obtain ⟨w6, hw6⟩ : ∃ w6, w5.setCell ⟨wr.heap.size, 8, none⟩ (.slice none 0 0) = w6 := ⟨_, rfl⟩
          rw [hw6]
          have c6 : Cells w6 wr.heap.size 32 #[.int .i64 kind, .int .i64 ino', .int .i64 dir, .int .i64 dst, .int .i64 page, .int .i64 size, .string name, .string other, .slice none 0 0] := by rw [← hw6]; exact C5.out.set 8 (.slice none 0 0)
          have b6 : Below W.heap.size W w6 := by rw [← hw6]; exact ((HMID.out.b.trans (B4.out.mono HMID.out.b.size)).trans HK5.out.below).setCell (p := ⟨wr.heap.size, 8, none⟩) HMID.out.b.size _
          have hp6 : PnAt w6 W.heap.size bl ⟨R ++ [(Eff.bare ⟨kind, ino', dir, dst, page, size, name, other, EA, ecp, data⟩, (at0 : Int) + 7)], gn⟩ := by rw [← hw6]; exact HP5.out.far C5.out (by decide) (by decide) _
          have ho6 : OffRow w6 W.heap.size 32 9 (.slice AV N cV) N (evs (efsOf R)) := by
            have o1 := HK5.out.off (HO.out.below B4.out) (by decide) (by decide)
            have o2 : OffRow w6 W.heap.size 32 9 (.slice AV N cV) N (evs (efsOf R)) := by
              rw [← hw6]
              refine ⟨o1.1, ?_⟩
              rcases o1.2 with o | ⟨q', off', cap', cur', hv', hB', hh', r'⟩
              · exact .inl o
              · refine .inr ⟨q', off', cap', cur', hv', hB', hh'.far (p := ⟨wr.heap.size, 8, none⟩) ?_ _, r'⟩
                rcases HO.out.2 with ⟨o, _⟩ | ⟨q2, off2, cap2, cur2, hv2, hB2, hh2, _⟩
                · rw [o] at hv'; cases hv'
                · rw [hv2] at hv'
                  injection hv' with hv'
                  injection hv' with hv'
                  injection hv' with hv' _
                  rw [← hv']
                  exact Nat.ne_of_lt hh2.lt
            exact o2
          have d0 := c6.cell 0; have d1 := c6.cell 1; have d2 := c6.cell 2; have d3 := c6.cell 3; have d4 := c6.cell 4; have d5 := c6.cell 5; have d6 := c6.cell 6; have d7 := c6.cell 7; have d8' := c6.cell 8
          simp at d0 d1 d2 d3 d4 d5 d6 d7 d8'
          have b7 : Below w6.heap.size w6 (w6.alloc (.cells #[.int .i64 kind, .int .i64 ino', .int .i64 dir, .int .i64 dst, .int .i64 page, .int .i64 size, .string name, .string other, .slice none 0 0] 32)) := (Below.refl _ _).alloc (Nat.le_refl _) _
          have HO7 := Lib.hid (ho6.below b7); have HP7 := Lib.hid (hp6.below b7); have HB7 := Lib.hid (b6.trans (b7.mono b6.size))
          have HN7 := Lib.hid (show Cells (w6.alloc (.cells #[.int .i64 kind, .int .i64 ino', .int .i64 dir, .int .i64 dst, .int .i64 page, .int .i64 size, .string name, .string other, .slice none 0 0] 32)) w6.heap.size 32 (Eff.vals (Eff.bare ⟨kind, ino', dir, dst, page, size, name, other, EA, ecp, data⟩)).toArray from Cells.new _ _ _)
          clear d8 f8 hw6 c6 b6 hp6 ho6 b7
          go_wp2_with (refine wpList_append_off rfl (.tmp 72) (.tmp 74) 22 rfl 32 _ 9 104 Try.underlying22 infoEf rfl (by decide) rfl HO7.out _ (Eff.vals (Eff.bare ⟨kind, ino', dir, dst, page, size, name, other, EA, ecp, data⟩)) rfl rfl HN7.out (oneEf _) (Nat.le_trans (Nat.le_of_lt HN1000.out) (by decide)) (by decide) HB7.out.size ?_; intro v5 w8 ho8 hk8; obtain ⟨A5, c5, rfl, _, _⟩ := ho8.shape; have HO8 := Lib.hid ho8; have HK8 := Lib.hid hk8; clear ho8 hk8)
          go_meet
          refine ⟨R ++ [(Eff.bare ⟨kind, ino', dir, dst, page, size, name, other, EA, ecp, data⟩, (at0 : Int) + 7)], gn, at0 + 1, rfl, rfl, hgj, hat, by rw [List.length_append, HN.out]; exact Nat.succ_le_succ hrl, HP7.out.other HK8.out (by decide) (by decide), ?_, HB7.out.trans HK8.out.below⟩
          rw [efsOf_snoc, evs_snoc, List.length_append, HN.out]
          exact HO8.out
        · have hat2 : ¬ (at0 : Int) < (L : Int) := by omega
          go_wp2
          go_meet
          exact ⟨R, gn, at0, rfl, rfl, by omega, hal, by rw [HN.out]; exact hrl, HMID.out.p, by rw [HN.out]; exact HO.out, HMID.out.b⟩
    case rest =>
      obtain ⟨R1, gn1, at1, hm1⟩ := hcut
      have hg := hm1.g; have ha := hm1.a
      subst hg ha
      obtain ⟨A1, d1, hv, hc1, hcm⟩ := hm1.o.shape
      clear hcm
      subst hv
      have hgl1 := hm1.gle; have hal1 := hm1.ale; have hrl1 := hm1.rle
      obtain ⟨M, hM⟩ : ∃ M, R1.length = M := ⟨_, rfl⟩
      have HM1 := Lib.hid hm1; have HMM := Lib.hid hM
      rw [hM] at hc1 hrl1 ⊢
      clear hm1 hM
      have hgM := pd_w4 hgl1 hlt hp60 hrl1 hal1 hl30
      have hM1000 : M ≤ 1000 := hgM.2.1
      have hg1000 : gn1 ≤ 1000000 := hgM.1
      have hgb1 : gn1 < 1000000 := hgM.2.2.1
      have hMb1 : M < 1000000 := hgM.2.2.2
      clear hgM
      go_wp2
      go_loopw [14, 81] (fun last i wx => PdLast ino wc R1 gn1 last i wx) (fun _ i _ => M - (intOf i).toNat)
      case atStart => exact ⟨0, Nat.zero_le _, rfl, rfl, Below.refl _ _⟩
      case round =>
        obtain ⟨k, hk, rfl, rfl, hb⟩ := hrel
        rw [HMM.out] at hk
        have HB2 := Lib.hid hb
        by_cases hkM : k < M
        · obtain ⟨x, hx⟩ : ∃ x, R1[k]? = some x := ⟨_, List.getElem?_eq_getElem (by rw [HMM.out]; exact hkM)⟩
          have ho1 := HM1.out.o
          rw [HMM.out] at ho1
          obtain ⟨q, off, cur, hA, hqB, hcur, hxx⟩ := efs_at ho1 HMM.out hx
          subst hA
          have hcell : ∀ (i : Nat) (u : Value), x.1.vals[i]? = some u → wr.cell? ⟨q, off + (k * 9 + i), none⟩ = some u := fun i u hi => (hb.cell (p := ⟨q, off + (k * 9 + i), none⟩) hcur.lt).trans (hxx i u hi)
          have x0 := hcell 0 _ rfl; have x1 := hcell 1 _ rfl; have x2 := hcell 2 _ rfl; have x3 := hcell 3 _ rfl; have x4 := hcell 4 _ rfl; have x5 := hcell 5 _ rfl; have x6 := hcell 6 _ rfl; have x7 := hcell 7 _ rfl; have x8 := hcell 8 _ rfl
          simp only [Nat.add_zero, ← Nat.add_assoc] at x0 x1 x2 x3 x4 x5 x6 x7 x8
          obtain ⟨e, p⟩ := x
          dsimp only at x0 x1 x2 x3 x4 x5 x6 x7 x8
          have hkM2 : (k : Int) < (M : Int) := Int.ofNat_lt.2 hkM
          have HX := Lib.hid hx
          have hk3 : k < 1000000 := Nat.lt_trans hkM hMb1
          obtain ⟨LN, hLN⟩ : ∃ LN, lastN ino (R1.take k) = LN := ⟨_, rfl⟩
          rw [hLN]
          have HLN := Lib.hid hLN
          clear hx ho1 hxx hcell hb hcur hqB hLN
          by_cases hi : e.ino = ino
          · have HI := Lib.hid hi
            have hi2 : (e.ino == ino) = true := by rw [hi]; exact beq_self_eq_true _
            clear hi
            go_wp2
            go_roundw
            case rel =>
              refine ⟨k + 1, by rw [HMM.out]; exact hkM, by go_num, ?_, HB2.out.alloc HB2.out.size _⟩
              rw [lastN_snoc HX.out, if_pos HI.out]
              rfl
            case measure => simp [intOf]; omega
          · have HI := Lib.hid hi
            have hi2 : (e.ino == ino) = false := beq_eq_false_iff_ne.2 hi
            clear hi
            go_wp2
            go_roundw
            case rel =>
              refine ⟨k + 1, by rw [HMM.out]; exact hkM, by go_num, ?_, HB2.out.alloc HB2.out.size _⟩
              rw [lastN_snoc HX.out, if_neg HI.out, HLN.out]
            case measure => simp [intOf]; omega
        have hMk : M = k := Nat.le_antisymm (Nat.le_of_not_lt hkM) hk
        subst hMk
        have htk : R1.take M = R1 := List.take_of_length_le (by rw [HMM.out]; exact Nat.le_refl _)
        rw [htk]
        clear htk hkM hk hb
        obtain ⟨LN, hLN⟩ : ∃ LN, lastN ino R1 = LN := ⟨_, rfl⟩
        rw [hLN]
        have HLN := Lib.hid hLN
        clear hLN
        cases R1 with
        | nil =>
          have hM0 : 0 = M := HMM.out
          subst hM0
          have KH := Lib.hid (pnHead_none (HM1.out.p.below HB2.out) rfl)
          unfold zeffV PPtr at *
          go_wp2_with fail
          refine KH.out.mono ?_
          rintro e5 w5 ⟨rfl, h5⟩
          clear KH
          go_upto_region 32 with fail
          obtain ⟨w6, hw6⟩ : ∃ w6, w5.alloc (.cells #[.int .i64 0, .int .i64 0, .int .i64 0, .int .i64 0, .int .i64 0, .int .i64 0, .string ⟨#[]⟩, .string ⟨#[]⟩, .slice none 0 0] 32) = w6 := ⟨_, rfl⟩
          have c6 : Cells w6 w5.heap.size 32 #[.int .i64 0, .int .i64 0, .int .i64 0, .int .i64 0, .int .i64 0, .int .i64 0, .string ⟨#[]⟩, .string ⟨#[]⟩, .slice none 0 0] := by rw [← hw6]; exact Cells.new _ _ _
          have b56 : Below w5.heap.size w5 w6 := by rw [← hw6]; exact (Below.refl _ _).alloc (Nat.le_refl _) _
          rw [hw6]
          have b6 : Below wc.heap.size wc w6 := HB2.out.trans ((h5.trans (b56.mono h5.size)).mono HB2.out.size)
          have B6 := Lib.hid b6
          have p6 := HM1.out.p.below b6
          have o6 := HM1.out.o.below b6
          have P6 := Lib.hid p6; have OO6 := Lib.hid o6
          obtain ⟨AL, cL, hcL, _⟩ := p6.open_
          simp only [HMM.out] at hcL
          have HLen := Lib.hid (fun (w' : World) (b : Below w6.heap.size w6 w') => pnLen (hcL.below' b))
          have HGone := Lib.hid (fun (w' : World) (b : Below w6.heap.size w6 w') => pnGone (hcL.below' b))
          have HNext := Lib.hid (fun (w' : World) (b : Below w6.heap.size w6 w') => pnNext (hcL.below' b) hM1000 hg1000)
          have HLast := Lib.hid (fun (w' : World) (b : Below w6.heap.size w6 w') => pnLast (p6.below b) ino)
          have HAll := Lib.hid (fun (w' : World) (b : Below w6.heap.size w6 w') => pnRows (p6.below b))
          have HEFS := Lib.hid (show Effs w6 w6.heap.size A1 (efsOf []) from effs_of_off (l := efsOf []) o6 (fun e he => by simp [efsOf] at he))
          have HSameAll := Lib.hid (fun (w' : World) (b : Below w6.heap.size w6 w') (A6 : Option Addr) (c6 : Nat) (hx : Effs w' w'.heap.size A6 (efsOf ([] : List (Eff × Int)))) => sameAll_eq (efsOf ([] : List (Eff × Int))) (efsOf ([] : List (Eff × Int))) 0 (by rw [efsOf_len]; exact HMM.out) (by rw [efsOf_len]; exact HMM.out) hM1000 (fun j a b ha hb => by rw [ha] at hb; rw [Option.some.inj hb]; exact sameB_self b) A6 A1 c6 d1 w' hx ((HEFS.out.below b).more b.size))
          rw [show ([] : List (Eff × Int)).length = 0 from HMM.out] at HAll
          unfold PPtr at HLen HGone HNext HLast HAll
          have hnx : ((gn1 + 0 + 1 : Nat) : Int) = (gn1 : Int) + 1 := rfl
          rw [hnx] at HNext
          clear hnx
          rw [HLN.out] at HLast
          have hlx : ((gn1 + LN : Nat) : Int) = (gn1 : Int) + (LN : Int) := rfl
          rw [hlx] at HLast
          clear hlx
          have S9 := Lib.hid (fun (w' : World) (_ : Below w6.heap.size w6 w') => True.intro)
          have b0 : Below w6.heap.size w6 w6.drew := below_drewN (Below.refl _ _) 1
          clear hw6 c6 b56 b6 p6 o6 hcL h5
          obtain ⟨hwg0, hwg1⟩ := pd_wrap hgb1
          refine wp_region_any (by kernel_rfl) ?_
          change wpAny _ _ _ _ _ _ _ (World.drew _)
          refine wpAny_take (i := 0) (v := ?v0) (by simp only [List.getElem?_toArray, List.getElem?_cons_succ, List.getElem?_cons_zero]; rfl) (by kernel_rfl) (by kernel_rfl) (by kernel_rfl) (by exact fun _ _ _ h => h) (.inl ⟨by rfl, fun _ => ?hy0⟩) ?_
          case hy0 => (go_simp; try with_reducible rfl)
          try simp only [Act.put, List.setIfInBounds_toArray, List.set_cons_zero, List.set_cons_succ]
          refine wpAny_take (i := 1) (v := ?v1) (by simp only [List.getElem?_toArray, List.getElem?_cons_succ, List.getElem?_cons_zero]; rfl) (by kernel_rfl) (by kernel_rfl) (by kernel_rfl) (by exact fun _ _ _ h => h) (.inl ⟨by rfl, fun _ => ?hy1⟩) ?_
          case hy1 => (go_simp; try with_reducible rfl)
          try simp only [Act.put, List.setIfInBounds_toArray, List.set_cons_zero, List.set_cons_succ]
          refine wpAny_take (i := 2) (v := ?v2) (by simp only [List.getElem?_toArray, List.getElem?_cons_succ, List.getElem?_cons_zero]; rfl) (by kernel_rfl) (by kernel_rfl) (by kernel_rfl) (by exact fun _ _ _ h => h) (.inl ⟨by rfl, fun _ => ?hy2⟩) ?_
          case hy2 => (go_simp; try with_reducible rfl)
          try simp only [Act.put, List.setIfInBounds_toArray, List.set_cons_zero, List.set_cons_succ]
          refine wpAny_take (i := 3) (v := ?v3) (by simp only [List.getElem?_toArray, List.getElem?_cons_succ, List.getElem?_cons_zero]; rfl) (by kernel_rfl) (by kernel_rfl) (by kernel_rfl) (by exact fun _ _ _ h => h) (.inl ⟨by rfl, fun _ => ?hy3⟩) ?_
          case hy3 => (go_simp; try with_reducible rfl)
          try simp only [Act.put, List.setIfInBounds_toArray, List.set_cons_zero, List.set_cons_succ]
          refine wpAny_take (i := 4) (v := ?v4) (by simp only [List.getElem?_toArray, List.getElem?_cons_succ, List.getElem?_cons_zero]; rfl) (by kernel_rfl) (by kernel_rfl) (by kernel_rfl) (by exact fun _ _ _ h => h) (.inl ⟨by rfl, fun _ => ?hy4⟩) ?_
          case hy4 => (go_simp; try with_reducible rfl)
          try simp only [Act.put, List.setIfInBounds_toArray, List.set_cons_zero, List.set_cons_succ]
          refine wpAny_take (i := 5) (v := ?v5) (by simp only [List.getElem?_toArray, List.getElem?_cons_succ, List.getElem?_cons_zero]; rfl) (by kernel_rfl) (by kernel_rfl) (by kernel_rfl) (by exact fun _ _ _ h => h) (.inl ⟨by rfl, fun _ => ?hy5⟩) ?_
          case hy5 => (go_simp; try with_reducible rfl)
          try simp only [Act.put, List.setIfInBounds_toArray, List.set_cons_zero, List.set_cons_succ]
          refine wpAny_take (i := 6) (v := ?v6) (by simp only [List.getElem?_toArray, List.getElem?_cons_succ, List.getElem?_cons_zero]; rfl) (by kernel_rfl) (by kernel_rfl) (by kernel_rfl) (by exact fun _ _ _ h => h) (.inl ⟨by rfl, fun _ => ?hy6⟩) ?_
          case hy6 => (go_simp; try with_reducible rfl)
          try simp only [Act.put, List.setIfInBounds_toArray, List.set_cons_zero, List.set_cons_succ]
          refine wpAny_take (i := 7) (v := ?v7) (by simp only [List.getElem?_toArray, List.getElem?_cons_succ, List.getElem?_cons_zero]; rfl) (by kernel_rfl) (by kernel_rfl) (by kernel_rfl) (by exact fun _ _ _ h => h) (.inl ⟨by rfl, fun _ => ?hy7⟩) ?_
          case hy7 => (go_simp; try with_reducible rfl)
          try simp only [Act.put, List.setIfInBounds_toArray, List.set_cons_zero, List.set_cons_succ]
          refine wpAny_take (i := 8) (v := undef) (by simp only [List.getElem?_toArray, List.getElem?_cons_succ, List.getElem?_cons_zero]; rfl) (by kernel_rfl) (by kernel_rfl) (by kernel_rfl) (by exact fun _ _ _ h => h) (.inr ⟨by rfl, rfl⟩) ?_
          try simp only [Act.put, List.setIfInBounds_toArray, List.set_cons_zero, List.set_cons_succ]
          refine wpAny_take (i := 9) (v := undef) (by simp only [List.getElem?_toArray, List.getElem?_cons_succ, List.getElem?_cons_zero]; rfl) (by kernel_rfl) (by kernel_rfl) (by kernel_rfl) (by exact fun _ _ _ h => h) (.inr ⟨by rfl, rfl⟩) ?_
          try simp only [Act.put, List.setIfInBounds_toArray, List.set_cons_zero, List.set_cons_succ]
          refine wpAny_take (i := 10) (v := undef) (by simp only [List.getElem?_toArray, List.getElem?_cons_succ, List.getElem?_cons_zero]; rfl) (by kernel_rfl) (by kernel_rfl) (by kernel_rfl) (by exact fun _ _ _ h => h) (.inr ⟨by rfl, rfl⟩) ?_
          try simp only [Act.put, List.setIfInBounds_toArray, List.set_cons_zero, List.set_cons_succ]
          refine wpAny_take (i := 11) (v := undef) (by simp only [List.getElem?_toArray, List.getElem?_cons_succ, List.getElem?_cons_zero]; rfl) (by kernel_rfl) (by kernel_rfl) (by kernel_rfl) (by exact fun _ _ _ h => h) (.inr ⟨by rfl, rfl⟩) ?_
          try simp only [Act.put, List.setIfInBounds_toArray, List.set_cons_zero, List.set_cons_succ]
          refine wpAny_take (i := 12) (v := undef) (by simp only [List.getElem?_toArray, List.getElem?_cons_succ, List.getElem?_cons_zero]; rfl) (by kernel_rfl) (by kernel_rfl) (by kernel_rfl) (by exact fun _ _ _ h => h) (.inr ⟨by rfl, rfl⟩) ?_
          try simp only [Act.put, List.setIfInBounds_toArray, List.set_cons_zero, List.set_cons_succ]
          refine wpAny_take (i := 13) (v := undef) (by simp only [List.getElem?_toArray, List.getElem?_cons_succ, List.getElem?_cons_zero]; rfl) (by kernel_rfl) (by kernel_rfl) (by kernel_rfl) (by exact fun _ _ _ h => h) (.inr ⟨by rfl, rfl⟩) ?_
          try simp only [Act.put, List.setIfInBounds_toArray, List.set_cons_zero, List.set_cons_succ]
          refine wpAny_take (i := 14) (v := ?v14) (by simp only [List.getElem?_toArray, List.getElem?_cons_succ, List.getElem?_cons_zero]; rfl) (by kernel_rfl) (by kernel_rfl) (by kernel_rfl) (by exact fun _ _ _ h => h) (.inl ⟨by rfl, fun _ => ?hy14⟩) ?_
          case hy14 => (go_simp; try with_reducible rfl)
          try simp only [Act.put, List.setIfInBounds_toArray, List.set_cons_zero, List.set_cons_succ]
          refine wpAny_take (i := 15) (v := ?v15) (by simp only [List.getElem?_toArray, List.getElem?_cons_succ, List.getElem?_cons_zero]; rfl) (by kernel_rfl) (by kernel_rfl) (by kernel_rfl) (by exact fun _ _ _ h => h) (.inl ⟨by rfl, fun _ => ?hy15⟩) ?_
          case hy15 => (go_simp; try with_reducible rfl)
          try simp only [Act.put, List.setIfInBounds_toArray, List.set_cons_zero, List.set_cons_succ]
          refine wpAny_take (i := 16) (v := ?v16) (by simp only [List.getElem?_toArray, List.getElem?_cons_succ, List.getElem?_cons_zero]; rfl) (by kernel_rfl) (by kernel_rfl) (by kernel_rfl) (by exact fun _ _ _ h => h) (.inl ⟨by rfl, fun _ => ?hy16⟩) ?_
          case hy16 => (go_simp; try with_reducible rfl)
          try simp only [Act.put, List.setIfInBounds_toArray, List.set_cons_zero, List.set_cons_succ]
          refine wpAny_take (i := 17) (v := ?v17) (by simp only [List.getElem?_toArray, List.getElem?_cons_succ, List.getElem?_cons_zero]; rfl) (by kernel_rfl) (by kernel_rfl) (by kernel_rfl) (by exact fun _ _ _ h => h) (.inl ⟨by rfl, fun _ => ?hy17⟩) ?_
          case hy17 => (go_simp; try with_reducible rfl)
          try simp only [Act.put, List.setIfInBounds_toArray, List.set_cons_zero, List.set_cons_succ]
          refine wpAny_take (i := 19) (v := ?v19) (by simp only [List.getElem?_toArray, List.getElem?_cons_succ, List.getElem?_cons_zero]; rfl) (by kernel_rfl) (by kernel_rfl) (by kernel_rfl) (by exact fun _ _ _ h => h) (.inl ⟨by rfl, fun _ => ?hy19⟩) ?_
          case hy19 => (go_simp; try with_reducible rfl)
          try simp only [Act.put, List.setIfInBounds_toArray, List.set_cons_zero, List.set_cons_succ]
          refine wpAny_take (i := 20) (v := ?v20) (by simp only [List.getElem?_toArray, List.getElem?_cons_succ, List.getElem?_cons_zero]; rfl) (by kernel_rfl) (by kernel_rfl) (by kernel_rfl) (by exact fun _ _ _ h => h) (.inl ⟨by rfl, fun _ => ?hy20⟩) ?_
          case hy20 => (go_simp; try with_reducible rfl)
          try simp only [Act.put, List.setIfInBounds_toArray, List.set_cons_zero, List.set_cons_succ]
          refine wpAny_ready (rs := [18]) (by kernel_rfl) (by simp) ?_
          refine AllReady.cons (by simp only [List.getElem?_toArray, List.getElem?_cons_succ, List.getElem?_cons_zero]; rfl) (fun K hK => ?_) AllReady.nil
          go_simp
          go_at_call 11; (with_reducible refine (HLen.out _ b0).mono ?_); rintro e' w11 ⟨rfl, hw1⟩; have k1 : Below w6.heap.size w6 w11 := by { rw [← hw1]; exact b0 }; clear hw1
          refine hK _ _ ?_
          clear hK K
          try simp only [Act.put, List.setIfInBounds_toArray, List.set_cons_zero, List.set_cons_succ]
          refine wpAny_take (i := 21) (v := ?v21) (by simp only [List.getElem?_toArray, List.getElem?_cons_succ, List.getElem?_cons_zero]; rfl) (by kernel_rfl) (by kernel_rfl) (by kernel_rfl) (by exact fun _ _ _ h => h) (.inl ⟨by rfl, fun _ => ?hy21⟩) ?_
          case hy21 => (go_simp; try with_reducible rfl)
          try simp only [Act.put, List.setIfInBounds_toArray, List.set_cons_zero, List.set_cons_succ]
          refine wpAny_take (i := 22) (v := ?v22) (by simp only [List.getElem?_toArray, List.getElem?_cons_succ, List.getElem?_cons_zero]; rfl) (by kernel_rfl) (by kernel_rfl) (by kernel_rfl) (by exact fun _ _ _ h => h) (.inl ⟨by rfl, fun _ => ?hy22⟩) ?_
          case hy22 => (go_simp; try with_reducible rfl)
          try simp only [Act.put, List.setIfInBounds_toArray, List.set_cons_zero, List.set_cons_succ]
          refine wpAny_take (i := 23) (v := ?v23) (by simp only [List.getElem?_toArray, List.getElem?_cons_succ, List.getElem?_cons_zero]; rfl) (by kernel_rfl) (by kernel_rfl) (by kernel_rfl) (by exact fun _ _ _ h => h) (.inl ⟨by rfl, fun _ => ?hy23⟩) ?_
          case hy23 => (go_simp; try with_reducible rfl)
          try simp only [Act.put, List.setIfInBounds_toArray, List.set_cons_zero, List.set_cons_succ]
          refine wpAny_take (i := 24) (v := ?v24) (by simp only [List.getElem?_toArray, List.getElem?_cons_succ, List.getElem?_cons_zero]; rfl) (by kernel_rfl) (by kernel_rfl) (by kernel_rfl) (by exact fun _ _ _ h => h) (.inl ⟨by rfl, fun _ => ?hy24⟩) ?_
          case hy24 => (go_simp; try with_reducible rfl)
          try simp only [Act.put, List.setIfInBounds_toArray, List.set_cons_zero, List.set_cons_succ]
          refine wpAny_take (i := 26) (v := ?v26) (by simp only [List.getElem?_toArray, List.getElem?_cons_succ, List.getElem?_cons_zero]; rfl) (by kernel_rfl) (by kernel_rfl) (by kernel_rfl) (by exact fun _ _ _ h => h) (.inl ⟨by rfl, fun _ => ?hy26⟩) ?_
          case hy26 => (go_simp; try with_reducible rfl)
          try simp only [Act.put, List.setIfInBounds_toArray, List.set_cons_zero, List.set_cons_succ]
          refine wpAny_ready (rs := [25]) (by kernel_rfl) (by simp) ?_
          refine AllReady.cons (by simp only [List.getElem?_toArray, List.getElem?_cons_succ, List.getElem?_cons_zero]; rfl) (fun K hK => ?_) AllReady.nil
          go_simp
          go_at_call 12; (with_reducible refine (HGone.out _ k1).mono ?_); rintro e' w12 ⟨rfl, hw2⟩; have k2 : Below w6.heap.size w6 w12 := by { rw [← hw2]; exact k1 }; clear hw2
          refine hK _ _ ?_
          clear hK K
          try simp only [Act.put, List.setIfInBounds_toArray, List.set_cons_zero, List.set_cons_succ]
          refine wpAny_take (i := 27) (v := ?v27) (by simp only [List.getElem?_toArray, List.getElem?_cons_succ, List.getElem?_cons_zero]; rfl) (by kernel_rfl) (by kernel_rfl) (by kernel_rfl) (by exact fun _ _ _ h => h) (.inl ⟨by rfl, fun _ => ?hy27⟩) ?_
          case hy27 => (go_simp; try with_reducible rfl)
          try simp only [Act.put, List.setIfInBounds_toArray, List.set_cons_zero, List.set_cons_succ]
          refine wpAny_take (i := 28) (v := ?v28) (by simp only [List.getElem?_toArray, List.getElem?_cons_succ, List.getElem?_cons_zero]; rfl) (by kernel_rfl) (by kernel_rfl) (by kernel_rfl) (by exact fun _ _ _ h => h) (.inl ⟨by rfl, fun _ => ?hy28⟩) ?_
          case hy28 => (go_simp; try with_reducible rfl)
          try simp only [Act.put, List.setIfInBounds_toArray, List.set_cons_zero, List.set_cons_succ]
          refine wpAny_take (i := 29) (v := ?v29) (by simp only [List.getElem?_toArray, List.getElem?_cons_succ, List.getElem?_cons_zero]; rfl) (by kernel_rfl) (by kernel_rfl) (by kernel_rfl) (by exact fun _ _ _ h => h) (.inl ⟨by rfl, fun _ => ?hy29⟩) ?_
          case hy29 => (go_simp; try with_reducible rfl)
          try simp only [Act.put, List.setIfInBounds_toArray, List.set_cons_zero, List.set_cons_succ]
          refine wpAny_take (i := 30) (v := ?v30) (by simp only [List.getElem?_toArray, List.getElem?_cons_succ, List.getElem?_cons_zero]; rfl) (by kernel_rfl) (by kernel_rfl) (by kernel_rfl) (by exact fun _ _ _ h => h) (.inl ⟨by rfl, fun _ => ?hy30⟩) ?_
          case hy30 => (go_simp; try with_reducible rfl)
          try simp only [Act.put, List.setIfInBounds_toArray, List.set_cons_zero, List.set_cons_succ]
          refine wpAny_take (i := 32) (v := ?v32) (by simp only [List.getElem?_toArray, List.getElem?_cons_succ, List.getElem?_cons_zero]; rfl) (by kernel_rfl) (by kernel_rfl) (by kernel_rfl) (by exact fun _ _ _ h => h) (.inl ⟨by rfl, fun _ => ?hy32⟩) ?_
          case hy32 => (go_simp; try with_reducible rfl)
          try simp only [Act.put, List.setIfInBounds_toArray, List.set_cons_zero, List.set_cons_succ]
          refine wpAny_take (i := 33) (v := ?v33) (by simp only [List.getElem?_toArray, List.getElem?_cons_succ, List.getElem?_cons_zero]; rfl) (by kernel_rfl) (by kernel_rfl) (by kernel_rfl) (by exact fun _ _ _ h => h) (.inl ⟨by rfl, fun _ => ?hy33⟩) ?_
          case hy33 => (go_simp; try with_reducible rfl)
          try simp only [Act.put, List.setIfInBounds_toArray, List.set_cons_zero, List.set_cons_succ]
          refine wpAny_take (i := 34) (v := ?v34) (by simp only [List.getElem?_toArray, List.getElem?_cons_succ, List.getElem?_cons_zero]; rfl) (by kernel_rfl) (by kernel_rfl) (by kernel_rfl) (by exact fun _ _ _ h => h) (.inl ⟨by rfl, fun _ => ?hy34⟩) ?_
          case hy34 => (go_simp; try with_reducible rfl)
          try simp only [Act.put, List.setIfInBounds_toArray, List.set_cons_zero, List.set_cons_succ]
          refine wpAny_take (i := 35) (v := ?v35) (by simp only [List.getElem?_toArray, List.getElem?_cons_succ, List.getElem?_cons_zero]; rfl) (by kernel_rfl) (by kernel_rfl) (by kernel_rfl) (by exact fun _ _ _ h => h) (.inl ⟨by rfl, fun _ => ?hy35⟩) ?_
          case hy35 => (go_simp; try with_reducible rfl)
          try simp only [Act.put, List.setIfInBounds_toArray, List.set_cons_zero, List.set_cons_succ]
          refine wpAny_take (i := 36) (v := ?v36) (by simp only [List.getElem?_toArray, List.getElem?_cons_succ, List.getElem?_cons_zero]; rfl) (by kernel_rfl) (by kernel_rfl) (by kernel_rfl) (by exact fun _ _ _ h => h) (.inl ⟨by rfl, fun _ => ?hy36⟩) ?_
          case hy36 => (go_simp; try with_reducible rfl)
          try simp only [Act.put, List.setIfInBounds_toArray, List.set_cons_zero, List.set_cons_succ]
          refine wpAny_ready (rs := [31]) (by kernel_rfl) (by simp) ?_
          refine AllReady.cons (by simp only [List.getElem?_toArray, List.getElem?_cons_succ, List.getElem?_cons_zero]; rfl) (fun K hK => ?_) AllReady.nil
          go_simp
          go_at_call 13; (with_reducible refine (HNext.out _ k2).mono ?_); rintro e' w13 ⟨rfl, hw3⟩; have k3 : Below w6.heap.size w6 w13 := by { rw [← hw3]; exact k2 }; clear hw3
          refine hK _ _ ?_
          clear hK K
          try simp only [Act.put, List.setIfInBounds_toArray, List.set_cons_zero, List.set_cons_succ]
          refine wpAny_take (i := 37) (v := ?v37) (by simp only [List.getElem?_toArray, List.getElem?_cons_succ, List.getElem?_cons_zero]; rfl) (by kernel_rfl) (by kernel_rfl) (by kernel_rfl) (by exact fun _ _ _ h => h) (.inl ⟨by rfl, fun _ => ?hy37⟩) ?_
          case hy37 => (go_simp; try with_reducible rfl)
          try simp only [Act.put, List.setIfInBounds_toArray, List.set_cons_zero, List.set_cons_succ]
          refine wpAny_take (i := 38) (v := ?v38) (by simp only [List.getElem?_toArray, List.getElem?_cons_succ, List.getElem?_cons_zero]; rfl) (by kernel_rfl) (by kernel_rfl) (by kernel_rfl) (by exact fun _ _ _ h => h) (.inl ⟨by rfl, fun _ => ?hy38⟩) ?_
          case hy38 => (go_simp; try with_reducible rfl)
          try simp only [Act.put, List.setIfInBounds_toArray, List.set_cons_zero, List.set_cons_succ]
          refine wpAny_take (i := 39) (v := ?v39) (by simp only [List.getElem?_toArray, List.getElem?_cons_succ, List.getElem?_cons_zero]; rfl) (by kernel_rfl) (by kernel_rfl) (by kernel_rfl) (by exact fun _ _ _ h => h) (.inl ⟨by rfl, fun _ => ?hy39⟩) ?_
          case hy39 => (go_simp; try with_reducible rfl)
          try simp only [Act.put, List.setIfInBounds_toArray, List.set_cons_zero, List.set_cons_succ]
          refine wpAny_take (i := 40) (v := ?v40) (by simp only [List.getElem?_toArray, List.getElem?_cons_succ, List.getElem?_cons_zero]; rfl) (by kernel_rfl) (by kernel_rfl) (by kernel_rfl) (by exact fun _ _ _ h => h) (.inl ⟨by rfl, fun _ => ?hy40⟩) ?_
          case hy40 => (go_simp; try with_reducible rfl)
          try simp only [Act.put, List.setIfInBounds_toArray, List.set_cons_zero, List.set_cons_succ]
          refine wpAny_take (i := 41) (v := ?v41) (by simp only [List.getElem?_toArray, List.getElem?_cons_succ, List.getElem?_cons_zero]; rfl) (by kernel_rfl) (by kernel_rfl) (by kernel_rfl) (by exact fun _ _ _ h => h) (.inl ⟨by rfl, fun _ => ?hy41⟩) ?_
          case hy41 => (go_simp; try with_reducible rfl)
          try simp only [Act.put, List.setIfInBounds_toArray, List.set_cons_zero, List.set_cons_succ]
          refine wpAny_take (i := 43) (v := ?v43) (by simp only [List.getElem?_toArray, List.getElem?_cons_succ, List.getElem?_cons_zero]; rfl) (by kernel_rfl) (by kernel_rfl) (by kernel_rfl) (by exact fun _ _ _ h => h) (.inl ⟨by rfl, fun _ => ?hy43⟩) ?_
          case hy43 => (go_simp; try with_reducible rfl)
          try simp only [Act.put, List.setIfInBounds_toArray, List.set_cons_zero, List.set_cons_succ]
          refine wpAny_ready (rs := [42]) (by kernel_rfl) (by simp) ?_
          refine AllReady.cons (by simp only [List.getElem?_toArray, List.getElem?_cons_succ, List.getElem?_cons_zero]; rfl) (fun K hK => ?_) AllReady.nil
          go_simp
          go_at_call 14; (with_reducible refine (HLast.out _ k3).mono ?_); rintro e' w14 ⟨rfl, c4⟩; have k4 : Below w6.heap.size w6 w14 := k3.trans (c4.mono k3.size)
          refine hK _ _ ?_
          clear hK K
          try simp only [Act.put, List.setIfInBounds_toArray, List.set_cons_zero, List.set_cons_succ]
          refine wpAny_take (i := 44) (v := ?v44) (by simp only [List.getElem?_toArray, List.getElem?_cons_succ, List.getElem?_cons_zero]; rfl) (by kernel_rfl) (by kernel_rfl) (by kernel_rfl) (by exact fun _ _ _ h => h) (.inl ⟨by rfl, fun _ => ?hy44⟩) ?_
          case hy44 => (go_simp; try with_reducible rfl)
          try simp only [Act.put, List.setIfInBounds_toArray, List.set_cons_zero, List.set_cons_succ]
          refine wpAny_take (i := 45) (v := ?v45) (by simp only [List.getElem?_toArray, List.getElem?_cons_succ, List.getElem?_cons_zero]; rfl) (by kernel_rfl) (by kernel_rfl) (by kernel_rfl) (by exact fun _ _ _ h => h) (.inl ⟨by rfl, fun _ => ?hy45⟩) ?_
          case hy45 => (go_simp; try with_reducible rfl)
          try simp only [Act.put, List.setIfInBounds_toArray, List.set_cons_zero, List.set_cons_succ]
          refine wpAny_take (i := 46) (v := ?v46) (by simp only [List.getElem?_toArray, List.getElem?_cons_succ, List.getElem?_cons_zero]; rfl) (by kernel_rfl) (by kernel_rfl) (by kernel_rfl) (by exact fun _ _ _ h => h) (.inl ⟨by rfl, fun _ => ?hy46⟩) ?_
          case hy46 => (go_simp; try with_reducible rfl)
          try simp only [Act.put, List.setIfInBounds_toArray, List.set_cons_zero, List.set_cons_succ]
          refine wpAny_take (i := 47) (v := ?v47) (by simp only [List.getElem?_toArray, List.getElem?_cons_succ, List.getElem?_cons_zero]; rfl) (by kernel_rfl) (by kernel_rfl) (by kernel_rfl) (by exact fun _ _ _ h => h) (.inl ⟨by rfl, fun _ => ?hy47⟩) ?_
          case hy47 => (go_simp; try with_reducible rfl)
          try simp only [Act.put, List.setIfInBounds_toArray, List.set_cons_zero, List.set_cons_succ]
          refine wpAny_take (i := 49) (v := ?v49) (by simp only [List.getElem?_toArray, List.getElem?_cons_succ, List.getElem?_cons_zero]; rfl) (by kernel_rfl) (by kernel_rfl) (by kernel_rfl) (by exact fun _ _ _ h => h) (.inl ⟨by rfl, fun _ => ?hy49⟩) ?_
          case hy49 => (go_simp; try with_reducible rfl)
          try simp only [Act.put, List.setIfInBounds_toArray, List.set_cons_zero, List.set_cons_succ]
          refine wpAny_ready (rs := [48]) (by kernel_rfl) (by simp) ?_
          refine AllReady.cons (by simp only [List.getElem?_toArray, List.getElem?_cons_succ, List.getElem?_cons_zero]; rfl) (fun K hK => ?_) AllReady.nil
          go_simp
          go_at_call 16; (with_reducible refine (HAll.out _ k4).mono ?_); rintro e' w15 ⟨v6, rfl, o6, c5⟩; obtain ⟨A6, cc6, rfl, _, _⟩ := o6.shape; have O6 := Lib.hid (show Effs _ _ A6 (efsOf []) from effs_of_off (l := efsOf []) o6 (fun e he => by simp [efsOf] at he)); have k5 : Below w6.heap.size w6 w15 := k4.trans (c5.mono k4.size); clear o6 c5
          refine hK _ _ ?_
          clear hK K
          try simp only [Act.put, List.setIfInBounds_toArray, List.set_cons_zero, List.set_cons_succ]
          refine wpAny_ready (rs := [50]) (by kernel_rfl) (by simp) ?_
          refine AllReady.cons (by simp only [List.getElem?_toArray, List.getElem?_cons_succ, List.getElem?_cons_zero]; rfl) (fun K hK => ?_) AllReady.nil
          go_simp
          go_at_call 15; (with_reducible refine (HSameAll.out _ k5 _ _ O6.out).mono ?_); rintro e' w16 x6; obtain ⟨rfl, c6⟩ := x6.below; clear x6; have k6 : Below w6.heap.size w6 w16 := k5.trans (c6.mono k5.size)
          refine hK _ _ ?_
          clear hK K
          try simp only [Act.put, List.setIfInBounds_toArray, List.set_cons_zero, List.set_cons_succ]
          refine wpAny_take (i := 51) (v := ?v51) (by simp only [List.getElem?_toArray, List.getElem?_cons_succ, List.getElem?_cons_zero]; rfl) (by kernel_rfl) (by kernel_rfl) (by kernel_rfl) (by exact fun _ _ _ h => h) (.inl ⟨by rfl, fun _ => ?hy51⟩) ?_
          case hy51 => (go_simp; try with_reducible rfl)
          try simp only [Act.put, List.setIfInBounds_toArray, List.set_cons_zero, List.set_cons_succ]
          refine wpAny_take (i := 52) (v := ?v52) (by simp only [List.getElem?_toArray, List.getElem?_cons_succ, List.getElem?_cons_zero]; rfl) (by kernel_rfl) (by kernel_rfl) (by kernel_rfl) (by exact fun _ _ _ h => h) (.inl ⟨by rfl, fun _ => ?hy52⟩) ?_
          case hy52 => (go_simp; try with_reducible rfl)
          try simp only [Act.put, List.setIfInBounds_toArray, List.set_cons_zero, List.set_cons_succ]
          refine wpAny_done (by kernel_rfl) ?_ _
          skip
          all_goals
            have HE := Lib.hid (B6.out.trans (k6.mono B6.out.size))
            clear hwg0 hwg1 S9 HLen HGone HNext HLast HAll HSameAll
            go_wp2
            go_roundw
            case rel => exact ⟨j + 1, ([] : List (Eff × Int)), gn1, at1, Nat.succ_le_of_lt hlt, by go_num, ⟨rfl, rfl, HM1.out.gle, HM1.out.ale, HM1.out.rle, HM1.out.p.below HE.out, HM1.out.o.below HE.out, HM1.out.b.trans (HE.out.mono HM1.out.b.size)⟩⟩
            case measure => simp [intOf]; omega
        | cons x l =>
          have hMl : l.length + 1 = M := HMM.out
          obtain ⟨hMp, hMp2, hMp3, hMp4⟩ := pd_n hMl
          have ho1 := HM1.out.o
          rw [HMM.out] at ho1
          obtain ⟨q, off, cur, hA, hqB, hcur, hxx⟩ := efs_at ho1 HMM.out (k := 0) (x := x) rfl
          subst hA
          have hbx := HM1.out.p.bare
          have KH := Lib.hid (pnHead (HM1.out.p.below HB2.out) rfl)
          obtain ⟨e, p⟩ := x
          dsimp only at KH hxx
          have HSame := Lib.hid (fun (w' : World) => refSame_any e e w' ((hbx (e, p) (List.mem_cons_self)).1.ok _ _) ((hbx (e, p) (List.mem_cons_self)).1.ok _ _))
          rw [sameB_self] at HSame
          unfold Eff.val at KH HSame
          unfold PPtr at *
          clear hMl ho1
          go_wp2_with fail
          refine KH.out.mono ?_
          rintro e5 w5 ⟨rfl, h5⟩
          clear KH
          go_upto_region 32 with fail
          obtain ⟨w6, hw6⟩ : ∃ w6, w5.alloc (.cells #[.int .i64 e.kind, .int .i64 e.ino, .int .i64 e.dir, .int .i64 e.dst, .int .i64 e.page, .int .i64 e.size, .string e.name, .string e.other, .slice e.A e.data.length e.cp] 32) = w6 := ⟨_, rfl⟩
          have c6 : Cells w6 w5.heap.size 32 #[.int .i64 e.kind, .int .i64 e.ino, .int .i64 e.dir, .int .i64 e.dst, .int .i64 e.page, .int .i64 e.size, .string e.name, .string e.other, .slice e.A e.data.length e.cp] := by rw [← hw6]; exact Cells.new _ _ _
          have b56 : Below w5.heap.size w5 w6 := by rw [← hw6]; exact (Below.refl _ _).alloc (Nat.le_refl _) _
          rw [hw6]
          have b6 : Below wc.heap.size wc w6 := HB2.out.trans ((h5.trans (b56.mono h5.size)).mono HB2.out.size)
          have B6 := Lib.hid b6
          have p6 := HM1.out.p.below b6
          have o6 := HM1.out.o.below b6
          have P6 := Lib.hid p6; have OO6 := Lib.hid o6
          obtain ⟨AL, cL, hcL, _⟩ := p6.open_
          simp only [HMM.out] at hcL
          have HLen := Lib.hid (fun (w' : World) (b : Below w6.heap.size w6 w') => pnLen (hcL.below' b))
          have HGone := Lib.hid (fun (w' : World) (b : Below w6.heap.size w6 w') => pnGone (hcL.below' b))
          have HNext := Lib.hid (fun (w' : World) (b : Below w6.heap.size w6 w') => pnNext (hcL.below' b) hM1000 hg1000)
          have HLast := Lib.hid (fun (w' : World) (b : Below w6.heap.size w6 w') => pnLast (p6.below b) ino)
          have HAll := Lib.hid (fun (w' : World) (b : Below w6.heap.size w6 w') => pnRows (p6.below b))
          have HEFS := Lib.hid (show Effs w6 w6.heap.size (some ⟨q, off, none⟩) (efsOf ((e, p) :: l)) from effs_of_off (l := efsOf ((e, p) :: l)) (by rw [efsOf_len]; exact o6) (fun e' he' => by obtain ⟨y, hy, rfl⟩ := List.mem_map.1 he'; exact (hbx y hy).1))
          have HSameAll := Lib.hid (fun (w' : World) (b : Below w6.heap.size w6 w') (A6 : Option Addr) (c6 : Nat) (hx : Effs w' w'.heap.size A6 (efsOf ((e, p) :: l))) => sameAll_eq (efsOf ((e, p) :: l)) (efsOf ((e, p) :: l)) M (by rw [efsOf_len]; exact HMM.out) (by rw [efsOf_len]; exact HMM.out) hM1000 (fun j a b ha hb => by rw [ha] at hb; rw [Option.some.inj hb]; exact sameB_self b) A6 (some ⟨q, off, none⟩) c6 d1 w' hx ((HEFS.out.below b).more b.size))
          rw [show ((e, p) :: l).length = M from HMM.out] at HAll
          unfold PPtr at HLen HGone HNext HLast HAll
          have hnx : ((gn1 + M + 1 : Nat) : Int) = (gn1 : Int) + (M : Int) + 1 := rfl
          rw [hnx] at HNext
          clear hnx
          rw [HLN.out] at HLast
          have hlx : ((gn1 + LN : Nat) : Int) = (gn1 : Int) + (LN : Int) := rfl
          rw [hlx] at HLast
          clear hlx
          have hq6 : q < w6.heap.size := Nat.lt_of_lt_of_le hcur.lt b6.size
          have hxx6 : ∀ (i : Nat) (u : Value), e.vals[i]? = some u → w6.cell? ⟨q, off + i, none⟩ = some u := fun i u hi => by
            have := hxx i u hi
            rw [Nat.zero_mul, Nat.zero_add] at this
            exact (b6.cell (p := ⟨q, off + i, none⟩) hcur.lt).trans this
          have S9 := Lib.hid (show ∀ w' : World, Below w6.heap.size w6 w' → w'.cell? ⟨w5.heap.size, 0, none⟩ = some (.int .i64 e.kind) ∧ w'.cell? ⟨w5.heap.size, 1, none⟩ = some (.int .i64 e.ino) ∧ w'.cell? ⟨w5.heap.size, 2, none⟩ = some (.int .i64 e.dir) ∧ w'.cell? ⟨w5.heap.size, 3, none⟩ = some (.int .i64 e.dst) ∧ w'.cell? ⟨w5.heap.size, 4, none⟩ = some (.int .i64 e.page) ∧ w'.cell? ⟨w5.heap.size, 5, none⟩ = some (.int .i64 e.size) ∧ w'.cell? ⟨w5.heap.size, 6, none⟩ = some (.string e.name) ∧ w'.cell? ⟨w5.heap.size, 7, none⟩ = some (.string e.other) ∧ w'.cell? ⟨w5.heap.size, 8, none⟩ = some (.slice e.A e.data.length e.cp) ∧ w'.cell? ⟨q, off, none⟩ = some (.int .i64 e.kind) ∧ w'.cell? ⟨q, off + 1, none⟩ = some (.int .i64 e.ino) ∧ w'.cell? ⟨q, off + 2, none⟩ = some (.int .i64 e.dir) ∧ w'.cell? ⟨q, off + 3, none⟩ = some (.int .i64 e.dst) ∧ w'.cell? ⟨q, off + 4, none⟩ = some (.int .i64 e.page) ∧ w'.cell? ⟨q, off + 5, none⟩ = some (.int .i64 e.size) ∧ w'.cell? ⟨q, off + 6, none⟩ = some (.string e.name) ∧ w'.cell? ⟨q, off + 7, none⟩ = some (.string e.other) ∧ w'.cell? ⟨q, off + 8, none⟩ = some (.slice e.A e.data.length e.cp) from fun w' b => by
            have c7 := c6.below' b
            have g : ∀ (i : Nat) (u : Value), e.vals[i]? = some u → w'.cell? ⟨q, off + i, none⟩ = some u := fun i u hi => (b.cell (p := ⟨q, off + i, none⟩) hq6).trans (hxx6 i u hi)
            exact ⟨c7.cell 0, c7.cell 1, c7.cell 2, c7.cell 3, c7.cell 4, c7.cell 5, c7.cell 6, c7.cell 7, c7.cell 8, g 0 _ rfl, g 1 _ rfl, g 2 _ rfl, g 3 _ rfl, g 4 _ rfl, g 5 _ rfl, g 6 _ rfl, g 7 _ rfl, g 8 _ rfl⟩)
          have b0 : Below w6.heap.size w6 w6.drew := below_drewN (Below.refl _ _) 1
          clear hw6 c6 b56 b6 p6 o6 hcL h5 hq6 hxx6 hxx hbx hqB hcur
          obtain ⟨hwg0, hwg1⟩ := pd_wrap2 hgb1 hMb1
          go_region_held3 (fun w' => w'.cell? ⟨w5.heap.size, 0, none⟩ = some (.int .i64 e.kind) ∧ w'.cell? ⟨w5.heap.size, 1, none⟩ = some (.int .i64 e.ino) ∧ w'.cell? ⟨w5.heap.size, 2, none⟩ = some (.int .i64 e.dir) ∧ w'.cell? ⟨w5.heap.size, 3, none⟩ = some (.int .i64 e.dst) ∧ w'.cell? ⟨w5.heap.size, 4, none⟩ = some (.int .i64 e.page) ∧ w'.cell? ⟨w5.heap.size, 5, none⟩ = some (.int .i64 e.size) ∧ w'.cell? ⟨w5.heap.size, 6, none⟩ = some (.string e.name) ∧ w'.cell? ⟨w5.heap.size, 7, none⟩ = some (.string e.other) ∧ w'.cell? ⟨w5.heap.size, 8, none⟩ = some (.slice e.A e.data.length e.cp) ∧ w'.cell? ⟨q, off, none⟩ = some (.int .i64 e.kind) ∧ w'.cell? ⟨q, off + 1, none⟩ = some (.int .i64 e.ino) ∧ w'.cell? ⟨q, off + 2, none⟩ = some (.int .i64 e.dir) ∧ w'.cell? ⟨q, off + 3, none⟩ = some (.int .i64 e.dst) ∧ w'.cell? ⟨q, off + 4, none⟩ = some (.int .i64 e.page) ∧ w'.cell? ⟨q, off + 5, none⟩ = some (.int .i64 e.size) ∧ w'.cell? ⟨q, off + 6, none⟩ = some (.string e.name) ∧ w'.cell? ⟨q, off + 7, none⟩ = some (.string e.other) ∧ w'.cell? ⟨q, off + 8, none⟩ = some (.slice e.A e.data.length e.cp))
            (first | exact S9.out _ b0 | exact S9.out _ k1 | exact S9.out _ k2 | exact S9.out _ k3 | exact S9.out _ k4 | exact S9.out _ k5 | exact S9.out _ k6 | exact S9.out _ k7)
            (first
              | (go_at_call 10; (with_reducible refine (HSame.out _).mono ?_); rintro e' w11 x1; obtain ⟨rfl, c1⟩ := x1.below; clear x1; have k1 : Below w6.heap.size w6 w11 := b0.trans (c1.mono b0.size))
              | (go_at_call 11; (with_reducible refine (HLen.out _ k1).mono ?_); rintro e' w12 ⟨rfl, hw2⟩; have k2 : Below w6.heap.size w6 w12 := by { rw [← hw2]; exact k1 }; clear hw2)
              | (go_at_call 12; (with_reducible refine (HGone.out _ k2).mono ?_); rintro e' w13 ⟨rfl, hw3⟩; have k3 : Below w6.heap.size w6 w13 := by { rw [← hw3]; exact k2 }; clear hw3)
              | (go_at_call 13; (with_reducible refine (HNext.out _ k3).mono ?_); rintro e' w14 ⟨rfl, hw4⟩; have k4 : Below w6.heap.size w6 w14 := by { rw [← hw4]; exact k3 }; clear hw4)
              | (go_at_call 14; (with_reducible refine (HLast.out _ k4).mono ?_); rintro e' w15 ⟨rfl, c5⟩; have k5 : Below w6.heap.size w6 w15 := k4.trans (c5.mono k4.size))
              | (go_at_call 16; (with_reducible refine (HAll.out _ k5).mono ?_); rintro e' w16 ⟨v6, rfl, o6, c6⟩; obtain ⟨A6, cc6, rfl, _, _⟩ := o6.shape; have O6 := Lib.hid (effs_of_off (l := efsOf ((e, p) :: l)) (by rw [efsOf_len]; rw [show (((e, p) :: l)).length = M from HMM.out]; exact o6) (fun e' he' => by { obtain ⟨y, hy, rfl⟩ := List.mem_map.1 he'; exact (HM1.out.p.bare y hy).1 })); have k6 : Below w6.heap.size w6 w16 := k5.trans (c6.mono k5.size); clear o6 c6)
              | (go_at_call 15; (with_reducible refine (HSameAll.out _ k6 _ _ O6.out).mono ?_); rintro e' w17 x7; obtain ⟨rfl, c7⟩ := x7.below; clear x7; have k7 : Below w6.heap.size w6 w17 := k6.trans (c7.mono k6.size)))
          all_goals
            have HE := Lib.hid (B6.out.trans (k7.mono B6.out.size))
            clear hwg0 hwg1 S9 HLen HGone HNext HLast HAll HSameAll
            go_wp2
            go_roundw
            case rel => exact ⟨j + 1, ((e, p) :: l), gn1, at1, Nat.succ_le_of_lt hlt, by go_num, ⟨rfl, rfl, HM1.out.gle, HM1.out.ale, HM1.out.rle, HM1.out.p.below HE.out, (by have h := HM1.out.o.below HE.out; rw [show ((e, p) :: l).length = M from HMM.out] at h ⊢; exact h), HM1.out.b.trans (HE.out.mono HM1.out.b.size)⟩⟩
            case measure => simp [intOf]; omega
end Go.Proofs.Ytnijffgdapfgpaa

