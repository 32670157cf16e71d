import Derived.Test.YtamndllolppmoaaGreatDoorG11
import Derived.Shelf.Spec.SlicesInsert
import Derived.Shelf.RegionOpenPlain
import Derived.Lib.Overlaps
import Derived.Lib.AppendZerosOnto
import Derived.Lib.Walk
import Derived.Laws.Externs
import Derived.Laws.NewBlocks
import Derived.Laws.Concat

namespace Go.Proofs.YtamndllolppmoaaGreatDoor
open Wd Ino Go.RowKit Go.ChangeShapes Go.WideShapes Go.Sort
set_option linter.unusedVariables false
set_option maxRecDepth 100000

/-! slices.DeleteFunc with Drop's test, and Drop -/
def testV (B : Nat) : Value := .func (.func 157) #[] #[.pointer (some ⟨B, 0, none⟩)]
set_option maxHeartbeats 1000000 in
theorem dTest (e : Ent) (s : ByteArray) (B : Nat) (w : World) (hB : B < w.heap.size) (hc : w.cell? ⟨B, 0, none⟩ = some (.string s)) : Calls Tryz.prog 157 #[e.val, .pointer (some ⟨B, 0, none⟩)] w (Grows (.bool (nameIs s e)) w) := by
  have c2 := Lib.cell?_alloc_some (.cells (ecells e) 97) hc
  have HQ := Lib.hid (show (e.s.toList == s.toList) = nameIs s e from rfl)
  unfold Ino.Ent.val
  unfold ecells at c2
  go_enter Tryz.func157, Tryz.ntmps157
  go_wp2
  go_ret
  exact ⟨by rw [← HQ.out]; rfl, grow_one _ _⟩
def firstI (s : ByteArray) (l : List Ent) : Int := if hasN s l then (l.findIdx (nameIs s) : Int) else -1
set_option maxHeartbeats 4000000 in
theorem dIndex {w : World} {hi : Nat} {A : Option Addr} {c : Nat} {l : List Ent} (h : Ens w hi A l) (hh : hi ≤ w.heap.size) (hm : l.length ≤ 1000) (s : ByteArray) (B : Nat) (hB : B < w.heap.size) (hc : w.cell? ⟨B, 0, none⟩ = some (.string s)) :
    Calls Tryz.prog 173 #[.slice A l.length c, testV B] w (Grows (.int .i64 (firstI s l)) w) := by
  have H := Lib.hid h
  have HC := Lib.hid hc
  unfold testV
  clear h hc
  go_enter Tryz.func173, Tryz.ntmps173
  go_wp2
  go_loopw [8] (fun i wr => FindRel s l w i wr) (fun i _ => l.length - (intOf i).toNat)
  case atStart => exact ⟨0, Nat.zero_le _, rfl, by simp, grow_none _⟩
  case round =>
    obtain ⟨k, hk, rfl, hno, hgr⟩ := hrel
    have HNO := Lib.hid hno; have HG := Lib.hid hgr
    have HB := Lib.hid (grown_self hgr)
    clear hno hgr
    by_cases hlt : k < l.length
    · obtain ⟨e, he⟩ : ∃ e, l[k]? = some e := ⟨_, List.getElem?_eq_getElem hlt⟩
      obtain ⟨bl, off, rfl, hbB, x0, x1⟩ := ens_cells (H.out.below (HB.out.mono hh)) he
      have hlt2 : (k : Int) < (l.length : Int) := Int.ofNat_lt.2 hlt
      have i0 : (0 : Int) ≤ (k : Int) := by omega
      have HE := Lib.hid he
      have KT := Lib.hid (dTest e s B wr (Nat.lt_of_lt_of_le hB HB.out.size) (by rw [HB.out.cell (p := ⟨B, 0, none⟩) hB]; exact HC.out))
      unfold Ino.Ent.val at KT
      clear he
      cases hn : nameIs s e with
      | true =>
        have HR := Lib.hid (look_yes HNO.out HE.out hn)
        rw [hn] at KT
        clear hn
        go_wp2_with fail
        refine KT.out.mono ?_
        rintro e1 w2 ⟨rfl, hw2⟩
        have HW2 := Lib.hid hw2
        clear hw2 KT x0 x1
        go_wp2
        go_ret
        have hr := HR.out
        refine ⟨?_, grow_trans HG.out HW2.out⟩
        unfold firstI
        rw [if_pos hr.1, show l.findIdx (nameIs s) = k by have h2 := hr.2.1; unfold lookN at h2; rwa [if_pos hr.1] at h2]
        rfl
      | false =>
        have HN := Lib.hid (none_snoc HE.out HNO.out hn)
        rw [hn] at KT
        clear hn
        go_wp2_with fail
        refine KT.out.mono ?_
        rintro e1 w2 ⟨rfl, hw2⟩
        have HW2 := Lib.hid hw2
        clear hw2 KT x0 x1
        go_wp2
        go_roundw
        case rel => exact ⟨k + 1, by omega, by go_num, HN.out, grow_trans HG.out HW2.out⟩
        case measure => simp [intOf]; omega
    · obtain rfl : k = l.length := by omega
      have hno := HNO.out
      rw [List.take_length] at hno
      have HR := Lib.hid (look_no hno)
      clear hno
      go_wp2
      go_ret
      exact ⟨by unfold firstI; rw [if_neg (by rw [HR.out.1]; decide)]; rfl, HG.out⟩
def MadeAt (l : List Ent) (base : Nat) (w : World) (e : Ending) (w' : World) : Prop := ∃ v, e = .returned v ∧ OwnE w' base v l ∧ Below base w w'
def DelRel (s : ByteArray) (l : List Ent) (base g cap : Nat) (w : World) (i j : Value) (wr : World) : Prop := ∃ (a k : Nat) (d : List Ent), i = .int .i64 a ∧ j = .int .i64 k ∧ k ≤ l.length ∧ a < k ∧ d.length = l.length ∧
  OwnE wr base (.slice (some ⟨g, 0, none⟩) l.length cap) d ∧ d.take a = dropN s (l.take k) ∧ d.drop k = l.drop k ∧ Below base w wr
theorem del_start {s : ByteArray} {l : List Ent} {k : Nat} {e : Ent} (h0 : ∀ x ∈ l.take k, nameIs s x = false) (he : l[k]? = some e) (hs : nameIs s e = true) : l.take k = dropN s (l.take (k + 1)) := by
  rw [dropN_snoc he, hs, if_pos rfl, List.append_nil, dropN_none (has_false.2 h0)]
theorem del_keep {s : ByteArray} {l d : List Ent} {a k : Nat} {e : Ent} (hak : a < k) (hd : d.length = l.length) (ht : d.take a = dropN s (l.take k)) (he : l[k]? = some e) (hs : nameIs s e = false) : (d.set a e).take (a + 1) = dropN s (l.take (k + 1)) := by
  have hk : k < l.length := (List.getElem?_eq_some_iff.1 he).1
  rw [dropN_snoc he, hs, ← ht, List.take_add_one, List.take_set_of_le (Nat.le_refl _), List.getElem?_set_self (by omega)]
  rfl
theorem drop_same {l d : List Ent} {k : Nat} (h : d.drop k = l.drop k) : d.drop (k + 1) = l.drop (k + 1) ∧ d[k]? = l[k]? := by
  have h1 : ∀ (x : List Ent), x.drop (k + 1) = (x.drop k).drop 1 := fun x => by rw [List.drop_drop]
  have h2 : ∀ (x : List Ent), x[k]? = (x.drop k)[0]? := fun x => by rw [List.getElem?_drop, Nat.add_zero]
  exact ⟨by rw [h1, h1 l, h], by rw [h2, h2 l, h]⟩
set_option maxHeartbeats 8000000 in
theorem dDel {w : World} {base : Nat} {A : Option Addr} {c : Nat} {l : List Ent} (h : OwnE w base (.slice A l.length c) l) (hm : l.length ≤ 1000) (s : ByteArray) (B : Nat) (hB : B < base) (hbs : base ≤ w.heap.size) (hc : w.cell? ⟨B, 0, none⟩ = some (.string s)) :
    Calls Tryz.prog 156 #[.slice A l.length c, testV B] w (MadeAt (dropN s l) base w) := by
  obtain ⟨A', c', hv, _, hx⟩ := h.form
  injection hv with hv1 _ hv3
  subst hv1 hv3
  have HO := Lib.hid h
  have HC := Lib.hid hc
  have KI := Lib.hid (dIndex (c := c) hx (Nat.le_refl _) hm s B (by omega) hc)
  unfold testV at KI ⊢
  clear h hc hx
  cases hn : hasN s l with
  | false =>
    have HD := Lib.hid (dropN_none hn)
    rw [show firstI s l = -1 by unfold firstI; rw [if_neg (by rw [hn]; decide)]] at KI
    clear hn
    go_enter Tryz.func156, Tryz.ntmps156
    go_wp2_with fail
    refine KI.out.mono ?_
    rintro e1 w1 ⟨rfl, hw1⟩
    have HB := Lib.hid (grown_self hw1)
    clear hw1 KI
    go_wp2
    go_ret
    exact ⟨_, rfl, by rw [HD.out]; exact HO.out.below HB.out, HB.out.mono hbs⟩
  | true =>
    obtain ⟨e0, he0, _⟩ := look_at hn
    have hl0 : lookN s l = l.findIdx (nameIs s) := by unfold lookN; rw [if_pos hn]
    obtain ⟨k0, hk0⟩ : ∃ k0, l.findIdx (nameIs s) = k0 := ⟨_, rfl⟩
    rw [hl0, hk0] at he0
    rw [show firstI s l = (k0 : Int) by unfold firstI; rw [if_pos hn, hk0]] at KI
    have hlt0 : k0 < l.length := (List.getElem?_eq_some_iff.1 he0).1
    have h0 : ∀ x ∈ l.take k0, nameIs s x = false := fun x hx => by
      obtain ⟨i, hi, rfl⟩ := List.mem_take_iff_getElem.1 hx
      simpa using List.not_of_lt_findIdx (show i < l.findIdx (nameIs s) by omega)
    have hs0 : nameIs s e0 = true := by
      have h1 := List.findIdx_getElem (p := nameIs s) (xs := l) (w := by rw [hk0]; exact hlt0)
      simp only [hk0] at h1
      rw [List.getElem?_eq_getElem hlt0] at he0
      cases he0
      exact h1
    have HS := Lib.hid (del_start h0 he0 hs0)
    obtain ⟨g, cap, cur, hv, hbg, _, hcap, hcm, _, _⟩ := HO.out.block (by omega)
    injection hv with hv1 _ hv3
    subst hv1 hv3
    have HG := Lib.hid hbg
    have hne1 : ((k0 : Int) == -1) = false := beq_eq_false_iff_ne.2 (by omega)
    clear hn he0 hl0 hk0 h0 hs0 hbg
    go_enter Tryz.func156, Tryz.ntmps156
    go_wp2_with fail
    refine KI.out.mono ?_
    rintro e1 w1 ⟨rfl, hw1⟩
    have HB := Lib.hid (grown_self hw1)
    clear hw1 KI
    go_wp2
    go_loopw [5, 6] (fun i j wr => DelRel s l base g c w i j wr) (fun _ j _ => l.length - (intOf j).toNat)
    case atStart => exact ⟨k0, k0 + 1, l, rfl, by go_num, by omega, by omega, rfl, HO.out.below HB.out, HS.out, rfl, HB.out.mono hbs⟩
    case round =>
      obtain ⟨a, k, d, rfl, rfl, hk, hak, hdl, ho, ht, hdr, hb⟩ := hrel
      have HO1 := Lib.hid ho; have HT := Lib.hid ht; have HD := Lib.hid hdr; have HB1 := Lib.hid hb; have HDL := Lib.hid hdl
      clear ho ht hdr hb hdl
      by_cases hlt : k < l.length
      · obtain ⟨e, he⟩ : ∃ e, l[k]? = some e := ⟨_, List.getElem?_eq_getElem hlt⟩
        have hde : d[k]? = some e := by rw [(drop_same HD.out).2]; exact he
        obtain ⟨g', cap', hv, _, hgw, _, x0, x1, f0, f1⟩ := HO1.out.get hde
        injection hv with hv1 hv2 hv3
        injection hv1 with hv1
        injection hv1 with hv1 _ _
        clear hv2
        subst hv1 hv3
        have hlt2 : (k : Int) < (l.length : Int) := Int.ofNat_lt.2 hlt
        have i0 : (0 : Int) ≤ (k : Int) := by omega
        have a0 : (0 : Int) ≤ (a : Int) := by omega
        have a1 : (a : Int) < (l.length : Int) := by omega
        have HE := Lib.hid he
        have hb2 := (Below.refl wr.heap.size wr).alloc (Nat.le_refl _) (.cells (ecells e) 97)
        have hw2 : base ≤ wr.heap.size := by have := HG.out; omega
        have HB2 := Lib.hid (HB1.out.trans (hb2.mono hw2))
        have HO2 := Lib.hid (HO1.out.below hb2)
        have HC2 := Lib.hid (Cells.new wr 97 (ecells e))
        have KT := Lib.hid (dTest e s B (wr.alloc (.cells (ecells e) 97)) (by have := hb2.size; omega) (by rw [HB2.out.cell (p := ⟨B, 0, none⟩) hB]; exact HC.out))
        unfold Ino.Ent.val at KT
        unfold ecells at KT HC2 HO2 HB2
        clear he hb2 f0 f1
        cases hq : nameIs s e with
        | true =>
          have HN := Lib.hid (show dropN s (l.take (k + 1)) = dropN s (l.take k) by rw [dropN_snoc HE.out, hq]; simp)
          rw [hq] at KT
          clear hq
          go_wp2_with fail
          refine KT.out.mono ?_
          rintro e1 w2 ⟨rfl, hw2'⟩
          have HB3 := Lib.hid (grown_self hw2')
          clear hw2' KT x0 x1 hde
          go_wp2
          go_roundw
          case rel => exact ⟨a, k + 1, d, rfl, by go_num, by omega, by omega, HDL.out, HO2.out.below HB3.out, by rw [HN.out]; exact HT.out, (drop_same HD.out).1, HB2.out.trans (HB3.out.mono (by simp; omega))⟩
          case measure => simp [intOf]; omega
        | false =>
          rw [hq] at KT
          have HQ := Lib.hid hq
          clear hq
          go_wp2_with fail
          refine KT.out.mono ?_
          rintro e1 w2 ⟨rfl, hw2'⟩
          have HB3 := Lib.hid (grown_self hw2')
          have HO3 := Lib.hid (HO2.out.below HB3.out)
          obtain ⟨c0, c1⟩ := ecells2 (HC2.out.below' HB3.out)
          obtain ⟨ea, hea⟩ : ∃ ea, d[a]? = some ea := ⟨_, List.getElem?_eq_getElem (by rw [HDL.out]; omega)⟩
          obtain ⟨g', cap', hv, _, hgw3, _, y0, y1, z0, z1⟩ := HO3.out.get hea
          injection hv with hv1 hv2 hv3
          injection hv1 with hv1
          injection hv1 with hv1 _ _
          clear hv2
          subst hv1 hv3
          have HEA := Lib.hid hea
          clear hw2' KT x0 x1 hde hea
          go_wp2
          go_roundw
          case rel =>
            refine ⟨a + 1, k + 1, d.set a e, by go_num, by go_num, by omega, by omega, by rw [List.length_set]; exact HDL.out, HO3.out.set e HEA.out, del_keep hak HDL.out HT.out HE.out HQ.out, ?_, ?_⟩
            · rw [List.drop_set_of_lt (by omega)]; exact (drop_same HD.out).1
            · exact ((HB2.out.trans (HB3.out.mono (by simp; omega))).setCell HG.out _).setCell HG.out _
          case measure => simp [intOf]; omega
      · obtain rfl : k = l.length := by omega
        have ht := HT.out
        rw [List.take_length] at ht
        have hlen : (dropN s l).length = a := by rw [← ht, List.length_take, HDL.out]; omega
        obtain ⟨g', cap', cur', hv, hbg', hcs, hcap', hcm', hsz, htk⟩ := HO1.out.block (by rw [HDL.out]; omega)
        injection hv with hv1 hv2 hv3
        injection hv1 with hv1
        injection hv1 with hv1 _ _
        clear hv2
        subst hv1 hv3
        have hn0 : (0 : Int) ≤ (a : Int) := by omega
        have a1 : (a : Int) < (l.length : Int) := by omega
        have hcl := fun ty => clear_ents wr ty g (a * 2) (l.length - a) (c - a) cur' _ hcs (by omega) (by omega)
        obtain ⟨cs, hcs2⟩ : ∃ cs, (cur'.toList.take (a * 2) ++ (Builtin.zeroCells zE.cells (l.length - a)).toList ++ cur'.toList.drop (a * 2 + (l.length - a) * 2)).toArray = cs := ⟨_, rfl⟩
        rw [hcs2] at hcl
        have hown : OwnE (wr.setRow g cs) base (.slice (some ⟨g, 0, none⟩) a c) (dropN s l) := by
          refine OwnE.of hlen hbg' (cells_setRow hcs) (by omega) hcm' ?_ ?_
          · rw [← hcs2, ← Array.length_toList, List.toList_toArray, List.length_append, List.length_append, List.length_take, List.length_drop, Array.length_toList, Array.length_toList, zE_size]
            omega
          · rw [← hcs2, List.toList_toArray, List.append_assoc, List.take_append_of_le_length (by rw [List.length_take, Array.length_toList]; omega), List.take_take, ← ht, evals_take, ← htk, List.take_take]
            congr 1
            rw [HDL.out]; omega
        have HOW := Lib.hid hown
        have HBW := Lib.hid (HB1.out.trans (below_setRow (w := wr) (cs := cs) HG.out))
        clear hown hcs2 htk hsz hcs hbg' hlen ht
        go_wp2
        go_ret
        exact ⟨_, rfl, HOW.out, HBW.out⟩
end Go.Proofs.YtamndllolppmoaaGreatDoor

namespace Go.Proofs.YtamndllolppmoaaGreatDoor
open Wd Ino Go.RowKit Go.ChangeShapes Go.WideShapes Go.Sort
set_option linter.unusedVariables false
set_option maxRecDepth 100000

set_option maxHeartbeats 4000000 in
theorem dDropO {w : World} {hi : Nat} {A : Option Addr} {c : Nat} {l : List Ent} (h : Ens w hi A l) (hh : hi ≤ w.heap.size) (hm : l.length ≤ 1000) (hs : ∀ e ∈ l, e.s.size ≤ 1000) (s : ByteArray) : Calls Tryz.prog 131 #[.slice A l.length c, .string s] w (GivesO (dropN s l) (hasN s l) w) := by
  have hb1 := (Below.refl w.heap.size w).alloc (Nat.le_refl _) (.cells #[.string s] 9)
  have HB1 := Lib.hid hb1
  have KO := Lib.hid (dOwn (c := c) (h.below (hb1.mono hh)) (Nat.le_trans hh hb1.size) hm hs)
  have HC := Lib.hid (Cells.new w 9 #[.string s])
  have HD := Lib.hid (drop_less s l)
  have HQ := Lib.hid (show decide (((dropN s l).length : Int) < (l.length : Int)) = decide ((dropN s l).length < l.length) by simp)
  clear h hs hb1
  go_enter Tryz.func131, Tryz.ntmps131
  go_wp2_with fail
  refine KO.out.mono ?_
  rintro e1 w1 ⟨v, rfl, ho, hb⟩
  obtain ⟨A1, c1, rfl, _, _⟩ := ho.form
  have KD := Lib.hid (dDel ho hm s w.heap.size (by simp) hb.size ((HC.out.below' hb).cell 0))
  have HB2 := Lib.hid (HB1.out.trans (hb.mono HB1.out.size))
  clear ho hb KO
  unfold testV at KD
  go_wp2_with fail
  refine KD.out.mono ?_
  rintro e1 w2 ⟨v2, rfl, ho2, hb2⟩
  obtain ⟨A2, c2, rfl, hc2, hx2⟩ := ho2.form
  have HX := Lib.hid (ho2.mono HB1.out.size)
  have HB3 := Lib.hid (HB2.out.trans (hb2.mono HB1.out.size))
  clear ho2 hb2 hx2 KD
  obtain ⟨n, hn⟩ : ∃ n, (dropN s l).length = n := ⟨_, rfl⟩
  have HN := Lib.hid hn
  rw [hn] at HD HQ hc2 ⊢
  clear hn
  go_wp2
  go_ret2
  exact ⟨A2, c2, by rw [HN.out, ← HD.out]; rfl, by rw [HN.out]; exact hc2, (by first | exact HX.out | (have h9 := HX.out; rw [HN.out] at h9; exact h9)), HB3.out⟩
theorem dDrop {w : World} {hi : Nat} {A : Option Addr} {c : Nat} {l : List Ent} (h : Ens w hi A l) (hh : hi ≤ w.heap.size) (hm : l.length ≤ 1000) (hs : ∀ e ∈ l, e.s.size ≤ 1000) (s : ByteArray) : Calls Tryz.prog 131 #[.slice A l.length c, .string s] w (GivesE (dropN s l) (hasN s l) w) := (dDropO h hh hm hs s).mono fun _ _ k => k.ens
end Go.Proofs.YtamndllolppmoaaGreatDoor

namespace Go.Proofs.YtamndllolppmoaaGreatDoor
open Wd Ino Go.RowKit Go.ChangeShapes Go.WideShapes Go.Sort
set_option linter.unusedVariables false
set_option maxRecDepth 100000

/-! slices.Insert of one name -/
/-- X laid at a, then D behind it -/
theorem row_xd {E X D R : List Value} {a b d : Nat} (hR : R.take a = E) (hX : X.length = b) (hD : D.length = d) (hl : a + b + d ≤ R.length) {R1 : List Value} (h1 : R.take a ++ X ++ R.drop (a + b) = R1) :
    (R1.take (a + b) ++ D ++ R1.drop (a + b + d)).take (a + b + d) = E ++ X ++ D ∧ (R1.take (a + b) ++ D ++ R1.drop (a + b + d)).length = R.length := by
  have hE : E.length = a := by rw [← hR, List.length_take]; omega
  have hR1 : R1.length = R.length := by rw [← h1]; simp; omega
  have ht : R1.take (a + b) = E ++ X := by rw [← h1, hR, List.take_append_of_le_length (by simp; omega), List.take_of_length_le (by simp; omega)]
  refine ⟨?_, by simp; omega⟩
  rw [ht, List.take_append_of_le_length (by simp; omega), List.take_of_length_le (by simp; omega)]
/-- D laid behind a place, then X at the place -/
theorem row_dx {E X D R : List Value} {a b d : Nat} (hR : R.take a = E) (hX : X.length = b) (hD : D.length = d) (hl : a + b + d ≤ R.length) {R1 : List Value} (h1 : R.take (a + b) ++ D ++ R.drop (a + b + d) = R1) :
    (R1.take a ++ X ++ R1.drop (a + b)).take (a + b + d) = E ++ X ++ D ∧ (R1.take a ++ X ++ R1.drop (a + b)).length = R.length := by
  have hE : E.length = a := by rw [← hR, List.length_take]; omega
  have hR1 : R1.length = R.length := by rw [← h1]; simp; omega
  have ht : R1.take a = E := by rw [← h1, List.append_assoc, List.take_append_of_le_length (by simp; omega), List.take_take, ← hR]; congr 1; omega
  have hd : (R1.drop (a + b)).take d = D := by
    rw [← h1, List.append_assoc, List.drop_append_of_le_length (by simp; omega), List.drop_of_length_le (by simp; omega), List.nil_append, List.take_append_of_le_length (by omega), List.take_of_length_le (by omega)]
  refine ⟨?_, by simp; omega⟩
  rw [ht, List.append_assoc, List.append_assoc, List.take_append, List.take_of_length_le (by omega), hE, List.take_append, List.take_of_length_le (by omega), hX, show a + b + d - a - b = d by omega, hd]
def insE (l : List Ent) (k : Nat) (x : Ent) : List Ent := l.take k ++ x :: l.drop k
theorem insE_end {l : List Ent} {n : Nat} (h : l.length = n) (x : Ent) : insE l n x = l ++ [x] := by subst h; simp [insE]
theorem insE_len (l : List Ent) (k : Nat) (x : Ent) (hk : k ≤ l.length) : (insE l k x).length = l.length + 1 := by simp [insE]; omega
set_option maxHeartbeats 4000000 in
theorem dInsEnd {w : World} {base : Nat} {A : Option Addr} {c n : Nat} {l : List Ent} (hn : l.length = n) (h : OwnE w base (.slice A n c) l) (hm : n ≤ 1000) (hbs : base ≤ w.heap.size) (x : Ent) (gb hi : Nat) (hx : Ens w hi (some ⟨gb, 0, none⟩) [x]) :
    Calls Tryz.prog 155 #[.slice A n c, .int .i64 n, .slice (some ⟨gb, 0, none⟩) 1 1] w (MadeAt (insE l n x) base w) := by
  have HO := Lib.hid h; have HX := Lib.hid hx; have HN := Lib.hid hn
  have HL := Lib.hid (show l.length + [x].length ≤ 100000 by simp; omega)
  have HBS := Lib.hid hbs
  have hnc : n ≤ c := by
    obtain ⟨A1, c1, hv, h2, _⟩ := h.form
    injection hv with _ h3 h4
    omega
  clear h hx hn
  by_cases hc : c = n
  · subst hc
    go_enter Tryz.func155, Tryz.ntmps155
    go_wp2_with (at_builtin; refine wpList_append_ens (m := [x]) rfl (.tmp 23) (.tmp 24) rfl rfl rfl HO.out HX.out HL.out HBS.out ?_; intro v5 w5 hown5 hgr5 hat5; have HO5 := Lib.hid hown5; have HG5 := Lib.hid hgr5; clear hown5 hgr5 hat5)
    go_ret
    refine ⟨_, rfl, ?_, (Below.refl base w).grown HG5.out HBS.out (ownE_base HO.out)⟩
    rw [insE_end HN.out]
    exact HO5.out
  · have hc2 : ¬ (n = c) := fun e => hc e.symm
    go_enter Tryz.func155, Tryz.ntmps155
    go_wp2_with (at_builtin; refine wpList_append_ens (m := [x]) rfl (.tmp 23) (.tmp 24) rfl rfl rfl HO.out HX.out HL.out HBS.out ?_; intro v5 w5 hown5 hgr5 hat5; have HO5 := Lib.hid hown5; have HG5 := Lib.hid hgr5; clear hown5 hgr5 hat5)
    go_ret
    refine ⟨_, rfl, ?_, (Below.refl base w).grown HG5.out HBS.out (ownE_base HO.out)⟩
    rw [insE_end HN.out]
    exact HO5.out

theorem cells_src {w : World} {g c n : Nat} {t : TypeId} {cur : Array Value} {l : List Ent} (hc : Cells w g t cur) (ht : cur.toList.take (n * 2) = evals l) (k : Nat) (j : Nat) (v : Value) (h : (evals (l.drop k))[j]? = some v) : w.cell? ⟨g, k * 2 + j, none⟩ = some v := by
  rw [evals_drop, List.getElem?_drop, ← ht, List.getElem?_take] at h
  rw [hc.cell, ← Array.getElem?_toList]
  split at h
  · exact h
  · cases h
theorem addr_lit (g o j : Nat) : (⟨g, o, none⟩ : Addr).add j = ⟨g, o + j, none⟩ := by unfold Addr.add; split <;> simp_all
set_option maxHeartbeats 8000000 in
theorem dInsGrow {w : World} {base g c n k : Nat} {l : List Ent} (hn : l.length = n) (h : OwnE w base (.slice (some ⟨g, 0, none⟩) n c) l) (hm : n ≤ 1000) (hbs : base ≤ w.heap.size) (hk : k < n) (hroom : c < n + 1) (x : Ent) (gb hi : Nat) (hx : Cells w gb 97 (ecells x)) :
    Calls Tryz.prog 155 #[.slice (some ⟨g, 0, none⟩) n c, .int .i64 k, .slice (some ⟨gb, 0, none⟩) 1 1] w (MadeAt (insE l k x) base w) := by
  obtain ⟨i, i1, i2, i3, i4⟩ := info_parts infoE
  obtain ⟨g', cap, cur, hv, hbg, hcs, h1, h2, hsz, htk⟩ := h.block (by omega)
  injection hv with hv1 hv2 hv3
  injection hv1 with hv1
  injection hv1 with hv1 _ _
  clear hv2
  subst hv1 hv3
  have hgw : g < w.heap.size := hcs.lt
  -- the first k, and zeros behind them
  have hold : (Builtin.firstCells i.size k (.slice (some ⟨g, 0, none⟩) k c)).run Tryz.prog w.drew = .ok (evals (l.take k)).toArray w.drew := by
    rw [i3]
    exact run_firstCells_some w.drew 2 k ⟨g, 0, none⟩ k c (evals (l.take k)) (by rw [evals_len, List.length_take]; omega) (fun j v hj => by
      rw [addr_lit]
      rw [evals_take, List.getElem?_take] at hj
      split at hj
      · have := cells_src (c := c) hcs htk 0 j v (by simpa using hj)
        simpa using this
      · cases hj)
  obtain ⟨G, hG⟩ : ∃ G, G = grownCap w (n + 1) c 97 := ⟨_, rfl⟩
  have hik : k + (n + 1 - k) = n + 1 := by omega
  have hrz := fun ty => Lib.run_append_grow_zeros w 36 3 ty 97 i _ .i64 .i64 Tryz.underlying36 Tryz.underlying3 i1 i2 (some ⟨g, 0, none⟩) k c (evals (l.take k)) hold (n + 1 - k) (by omega) (by omega) (by omega) (by omega) (by rw [i4]; omega) (by rw [i4, hik]; exact growslice_fits (by omega) (by omega))
  rw [hik, ← hG] at hrz
  have hcx := hx
  obtain ⟨NB, hNB⟩ : ∃ NB, w.heap.size = NB := ⟨_, rfl⟩
  obtain ⟨ROW, hROW⟩ : ∃ ROW : Array Value, (evals (l.take k)).toArray ++ Builtin.zeroCells zE.cells (n + 1 - k) ++ Builtin.zeroCells zE.cells (G - (n + 1)) = ROW := ⟨_, rfl⟩
  change ∀ ty, _ = Result.ok _ (w.drew.alloc (.cells ((evals (l.take k)).toArray ++ Builtin.zeroCells zE.cells (n + 1 - k) ++ Builtin.zeroCells zE.cells (G - (n + 1))) 97)) at hrz
  rw [hROW, hNB] at hrz
  have hGn : n + 1 ≤ G := by rw [hG]; exact grownCap_ge w _ _ _
  have hGm : G ≤ maxLen := by rw [hG]; exact grownCap_le_maxLen w (n + 1) c 97 (by unfold maxLen; omega)
  have hRs : ROW.size = G * 2 := by
    rw [← hROW, Array.size_append, Array.size_append, zE_size, zE_size, List.size_toArray, evals_len, List.length_take]
    omega
  have hRt : ROW.toList.take (k * 2) = evals (l.take k) := by
    rw [← hROW, Array.toList_append, Array.toList_append, List.toList_toArray, List.append_assoc, List.take_append_of_le_length (by rw [evals_len, List.length_take]; omega), List.take_of_length_le (by rw [evals_len, List.length_take]; omega)]
  obtain ⟨W1, hW1⟩ : ∃ W1, w.drew.alloc (.cells ROW 97) = W1 := ⟨_, rfl⟩
  have b1 : Below w.heap.size w W1 := by rw [← hW1]; exact (Below.refl _ w).drew.alloc (Nat.le_refl _) _
  have c1 : Cells W1 NB 97 ROW := by rw [← hW1, ← hNB]; exact Cells.new w.drew _ _
  rw [hW1] at hrz
  have g1 : Cells W1 g 97 cur := hcs.below b1 hgw
  have x1 : Cells W1 gb 97 (ecells x) := hcx.below b1 hcx.lt
  -- the name
  obtain ⟨R1, hR1⟩ : ∃ R1, ROW.toList.take (k * 2) ++ evals [x] ++ ROW.toList.drop (k * 2 + 2) = R1 := ⟨_, rfl⟩
  have hRl : ROW.toList.length = G * 2 := by rw [Array.length_toList, hRs]
  have hR1l : R1.length = G * 2 := by rw [← hR1]; simp [evals_len]; omega
  have hcpA := fun ty dc => copy_ents W1 ty NB (k * 2) (n + 1 - k) dc ⟨gb, 0, none⟩ 1 1 ROW _ [x] c1 (by show 1 = min 1 (n + 1 - k); omega) (fun j v hj => by
    rw [addr_lit, Nat.zero_add, x1.cell j, ← Array.getElem?_toList]; exact hj) (by rw [hRs]; simp; omega)
  have e1 : k * 2 + [x].length * 2 = k * 2 + 2 := by simp
  rw [e1, hR1] at hcpA
  obtain ⟨W2, hW2⟩ : ∃ W2, W1.setRow NB R1.toArray = W2 := ⟨_, rfl⟩
  rw [hW2] at hcpA
  have b2 : Below w.heap.size w W2 := by rw [← hW2]; exact b1.trans (below_setRow (by omega))
  have c2 : Cells W2 NB 97 R1.toArray := by rw [← hW2]; exact cells_setRow c1
  have g2 : Cells W2 g 97 cur := hcs.below b2 hgw
  -- what stood from k on
  have hdl : (l.drop k).length = n - k := by rw [List.length_drop, hn]
  have hcpB := fun ty dc sc => copy_ents W2.drew ty NB ((k + 1) * 2) (n + 1 - (k + 1)) dc ⟨g, k * 2, none⟩ (n - k) sc R1.toArray _ (l.drop k) c2 (by rw [hdl]; show n - k = min (n - k) (n + 1 - (k + 1)); omega) (fun j v hj => by
    rw [addr_lit]; exact cells_src (c := c) g2 htk k j v hj) (by rw [hdl, List.size_toArray, hR1l]; omega)
  rw [hdl, List.toList_toArray] at hcpB
  have hrow := row_xd (E := evals (l.take k)) (X := evals [x]) (D := evals (l.drop k)) (a := k * 2) (b := 2) (d := (n - k) * 2) hRt rfl (by rw [evals_len, hdl]) (by rw [hRl]; omega) hR1
  rw [show k * 2 + 2 = (k + 1) * 2 by omega] at hrow
  obtain ⟨R2, hR2⟩ : ∃ R2, R1.take ((k + 1) * 2) ++ evals (l.drop k) ++ R1.drop ((k + 1) * 2 + (n - k) * 2) = R2 := ⟨_, rfl⟩
  rw [hR2] at hcpB hrow
  obtain ⟨W3, hW3⟩ : ∃ W3, W2.drew.setRow NB R2.toArray = W3 := ⟨_, rfl⟩
  rw [hW3] at hcpB
  have b3 : Below w.heap.size w W3 := by rw [← hW3]; exact b2.drew.trans (below_setRow (by omega))
  have c3 : Cells W3 NB 97 R2.toArray := by rw [← hW3]; exact cells_setRow (w := W2.drew) c2
  have hown : OwnE W3 base (.slice (some ⟨NB, 0, none⟩) (n + 1) G) (insE l k x) := by
    refine OwnE.of (by rw [insE_len _ _ _ (by omega), hn]) (by omega) c3 hGn hGm (by rw [List.size_toArray, hrow.2, hRl]) ?_
    rw [List.toList_toArray, show (n + 1) * 2 = (k + 1) * 2 + (n - k) * 2 by omega, hrow.1]
    show _ = evals (l.take k ++ ([x] ++ l.drop k))
    rw [evals_append, evals_append, List.append_assoc]
  have mixed : Tryz.prog.follows .mixedOrders = true := by kernel_rfl
  have HOW := Lib.hid hown
  have HB3 := Lib.hid (b3.mono hbs)
  have hw1 : IntKind.i64.wrap ((k : Int) + 1) = (k : Int) + 1 := by rw [IntKind.wrap_i64]; omega
  have hb1 : (0 : Int) ≤ (k : Int) + 1 := by omega
  have htn : ((k : Int) + 1).toNat = k + 1 := by omega
  have hkk : (n : Int) + 1 - (k : Int) = ((n + 1 - k : Nat) : Int) := by omega
  have hGi : ¬ (G = k) := by omega
  have hGim : ¬ (G = k + 1) := by omega
  have hci : ¬ (c = k) := by omega
  have hk0 : (0 : Int) ≤ (k : Int) := by omega
  have hkn : (k : Int) ≤ (n : Int) := by omega
  have hne : ((k : Int) == (n : Int)) = false := beq_eq_false_iff_ne.2 (by omega)
  have hwk : IntKind.i64.wrap ((n : Int) + 1 - (k : Int)) = (n : Int) + 1 - (k : Int) := by rw [IntKind.wrap_i64]; omega
  have hwn : IntKind.i64.wrap ((n : Int) + 1) = (n : Int) + 1 := by rw [IntKind.wrap_i64]; omega
  have hgt : decide ((c : Int) < (n : Int) + 1) = true := decide_eq_true (by omega)
  clear hold hik hROW hRs hRt hW1 hW2 hW3 hR1 hR2 hRl hR1l hrow hown b1 b2 b3 c1 c2 c3 g1 g2 x1 e1 hdl hcs htk hsz hG hGm hx hcx i1 i2 i3 i4 h hgw hNB
  go_enter Tryz.func155, Tryz.ntmps155
  go_wp2_with (first
    | (at_builtin; refine Lib.wpList_append_run _ rfl _ _ _ _ rfl _ _ rfl rfl _ _ (hrz _) ?_)
    | (at_builtin; refine wpList_copy_runI _ rfl _ _ 36 36 rfl _ _ rfl rfl (hcpA _ _) ?_))
  go_region_law_o (refine step_copy_runI rfl _ _ 36 36 rfl (.slice (some ⟨NB, (k + 1) * 2, none⟩) (n + 1 - (k + 1)) (G - (k + 1))) (.slice (some ⟨g, k * 2, none⟩) (n - k) (c - k)) (by simp [Act.eval, Act.put]) (by simp [Act.eval, Act.put]) (hcpB 3 (G - (k + 1)) (c - k)) ?_)
  go_wp2
  go_ret
  exact ⟨_, rfl, HOW.out, HB3.out⟩

set_option maxHeartbeats 8000000 in
theorem dInsShift {w : World} {base g c n k : Nat} {l : List Ent} (hn : l.length = n) (h : OwnE w base (.slice (some ⟨g, 0, none⟩) n c) l) (hm : n ≤ 1000) (hbs : base ≤ w.heap.size) (hk : k < n) (hroom : n + 1 ≤ c) (x : Ent) (gb : Nat) (hx : Cells w gb 97 (ecells x)) (hgg : gb ≠ g) :
    Calls Tryz.prog 155 #[.slice (some ⟨g, 0, none⟩) n c, .int .i64 k, .slice (some ⟨gb, 0, none⟩) 1 1] w (MadeAt (insE l k x) base w) := by
  obtain ⟨i, i1, i2, i3, i4⟩ := info_parts infoE
  obtain ⟨g', cap, cur, hv, hbg, hcs, h1, h2, hsz, htk⟩ := h.block (by omega)
  injection hv with hv1 hv2 hv3
  injection hv1 with hv1
  injection hv1 with hv1 _ _
  clear hv2
  subst hv1 hv3
  have hov : ∀ lb cb, (callFunc 171 #[.slice (some ⟨gb, 0, none⟩) 1 1, .slice (some ⟨g, (k + 1) * 2, none⟩) lb cb]).run Tryz.prog w = .ok (.value (.bool false)) w := fun lb cb => by
    rw [run_callFunc_extern Tryz.func171 (by kernel_rfl) (by kernel_rfl) (by kernel_rfl) (e := Extern.SlicesOverlaps.overlaps #[36, 36] #[4]) (by kernel_rfl),
      Lib.run_overlaps_apart w 36 4 97 Tryz.underlying36 2 (fun w => by simp [Go.sizeOf, typeInfo, i1, i3]) ⟨gb, 0, none⟩ ⟨g, (k + 1) * 2, none⟩ 1 1 lb cb hgg 97 97 2 (c * 2)
        (by unfold World.shape?; rw [show w.heap[gb]? = _ from hx]; rfl) (by unfold World.shape?; rw [show w.heap[g]? = _ from hcs]; simp [hsz]) (by omega) (hx.free _) (hx.free _)]
    rfl
  have hdl : (l.drop k).length = n - k := by rw [List.length_drop, hn]
  -- what stands from k on
  have hcl : cur.toList.length = c * 2 := by rw [Array.length_toList, hsz]
  obtain ⟨R1, hR1⟩ : ∃ R1, cur.toList.take (k * 2 + 2) ++ evals (l.drop k) ++ cur.toList.drop (k * 2 + 2 + (n - k) * 2) = R1 := ⟨_, rfl⟩
  have hR1l : R1.length = c * 2 := by rw [← hR1]; simp [evals_len]; omega
  have hcpB := fun ty dc sc => copy_ents w.drew ty g ((k + 1) * 2) (n + 1 - (k + 1)) dc ⟨g, k * 2, none⟩ (n + 1 - k) sc cur _ (l.drop k) hcs (by rw [hdl]; show n - k = min (n + 1 - k) (n + 1 - (k + 1)); omega) (fun j v hj => by
    rw [addr_lit]; exact cells_src (c := c) (w := w.drew) hcs htk k j v hj) (by rw [hdl, hsz]; omega)
  rw [hdl, show (k + 1) * 2 = k * 2 + 2 by omega, hR1] at hcpB
  obtain ⟨W2, hW2⟩ : ∃ W2, w.drew.setRow g R1.toArray = W2 := ⟨_, rfl⟩
  rw [hW2] at hcpB
  have b2 : Below base w W2 := by rw [← hW2]; exact (Below.refl base w).drew.trans (below_setRow hbg)
  have c2 : Cells W2 g 97 R1.toArray := by rw [← hW2]; exact cells_setRow (w := w.drew) hcs
  have x2 : Cells W2 gb 97 (ecells x) := by
    rw [← hW2]
    show (w.drew.setRow g R1.toArray).heap[gb]? = _
    rw [setRow_other _ _ _ _ hgg]
    exact hx
  -- the name
  obtain ⟨R2, hR2⟩ : ∃ R2, R1.take (k * 2) ++ evals [x] ++ R1.drop (k * 2 + 2) = R2 := ⟨_, rfl⟩
  have hcpA := fun ty dc => copy_ents W2 ty g (k * 2) (n + 1 - k) dc ⟨gb, 0, none⟩ 1 1 R1.toArray _ [x] c2 (by show 1 = min 1 (n + 1 - k); omega) (fun j v hj => by
    rw [addr_lit, Nat.zero_add, x2.cell j, ← Array.getElem?_toList]; exact hj) (by rw [List.size_toArray, hR1l]; simp; omega)
  have e1 : k * 2 + [x].length * 2 = k * 2 + 2 := by simp
  rw [e1, List.toList_toArray, hR2] at hcpA
  obtain ⟨W3, hW3⟩ : ∃ W3, W2.setRow g R2.toArray = W3 := ⟨_, rfl⟩
  rw [hW3] at hcpA
  have b3 : Below base w W3 := by rw [← hW3]; exact b2.trans (below_setRow hbg)
  have c3 : Cells W3 g 97 R2.toArray := by rw [← hW3]; exact cells_setRow c2
  have hRt : cur.toList.take (k * 2) = evals (l.take k) := by
    rw [evals_take, ← htk, List.take_take]
    congr 1
    omega
  have hrow := row_dx (E := evals (l.take k)) (X := evals [x]) (D := evals (l.drop k)) (a := k * 2) (b := 2) (d := (n - k) * 2) hRt rfl (by rw [evals_len, hdl]) (by rw [hcl]; omega) hR1
  rw [hR2] at hrow
  have hown : OwnE W3 base (.slice (some ⟨g, 0, none⟩) (n + 1) c) (insE l k x) := by
    refine OwnE.of (by rw [insE_len _ _ _ (by omega), hn]) hbg c3 hroom h2 (by rw [List.size_toArray, hrow.2, hcl]) ?_
    rw [List.toList_toArray, show (n + 1) * 2 = k * 2 + 2 + (n - k) * 2 by omega, hrow.1]
    show _ = evals (l.take k ++ ([x] ++ l.drop k))
    rw [evals_append, evals_append, List.append_assoc]
  have mixed : Tryz.prog.follows .mixedOrders = true := by kernel_rfl
  have HOW := Lib.hid hown
  have HB3 := Lib.hid b3
  rw [show k * 2 + 2 = (k + 1) * 2 by omega] at hcpB
  have hw1 : IntKind.i64.wrap ((k : Int) + 1) = (k : Int) + 1 := by rw [IntKind.wrap_i64]; omega
  have hb1 : (0 : Int) ≤ (k : Int) + 1 := by omega
  have htn : ((k : Int) + 1).toNat = k + 1 := by omega
  have hci : ¬ (c = k) := by omega
  have hci1 : ¬ (c = k + 1) := by omega
  have hk0 : (0 : Int) ≤ (k : Int) := by omega
  have hkn : (k : Int) ≤ (n : Int) := by omega
  have hkn1 : (k : Int) ≤ (n : Int) + 1 := by omega
  have hkn2 : (k : Int) + 1 ≤ (n : Int) + 1 := by omega
  have hne : ((k : Int) == (n : Int)) = false := beq_eq_false_iff_ne.2 (by omega)
  have hwn : IntKind.i64.wrap ((n : Int) + 1) = (n : Int) + 1 := by rw [IntKind.wrap_i64]; omega
  have hgt : decide ((c : Int) < (n : Int) + 1) = false := decide_eq_false (by omega)
  have hn1 : ((n : Int) + 1).toNat = n + 1 := by omega
  have hn1c : (n : Int) + 1 ≤ (c : Int) := by omega
  have hnn : (0 : Int) ≤ (n : Int) + 1 := by omega
  clear hW2 hW3 hR1 hR2 hcl hR1l hrow hown b2 b3 c2 c3 x2 e1 hdl hcs htk hsz i1 i2 i3 i4 h hRt hx
  go_enter Tryz.func155, Tryz.ntmps155
  go_wp2_with (simp only [hov])
  go_region_law_o (refine step_copy_runI rfl _ _ 36 36 rfl (.slice (some ⟨g, (k + 1) * 2, none⟩) (n + 1 - (k + 1)) (c - (k + 1))) (.slice (some ⟨g, k * 2, none⟩) (n + 1 - k) (c - k)) (by simp [Act.eval, Act.put]) (by simp [Act.eval, Act.put]) (hcpB 3 (c - (k + 1)) (c - k)) ?_)
  go_wp2_with (at_builtin; refine wpList_copy_runI _ rfl _ _ 36 36 rfl _ _ rfl rfl (hcpA _ _) ?_)
  go_ret
  exact ⟨_, rfl, HOW.out, HB3.out⟩

/-- wherever it is laid -/
theorem dIns {w : World} {base n c k : Nat} {A : Option Addr} {l : List Ent} (hn : l.length = n) (h : OwnE w base (.slice A n c) l) (hm : n ≤ 1000) (hbs : base ≤ w.heap.size) (hk : k ≤ n) (x : Ent) (gb : Nat) (hx : Cells w gb 97 (ecells x)) (hgg : ∀ q, (Value.slice A n c).ownBlock = some q → gb ≠ q) :
    Calls Tryz.prog 155 #[.slice A n c, .int .i64 k, .slice (some ⟨gb, 0, none⟩) 1 1] w (MadeAt (insE l k x) base w) := by
  by_cases hkn : k = n
  · subst hkn
    exact dInsEnd hn h hm hbs x gb (gb + 1) (ens_one hx (Nat.lt_succ_self _))
  · obtain ⟨g, cap, cur, hv, hbg, hcs, h1, h2, hsz, htk⟩ := h.block (by omega)
    injection hv with hv1 hv2 hv3
    subst hv1 hv3
    by_cases hr : n + 1 ≤ c
    · exact dInsShift hn h hm hbs (by omega) hr x gb hx (hgg g rfl)
    · exact dInsGrow (hi := 0) hn h hm hbs (by omega) (by omega) x gb hx
end Go.Proofs.YtamndllolppmoaaGreatDoor

namespace Go.Proofs.YtamndllolppmoaaGreatDoor
open Wd Go.ChangeShapes Go.WideShapes Go.RowKit Go.Sort
set_option linter.unusedVariables false

theorem none_split {s : ByteArray} {v : Int} {w : World} (h : pathE s.toList = v) (hv : v ≠ 0) : SplitDone s.toList w (.returned (.tuple #[.slice none 0 0, .int .i64 v])) w := by
  refine ⟨.slice none 0 0, [], by rw [h], ?_, ⟨rfl, .inl ⟨rfl, rfl⟩⟩, Below.refl _ _⟩
  unfold pathL
  rw [h, if_neg hv]; rfl

theorem refSplit_any (s : ByteArray) (w : World) (hs : s.size ≤ 1000) : Calls Tryz.prog 36 #[.string s] w (SplitDone s.toList w) := by
  have hsz := size_list s
  by_cases h1 : 120 < s.size
  · have hE : pathE s.toList = 36 := by unfold pathE; rw [hsz, if_pos h1]
    have hd := none_split (w := w) hE (by decide)
    have HD := Lib.hid hd
    have hdec : decide ((120 : Int) < (s.size : Int)) = true := decide_eq_true (by omega)
    clear hd hE
    go_enter Tryz.func36, Tryz.ntmps36
    go_wp2
    go_ret2
    exact HD.out
  · have hdec : decide ((120 : Int) < (s.size : Int)) = false := decide_eq_false (by omega)
    by_cases h0 : 0 < s.size
    · have hget := get_list s 0 h0
      have hhead : s.toList.head? = some s[0] := by rw [List.head?_eq_getElem?]; exact hget
      by_cases hc : s[0] = 47
      · have hE : pathE s.toList = errOf (pieces (s.toList.drop 1)) := by
          unfold pathE
          rw [hsz, if_neg h1, hhead, hc, if_pos rfl]
        exact split_good s w (by omega) h0 (by rw [hc]; rfl) hE
      · have hE : pathE s.toList = 22 := by
          unfold pathE
          rw [hsz, if_neg h1, hhead, if_neg (by intro h; exact hc (Option.some.inj h))]
        have hd := none_split (w := w) hE (by decide)
        have HD := Lib.hid hd
        have hemp : s.toList.isEmpty = false := by
          cases hl : s.toList with
          | nil => rw [hl] at hsz; simp at hsz; omega
          | cons a t => rfl
        have q1 : ((s[0].toNat : Int) != 47) = true := by
          rw [bne_iff_ne]
          intro h
          have h47 : s[0].toNat = 47 := by omega
          exact hc (UInt8.toNat_inj.1 h47)
        clear hd hE hget hhead hc hsz h1
        go_enter Tryz.func36, Tryz.ntmps36
        go_wp2
        go_ret2
        exact HD.out
    · have hl : s.toList = [] := List.eq_nil_of_length_eq_zero (by omega)
      have hE : pathE s.toList = 22 := by unfold pathE; rw [hl]; rfl
      have hd := none_split (w := w) hE (by decide)
      have HD := Lib.hid hd
      have hemp : s.toList.isEmpty = true := by rw [hl]; rfl
      clear hd hE hl hsz h1
      go_enter Tryz.func36, Tryz.ntmps36
      go_wp2
      go_ret2
      exact HD.out

def AlikeS (xs ys : List ByteArray) (W : World) (i : Value) (w : World) : Prop := ∃ k d : Nat, k ≤ xs.length ∧ i = .int .i64 k ∧ xs.take k = ys.take k ∧ w = W.drewN d

theorem tolist_inj {a b : ByteArray} (h : a.toList = b.toList) : a = b := by
  rw [ByteArray.toList_eq, ByteArray.toList_eq] at h
  cases a with | mk x => cases b with | mk y => exact congrArg ByteArray.mk (Array.toList_inj.1 h)
theorem take_one' {α : Type} {l : List α} {k : Nat} {x : α} (h : l[k]? = some x) : l.take (k + 1) = l.take k ++ [x] := by
  rw [List.take_add_one, h]; rfl

end Go.Proofs.YtamndllolppmoaaGreatDoor

namespace Go.Proofs.YtamndllolppmoaaGreatDoor
open Wd Go.ChangeShapes Go.WideShapes Go.RowKit Go.Sort
set_option linter.unusedVariables false

/-- a slash ahead of each -/
def slashed (l : List (List UInt8)) : List UInt8 := l.flatMap (fun p => 47 :: p)
def joinN (l : List (List UInt8)) : List UInt8 := if l = [] then [47] else slashed l
theorem slashed_snoc (l : List (List UInt8)) (p : List UInt8) : slashed (l ++ [p]) = slashed l ++ 47 :: p := by
  unfold slashed; rw [List.flatMap_append]; simp
theorem slashed_le (l : List (List UInt8)) (k : Nat) : (slashed (l.take k)).length ≤ (slashed l).length := by
  have h := List.take_append_drop k l
  have e : slashed l = slashed (l.take k) ++ slashed (l.drop k) := by
    unfold slashed
    rw [← List.flatMap_append, h]
  rw [e, List.length_append]; omega

def JoinRel (ls : List ByteArray) (W : World) (iv sv : Value) (w : World) : Prop := ∃ (k : Nat) (b : ByteArray), k ≤ ls.length ∧ iv = .int .i64 k ∧ sv = .string b ∧ b.toList = slashed ((ls.map ByteArray.toList).take k) ∧ w = W
def TextIs (l : List UInt8) (W : World) (e : Ending) (w : World) : Prop := ∃ b : ByteArray, e = .returned (.string b) ∧ b.toList = l ∧ W = w
theorem append_list (a b : ByteArray) : (a ++ b).toList = a.toList ++ b.toList := by
  rw [ByteArray.toList_eq, ByteArray.toList_eq, ByteArray.toList_eq]; simp

theorem empty_list : ByteArray.empty.toList = [] := by rw [ByteArray.toList_eq]; rfl
theorem slash_list : (ByteArray.mk #[47]).toList = [47] := by rw [ByteArray.toList_eq]

end Go.Proofs.YtamndllolppmoaaGreatDoor
