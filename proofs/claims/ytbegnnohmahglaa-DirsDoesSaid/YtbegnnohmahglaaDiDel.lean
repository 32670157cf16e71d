import Derived.Test.YtbegnnohmahglaaDiNm
import Derived.Test.YtbegnnohmahglaaEnOps
namespace Go.Proofs.Ytbegnnohmahglaa
open Wd Ino Go.RowKit Go.ChangeShapes Go.WideShapes Go.Sort
set_option linter.unusedVariables false
set_option maxRecDepth 100000

/-! slices.DeleteFunc with Drop's test, and Drop -/
def testV (B : Nat) : Value := .func (.func 27) #[] #[.pointer (some ⟨B, 0, none⟩)]
set_option maxHeartbeats 1000000 in
theorem dTest (e : Ent) (s : ByteArray) (B : Nat) (w : World) (hB : B < w.heap.size) (hc : w.cell? ⟨B, 0, none⟩ = some (.string s)) : Calls Try.prog 27 #[e.val, .pointer (some ⟨B, 0, none⟩)] w (Grows (.bool (nameIs s e)) w) := by
  have c2 := Lib.cell?_alloc_some (.cells (ecells e) 32) hc
  have HQ := Lib.hid (show (e.s.toList == s.toList) = nameIs s e from rfl)
  unfold Ino.Ent.val
  unfold ecells at c2
  go_enter Try.func27, Try.ntmps27
  go_wp2
  go_ret
  exact ⟨by rw [← HQ.out]; rfl, grow_one _ _⟩
def firstI (s : ByteArray) (l : List Ent) : Int := if hasN s l then (l.findIdx (nameIs s) : Int) else -1
set_option maxHeartbeats 4000000 in
theorem dIndex {w : World} {hi : Nat} {A : Option Addr} {c : Nat} {l : List Ent} (h : Ens w hi A l) (hh : hi ≤ w.heap.size) (hm : l.length ≤ 1000) (s : ByteArray) (B : Nat) (hB : B < w.heap.size) (hc : w.cell? ⟨B, 0, none⟩ = some (.string s)) :
    Calls Try.prog 35 #[.slice A l.length c, testV B] w (Grows (.int .i64 (firstI s l)) w) := by
  have H := Lib.hid h
  have HC := Lib.hid hc
  unfold testV
  clear h hc
  go_enter Try.func35, Try.ntmps35
  go_wp2
  go_loopw [8] (fun i wr => FindRel s l w i wr) (fun i _ => l.length - (intOf i).toNat)
  case atStart => exact ⟨0, Nat.zero_le _, rfl, by simp, grow_none _⟩
  case round =>
    obtain ⟨k, hk, rfl, hno, hgr⟩ := hrel
    have HNO := Lib.hid hno; have HG := Lib.hid hgr
    have HB := Lib.hid (grown_self hgr)
    clear hno hgr
    by_cases hlt : k < l.length
    · obtain ⟨e, he⟩ : ∃ e, l[k]? = some e := ⟨_, List.getElem?_eq_getElem hlt⟩
      obtain ⟨bl, off, rfl, hbB, x0, x1⟩ := ens_cells (H.out.below (HB.out.mono hh)) he
      have hlt2 : (k : Int) < (l.length : Int) := Int.ofNat_lt.2 hlt
      have i0 : (0 : Int) ≤ (k : Int) := by omega
      have HE := Lib.hid he
      have KT := Lib.hid (dTest e s B wr (Nat.lt_of_lt_of_le hB HB.out.size) (by rw [HB.out.cell (p := ⟨B, 0, none⟩) hB]; exact HC.out))
      unfold Ino.Ent.val at KT
      clear he
      cases hn : nameIs s e with
      | true =>
        have HR := Lib.hid (look_yes HNO.out HE.out hn)
        rw [hn] at KT
        clear hn
        go_wp2_with fail
        refine KT.out.mono ?_
        rintro e1 w2 ⟨rfl, hw2⟩
        have HW2 := Lib.hid hw2
        clear hw2 KT x0 x1
        go_wp2
        go_ret
        have hr := HR.out
        refine ⟨?_, grow_trans HG.out HW2.out⟩
        unfold firstI
        rw [if_pos hr.1, show l.findIdx (nameIs s) = k by have h2 := hr.2.1; unfold lookN at h2; rwa [if_pos hr.1] at h2]
        rfl
      | false =>
        have HN := Lib.hid (none_snoc HE.out HNO.out hn)
        rw [hn] at KT
        clear hn
        go_wp2_with fail
        refine KT.out.mono ?_
        rintro e1 w2 ⟨rfl, hw2⟩
        have HW2 := Lib.hid hw2
        clear hw2 KT x0 x1
        go_wp2
        go_roundw
        case rel => exact ⟨k + 1, by omega, by go_num, HN.out, grow_trans HG.out HW2.out⟩
        case measure => simp [intOf]; omega
    · obtain rfl : k = l.length := by omega
      have hno := HNO.out
      rw [List.take_length] at hno
      have HR := Lib.hid (look_no hno)
      clear hno
      go_wp2
      go_ret
      exact ⟨by unfold firstI; rw [if_neg (by rw [HR.out.1]; decide)]; rfl, HG.out⟩
def MadeAt (l : List Ent) (base : Nat) (w : World) (e : Ending) (w' : World) : Prop := ∃ v, e = .returned v ∧ OwnE w' base v l ∧ Below base w w'
def DelRel (s : ByteArray) (l : List Ent) (base g cap : Nat) (w : World) (i j : Value) (wr : World) : Prop := ∃ (a k : Nat) (d : List Ent), i = .int .i64 a ∧ j = .int .i64 k ∧ k ≤ l.length ∧ a < k ∧ d.length = l.length ∧
  OwnE wr base (.slice (some ⟨g, 0, none⟩) l.length cap) d ∧ d.take a = dropN s (l.take k) ∧ d.drop k = l.drop k ∧ Below base w wr
theorem del_start {s : ByteArray} {l : List Ent} {k : Nat} {e : Ent} (h0 : ∀ x ∈ l.take k, nameIs s x = false) (he : l[k]? = some e) (hs : nameIs s e = true) : l.take k = dropN s (l.take (k + 1)) := by
  rw [dropN_snoc he, hs, if_pos rfl, List.append_nil, dropN_none (has_false.2 h0)]
theorem del_keep {s : ByteArray} {l d : List Ent} {a k : Nat} {e : Ent} (hak : a < k) (hd : d.length = l.length) (ht : d.take a = dropN s (l.take k)) (he : l[k]? = some e) (hs : nameIs s e = false) : (d.set a e).take (a + 1) = dropN s (l.take (k + 1)) := by
  have hk : k < l.length := (List.getElem?_eq_some_iff.1 he).1
  rw [dropN_snoc he, hs, ← ht, List.take_add_one, List.take_set_of_le (Nat.le_refl _), List.getElem?_set_self (by omega)]
  rfl
theorem drop_same {l d : List Ent} {k : Nat} (h : d.drop k = l.drop k) : d.drop (k + 1) = l.drop (k + 1) ∧ d[k]? = l[k]? := by
  have h1 : ∀ (x : List Ent), x.drop (k + 1) = (x.drop k).drop 1 := fun x => by rw [List.drop_drop]
  have h2 : ∀ (x : List Ent), x[k]? = (x.drop k)[0]? := fun x => by rw [List.getElem?_drop, Nat.add_zero]
  exact ⟨by rw [h1, h1 l, h], by rw [h2, h2 l, h]⟩
set_option maxHeartbeats 8000000 in
theorem dDel {w : World} {base : Nat} {A : Option Addr} {c : Nat} {l : List Ent} (h : OwnE w base (.slice A l.length c) l) (hm : l.length ≤ 1000) (s : ByteArray) (B : Nat) (hB : B < base) (hbs : base ≤ w.heap.size) (hc : w.cell? ⟨B, 0, none⟩ = some (.string s)) :
    Calls Try.prog 26 #[.slice A l.length c, testV B] w (MadeAt (dropN s l) base w) := by
  obtain ⟨A', c', hv, _, hx⟩ := h.form
  injection hv with hv1 _ hv3
  subst hv1 hv3
  have HO := Lib.hid h
  have HC := Lib.hid hc
  have KI := Lib.hid (dIndex (c := c) hx (Nat.le_refl _) hm s B (by omega) hc)
  unfold testV at KI ⊢
  clear h hc hx
  cases hn : hasN s l with
  | false =>
    have HD := Lib.hid (dropN_none hn)
    rw [show firstI s l = -1 by unfold firstI; rw [if_neg (by rw [hn]; decide)]] at KI
    clear hn
    go_enter Try.func26, Try.ntmps26
    go_wp2_with fail
    refine KI.out.mono ?_
    rintro e1 w1 ⟨rfl, hw1⟩
    have HB := Lib.hid (grown_self hw1)
    clear hw1 KI
    go_wp2
    go_ret
    exact ⟨_, rfl, by rw [HD.out]; exact HO.out.below HB.out, HB.out.mono hbs⟩
  | true =>
    obtain ⟨e0, he0, _⟩ := look_at hn
    have hl0 : lookN s l = l.findIdx (nameIs s) := by unfold lookN; rw [if_pos hn]
    obtain ⟨k0, hk0⟩ : ∃ k0, l.findIdx (nameIs s) = k0 := ⟨_, rfl⟩
    rw [hl0, hk0] at he0
    rw [show firstI s l = (k0 : Int) by unfold firstI; rw [if_pos hn, hk0]] at KI
    have hlt0 : k0 < l.length := (List.getElem?_eq_some_iff.1 he0).1
    have h0 : ∀ x ∈ l.take k0, nameIs s x = false := fun x hx => by
      obtain ⟨i, hi, rfl⟩ := List.mem_take_iff_getElem.1 hx
      simpa using List.not_of_lt_findIdx (show i < l.findIdx (nameIs s) by omega)
    have hs0 : nameIs s e0 = true := by
      have h1 := List.findIdx_getElem (p := nameIs s) (xs := l) (w := by rw [hk0]; exact hlt0)
      simp only [hk0] at h1
      rw [List.getElem?_eq_getElem hlt0] at he0
      cases he0
      exact h1
    have HS := Lib.hid (del_start h0 he0 hs0)
    obtain ⟨g, cap, cur, hv, hbg, _, hcap, hcm, _, _⟩ := HO.out.block (by omega)
    injection hv with hv1 _ hv3
    subst hv1 hv3
    have HG := Lib.hid hbg
    have hne1 : ((k0 : Int) == -1) = false := beq_eq_false_iff_ne.2 (by omega)
    clear hn he0 hl0 hk0 h0 hs0 hbg
    go_enter Try.func26, Try.ntmps26
    go_wp2_with fail
    refine KI.out.mono ?_
    rintro e1 w1 ⟨rfl, hw1⟩
    have HB := Lib.hid (grown_self hw1)
    clear hw1 KI
    go_wp2
    go_loopw [5, 6] (fun i j wr => DelRel s l base g c w i j wr) (fun _ j _ => l.length - (intOf j).toNat)
    case atStart => exact ⟨k0, k0 + 1, l, rfl, by go_num, by omega, by omega, rfl, HO.out.below HB.out, HS.out, rfl, HB.out.mono hbs⟩
    case round =>
      obtain ⟨a, k, d, rfl, rfl, hk, hak, hdl, ho, ht, hdr, hb⟩ := hrel
      have HO1 := Lib.hid ho; have HT := Lib.hid ht; have HD := Lib.hid hdr; have HB1 := Lib.hid hb; have HDL := Lib.hid hdl
      clear ho ht hdr hb hdl
      by_cases hlt : k < l.length
      · obtain ⟨e, he⟩ : ∃ e, l[k]? = some e := ⟨_, List.getElem?_eq_getElem hlt⟩
        have hde : d[k]? = some e := by rw [(drop_same HD.out).2]; exact he
        obtain ⟨g', cap', hv, _, hgw, _, x0, x1, f0, f1⟩ := HO1.out.get hde
        injection hv with hv1 hv2 hv3
        injection hv1 with hv1
        injection hv1 with hv1 _ _
        clear hv2
        subst hv1 hv3
        have hlt2 : (k : Int) < (l.length : Int) := Int.ofNat_lt.2 hlt
        have i0 : (0 : Int) ≤ (k : Int) := by omega
        have a0 : (0 : Int) ≤ (a : Int) := by omega
        have a1 : (a : Int) < (l.length : Int) := by omega
        have HE := Lib.hid he
        have hb2 := (Below.refl wr.heap.size wr).alloc (Nat.le_refl _) (.cells (ecells e) 32)
        have hw2 : base ≤ wr.heap.size := by have := HG.out; omega
        have HB2 := Lib.hid (HB1.out.trans (hb2.mono hw2))
        have HO2 := Lib.hid (HO1.out.below hb2)
        have HC2 := Lib.hid (Cells.new wr 32 (ecells e))
        have KT := Lib.hid (dTest e s B (wr.alloc (.cells (ecells e) 32)) (by have := hb2.size; omega) (by rw [HB2.out.cell (p := ⟨B, 0, none⟩) hB]; exact HC.out))
        unfold Ino.Ent.val at KT
        unfold ecells at KT HC2 HO2 HB2
        clear he hb2 f0 f1
        cases hq : nameIs s e with
        | true =>
          have HN := Lib.hid (show dropN s (l.take (k + 1)) = dropN s (l.take k) by rw [dropN_snoc HE.out, hq]; simp)
          rw [hq] at KT
          clear hq
          go_wp2_with fail
          refine KT.out.mono ?_
          rintro e1 w2 ⟨rfl, hw2'⟩
          have HB3 := Lib.hid (grown_self hw2')
          clear hw2' KT x0 x1 hde
          go_wp2
          go_roundw
          case rel => exact ⟨a, k + 1, d, rfl, by go_num, by omega, by omega, HDL.out, HO2.out.below HB3.out, by rw [HN.out]; exact HT.out, (drop_same HD.out).1, HB2.out.trans (HB3.out.mono (by simp; omega))⟩
          case measure => simp [intOf]; omega
        | false =>
          rw [hq] at KT
          have HQ := Lib.hid hq
          clear hq
          go_wp2_with fail
          refine KT.out.mono ?_
          rintro e1 w2 ⟨rfl, hw2'⟩
          have HB3 := Lib.hid (grown_self hw2')
          have HO3 := Lib.hid (HO2.out.below HB3.out)
          obtain ⟨c0, c1⟩ := ecells2 (HC2.out.below' HB3.out)
          obtain ⟨ea, hea⟩ : ∃ ea, d[a]? = some ea := ⟨_, List.getElem?_eq_getElem (by rw [HDL.out]; omega)⟩
          obtain ⟨g', cap', hv, _, hgw3, _, y0, y1, z0, z1⟩ := HO3.out.get hea
          injection hv with hv1 hv2 hv3
          injection hv1 with hv1
          injection hv1 with hv1 _ _
          clear hv2
          subst hv1 hv3
          have HEA := Lib.hid hea
          clear hw2' KT x0 x1 hde hea
          go_wp2
          go_roundw
          case rel =>
            refine ⟨a + 1, k + 1, d.set a e, by go_num, by go_num, by omega, by omega, by rw [List.length_set]; exact HDL.out, HO3.out.set e HEA.out, del_keep hak HDL.out HT.out HE.out HQ.out, ?_, ?_⟩
            · rw [List.drop_set_of_lt (by omega)]; exact (drop_same HD.out).1
            · exact ((HB2.out.trans (HB3.out.mono (by simp; omega))).setCell HG.out _).setCell HG.out _
          case measure => simp [intOf]; omega
      · obtain rfl : k = l.length := by omega
        have ht := HT.out
        rw [List.take_length] at ht
        have hlen : (dropN s l).length = a := by rw [← ht, List.length_take, HDL.out]; omega
        obtain ⟨g', cap', cur', hv, hbg', hcs, hcap', hcm', hsz, htk⟩ := HO1.out.block (by rw [HDL.out]; omega)
        injection hv with hv1 hv2 hv3
        injection hv1 with hv1
        injection hv1 with hv1 _ _
        clear hv2
        subst hv1 hv3
        have hn0 : (0 : Int) ≤ (a : Int) := by omega
        have a1 : (a : Int) < (l.length : Int) := by omega
        have hcl := fun ty => clear_ents wr ty g (a * 2) (l.length - a) (c - a) cur' _ hcs (by omega) (by omega)
        obtain ⟨cs, hcs2⟩ : ∃ cs, (cur'.toList.take (a * 2) ++ (Builtin.zeroCells zE.cells (l.length - a)).toList ++ cur'.toList.drop (a * 2 + (l.length - a) * 2)).toArray = cs := ⟨_, rfl⟩
        rw [hcs2] at hcl
        have hown : OwnE (wr.setRow g cs) base (.slice (some ⟨g, 0, none⟩) a c) (dropN s l) := by
          refine OwnE.of hlen hbg' (cells_setRow hcs) (by omega) hcm' ?_ ?_
          · rw [← hcs2, ← Array.length_toList, List.toList_toArray, List.length_append, List.length_append, List.length_take, List.length_drop, Array.length_toList, Array.length_toList, zE_size]
            omega
          · rw [← hcs2, List.toList_toArray, List.append_assoc, List.take_append_of_le_length (by rw [List.length_take, Array.length_toList]; omega), List.take_take, ← ht, evals_take, ← htk, List.take_take]
            congr 1
            rw [HDL.out]; omega
        have HOW := Lib.hid hown
        have HBW := Lib.hid (HB1.out.trans (below_setRow (w := wr) (cs := cs) HG.out))
        clear hown hcs2 htk hsz hcs hbg' hlen ht
        go_wp2
        go_ret
        exact ⟨_, rfl, HOW.out, HBW.out⟩
end Go.Proofs.Ytbegnnohmahglaa
