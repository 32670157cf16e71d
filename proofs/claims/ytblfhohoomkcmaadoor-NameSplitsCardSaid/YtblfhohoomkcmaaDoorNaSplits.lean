import Derived.Test.YtblfhohoomkcmaaDoorNsMath
namespace Go.Proofs.YtblfhohoomkcmaaDoor
open Wd Go.ChangeShapes Go.WideShapes Go.RowKit Go.Sort
set_option linter.unusedVariables false


theorem pre_iff {p q : List (List UInt8)} (l2 l3 : List ByteArray) (h2 : l2.map ByteArray.toList = q) (h3 : l3.map ByteArray.toList = p) : l2.take l3.length = l3 ↔ p <+: q := by
  rw [List.prefix_iff_eq_take, ← h2, ← h3, List.length_map, ← List.map_take]
  constructor
  · intro h; rw [h]
  · intro h; exact ((List.map_inj_right (fun a b h => tolist_inj h)).1 h).symm
theorem pre_true {p q : List (List UInt8)} (h : p <+: q) : ∀ l2 l3 : List ByteArray, l2.map ByteArray.toList = q → l3.map ByteArray.toList = p → decide (l2.take l3.length = l3) = true :=
  fun l2 l3 h2 h3 => decide_eq_true ((pre_iff l2 l3 h2 h3).2 h)
theorem pre_false {p q : List (List UInt8)} (h : ¬ p <+: q) : ∀ l2 l3 : List ByteArray, l2.map ByteArray.toList = q → l3.map ByteArray.toList = p → decide (l2.take l3.length = l3) = false :=
  fun l2 l3 h2 h3 => decide_eq_false fun e => h ((pre_iff l2 l3 h2 h3).1 e)
theorem nameSplits_far1 (a b c : ByteArray) (h : 200 < a.size) (w : World) (hM : MaxW w) : Calls Tryd.prog 3 #[.string a, .string b, .string c] w (TrueB w) := by
  have HMX := Lib.hid hM
  clear hM
  have hda : decide ((200 : Int) < (a.size : Int)) = true := decide_eq_true (by omega)
  go_enter Tryd.func3, Tryd.ntmps3
  go_wp2_with fail
  refine (nameAwake_true _ HMX.out).mono ?_
  rintro e w0 ⟨rfl, hb⟩
  have HB := Lib.hid hb
  clear hb
  go_wp2
  go_ret
  exact ⟨rfl, HB.out⟩

theorem nameSplits_far2 (a b c : ByteArray) (ha : ¬ 200 < a.size) (h : 200 < b.size) (w : World) (hM : MaxW w) : Calls Tryd.prog 3 #[.string a, .string b, .string c] w (TrueB w) := by
  have HMX := Lib.hid hM
  clear hM
  have hda : decide ((200 : Int) < (a.size : Int)) = false := decide_eq_false (by omega)
  have hdb : decide ((200 : Int) < (b.size : Int)) = true := decide_eq_true (by omega)
  go_enter Tryd.func3, Tryd.ntmps3
  go_wp2_with fail
  refine (nameAwake_true _ HMX.out).mono ?_
  rintro e w0 ⟨rfl, hb⟩
  have HB := Lib.hid hb
  clear hb
  go_wp2
  go_ret
  exact ⟨rfl, HB.out⟩

theorem nameSplits_far3 (a b c : ByteArray) (ha : ¬ 200 < a.size) (hb : ¬ 200 < b.size) (h : 200 < c.size) (w : World) (hM : MaxW w) : Calls Tryd.prog 3 #[.string a, .string b, .string c] w (TrueB w) := by
  have HMX := Lib.hid hM
  clear hM
  have hda : decide ((200 : Int) < (a.size : Int)) = false := decide_eq_false (by omega)
  have hdb : decide ((200 : Int) < (b.size : Int)) = false := decide_eq_false (by omega)
  have hdc : decide ((200 : Int) < (c.size : Int)) = true := decide_eq_true (by omega)
  go_enter Tryd.func3, Tryd.ntmps3
  go_wp2_with fail
  refine (nameAwake_true _ HMX.out).mono ?_
  rintro e w0 ⟨rfl, hb⟩
  have HB := Lib.hid hb
  clear hb
  go_wp2
  go_ret
  exact ⟨rfl, HB.out⟩

set_option maxRecDepth 20000 in
set_option maxHeartbeats 4000000 in
theorem splits_p1 (a b c : ByteArray) (ha : ¬ 200 < a.size) (hb : ¬ 200 < b.size) (hc : ¬ 200 < c.size) (m : Int) (hm : pathE b.toList = m) (hne : m ≠ 0) (w : World) (hM : MaxW w) : Calls Tryd.prog 3 #[.string a, .string b, .string c] w (TrueB w) := by
  have HMX := Lib.hid hM
  clear hM
  have hda : decide ((200 : Int) < (a.size : Int)) = false := decide_eq_false (by omega)
  have hdb : decide ((200 : Int) < (b.size : Int)) = false := decide_eq_false (by omega)
  have hdc : decide ((200 : Int) < (c.size : Int)) = false := decide_eq_false (by omega)
  have hbe : baseE b.toList = m := by unfold baseE; rw [if_neg (by rw [hm]; exact hne)]; exact hm
  have HM := Lib.hid hm; have HBE := Lib.hid hbe
  have hz : (m == 0) = false := by rw [beq_eq_false_iff_ne]; exact hne
  have hnz : (m != 0) = true := by rw [bne_iff_ne]; exact hne
  have hself' : (m != m) = false := by simp
  have hself2 : (m == m) = true := by simp
  have HNE := Lib.hid hne
  have UND := Lib.hid (show underB b.toList c.toList = false from by rw [Bool.eq_false_iff, Ne, under_iff]; exact fun h => hne (hm.symm.trans h.1))
  clear hm hbe hne
  have HLEN := Lib.hid (path_len b)
  have hle : (!Op.bytesLess a.toList b.toList == Op.bytesLess a.toList b.toList) = false := by cases Op.bytesLess a.toList b.toList <;> rfl
  go_enter Tryd.func3, Tryd.ntmps3
  go_wp2_with fail
  refine (nameAwake_true _ HMX.out).mono ?_
  rintro e w0 ⟨rfl, hb⟩
  have HB := Lib.hid hb
  clear hb
  go_wp2_with fail
  refine (nSplit b (by omega) _ (HMX.out.on HB.out)).mono ?_
  rintro e w1 ⟨A1, c1, l1, rfl, hl1, hr1, hb⟩
  have HB := Lib.hid (HB.out.trans (hb.mono HB.out.size))
  have HL1 := Lib.hid hl1; have HR1 := Lib.hid hr1
  clear hb hl1 hr1
  go_wp2_with fail
  refine (refSplit_row b _ (by omega)).mono ?_
  rintro e w2 ⟨A2, c2, l2, rfl, hl2, hcap, hr2, hb⟩
  obtain rfl : l2 = l1 := (List.map_inj_right (fun a b h => tolist_inj h)).1 (hl2.trans HL1.out.symm)
  have HB := Lib.hid (HB.out.trans (hb.mono HB.out.size))
  have HR1 := Lib.hid ((HR1.out.below hb).more hb.size)
  have HR2 := Lib.hid hr2; have HCAP := Lib.hid hcap
  clear hb hl2 hr2 hcap
  go_wp2_with fail
  refine (refSplit_row c _ (by omega)).mono ?_
  rintro e w3 ⟨A3, c3, l3, rfl, hl3, _, hr3, hb⟩
  have HB := Lib.hid (HB.out.trans (hb.mono HB.out.size))
  have HR1 := Lib.hid ((HR1.out.below hb).more hb.size)
  have HR2 := Lib.hid ((HR2.out.below hb).more hb.size)
  have HR3 := Lib.hid hr3; have HL3 := Lib.hid hl3
  clear hb hl3 hr3
  go_wp2_with fail
  refine (nBaseD b (by omega) _ (HMX.out.on HB.out)).mono ?_
  rintro e w4 ⟨u, v, rfl, hu, hv, hb⟩
  have HB := Lib.hid (HB.out.trans (hb.mono HB.out.size))
  have HR1 := Lib.hid ((HR1.out.below hb).more hb.size)
  have HR2 := Lib.hid ((HR2.out.below hb).more hb.size)
  have HR3 := Lib.hid ((HR3.out.below hb).more hb.size)
  rw [HM.out, HBE.out]
  obtain ⟨rfl, rfl⟩ := hu (by rw [HBE.out]; exact HNE.out)
  clear hb hu hv
  obtain ⟨n, hn⟩ : ∃ n, nameN a.toList = n := ⟨_, rfl⟩
  have HN := Lib.hid hn
  have hself : (n != n) = false := by simp
  clear hn
  go_wp2_with fail
  refine (nCheck a (by omega) _).mono ?_
  rintro e w5 h
  obtain ⟨rfl, hb⟩ := h.below
  rw [HN.out]
  have HB := Lib.hid (HB.out.trans (hb.mono HB.out.size))
  have HR1 := Lib.hid ((HR1.out.below hb).more hb.size)
  have HR2 := Lib.hid ((HR2.out.below hb).more hb.size)
  have HR3 := Lib.hid ((HR3.out.below hb).more hb.size)
  clear hb h
  go_wp2_with fail
  refine (refName_any a (by omega) _).mono ?_
  rintro e w6 ⟨rfl, rfl⟩
  rw [HN.out]
  go_wp2_with fail
  refine (sameTexts_any _ _ _ _ rfl rfl (by have := HLEN.out; rw [← HL1.out, List.length_map] at this; omega) _ _ _ _ _ _ HR1.out HR2.out).mono ?_
  rintro e w7 h
  rw [decide_eq_true rfl] at h
  obtain ⟨rfl, hb⟩ := h.below
  have HB := Lib.hid (HB.out.trans (hb.mono HB.out.size))
  have HR1 := Lib.hid ((HR1.out.below hb).more hb.size)
  have HR2 := Lib.hid ((HR2.out.below hb).more hb.size)
  have HR3 := Lib.hid ((HR3.out.below hb).more hb.size)
  clear hb h
  go_wp2_with fail
  refine (nUnder b c (by omega) (by omega) _ (HMX.out.on HB.out)).mono ?_
  rintro e w8 h
  obtain ⟨rfl, hb⟩ := h.below
  rw [UND.out]
  have HB := Lib.hid (HB.out.trans (hb.mono HB.out.size))
  have HR1 := Lib.hid ((HR1.out.below hb).more hb.size)
  have HR2 := Lib.hid ((HR2.out.below hb).more hb.size)
  have HR3 := Lib.hid ((HR3.out.below hb).more hb.size)
  clear hb h
  go_wp2_with fail
  refine (nLess a b _).mono ?_
  rintro e w9 h
  obtain ⟨rfl, hb⟩ := h.below
  have HB := Lib.hid (HB.out.trans (hb.mono HB.out.size))
  have HR1 := Lib.hid ((HR1.out.below hb).more hb.size)
  have HR2 := Lib.hid ((HR2.out.below hb).more hb.size)
  have HR3 := Lib.hid ((HR3.out.below hb).more hb.size)
  clear hb h
  go_wp2
  go_ret
  exact ⟨rfl, HB.out⟩

set_option maxRecDepth 20000 in
set_option maxHeartbeats 4000000 in
theorem splits_p2o1 (a b c : ByteArray) (ha : ¬ 200 < a.size) (hb : ¬ 200 < b.size) (hc : ¬ 200 < c.size) (hm : pathE b.toList = 0) (hk : pathL b.toList = []) (m : Int) (hp : pathE c.toList = m) (hne : m ≠ 0) (w : World) (hM : MaxW w) : Calls Tryd.prog 3 #[.string a, .string b, .string c] w (TrueB w) := by
  have HMX := Lib.hid hM
  clear hM
  have hda : decide ((200 : Int) < (a.size : Int)) = false := decide_eq_false (by omega)
  have hdb : decide ((200 : Int) < (b.size : Int)) = false := decide_eq_false (by omega)
  have hdc : decide ((200 : Int) < (c.size : Int)) = false := decide_eq_false (by omega)
  have hbe : baseE b.toList = 22 := by unfold baseE; rw [if_pos hm, if_pos hk]
  have HM := Lib.hid hm; have HBE := Lib.hid hbe; have HK := Lib.hid hk
  have HP := Lib.hid hp
  have hz : (m == 0) = false := by rw [beq_eq_false_iff_ne]; exact hne
  have UND := Lib.hid (show underB b.toList c.toList = false from by rw [Bool.eq_false_iff, Ne, under_iff]; exact fun h => hne (hp.symm.trans h.2.1))
  clear hm hbe hk hp hne
  have HLEN := Lib.hid (path_len b)
  have hle : (!Op.bytesLess a.toList b.toList == Op.bytesLess a.toList b.toList) = false := by cases Op.bytesLess a.toList b.toList <;> rfl
  go_enter Tryd.func3, Tryd.ntmps3
  go_wp2_with fail
  refine (nameAwake_true _ HMX.out).mono ?_
  rintro e w0 ⟨rfl, hb⟩
  have HB := Lib.hid hb
  clear hb
  go_wp2_with fail
  refine (nSplit b (by omega) _ (HMX.out.on HB.out)).mono ?_
  rintro e w1 ⟨A1, c1, l1, rfl, hl1, hr1, hb⟩
  have HB := Lib.hid (HB.out.trans (hb.mono HB.out.size))
  have HL1 := Lib.hid hl1; have HR1 := Lib.hid hr1
  clear hb hl1 hr1
  go_wp2_with fail
  refine (refSplit_row b _ (by omega)).mono ?_
  rintro e w2 ⟨A2, c2, l2, rfl, hl2, hcap, hr2, hb⟩
  obtain rfl : l2 = l1 := (List.map_inj_right (fun a b h => tolist_inj h)).1 (hl2.trans HL1.out.symm)
  have HB := Lib.hid (HB.out.trans (hb.mono HB.out.size))
  have HR1 := Lib.hid ((HR1.out.below hb).more hb.size)
  have HR2 := Lib.hid hr2; have HCAP := Lib.hid hcap
  clear hb hl2 hr2 hcap
  go_wp2_with fail
  refine (refSplit_row c _ (by omega)).mono ?_
  rintro e w3 ⟨A3, c3, l3, rfl, hl3, _, hr3, hb⟩
  have HB := Lib.hid (HB.out.trans (hb.mono HB.out.size))
  have HR1 := Lib.hid ((HR1.out.below hb).more hb.size)
  have HR2 := Lib.hid ((HR2.out.below hb).more hb.size)
  have HR3 := Lib.hid hr3; have HL3 := Lib.hid hl3
  clear hb hl3 hr3
  obtain rfl : l2 = [] := by have := HL1.out; rw [HK.out] at this; exact List.map_eq_nil_iff.1 this
  rw [HP.out]
  go_wp2_with fail
  refine (nBaseD b (by omega) _ (HMX.out.on HB.out)).mono ?_
  rintro e w4 ⟨u, v, rfl, hu, hv, hb⟩
  have HB := Lib.hid (HB.out.trans (hb.mono HB.out.size))
  have HR1 := Lib.hid ((HR1.out.below hb).more hb.size)
  have HR2 := Lib.hid ((HR2.out.below hb).more hb.size)
  have HR3 := Lib.hid ((HR3.out.below hb).more hb.size)
  rw [HM.out, HBE.out]
  obtain ⟨rfl, rfl⟩ := hu (by rw [HBE.out]; decide)
  clear hb hu hv
  obtain ⟨n, hn⟩ : ∃ n, nameN a.toList = n := ⟨_, rfl⟩
  have HN := Lib.hid hn
  have hself : (n != n) = false := by simp
  clear hn
  go_wp2_with fail
  refine (nCheck a (by omega) _).mono ?_
  rintro e w5 h
  obtain ⟨rfl, hb⟩ := h.below
  rw [HN.out]
  have HB := Lib.hid (HB.out.trans (hb.mono HB.out.size))
  have HR1 := Lib.hid ((HR1.out.below hb).more hb.size)
  have HR2 := Lib.hid ((HR2.out.below hb).more hb.size)
  have HR3 := Lib.hid ((HR3.out.below hb).more hb.size)
  clear hb h
  go_wp2_with fail
  refine (refName_any a (by omega) _).mono ?_
  rintro e w6 ⟨rfl, rfl⟩
  rw [HN.out]
  go_wp2_with fail
  refine (sameTexts_any _ _ _ _ rfl rfl (by have := HLEN.out; rw [← HL1.out, List.length_map] at this; omega) _ _ _ _ _ _ HR1.out HR2.out).mono ?_
  rintro e w7 h
  rw [decide_eq_true rfl] at h
  obtain ⟨rfl, hb⟩ := h.below
  have HB := Lib.hid (HB.out.trans (hb.mono HB.out.size))
  have HR1 := Lib.hid ((HR1.out.below hb).more hb.size)
  have HR2 := Lib.hid ((HR2.out.below hb).more hb.size)
  have HR3 := Lib.hid ((HR3.out.below hb).more hb.size)
  clear hb h
  go_wp2_with fail
  refine (nUnder b c (by omega) (by omega) _ (HMX.out.on HB.out)).mono ?_
  rintro e w8 h
  obtain ⟨rfl, hb⟩ := h.below
  rw [UND.out]
  have HB := Lib.hid (HB.out.trans (hb.mono HB.out.size))
  have HR1 := Lib.hid ((HR1.out.below hb).more hb.size)
  have HR2 := Lib.hid ((HR2.out.below hb).more hb.size)
  have HR3 := Lib.hid ((HR3.out.below hb).more hb.size)
  clear hb h
  go_wp2_with fail
  refine (nLess a b _).mono ?_
  rintro e w9 h
  obtain ⟨rfl, hb⟩ := h.below
  have HB := Lib.hid (HB.out.trans (hb.mono HB.out.size))
  have HR1 := Lib.hid ((HR1.out.below hb).more hb.size)
  have HR2 := Lib.hid ((HR2.out.below hb).more hb.size)
  have HR3 := Lib.hid ((HR3.out.below hb).more hb.size)
  clear hb h
  go_wp2
  go_ret
  exact ⟨rfl, HB.out⟩

set_option maxRecDepth 20000 in
set_option maxHeartbeats 4000000 in
theorem splits_p2o2 (a b c : ByteArray) (ha : ¬ 200 < a.size) (hb : ¬ 200 < b.size) (hc : ¬ 200 < c.size) (hm : pathE b.toList = 0) (hk : pathL b.toList = []) (hp : pathE c.toList = 0) (w : World) (hM : MaxW w) : Calls Tryd.prog 3 #[.string a, .string b, .string c] w (TrueB w) := by
  have HMX := Lib.hid hM
  clear hM
  have hda : decide ((200 : Int) < (a.size : Int)) = false := decide_eq_false (by omega)
  have hdb : decide ((200 : Int) < (b.size : Int)) = false := decide_eq_false (by omega)
  have hdc : decide ((200 : Int) < (c.size : Int)) = false := decide_eq_false (by omega)
  have hbe : baseE b.toList = 22 := by unfold baseE; rw [if_pos hm, if_pos hk]
  have HM := Lib.hid hm; have HBE := Lib.hid hbe; have HK := Lib.hid hk
  have HP := Lib.hid hp
  have UND := Lib.hid (show underB b.toList c.toList = false from by rw [Bool.eq_false_iff, Ne, under_iff]; exact fun h => by have := h.2.2.2; rw [hk] at this; simp at this)
  clear hm hbe hk hp
  have HLEN := Lib.hid (path_len b)
  have hle : (!Op.bytesLess a.toList b.toList == Op.bytesLess a.toList b.toList) = false := by cases Op.bytesLess a.toList b.toList <;> rfl
  go_enter Tryd.func3, Tryd.ntmps3
  go_wp2_with fail
  refine (nameAwake_true _ HMX.out).mono ?_
  rintro e w0 ⟨rfl, hb⟩
  have HB := Lib.hid hb
  clear hb
  go_wp2_with fail
  refine (nSplit b (by omega) _ (HMX.out.on HB.out)).mono ?_
  rintro e w1 ⟨A1, c1, l1, rfl, hl1, hr1, hb⟩
  have HB := Lib.hid (HB.out.trans (hb.mono HB.out.size))
  have HL1 := Lib.hid hl1; have HR1 := Lib.hid hr1
  clear hb hl1 hr1
  go_wp2_with fail
  refine (refSplit_row b _ (by omega)).mono ?_
  rintro e w2 ⟨A2, c2, l2, rfl, hl2, hcap, hr2, hb⟩
  obtain rfl : l2 = l1 := (List.map_inj_right (fun a b h => tolist_inj h)).1 (hl2.trans HL1.out.symm)
  have HB := Lib.hid (HB.out.trans (hb.mono HB.out.size))
  have HR1 := Lib.hid ((HR1.out.below hb).more hb.size)
  have HR2 := Lib.hid hr2; have HCAP := Lib.hid hcap
  clear hb hl2 hr2 hcap
  go_wp2_with fail
  refine (refSplit_row c _ (by omega)).mono ?_
  rintro e w3 ⟨A3, c3, l3, rfl, hl3, _, hr3, hb⟩
  have HB := Lib.hid (HB.out.trans (hb.mono HB.out.size))
  have HR1 := Lib.hid ((HR1.out.below hb).more hb.size)
  have HR2 := Lib.hid ((HR2.out.below hb).more hb.size)
  have HR3 := Lib.hid hr3; have HL3 := Lib.hid hl3
  clear hb hl3 hr3
  obtain rfl : l2 = [] := by have := HL1.out; rw [HK.out] at this; exact List.map_eq_nil_iff.1 this
  rw [HP.out]
  have hl0 : decide ((l3.length : Int) < ((([] : List ByteArray).length : Nat) : Int)) = false := decide_eq_false (by simp)
  have hl1 : decide ((l3.length : Int) < 0) = false := decide_eq_false (by omega)
  go_wp2_with fail
  refine (nBaseD b (by omega) _ (HMX.out.on HB.out)).mono ?_
  rintro e w4 ⟨u, v, rfl, hu, hv, hb⟩
  have HB := Lib.hid (HB.out.trans (hb.mono HB.out.size))
  have HR1 := Lib.hid ((HR1.out.below hb).more hb.size)
  have HR2 := Lib.hid ((HR2.out.below hb).more hb.size)
  have HR3 := Lib.hid ((HR3.out.below hb).more hb.size)
  rw [HM.out, HBE.out]
  obtain ⟨rfl, rfl⟩ := hu (by rw [HBE.out]; decide)
  clear hb hu hv
  obtain ⟨n, hn⟩ : ∃ n, nameN a.toList = n := ⟨_, rfl⟩
  have HN := Lib.hid hn
  have hself : (n != n) = false := by simp
  clear hn
  go_wp2_with fail
  refine (nCheck a (by omega) _).mono ?_
  rintro e w5 h
  obtain ⟨rfl, hb⟩ := h.below
  rw [HN.out]
  have HB := Lib.hid (HB.out.trans (hb.mono HB.out.size))
  have HR1 := Lib.hid ((HR1.out.below hb).more hb.size)
  have HR2 := Lib.hid ((HR2.out.below hb).more hb.size)
  have HR3 := Lib.hid ((HR3.out.below hb).more hb.size)
  clear hb h
  go_wp2_with fail
  refine (refName_any a (by omega) _).mono ?_
  rintro e w6 ⟨rfl, rfl⟩
  rw [HN.out]
  go_wp2_with fail
  refine (sameTexts_any _ _ _ _ rfl rfl (by have := HLEN.out; rw [← HL1.out, List.length_map] at this; omega) _ _ _ _ _ _ HR1.out HR2.out).mono ?_
  rintro e w7 h
  rw [decide_eq_true rfl] at h
  obtain ⟨rfl, hb⟩ := h.below
  have HB := Lib.hid (HB.out.trans (hb.mono HB.out.size))
  have HR1 := Lib.hid ((HR1.out.below hb).more hb.size)
  have HR2 := Lib.hid ((HR2.out.below hb).more hb.size)
  have HR3 := Lib.hid ((HR3.out.below hb).more hb.size)
  clear hb h
  go_wp2_with fail
  refine (nUnder b c (by omega) (by omega) _ (HMX.out.on HB.out)).mono ?_
  rintro e w8 h
  obtain ⟨rfl, hb⟩ := h.below
  rw [UND.out]
  have HB := Lib.hid (HB.out.trans (hb.mono HB.out.size))
  have HR1 := Lib.hid ((HR1.out.below hb).more hb.size)
  have HR2 := Lib.hid ((HR2.out.below hb).more hb.size)
  have HR3 := Lib.hid ((HR3.out.below hb).more hb.size)
  clear hb h
  go_wp2_with fail
  refine (nLess a b _).mono ?_
  rintro e w9 h
  obtain ⟨rfl, hb⟩ := h.below
  have HB := Lib.hid (HB.out.trans (hb.mono HB.out.size))
  have HR1 := Lib.hid ((HR1.out.below hb).more hb.size)
  have HR2 := Lib.hid ((HR2.out.below hb).more hb.size)
  have HR3 := Lib.hid ((HR3.out.below hb).more hb.size)
  clear hb h
  go_wp2
  go_ret
  exact ⟨rfl, HB.out⟩

set_option maxRecDepth 20000 in
set_option maxHeartbeats 4000000 in
theorem splits_p3o1 (a b c : ByteArray) (ha : ¬ 200 < a.size) (hb : ¬ 200 < b.size) (hc : ¬ 200 < c.size) (hm : pathE b.toList = 0) (hk : pathL b.toList ≠ []) (m : Int) (hp : pathE c.toList = m) (hne : m ≠ 0) (w : World) (hM : MaxW w) : Calls Tryd.prog 3 #[.string a, .string b, .string c] w (TrueB w) := by
  have HMX := Lib.hid hM
  clear hM
  have hda : decide ((200 : Int) < (a.size : Int)) = false := decide_eq_false (by omega)
  have hdb : decide ((200 : Int) < (b.size : Int)) = false := decide_eq_false (by omega)
  have hdc : decide ((200 : Int) < (c.size : Int)) = false := decide_eq_false (by omega)
  have hbe : baseE b.toList = 0 := by unfold baseE; rw [if_pos hm, if_neg hk]
  have HM := Lib.hid hm; have HBE := Lib.hid hbe; have HK := Lib.hid hk; have HUL := Lib.hid (up_len hbe); have HG := Lib.hid (path_good hm).2.2
  have HP := Lib.hid hp
  have hz : (m == 0) = false := by rw [beq_eq_false_iff_ne]; exact hne
  have UND := Lib.hid (show underB b.toList c.toList = false from by rw [Bool.eq_false_iff, Ne, under_iff]; exact fun h => hne (hp.symm.trans h.2.1))
  clear hm hbe hk hp hne
  have HLEN := Lib.hid (path_len b)
  have hle : (!Op.bytesLess a.toList b.toList == Op.bytesLess a.toList b.toList) = false := by cases Op.bytesLess a.toList b.toList <;> rfl
  go_enter Tryd.func3, Tryd.ntmps3
  go_wp2_with fail
  refine (nameAwake_true _ HMX.out).mono ?_
  rintro e w0 ⟨rfl, hb⟩
  have HB := Lib.hid hb
  clear hb
  go_wp2_with fail
  refine (nSplit b (by omega) _ (HMX.out.on HB.out)).mono ?_
  rintro e w1 ⟨A1, c1, l1, rfl, hl1, hr1, hb⟩
  have HB := Lib.hid (HB.out.trans (hb.mono HB.out.size))
  have HL1 := Lib.hid hl1; have HR1 := Lib.hid hr1
  clear hb hl1 hr1
  go_wp2_with fail
  refine (refSplit_row b _ (by omega)).mono ?_
  rintro e w2 ⟨A2, c2, l2, rfl, hl2, hcap, hr2, hb⟩
  obtain rfl : l2 = l1 := (List.map_inj_right (fun a b h => tolist_inj h)).1 (hl2.trans HL1.out.symm)
  have HB := Lib.hid (HB.out.trans (hb.mono HB.out.size))
  have HR1 := Lib.hid ((HR1.out.below hb).more hb.size)
  have HR2 := Lib.hid hr2; have HCAP := Lib.hid hcap
  clear hb hl2 hr2 hcap
  go_wp2_with fail
  refine (refSplit_row c _ (by omega)).mono ?_
  rintro e w3 ⟨A3, c3, l3, rfl, hl3, _, hr3, hb⟩
  have HB := Lib.hid (HB.out.trans (hb.mono HB.out.size))
  have HR1 := Lib.hid ((HR1.out.below hb).more hb.size)
  have HR2 := Lib.hid ((HR2.out.below hb).more hb.size)
  have HR3 := Lib.hid hr3; have HL3 := Lib.hid hl3
  clear hb hl3 hr3
  have hpos : 0 < l2.length := by
    have h0 := HL1.out
    rcases Nat.eq_zero_or_pos l2.length with h | h
    · rw [List.eq_nil_of_length_eq_zero h] at h0; exact absurd h0.symm HK.out
    · exact h
  have HPOS := Lib.hid hpos
  obtain ⟨b1, o1, e1, _⟩ := HR2.out.2 hpos
  subst e1
  have hl9 : ((l2.length : Int) == 0) = false := by rw [beq_eq_false_iff_ne]; omega
  clear hpos
  rw [HP.out]
  go_wp2_with fail
  refine (nBaseD b (by omega) _ (HMX.out.on HB.out)).mono ?_
  rintro e w4 ⟨u, v, rfl, hu, hv, hb⟩
  have HB := Lib.hid (HB.out.trans (hb.mono HB.out.size))
  have HR1 := Lib.hid ((HR1.out.below hb).more hb.size)
  have HR2 := Lib.hid ((HR2.out.below hb).more hb.size)
  have HR3 := Lib.hid ((HR3.out.below hb).more hb.size)
  rw [HM.out, HBE.out]
  obtain ⟨hv1, hv2⟩ := hv HBE.out
  have HV1 := Lib.hid hv1; have HV2 := Lib.hid hv2
  clear hv1 hv2
  clear hb hu hv
  obtain ⟨n, hn⟩ : ∃ n, nameN a.toList = n := ⟨_, rfl⟩
  have HN := Lib.hid hn
  have hself : (n != n) = false := by simp
  clear hn
  go_wp2_with fail
  refine (nCheck a (by omega) _).mono ?_
  rintro e w5 h
  obtain ⟨rfl, hb⟩ := h.below
  rw [HN.out]
  have HB := Lib.hid (HB.out.trans (hb.mono HB.out.size))
  have HR1 := Lib.hid ((HR1.out.below hb).more hb.size)
  have HR2 := Lib.hid ((HR2.out.below hb).more hb.size)
  have HR3 := Lib.hid ((HR3.out.below hb).more hb.size)
  clear hb h
  go_wp2_with fail
  refine (refName_any a (by omega) _).mono ?_
  rintro e w6 ⟨rfl, rfl⟩
  rw [HN.out]
  go_wp2_with fail
  refine (sameTexts_any _ _ _ _ rfl rfl (by have := HLEN.out; rw [← HL1.out, List.length_map] at this; omega) _ _ _ _ _ _ HR1.out HR2.out).mono ?_
  rintro e w7 h
  rw [decide_eq_true rfl] at h
  obtain ⟨rfl, hb⟩ := h.below
  have HB := Lib.hid (HB.out.trans (hb.mono HB.out.size))
  have HR1 := Lib.hid ((HR1.out.below hb).more hb.size)
  have HR2 := Lib.hid ((HR2.out.below hb).more hb.size)
  have HR3 := Lib.hid ((HR3.out.below hb).more hb.size)
  clear hb h
  go_wp2_with fail
  refine (nUnder b c (by omega) (by omega) _ (HMX.out.on HB.out)).mono ?_
  rintro e w8 h
  obtain ⟨rfl, hb⟩ := h.below
  rw [UND.out]
  have HB := Lib.hid (HB.out.trans (hb.mono HB.out.size))
  have HR1 := Lib.hid ((HR1.out.below hb).more hb.size)
  have HR2 := Lib.hid ((HR2.out.below hb).more hb.size)
  have HR3 := Lib.hid ((HR3.out.below hb).more hb.size)
  clear hb h
  go_wp2_with fail
  refine (nLess a b _).mono ?_
  rintro e w9 h
  obtain ⟨rfl, hb⟩ := h.below
  have HB := Lib.hid (HB.out.trans (hb.mono HB.out.size))
  have HR1 := Lib.hid ((HR1.out.below hb).more hb.size)
  have HR2 := Lib.hid ((HR2.out.below hb).more hb.size)
  have HR3 := Lib.hid ((HR3.out.below hb).more hb.size)
  clear hb h
  have hpos := HPOS.out
  obtain ⟨b2, o2, x, e1, _, hx, hcx⟩ := HR2.out.get (k := l2.length - 1) (by omega)
  cases e1
  have hvx : v = x := by
    have := HV2.out
    rw [← HL1.out, List.getLast?_map, List.getLast?_eq_getElem?, hx] at this
    exact tolist_inj (Option.some.inj this)
  subst hvx
  have hrow := Row.firsts HR2.out (m := l2.length - 1) (by omega)
  rw [← List.map_take] at hrow
  have HROW := Lib.hid hrow
  have hlen : l2.length ≤ 121 := by have := HLEN.out; rw [← HL1.out, List.length_map] at this; exact this
  have hw : wrap64 ((l2.length : Int) - 1) = ((l2.length - 1 : Nat) : Int) := by unfold wrap64; omega
  have hin : (0 : Int) ≤ ((l2.length - 1 : Nat) : Int) ∧ ((l2.length - 1 : Nat) : Int) < (l2.length : Int) := by omega
  have hsl : (1 : Int) ≤ (l2.length : Int) ∧ (l2.length : Int) - 1 ≤ (c2 : Int) := by have := HCAP.out; omega
  have hdl : (pathL b.toList).dropLast = (l2.take (l2.length - 1)).map ByteArray.toList := by rw [← HL1.out, List.dropLast_eq_take, List.length_map, List.map_take]
  have HDL := Lib.hid hdl
  have hsh : (slashed ((l2.take (l2.length - 1)).map ByteArray.toList)).length ≤ 1000000 := by
    have h1 := slashed_init (pathL b.toList)
    rw [hdl] at h1
    have h2 := HG.out
    rw [size_list] at h2
    omega
  have HSH := Lib.hid hsh
  have hj : l2.length - 1 ≤ 1000 := by omega
  clear hrow hx hdl hsh
  go_wp2_with fail
  refine (refJoin_any (l2.take (l2.length - 1)) (l2.length - 1) (by rw [List.length_take]; omega) _ _ _ _ hj HSH.out HROW.out).mono ?_
  rintro e w10 ⟨x, rfl, hx, rfl⟩
  obtain rfl : u = x := tolist_inj (by rw [HV1.out, HDL.out, hx])
  clear hx
  go_wp2
  go_ret
  exact ⟨rfl, HB.out⟩

set_option maxRecDepth 20000 in
set_option maxHeartbeats 4000000 in
theorem splits_p3o2 (a b c : ByteArray) (ha : ¬ 200 < a.size) (hb : ¬ 200 < b.size) (hc : ¬ 200 < c.size) (hm : pathE b.toList = 0) (hk : pathL b.toList ≠ []) (hp : pathE c.toList = 0) (hlo : (pathL b.toList).length ≤ (pathL c.toList).length) (w : World) (hM : MaxW w) : Calls Tryd.prog 3 #[.string a, .string b, .string c] w (TrueB w) := by
  have HMX := Lib.hid hM
  clear hM
  have hda : decide ((200 : Int) < (a.size : Int)) = false := decide_eq_false (by omega)
  have hdb : decide ((200 : Int) < (b.size : Int)) = false := decide_eq_false (by omega)
  have hdc : decide ((200 : Int) < (c.size : Int)) = false := decide_eq_false (by omega)
  have hbe : baseE b.toList = 0 := by unfold baseE; rw [if_pos hm, if_neg hk]
  have HM := Lib.hid hm; have HBE := Lib.hid hbe; have HK := Lib.hid hk; have HUL := Lib.hid (up_len hbe); have HG := Lib.hid (path_good hm).2.2
  have HP := Lib.hid hp; have HLE := Lib.hid hlo
  have UND := Lib.hid (show underB b.toList c.toList = false from by rw [Bool.eq_false_iff, Ne, under_iff]; exact fun h => by have := h.2.2.2; omega)
  clear hm hbe hk hp hlo
  have HLEN := Lib.hid (path_len b)
  have hle : (!Op.bytesLess a.toList b.toList == Op.bytesLess a.toList b.toList) = false := by cases Op.bytesLess a.toList b.toList <;> rfl
  go_enter Tryd.func3, Tryd.ntmps3
  go_wp2_with fail
  refine (nameAwake_true _ HMX.out).mono ?_
  rintro e w0 ⟨rfl, hb⟩
  have HB := Lib.hid hb
  clear hb
  go_wp2_with fail
  refine (nSplit b (by omega) _ (HMX.out.on HB.out)).mono ?_
  rintro e w1 ⟨A1, c1, l1, rfl, hl1, hr1, hb⟩
  have HB := Lib.hid (HB.out.trans (hb.mono HB.out.size))
  have HL1 := Lib.hid hl1; have HR1 := Lib.hid hr1
  clear hb hl1 hr1
  go_wp2_with fail
  refine (refSplit_row b _ (by omega)).mono ?_
  rintro e w2 ⟨A2, c2, l2, rfl, hl2, hcap, hr2, hb⟩
  obtain rfl : l2 = l1 := (List.map_inj_right (fun a b h => tolist_inj h)).1 (hl2.trans HL1.out.symm)
  have HB := Lib.hid (HB.out.trans (hb.mono HB.out.size))
  have HR1 := Lib.hid ((HR1.out.below hb).more hb.size)
  have HR2 := Lib.hid hr2; have HCAP := Lib.hid hcap
  clear hb hl2 hr2 hcap
  go_wp2_with fail
  refine (refSplit_row c _ (by omega)).mono ?_
  rintro e w3 ⟨A3, c3, l3, rfl, hl3, _, hr3, hb⟩
  have HB := Lib.hid (HB.out.trans (hb.mono HB.out.size))
  have HR1 := Lib.hid ((HR1.out.below hb).more hb.size)
  have HR2 := Lib.hid ((HR2.out.below hb).more hb.size)
  have HR3 := Lib.hid hr3; have HL3 := Lib.hid hl3
  clear hb hl3 hr3
  have hpos : 0 < l2.length := by
    have h0 := HL1.out
    rcases Nat.eq_zero_or_pos l2.length with h | h
    · rw [List.eq_nil_of_length_eq_zero h] at h0; exact absurd h0.symm HK.out
    · exact h
  have HPOS := Lib.hid hpos
  obtain ⟨b1, o1, e1, _⟩ := HR2.out.2 hpos
  subst e1
  have hl9 : ((l2.length : Int) == 0) = false := by rw [beq_eq_false_iff_ne]; omega
  clear hpos
  have hl8 : decide ((l3.length : Int) < (l2.length : Int)) = false := by
    have h1 := HLE.out
    rw [← HL1.out, ← HL3.out, List.length_map, List.length_map] at h1
    exact decide_eq_false (by omega)
  have hl7 : decide (l3.length < l2.length) = false := by
    have h1 := HLE.out
    rw [← HL1.out, ← HL3.out, List.length_map, List.length_map] at h1
    exact decide_eq_false (by omega)
  have hl6 : ¬ l3.length < l2.length := of_decide_eq_false hl7
  rw [HP.out]
  go_wp2_with fail
  refine (nBaseD b (by omega) _ (HMX.out.on HB.out)).mono ?_
  rintro e w4 ⟨u, v, rfl, hu, hv, hb⟩
  have HB := Lib.hid (HB.out.trans (hb.mono HB.out.size))
  have HR1 := Lib.hid ((HR1.out.below hb).more hb.size)
  have HR2 := Lib.hid ((HR2.out.below hb).more hb.size)
  have HR3 := Lib.hid ((HR3.out.below hb).more hb.size)
  rw [HM.out, HBE.out]
  obtain ⟨hv1, hv2⟩ := hv HBE.out
  have HV1 := Lib.hid hv1; have HV2 := Lib.hid hv2
  clear hv1 hv2
  clear hb hu hv
  obtain ⟨n, hn⟩ : ∃ n, nameN a.toList = n := ⟨_, rfl⟩
  have HN := Lib.hid hn
  have hself : (n != n) = false := by simp
  clear hn
  go_wp2_with fail
  refine (nCheck a (by omega) _).mono ?_
  rintro e w5 h
  obtain ⟨rfl, hb⟩ := h.below
  rw [HN.out]
  have HB := Lib.hid (HB.out.trans (hb.mono HB.out.size))
  have HR1 := Lib.hid ((HR1.out.below hb).more hb.size)
  have HR2 := Lib.hid ((HR2.out.below hb).more hb.size)
  have HR3 := Lib.hid ((HR3.out.below hb).more hb.size)
  clear hb h
  go_wp2_with fail
  refine (refName_any a (by omega) _).mono ?_
  rintro e w6 ⟨rfl, rfl⟩
  rw [HN.out]
  go_wp2_with fail
  refine (sameTexts_any _ _ _ _ rfl rfl (by have := HLEN.out; rw [← HL1.out, List.length_map] at this; omega) _ _ _ _ _ _ HR1.out HR2.out).mono ?_
  rintro e w7 h
  rw [decide_eq_true rfl] at h
  obtain ⟨rfl, hb⟩ := h.below
  have HB := Lib.hid (HB.out.trans (hb.mono HB.out.size))
  have HR1 := Lib.hid ((HR1.out.below hb).more hb.size)
  have HR2 := Lib.hid ((HR2.out.below hb).more hb.size)
  have HR3 := Lib.hid ((HR3.out.below hb).more hb.size)
  clear hb h
  go_wp2_with fail
  refine (nUnder b c (by omega) (by omega) _ (HMX.out.on HB.out)).mono ?_
  rintro e w8 h
  obtain ⟨rfl, hb⟩ := h.below
  rw [UND.out]
  have HB := Lib.hid (HB.out.trans (hb.mono HB.out.size))
  have HR1 := Lib.hid ((HR1.out.below hb).more hb.size)
  have HR2 := Lib.hid ((HR2.out.below hb).more hb.size)
  have HR3 := Lib.hid ((HR3.out.below hb).more hb.size)
  clear hb h
  go_wp2_with fail
  refine (nLess a b _).mono ?_
  rintro e w9 h
  obtain ⟨rfl, hb⟩ := h.below
  have HB := Lib.hid (HB.out.trans (hb.mono HB.out.size))
  have HR1 := Lib.hid ((HR1.out.below hb).more hb.size)
  have HR2 := Lib.hid ((HR2.out.below hb).more hb.size)
  have HR3 := Lib.hid ((HR3.out.below hb).more hb.size)
  clear hb h
  have hpos := HPOS.out
  obtain ⟨b2, o2, x, e1, _, hx, hcx⟩ := HR2.out.get (k := l2.length - 1) (by omega)
  cases e1
  have hvx : v = x := by
    have := HV2.out
    rw [← HL1.out, List.getLast?_map, List.getLast?_eq_getElem?, hx] at this
    exact tolist_inj (Option.some.inj this)
  subst hvx
  have hrow := Row.firsts HR2.out (m := l2.length - 1) (by omega)
  rw [← List.map_take] at hrow
  have HROW := Lib.hid hrow
  have hlen : l2.length ≤ 121 := by have := HLEN.out; rw [← HL1.out, List.length_map] at this; exact this
  have hw : wrap64 ((l2.length : Int) - 1) = ((l2.length - 1 : Nat) : Int) := by unfold wrap64; omega
  have hin : (0 : Int) ≤ ((l2.length - 1 : Nat) : Int) ∧ ((l2.length - 1 : Nat) : Int) < (l2.length : Int) := by omega
  have hsl : (1 : Int) ≤ (l2.length : Int) ∧ (l2.length : Int) - 1 ≤ (c2 : Int) := by have := HCAP.out; omega
  have hdl : (pathL b.toList).dropLast = (l2.take (l2.length - 1)).map ByteArray.toList := by rw [← HL1.out, List.dropLast_eq_take, List.length_map, List.map_take]
  have HDL := Lib.hid hdl
  have hsh : (slashed ((l2.take (l2.length - 1)).map ByteArray.toList)).length ≤ 1000000 := by
    have h1 := slashed_init (pathL b.toList)
    rw [hdl] at h1
    have h2 := HG.out
    rw [size_list] at h2
    omega
  have HSH := Lib.hid hsh
  have hj : l2.length - 1 ≤ 1000 := by omega
  clear hrow hx hdl hsh
  go_wp2_with fail
  refine (refJoin_any (l2.take (l2.length - 1)) (l2.length - 1) (by rw [List.length_take]; omega) _ _ _ _ hj HSH.out HROW.out).mono ?_
  rintro e w10 ⟨x, rfl, hx, rfl⟩
  obtain rfl : u = x := tolist_inj (by rw [HV1.out, HDL.out, hx])
  clear hx
  go_wp2
  go_ret
  exact ⟨rfl, HB.out⟩

set_option maxRecDepth 20000 in
set_option maxHeartbeats 4000000 in
theorem splits_p3o3t (a b c : ByteArray) (ha : ¬ 200 < a.size) (hb : ¬ 200 < b.size) (hc : ¬ 200 < c.size) (hm : pathE b.toList = 0) (hk : pathL b.toList ≠ []) (hp : pathE c.toList = 0) (hlo : (pathL c.toList).length < (pathL b.toList).length) (hpre : pathL c.toList <+: pathL b.toList) (w : World) (hM : MaxW w) : Calls Tryd.prog 3 #[.string a, .string b, .string c] w (TrueB w) := by
  have HMX := Lib.hid hM
  clear hM
  have hda : decide ((200 : Int) < (a.size : Int)) = false := decide_eq_false (by omega)
  have hdb : decide ((200 : Int) < (b.size : Int)) = false := decide_eq_false (by omega)
  have hdc : decide ((200 : Int) < (c.size : Int)) = false := decide_eq_false (by omega)
  have hbe : baseE b.toList = 0 := by unfold baseE; rw [if_pos hm, if_neg hk]
  have HM := Lib.hid hm; have HBE := Lib.hid hbe; have HK := Lib.hid hk; have HUL := Lib.hid (up_len hbe); have HG := Lib.hid (path_good hm).2.2
  have HP := Lib.hid hp; have HLT := Lib.hid hlo
  have HPRE := Lib.hid (pre_true hpre)
  have UND := Lib.hid (under_iff.2 ⟨hm, hp, hpre, hlo⟩)
  clear hm hbe hk hp hlo hpre
  have HLEN := Lib.hid (path_len b)
  have hle : (!Op.bytesLess a.toList b.toList == Op.bytesLess a.toList b.toList) = false := by cases Op.bytesLess a.toList b.toList <;> rfl
  go_enter Tryd.func3, Tryd.ntmps3
  go_wp2_with fail
  refine (nameAwake_true _ HMX.out).mono ?_
  rintro e w0 ⟨rfl, hb⟩
  have HB := Lib.hid hb
  clear hb
  go_wp2_with fail
  refine (nSplit b (by omega) _ (HMX.out.on HB.out)).mono ?_
  rintro e w1 ⟨A1, c1, l1, rfl, hl1, hr1, hb⟩
  have HB := Lib.hid (HB.out.trans (hb.mono HB.out.size))
  have HL1 := Lib.hid hl1; have HR1 := Lib.hid hr1
  clear hb hl1 hr1
  go_wp2_with fail
  refine (refSplit_row b _ (by omega)).mono ?_
  rintro e w2 ⟨A2, c2, l2, rfl, hl2, hcap, hr2, hb⟩
  obtain rfl : l2 = l1 := (List.map_inj_right (fun a b h => tolist_inj h)).1 (hl2.trans HL1.out.symm)
  have HB := Lib.hid (HB.out.trans (hb.mono HB.out.size))
  have HR1 := Lib.hid ((HR1.out.below hb).more hb.size)
  have HR2 := Lib.hid hr2; have HCAP := Lib.hid hcap
  clear hb hl2 hr2 hcap
  go_wp2_with fail
  refine (refSplit_row c _ (by omega)).mono ?_
  rintro e w3 ⟨A3, c3, l3, rfl, hl3, _, hr3, hb⟩
  have HB := Lib.hid (HB.out.trans (hb.mono HB.out.size))
  have HR1 := Lib.hid ((HR1.out.below hb).more hb.size)
  have HR2 := Lib.hid ((HR2.out.below hb).more hb.size)
  have HR3 := Lib.hid hr3; have HL3 := Lib.hid hl3
  clear hb hl3 hr3
  have hpos : 0 < l2.length := by
    have h0 := HL1.out
    rcases Nat.eq_zero_or_pos l2.length with h | h
    · rw [List.eq_nil_of_length_eq_zero h] at h0; exact absurd h0.symm HK.out
    · exact h
  have HPOS := Lib.hid hpos
  obtain ⟨b1, o1, e1, _⟩ := HR2.out.2 hpos
  subst e1
  have hl9 : ((l2.length : Int) == 0) = false := by rw [beq_eq_false_iff_ne]; omega
  clear hpos
  have hlt := HLT.out
  rw [← HL1.out, ← HL3.out, List.length_map, List.length_map] at hlt
  have hl8 : decide ((l3.length : Int) < (l2.length : Int)) = true := decide_eq_true (by omega)
  have hl7 : decide (l3.length < l2.length) = true := decide_eq_true hlt
  have HLT2 := Lib.hid hlt
  clear hlt
  rw [HP.out]
  go_wp2_with fail
  refine (nBaseD b (by omega) _ (HMX.out.on HB.out)).mono ?_
  rintro e w4 ⟨u, v, rfl, hu, hv, hb⟩
  have HB := Lib.hid (HB.out.trans (hb.mono HB.out.size))
  have HR1 := Lib.hid ((HR1.out.below hb).more hb.size)
  have HR2 := Lib.hid ((HR2.out.below hb).more hb.size)
  have HR3 := Lib.hid ((HR3.out.below hb).more hb.size)
  rw [HM.out, HBE.out]
  obtain ⟨hv1, hv2⟩ := hv HBE.out
  have HV1 := Lib.hid hv1; have HV2 := Lib.hid hv2
  clear hv1 hv2
  clear hb hu hv
  obtain ⟨n, hn⟩ : ∃ n, nameN a.toList = n := ⟨_, rfl⟩
  have HN := Lib.hid hn
  have hself : (n != n) = false := by simp
  clear hn
  have hlt := HLT2.out
  have hrow3 := Row.firsts HR2.out (m := l3.length) (by omega)
  rw [← List.map_take] at hrow3
  have HROW3 := Lib.hid hrow3
  have hmin : min (l3.length : Int) (l2.length : Int) = (l3.length : Int) := by omega
  have hsl3 : (l3.length : Int) ≤ (c2 : Int) := by have := HCAP.out; omega
  have hdec : decide (l2.take l3.length = l3) = true := HPRE.out l2 l3 HL1.out HL3.out
  have HDEC := Lib.hid hdec
  have hl121 : l3.length ≤ 1000 := by have := HLEN.out; rw [← HL1.out, List.length_map] at this; omega
  clear hrow3 hdec
  go_wp2_with fail
  refine (sameTexts_any (l2.take l3.length) l3 l3.length l3.length (by rw [List.length_take]; omega) rfl hl121 _ _ _ _ _ _ HROW3.out HR3.out).mono ?_
  rintro e w45 h
  rw [HDEC.out] at h
  obtain ⟨rfl, hb⟩ := h.below
  have HB := Lib.hid (HB.out.trans (hb.mono HB.out.size))
  have HR1 := Lib.hid ((HR1.out.below hb).more hb.size)
  have HR2 := Lib.hid ((HR2.out.below hb).more hb.size)
  have HR3 := Lib.hid ((HR3.out.below hb).more hb.size)
  clear hb h
  go_wp2_with fail
  refine (nCheck a (by omega) _).mono ?_
  rintro e w5 h
  obtain ⟨rfl, hb⟩ := h.below
  rw [HN.out]
  have HB := Lib.hid (HB.out.trans (hb.mono HB.out.size))
  have HR1 := Lib.hid ((HR1.out.below hb).more hb.size)
  have HR2 := Lib.hid ((HR2.out.below hb).more hb.size)
  have HR3 := Lib.hid ((HR3.out.below hb).more hb.size)
  clear hb h
  go_wp2_with fail
  refine (refName_any a (by omega) _).mono ?_
  rintro e w6 ⟨rfl, rfl⟩
  rw [HN.out]
  go_wp2_with fail
  refine (sameTexts_any _ _ _ _ rfl rfl (by have := HLEN.out; rw [← HL1.out, List.length_map] at this; omega) _ _ _ _ _ _ HR1.out HR2.out).mono ?_
  rintro e w7 h
  rw [decide_eq_true rfl] at h
  obtain ⟨rfl, hb⟩ := h.below
  have HB := Lib.hid (HB.out.trans (hb.mono HB.out.size))
  have HR1 := Lib.hid ((HR1.out.below hb).more hb.size)
  have HR2 := Lib.hid ((HR2.out.below hb).more hb.size)
  have HR3 := Lib.hid ((HR3.out.below hb).more hb.size)
  clear hb h
  go_wp2_with fail
  refine (nUnder b c (by omega) (by omega) _ (HMX.out.on HB.out)).mono ?_
  rintro e w8 h
  obtain ⟨rfl, hb⟩ := h.below
  rw [UND.out]
  have HB := Lib.hid (HB.out.trans (hb.mono HB.out.size))
  have HR1 := Lib.hid ((HR1.out.below hb).more hb.size)
  have HR2 := Lib.hid ((HR2.out.below hb).more hb.size)
  have HR3 := Lib.hid ((HR3.out.below hb).more hb.size)
  clear hb h
  go_wp2_with fail
  refine (nLess a b _).mono ?_
  rintro e w9 h
  obtain ⟨rfl, hb⟩ := h.below
  have HB := Lib.hid (HB.out.trans (hb.mono HB.out.size))
  have HR1 := Lib.hid ((HR1.out.below hb).more hb.size)
  have HR2 := Lib.hid ((HR2.out.below hb).more hb.size)
  have HR3 := Lib.hid ((HR3.out.below hb).more hb.size)
  clear hb h
  have hpos := HPOS.out
  obtain ⟨b2, o2, x, e1, _, hx, hcx⟩ := HR2.out.get (k := l2.length - 1) (by omega)
  cases e1
  have hvx : v = x := by
    have := HV2.out
    rw [← HL1.out, List.getLast?_map, List.getLast?_eq_getElem?, hx] at this
    exact tolist_inj (Option.some.inj this)
  subst hvx
  have hrow := Row.firsts HR2.out (m := l2.length - 1) (by omega)
  rw [← List.map_take] at hrow
  have HROW := Lib.hid hrow
  have hlen : l2.length ≤ 121 := by have := HLEN.out; rw [← HL1.out, List.length_map] at this; exact this
  have hw : wrap64 ((l2.length : Int) - 1) = ((l2.length - 1 : Nat) : Int) := by unfold wrap64; omega
  have hin : (0 : Int) ≤ ((l2.length - 1 : Nat) : Int) ∧ ((l2.length - 1 : Nat) : Int) < (l2.length : Int) := by omega
  have hsl : (1 : Int) ≤ (l2.length : Int) ∧ (l2.length : Int) - 1 ≤ (c2 : Int) := by have := HCAP.out; omega
  have hdl : (pathL b.toList).dropLast = (l2.take (l2.length - 1)).map ByteArray.toList := by rw [← HL1.out, List.dropLast_eq_take, List.length_map, List.map_take]
  have HDL := Lib.hid hdl
  have hsh : (slashed ((l2.take (l2.length - 1)).map ByteArray.toList)).length ≤ 1000000 := by
    have h1 := slashed_init (pathL b.toList)
    rw [hdl] at h1
    have h2 := HG.out
    rw [size_list] at h2
    omega
  have HSH := Lib.hid hsh
  have hj : l2.length - 1 ≤ 1000 := by omega
  clear hrow hx hdl hsh
  go_wp2_with fail
  refine (refJoin_any (l2.take (l2.length - 1)) (l2.length - 1) (by rw [List.length_take]; omega) _ _ _ _ hj HSH.out HROW.out).mono ?_
  rintro e w10 ⟨x, rfl, hx, rfl⟩
  obtain rfl : u = x := tolist_inj (by rw [HV1.out, HDL.out, hx])
  clear hx
  go_wp2
  go_ret
  exact ⟨rfl, HB.out⟩

set_option maxRecDepth 20000 in
set_option maxHeartbeats 4000000 in
theorem splits_p3o3f (a b c : ByteArray) (ha : ¬ 200 < a.size) (hb : ¬ 200 < b.size) (hc : ¬ 200 < c.size) (hm : pathE b.toList = 0) (hk : pathL b.toList ≠ []) (hp : pathE c.toList = 0) (hlo : (pathL c.toList).length < (pathL b.toList).length) (hpre : ¬ pathL c.toList <+: pathL b.toList) (w : World) (hM : MaxW w) : Calls Tryd.prog 3 #[.string a, .string b, .string c] w (TrueB w) := by
  have HMX := Lib.hid hM
  clear hM
  have hda : decide ((200 : Int) < (a.size : Int)) = false := decide_eq_false (by omega)
  have hdb : decide ((200 : Int) < (b.size : Int)) = false := decide_eq_false (by omega)
  have hdc : decide ((200 : Int) < (c.size : Int)) = false := decide_eq_false (by omega)
  have hbe : baseE b.toList = 0 := by unfold baseE; rw [if_pos hm, if_neg hk]
  have HM := Lib.hid hm; have HBE := Lib.hid hbe; have HK := Lib.hid hk; have HUL := Lib.hid (up_len hbe); have HG := Lib.hid (path_good hm).2.2
  have HP := Lib.hid hp; have HLT := Lib.hid hlo
  have HPRE := Lib.hid (pre_false hpre)
  have UND := Lib.hid (show underB b.toList c.toList = false from by rw [Bool.eq_false_iff, Ne, under_iff]; exact fun h => hpre h.2.2.1)
  clear hm hbe hk hp hlo hpre
  have HLEN := Lib.hid (path_len b)
  have hle : (!Op.bytesLess a.toList b.toList == Op.bytesLess a.toList b.toList) = false := by cases Op.bytesLess a.toList b.toList <;> rfl
  go_enter Tryd.func3, Tryd.ntmps3
  go_wp2_with fail
  refine (nameAwake_true _ HMX.out).mono ?_
  rintro e w0 ⟨rfl, hb⟩
  have HB := Lib.hid hb
  clear hb
  go_wp2_with fail
  refine (nSplit b (by omega) _ (HMX.out.on HB.out)).mono ?_
  rintro e w1 ⟨A1, c1, l1, rfl, hl1, hr1, hb⟩
  have HB := Lib.hid (HB.out.trans (hb.mono HB.out.size))
  have HL1 := Lib.hid hl1; have HR1 := Lib.hid hr1
  clear hb hl1 hr1
  go_wp2_with fail
  refine (refSplit_row b _ (by omega)).mono ?_
  rintro e w2 ⟨A2, c2, l2, rfl, hl2, hcap, hr2, hb⟩
  obtain rfl : l2 = l1 := (List.map_inj_right (fun a b h => tolist_inj h)).1 (hl2.trans HL1.out.symm)
  have HB := Lib.hid (HB.out.trans (hb.mono HB.out.size))
  have HR1 := Lib.hid ((HR1.out.below hb).more hb.size)
  have HR2 := Lib.hid hr2; have HCAP := Lib.hid hcap
  clear hb hl2 hr2 hcap
  go_wp2_with fail
  refine (refSplit_row c _ (by omega)).mono ?_
  rintro e w3 ⟨A3, c3, l3, rfl, hl3, _, hr3, hb⟩
  have HB := Lib.hid (HB.out.trans (hb.mono HB.out.size))
  have HR1 := Lib.hid ((HR1.out.below hb).more hb.size)
  have HR2 := Lib.hid ((HR2.out.below hb).more hb.size)
  have HR3 := Lib.hid hr3; have HL3 := Lib.hid hl3
  clear hb hl3 hr3
  have hpos : 0 < l2.length := by
    have h0 := HL1.out
    rcases Nat.eq_zero_or_pos l2.length with h | h
    · rw [List.eq_nil_of_length_eq_zero h] at h0; exact absurd h0.symm HK.out
    · exact h
  have HPOS := Lib.hid hpos
  obtain ⟨b1, o1, e1, _⟩ := HR2.out.2 hpos
  subst e1
  have hl9 : ((l2.length : Int) == 0) = false := by rw [beq_eq_false_iff_ne]; omega
  clear hpos
  have hlt := HLT.out
  rw [← HL1.out, ← HL3.out, List.length_map, List.length_map] at hlt
  have hl8 : decide ((l3.length : Int) < (l2.length : Int)) = true := decide_eq_true (by omega)
  have hl7 : decide (l3.length < l2.length) = true := decide_eq_true hlt
  have HLT2 := Lib.hid hlt
  clear hlt
  rw [HP.out]
  go_wp2_with fail
  refine (nBaseD b (by omega) _ (HMX.out.on HB.out)).mono ?_
  rintro e w4 ⟨u, v, rfl, hu, hv, hb⟩
  have HB := Lib.hid (HB.out.trans (hb.mono HB.out.size))
  have HR1 := Lib.hid ((HR1.out.below hb).more hb.size)
  have HR2 := Lib.hid ((HR2.out.below hb).more hb.size)
  have HR3 := Lib.hid ((HR3.out.below hb).more hb.size)
  rw [HM.out, HBE.out]
  obtain ⟨hv1, hv2⟩ := hv HBE.out
  have HV1 := Lib.hid hv1; have HV2 := Lib.hid hv2
  clear hv1 hv2
  clear hb hu hv
  obtain ⟨n, hn⟩ : ∃ n, nameN a.toList = n := ⟨_, rfl⟩
  have HN := Lib.hid hn
  have hself : (n != n) = false := by simp
  clear hn
  have hlt := HLT2.out
  have hrow3 := Row.firsts HR2.out (m := l3.length) (by omega)
  rw [← List.map_take] at hrow3
  have HROW3 := Lib.hid hrow3
  have hmin : min (l3.length : Int) (l2.length : Int) = (l3.length : Int) := by omega
  have hsl3 : (l3.length : Int) ≤ (c2 : Int) := by have := HCAP.out; omega
  have hdec : decide (l2.take l3.length = l3) = false := HPRE.out l2 l3 HL1.out HL3.out
  have HDEC := Lib.hid hdec
  have hl121 : l3.length ≤ 1000 := by have := HLEN.out; rw [← HL1.out, List.length_map] at this; omega
  clear hrow3 hdec
  go_wp2_with fail
  refine (sameTexts_any (l2.take l3.length) l3 l3.length l3.length (by rw [List.length_take]; omega) rfl hl121 _ _ _ _ _ _ HROW3.out HR3.out).mono ?_
  rintro e w45 h
  rw [HDEC.out] at h
  obtain ⟨rfl, hb⟩ := h.below
  have HB := Lib.hid (HB.out.trans (hb.mono HB.out.size))
  have HR1 := Lib.hid ((HR1.out.below hb).more hb.size)
  have HR2 := Lib.hid ((HR2.out.below hb).more hb.size)
  have HR3 := Lib.hid ((HR3.out.below hb).more hb.size)
  clear hb h
  go_wp2_with fail
  refine (nCheck a (by omega) _).mono ?_
  rintro e w5 h
  obtain ⟨rfl, hb⟩ := h.below
  rw [HN.out]
  have HB := Lib.hid (HB.out.trans (hb.mono HB.out.size))
  have HR1 := Lib.hid ((HR1.out.below hb).more hb.size)
  have HR2 := Lib.hid ((HR2.out.below hb).more hb.size)
  have HR3 := Lib.hid ((HR3.out.below hb).more hb.size)
  clear hb h
  go_wp2_with fail
  refine (refName_any a (by omega) _).mono ?_
  rintro e w6 ⟨rfl, rfl⟩
  rw [HN.out]
  go_wp2_with fail
  refine (sameTexts_any _ _ _ _ rfl rfl (by have := HLEN.out; rw [← HL1.out, List.length_map] at this; omega) _ _ _ _ _ _ HR1.out HR2.out).mono ?_
  rintro e w7 h
  rw [decide_eq_true rfl] at h
  obtain ⟨rfl, hb⟩ := h.below
  have HB := Lib.hid (HB.out.trans (hb.mono HB.out.size))
  have HR1 := Lib.hid ((HR1.out.below hb).more hb.size)
  have HR2 := Lib.hid ((HR2.out.below hb).more hb.size)
  have HR3 := Lib.hid ((HR3.out.below hb).more hb.size)
  clear hb h
  go_wp2_with fail
  refine (nUnder b c (by omega) (by omega) _ (HMX.out.on HB.out)).mono ?_
  rintro e w8 h
  obtain ⟨rfl, hb⟩ := h.below
  rw [UND.out]
  have HB := Lib.hid (HB.out.trans (hb.mono HB.out.size))
  have HR1 := Lib.hid ((HR1.out.below hb).more hb.size)
  have HR2 := Lib.hid ((HR2.out.below hb).more hb.size)
  have HR3 := Lib.hid ((HR3.out.below hb).more hb.size)
  clear hb h
  go_wp2_with fail
  refine (nLess a b _).mono ?_
  rintro e w9 h
  obtain ⟨rfl, hb⟩ := h.below
  have HB := Lib.hid (HB.out.trans (hb.mono HB.out.size))
  have HR1 := Lib.hid ((HR1.out.below hb).more hb.size)
  have HR2 := Lib.hid ((HR2.out.below hb).more hb.size)
  have HR3 := Lib.hid ((HR3.out.below hb).more hb.size)
  clear hb h
  have hpos := HPOS.out
  obtain ⟨b2, o2, x, e1, _, hx, hcx⟩ := HR2.out.get (k := l2.length - 1) (by omega)
  cases e1
  have hvx : v = x := by
    have := HV2.out
    rw [← HL1.out, List.getLast?_map, List.getLast?_eq_getElem?, hx] at this
    exact tolist_inj (Option.some.inj this)
  subst hvx
  have hrow := Row.firsts HR2.out (m := l2.length - 1) (by omega)
  rw [← List.map_take] at hrow
  have HROW := Lib.hid hrow
  have hlen : l2.length ≤ 121 := by have := HLEN.out; rw [← HL1.out, List.length_map] at this; exact this
  have hw : wrap64 ((l2.length : Int) - 1) = ((l2.length - 1 : Nat) : Int) := by unfold wrap64; omega
  have hin : (0 : Int) ≤ ((l2.length - 1 : Nat) : Int) ∧ ((l2.length - 1 : Nat) : Int) < (l2.length : Int) := by omega
  have hsl : (1 : Int) ≤ (l2.length : Int) ∧ (l2.length : Int) - 1 ≤ (c2 : Int) := by have := HCAP.out; omega
  have hdl : (pathL b.toList).dropLast = (l2.take (l2.length - 1)).map ByteArray.toList := by rw [← HL1.out, List.dropLast_eq_take, List.length_map, List.map_take]
  have HDL := Lib.hid hdl
  have hsh : (slashed ((l2.take (l2.length - 1)).map ByteArray.toList)).length ≤ 1000000 := by
    have h1 := slashed_init (pathL b.toList)
    rw [hdl] at h1
    have h2 := HG.out
    rw [size_list] at h2
    omega
  have HSH := Lib.hid hsh
  have hj : l2.length - 1 ≤ 1000 := by omega
  clear hrow hx hdl hsh
  go_wp2_with fail
  refine (refJoin_any (l2.take (l2.length - 1)) (l2.length - 1) (by rw [List.length_take]; omega) _ _ _ _ hj HSH.out HROW.out).mono ?_
  rintro e w10 ⟨x, rfl, hx, rfl⟩
  obtain rfl : u = x := tolist_inj (by rw [HV1.out, HDL.out, hx])
  clear hx
  go_wp2
  go_ret
  exact ⟨rfl, HB.out⟩

theorem nameSplits_walk (a : ByteArray) (_ : a.size ≤ maxLen) (b : ByteArray) (_ : b.size ≤ maxLen) (c : ByteArray) (_ : c.size ≤ maxLen) (w : World) (hM : MaxW w) : Calls Tryd.prog 3 #[.string a, .string b, .string c] w (TrueB w) := by
  by_cases ha : 200 < a.size
  · exact nameSplits_far1 a b c ha w hM
  by_cases hb : 200 < b.size
  · exact nameSplits_far2 a b c ha hb w hM
  by_cases hc : 200 < c.size
  · exact nameSplits_far3 a b c ha hb hc w hM
  by_cases hm : pathE b.toList = 0
  · by_cases hk : pathL b.toList = []
    · by_cases hp : pathE c.toList = 0
      · exact splits_p2o2 a b c ha hb hc hm hk hp w hM
      · exact splits_p2o1 a b c ha hb hc hm hk _ rfl hp w hM
    · by_cases hp : pathE c.toList = 0
      · by_cases hlo : (pathL b.toList).length ≤ (pathL c.toList).length
        · exact splits_p3o2 a b c ha hb hc hm hk hp hlo w hM
        · by_cases hpre : pathL c.toList <+: pathL b.toList
          · exact splits_p3o3t a b c ha hb hc hm hk hp (by omega) hpre w hM
          · exact splits_p3o3f a b c ha hb hc hm hk hp (by omega) hpre w hM
      · exact splits_p3o1 a b c ha hb hc hm hk _ rfl hp w hM
  · exact splits_p1 a b c ha hb hc _ rfl hm w hM
end Go.Proofs.YtblfhohoomkcmaaDoor
