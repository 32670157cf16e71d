import Derived.Test.YtblfhohoomkcmaaDoorNuFace
namespace Go.Proofs.YtblfhohoomkcmaaDoor
open Wd Go.ChangeShapes Go.WideShapes Go.RowKit Go.Sort
set_option linter.unusedVariables false

theorem nameUnder_far1 (a b c : ByteArray) (h : 200 < a.size) (w : World) (hM : MaxW w) : Calls Tryd.prog 5 #[.string a, .string b, .string c] w (TrueB w) := by
  have HMX := Lib.hid hM
  clear hM
  have hda : decide ((200 : Int) < (a.size : Int)) = true := decide_eq_true (by omega)
  go_enter Tryd.func5, Tryd.ntmps5
  go_wp2_with fail
  refine (nameAwake_true _ HMX.out).mono ?_
  rintro e w0 ⟨rfl, hb⟩
  have HB := Lib.hid hb
  clear hb
  go_wp2
  go_ret
  exact ⟨rfl, HB.out⟩

theorem nameUnder_far2 (a b c : ByteArray) (ha : ¬ 200 < a.size) (h : 200 < b.size) (w : World) (hM : MaxW w) : Calls Tryd.prog 5 #[.string a, .string b, .string c] w (TrueB w) := by
  have HMX := Lib.hid hM
  clear hM
  have hda : decide ((200 : Int) < (a.size : Int)) = false := decide_eq_false (by omega)
  have hdb : decide ((200 : Int) < (b.size : Int)) = true := decide_eq_true (by omega)
  go_enter Tryd.func5, Tryd.ntmps5
  go_wp2_with fail
  refine (nameAwake_true _ HMX.out).mono ?_
  rintro e w0 ⟨rfl, hb⟩
  have HB := Lib.hid hb
  clear hb
  go_wp2
  go_ret
  exact ⟨rfl, HB.out⟩

theorem nameUnder_far3 (a b c : ByteArray) (ha : ¬ 200 < a.size) (hb : ¬ 200 < b.size) (h : 200 < c.size) (w : World) (hM : MaxW w) : Calls Tryd.prog 5 #[.string a, .string b, .string c] w (TrueB w) := by
  have HMX := Lib.hid hM
  clear hM
  have hda : decide ((200 : Int) < (a.size : Int)) = false := decide_eq_false (by omega)
  have hdb : decide ((200 : Int) < (b.size : Int)) = false := decide_eq_false (by omega)
  have hdc : decide ((200 : Int) < (c.size : Int)) = true := decide_eq_true (by omega)
  go_enter Tryd.func5, Tryd.ntmps5
  go_wp2_with fail
  refine (nameAwake_true _ HMX.out).mono ?_
  rintro e w0 ⟨rfl, hb⟩
  have HB := Lib.hid hb
  clear hb
  go_wp2
  go_ret
  exact ⟨rfl, HB.out⟩

set_option maxHeartbeats 2000000 in
theorem nameUnder_no (a b c : ByteArray) (ha : ¬ 200 < a.size) (hb : ¬ 200 < b.size) (hc : ¬ 200 < c.size) (hx : underB a.toList b.toList = false) (w : World) (hM : MaxW w) : Calls Tryd.prog 5 #[.string a, .string b, .string c] w (TrueB w) := by
  have HMX := Lib.hid hM
  clear hM
  have hda : decide ((200 : Int) < (a.size : Int)) = false := decide_eq_false (by omega)
  have hdb : decide ((200 : Int) < (b.size : Int)) = false := decide_eq_false (by omega)
  have hdc : decide ((200 : Int) < (c.size : Int)) = false := decide_eq_false (by omega)
  have X := Lib.hid hx
  clear hx
  have SELF := Lib.hid (under_self a.toList)
  go_enter Tryd.func5, Tryd.ntmps5
  go_wp2_with fail
  refine (nameAwake_true _ HMX.out).mono ?_
  rintro e w0 ⟨rfl, hb⟩
  have HB := Lib.hid hb
  clear hb
  go_wp2_with fail
  refine (nUnder a b (by omega) (by omega) _ (HMX.out.on HB.out)).mono ?_
  rintro e w1 h
  obtain ⟨rfl, hb⟩ := h.below
  rw [X.out]
  have HB := Lib.hid (HB.out.trans (hb.mono HB.out.size))
  clear hb h
  go_wp2_with fail
  refine (nUnder a a (by omega) (by omega) _ (HMX.out.on HB.out)).mono ?_
  rintro e w1 h
  obtain ⟨rfl, hb⟩ := h.below
  rw [SELF.out]
  have HB := Lib.hid (HB.out.trans (hb.mono HB.out.size))
  clear hb h
  go_wp2_with fail
  refine (nUnder a b (by omega) (by omega) _ (HMX.out.on HB.out)).mono ?_
  rintro e w1 h
  obtain ⟨rfl, hb⟩ := h.below
  rw [X.out]
  have HB := Lib.hid (HB.out.trans (hb.mono HB.out.size))
  clear hb h
  go_wp2_with fail
  refine (nBase a (by omega) _ (HMX.out.on HB.out)).mono ?_
  rintro e w1 ⟨u, v, rfl, hu, hb⟩
  have HB := Lib.hid (HB.out.trans (hb.mono HB.out.size))
  clear hb
  obtain ⟨m, hm⟩ : ∃ m, baseE a.toList = m := ⟨_, rfl⟩
  rw [hm] at hu ⊢
  have HM := Lib.hid hm
  have HU := Lib.hid hu
  clear hm hu
  by_cases h0 : m = 0
  · subst h0
    have huu := HU.out rfl
    have hl := up_len HM.out
    have hun := under_up HM.out
    rw [← huu] at hl hun
    rw [size_list] at hl
    have HUN := Lib.hid hun
    clear huu hun
    go_wp2_with fail
    refine (nUnder a u (by omega) (by omega) _ (HMX.out.on HB.out)).mono ?_
    rintro e w2 h
    obtain ⟨rfl, hb⟩ := h.below
    rw [HUN.out]
    have HB := Lib.hid (HB.out.trans (hb.mono HB.out.size))
    clear hb h
    go_wp2
    go_ret
    exact ⟨rfl, HB.out⟩
  · have hne : (m != 0) = true := by rw [bne_iff_ne]; exact h0
    clear h0
    go_wp2
    go_ret
    exact ⟨rfl, HB.out⟩

set_option maxHeartbeats 2000000 in
theorem nameUnder_one (a b c : ByteArray) (ha : ¬ 200 < a.size) (hb : ¬ 200 < b.size) (hc : ¬ 200 < c.size) (hx : underB a.toList b.toList = true) (hy : underB b.toList c.toList = false) (w : World) (hM : MaxW w) : Calls Tryd.prog 5 #[.string a, .string b, .string c] w (TrueB w) := by
  have HMX := Lib.hid hM
  clear hM
  have hda : decide ((200 : Int) < (a.size : Int)) = false := decide_eq_false (by omega)
  have hdb : decide ((200 : Int) < (b.size : Int)) = false := decide_eq_false (by omega)
  have hdc : decide ((200 : Int) < (c.size : Int)) = false := decide_eq_false (by omega)
  have X := Lib.hid hx
  have BACK := Lib.hid (under_back hx)
  have Y := Lib.hid hy
  clear hx hy
  have SELF := Lib.hid (under_self a.toList)
  go_enter Tryd.func5, Tryd.ntmps5
  go_wp2_with fail
  refine (nameAwake_true _ HMX.out).mono ?_
  rintro e w0 ⟨rfl, hb⟩
  have HB := Lib.hid hb
  clear hb
  go_wp2_with fail
  refine (nUnder a b (by omega) (by omega) _ (HMX.out.on HB.out)).mono ?_
  rintro e w1 h
  obtain ⟨rfl, hb⟩ := h.below
  rw [X.out]
  have HB := Lib.hid (HB.out.trans (hb.mono HB.out.size))
  clear hb h
  go_wp2_with fail
  refine (nUnder b c (by omega) (by omega) _ (HMX.out.on HB.out)).mono ?_
  rintro e w1 h
  obtain ⟨rfl, hb⟩ := h.below
  rw [Y.out]
  have HB := Lib.hid (HB.out.trans (hb.mono HB.out.size))
  clear hb h
  go_wp2_with fail
  refine (nUnder a a (by omega) (by omega) _ (HMX.out.on HB.out)).mono ?_
  rintro e w1 h
  obtain ⟨rfl, hb⟩ := h.below
  rw [SELF.out]
  have HB := Lib.hid (HB.out.trans (hb.mono HB.out.size))
  clear hb h
  go_wp2_with fail
  refine (nUnder a b (by omega) (by omega) _ (HMX.out.on HB.out)).mono ?_
  rintro e w1 h
  obtain ⟨rfl, hb⟩ := h.below
  rw [X.out]
  have HB := Lib.hid (HB.out.trans (hb.mono HB.out.size))
  clear hb h
  go_wp2_with fail
  refine (nUnder b a (by omega) (by omega) _ (HMX.out.on HB.out)).mono ?_
  rintro e w1 h
  obtain ⟨rfl, hb⟩ := h.below
  rw [BACK.out]
  have HB := Lib.hid (HB.out.trans (hb.mono HB.out.size))
  clear hb h
  go_wp2_with fail
  refine (nBase a (by omega) _ (HMX.out.on HB.out)).mono ?_
  rintro e w1 ⟨u, v, rfl, hu, hb⟩
  have HB := Lib.hid (HB.out.trans (hb.mono HB.out.size))
  clear hb
  obtain ⟨m, hm⟩ : ∃ m, baseE a.toList = m := ⟨_, rfl⟩
  rw [hm] at hu ⊢
  have HM := Lib.hid hm
  have HU := Lib.hid hu
  clear hm hu
  by_cases h0 : m = 0
  · subst h0
    have huu := HU.out rfl
    have hl := up_len HM.out
    have hun := under_up HM.out
    rw [← huu] at hl hun
    rw [size_list] at hl
    have HUN := Lib.hid hun
    clear huu hun
    go_wp2_with fail
    refine (nUnder a u (by omega) (by omega) _ (HMX.out.on HB.out)).mono ?_
    rintro e w2 h
    obtain ⟨rfl, hb⟩ := h.below
    rw [HUN.out]
    have HB := Lib.hid (HB.out.trans (hb.mono HB.out.size))
    clear hb h
    go_wp2
    go_ret
    exact ⟨rfl, HB.out⟩
  · have hne : (m != 0) = true := by rw [bne_iff_ne]; exact h0
    clear h0
    go_wp2
    go_ret
    exact ⟨rfl, HB.out⟩

set_option maxHeartbeats 2000000 in
theorem nameUnder_two (a b c : ByteArray) (ha : ¬ 200 < a.size) (hb : ¬ 200 < b.size) (hc : ¬ 200 < c.size) (hx : underB a.toList b.toList = true) (hy : underB b.toList c.toList = true) (w : World) (hM : MaxW w) : Calls Tryd.prog 5 #[.string a, .string b, .string c] w (TrueB w) := by
  have HMX := Lib.hid hM
  clear hM
  have hda : decide ((200 : Int) < (a.size : Int)) = false := decide_eq_false (by omega)
  have hdb : decide ((200 : Int) < (b.size : Int)) = false := decide_eq_false (by omega)
  have hdc : decide ((200 : Int) < (c.size : Int)) = false := decide_eq_false (by omega)
  have X := Lib.hid hx
  have BACK := Lib.hid (under_back hx)
  have Y := Lib.hid hy
  have Z := Lib.hid (under_trans hx hy)
  clear hx hy
  have SELF := Lib.hid (under_self a.toList)
  go_enter Tryd.func5, Tryd.ntmps5
  go_wp2_with fail
  refine (nameAwake_true _ HMX.out).mono ?_
  rintro e w0 ⟨rfl, hb⟩
  have HB := Lib.hid hb
  clear hb
  go_wp2_with fail
  refine (nUnder a b (by omega) (by omega) _ (HMX.out.on HB.out)).mono ?_
  rintro e w1 h
  obtain ⟨rfl, hb⟩ := h.below
  rw [X.out]
  have HB := Lib.hid (HB.out.trans (hb.mono HB.out.size))
  clear hb h
  go_wp2_with fail
  refine (nUnder b c (by omega) (by omega) _ (HMX.out.on HB.out)).mono ?_
  rintro e w1 h
  obtain ⟨rfl, hb⟩ := h.below
  rw [Y.out]
  have HB := Lib.hid (HB.out.trans (hb.mono HB.out.size))
  clear hb h
  go_wp2_with fail
  refine (nUnder a c (by omega) (by omega) _ (HMX.out.on HB.out)).mono ?_
  rintro e w1 h
  obtain ⟨rfl, hb⟩ := h.below
  rw [Z.out]
  have HB := Lib.hid (HB.out.trans (hb.mono HB.out.size))
  clear hb h
  go_wp2_with fail
  refine (nUnder a a (by omega) (by omega) _ (HMX.out.on HB.out)).mono ?_
  rintro e w1 h
  obtain ⟨rfl, hb⟩ := h.below
  rw [SELF.out]
  have HB := Lib.hid (HB.out.trans (hb.mono HB.out.size))
  clear hb h
  go_wp2_with fail
  refine (nUnder a b (by omega) (by omega) _ (HMX.out.on HB.out)).mono ?_
  rintro e w1 h
  obtain ⟨rfl, hb⟩ := h.below
  rw [X.out]
  have HB := Lib.hid (HB.out.trans (hb.mono HB.out.size))
  clear hb h
  go_wp2_with fail
  refine (nUnder b a (by omega) (by omega) _ (HMX.out.on HB.out)).mono ?_
  rintro e w1 h
  obtain ⟨rfl, hb⟩ := h.below
  rw [BACK.out]
  have HB := Lib.hid (HB.out.trans (hb.mono HB.out.size))
  clear hb h
  go_wp2_with fail
  refine (nBase a (by omega) _ (HMX.out.on HB.out)).mono ?_
  rintro e w1 ⟨u, v, rfl, hu, hb⟩
  have HB := Lib.hid (HB.out.trans (hb.mono HB.out.size))
  clear hb
  obtain ⟨m, hm⟩ : ∃ m, baseE a.toList = m := ⟨_, rfl⟩
  rw [hm] at hu ⊢
  have HM := Lib.hid hm
  have HU := Lib.hid hu
  clear hm hu
  by_cases h0 : m = 0
  · subst h0
    have huu := HU.out rfl
    have hl := up_len HM.out
    have hun := under_up HM.out
    rw [← huu] at hl hun
    rw [size_list] at hl
    have HUN := Lib.hid hun
    clear huu hun
    go_wp2_with fail
    refine (nUnder a u (by omega) (by omega) _ (HMX.out.on HB.out)).mono ?_
    rintro e w2 h
    obtain ⟨rfl, hb⟩ := h.below
    rw [HUN.out]
    have HB := Lib.hid (HB.out.trans (hb.mono HB.out.size))
    clear hb h
    go_wp2
    go_ret
    exact ⟨rfl, HB.out⟩
  · have hne : (m != 0) = true := by rw [bne_iff_ne]; exact h0
    clear h0
    go_wp2
    go_ret
    exact ⟨rfl, HB.out⟩

theorem nameUnder_walk (a : ByteArray) (_ : a.size ≤ maxLen) (b : ByteArray) (_ : b.size ≤ maxLen) (c : ByteArray) (_ : c.size ≤ maxLen) (w : World) (hM : MaxW w) : Calls Tryd.prog 5 #[.string a, .string b, .string c] w (TrueB w) := by
  by_cases ha : 200 < a.size
  · exact nameUnder_far1 a b c ha w hM
  by_cases hb : 200 < b.size
  · exact nameUnder_far2 a b c ha hb w hM
  by_cases hc : 200 < c.size
  · exact nameUnder_far3 a b c ha hb hc w hM
  cases hx : underB a.toList b.toList with
  | false => exact nameUnder_no a b c ha hb hc hx w hM
  | true =>
    cases hy : underB b.toList c.toList with
    | false => exact nameUnder_one a b c ha hb hc hx hy w hM
    | true => exact nameUnder_two a b c ha hb hc hx hy w hM
end Go.Proofs.YtblfhohoomkcmaaDoor
