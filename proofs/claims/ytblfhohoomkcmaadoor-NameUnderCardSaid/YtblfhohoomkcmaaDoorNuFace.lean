import Derived.Test.YtblfhohoomkcmaaDoorNuMath
/-
  The project's own Base and Under of layer 8.
-/
namespace Go.Proofs.YtblfhohoomkcmaaDoor
open Wd Go.ChangeShapes Go.WideShapes Go.RowKit Go.Sort
set_option linter.unusedVariables false

theorem keep_most (ps : List (List UInt8)) : (keepS ps).length ≤ (slashed (keepS ps)).length := by
  generalize keepS ps = q
  induction q with
  | nil => exact Nat.le_refl _
  | cons p q ih => rw [slashed_cons, List.length_cons, List.length_cons, List.length_append]; omega
theorem path_len (b : ByteArray) : (pathL b.toList).length ≤ 121 := by
  unfold pathL
  split
  · rename_i h
    have h1 := path_good h
    have h2 := keep_most (cutS (b.toList.drop 1) [])
    have h3 := h1.2.2
    unfold pathL at h3
    rw [if_pos h] at h3
    unfold pieces at h3 ⊢
    omega
  · simp
theorem path_bytes (b : ByteArray) : (slashed (pathL b.toList)).length ≤ 121 := by
  by_cases h : pathE b.toList = 0
  · have h1 := path_good h
    have := h1.2.2; have := h1.1; omega
  · unfold pathL; rw [if_neg h]; decide

def BaseD (a : List UInt8) (W : World) (e : Ending) (w : World) : Prop :=
  ∃ u v : ByteArray, e = .returned (.tuple #[.string u, .string v, .int .i64 (baseE a)]) ∧ (baseE a ≠ 0 → u = ByteArray.empty ∧ v = ByteArray.empty) ∧ (baseE a = 0 → u.toList = joinN (pathL a).dropLast ∧ some v.toList = (pathL a).getLast?) ∧ Below W.heap.size W w

set_option maxHeartbeats 4000000 in
theorem nBaseD (a : ByteArray) (ha : a.size ≤ 1000000) (w : World) (hM : MaxW w) : Calls Tryd.prog 9 #[.string a] w (BaseD a.toList w) := by
  have HM := Lib.hid hM
  clear hM
  have HLEN := Lib.hid (path_len a); have HBY := Lib.hid (path_bytes a)
  go_enter Tryd.func9, Tryd.ntmps9
  go_wp2_with fail
  refine (nSplitC a ha _ HM.out).mono ?_
  rintro e w1 ⟨A, c, bs, rfl, hl, hc, hr, hb⟩
  have HL := Lib.hid hl; have HR := Lib.hid hr; have HB := Lib.hid hb
  clear hl hr hb
  obtain ⟨m, hm⟩ : ∃ m, pathE a.toList = m := ⟨_, rfl⟩
  rw [hm]
  have HE := Lib.hid hm
  clear hm
  by_cases h0 : m = 0
  · subst h0
    by_cases hbs : bs = []
    · subst hbs
      have hbe : baseE a.toList = 22 := by
        unfold baseE
        rw [if_pos HE.out, if_pos (by rw [← HL.out]; rfl)]
      have HBE := Lib.hid hbe
      clear hbe
      go_wp2
      go_ret3
      exact ⟨_, _, by rw [HBE.out]; rfl, fun _ => ⟨rfl, rfl⟩, fun h => absurd (HBE.out.symm.trans h) (by decide), HB.out⟩
    · obtain ⟨n, hn⟩ : ∃ n, bs.length = n + 1 := ⟨bs.length - 1, by have := List.length_pos_iff.2 hbs; omega⟩
      have hbe : baseE a.toList = 0 := by
        unfold baseE
        rw [if_pos HE.out, if_neg (by intro h; rw [← HL.out] at h; exact hbs (List.map_eq_nil_iff.1 h))]
      have hlt : n < bs.length := by omega
      obtain ⟨b1, o1, v, hA, hb1, hv, cv⟩ := HR.out.get hlt
      have hrow : Row w1 w1.heap.size A (bs.take n).length ((bs.take n).map Value.string) := by
        have := Row.firsts HR.out (m := n) (by omega)
        rw [← List.map_take] at this
        rw [List.length_take, Nat.min_eq_left (by omega)]
        exact this
      have hln : (bs.take n).length = n := by rw [List.length_take]; omega
      have hdl : (bs.take n).map ByteArray.toList = (pathL a.toList).dropLast := by
        rw [List.map_take, HL.out, List.dropLast_eq_take, ← HL.out, List.length_map, hn]; rfl
      have hla : some v.toList = (pathL a.toList).getLast? := by
        rw [← HL.out, List.getLast?_eq_getElem?, List.length_map, hn, List.getElem?_map]
        show _ = Option.map ByteArray.toList bs[n]?
        rw [hv]; rfl
      have hn121 : n ≤ 121 := by have := HLEN.out; rw [← HL.out, List.length_map] at this; omega
      have hsl : (slashed ((bs.take n).map ByteArray.toList)).length ≤ 1000000 := by
        rw [hdl]
        have h1 := slashed_init (pathL a.toList)
        have := HBY.out
        omega
      rw [hln] at hrow
      have hJ : Calls Tryd.prog 16 #[.slice A n c] w1.drew (TextB (joinN (pathL a.toList).dropLast) w1.drew) := by
        have := nJoin (bs.take n) n hln A c w1.drew (by omega) (by omega) hsl hrow
        rwa [hdl] at this
      have HBE := Lib.hid hbe; have HLA := Lib.hid hla
      rw [hn] at hc ⊢
      subst hA
      clear hbe hlt hrow hln hdl hla hsl hn hbs hv
      go_wp2
      go_region_with (go_at_call 16; (with_reducible refine hJ.mono ?_); rintro e w3 ⟨u, rfl, hu, b3⟩; have b3' : Below w1.heap.size w1 w3 := undrew b3; have c3 : w3.cell? ⟨b1, o1 + n, none⟩ = some (Value.string v) := (b3'.cell (p := ⟨b1, o1 + n, none⟩) hb1).trans cv; have HB3 := Lib.hid b3'; have HU := Lib.hid hu; clear b3 b3' hu)
      all_goals
        go_wp2
        go_ret3
        exact ⟨_, _, by rw [HBE.out]; rfl, fun h => absurd HBE.out h, fun _ => ⟨HU.out, HLA.out⟩, HB.out.trans (HB3.out.mono HB.out.size)⟩
  · have hne : (m != 0) = true := by rw [bne_iff_ne]; exact h0
    have hbe : baseE a.toList = m := by unfold baseE; rw [if_neg (by rw [HE.out]; exact h0)]; exact HE.out
    have HBE := Lib.hid hbe; have H0 := Lib.hid h0
    clear hbe h0
    go_wp2
    go_ret3
    exact ⟨_, _, by rw [HBE.out]; rfl, fun _ => ⟨rfl, rfl⟩, fun h => absurd (HBE.out.symm.trans h) H0.out, HB.out⟩

theorem nBase (a : ByteArray) (ha : a.size ≤ 1000000) (w : World) (hM : MaxW w) : Calls Tryd.prog 9 #[.string a] w (BaseR a.toList w) := by
  refine (nBaseD a ha w hM).mono ?_
  rintro e w' ⟨u, v, rfl, _, h, hb⟩
  exact ⟨u, v, rfl, fun h0 => (h h0).1, hb⟩

theorem pre_take (l2 l3 : List ByteArray) {p q : List (List UInt8)} (h2 : l2.map ByteArray.toList = q) (h3 : l3.map ByteArray.toList = p) : l2.take l3.length = l3 ↔ p <+: q := by
  rw [List.prefix_iff_eq_take, ← h2, ← h3, List.length_map, ← List.map_take]
  constructor
  · intro h; rw [h]
  · intro h; exact ((List.map_inj_right (fun a b h => tolist_inj h)).1 h).symm
theorem getD_cells {w : World} {B : Nat} {b o n : Nat} {l : List ByteArray} (h : Row w B (some ⟨b, o, none⟩) n (l.map Value.string)) : ∀ j, j < l.length → w.cell? ⟨b, o + j, none⟩ = some (.string (l.getD j ByteArray.empty)) := by
  intro j hj
  have hn : j < n := by have := h.1; rw [List.length_map] at this; omega
  obtain ⟨b1, o1, x, e1, _, hx, cx⟩ := h.get hn
  injection e1 with e1
  injection e1 with e2 e3 _
  subst e2; subst e3
  rw [cx, List.getD_eq_getElem?_getD, hx]; rfl

set_option maxHeartbeats 4000000 in
theorem nUnder (a b : ByteArray) (ha : a.size ≤ 1000000) (hb : b.size ≤ 1000000) (w : World) (hM : MaxW w) : Calls Tryd.prog 13 #[.string a, .string b] w (Ends (.bool (underB a.toList b.toList)) w) := by
  obtain ⟨z, hz⟩ : ∃ z, underB a.toList b.toList = z := ⟨_, rfl⟩
  rw [hz]
  have HM := Lib.hid hM; have HZ := Lib.hid hz
  clear hM hz
  have HLA := Lib.hid (path_len a); have HLB := Lib.hid (path_len b)
  go_enter Tryd.func13, Tryd.ntmps13
  go_wp2_with fail
  refine (nSplitC a ha _ HM.out).mono ?_
  rintro e w1 ⟨A1, c1, l1, rfl, hl1, hc1, hr1, hb1⟩
  have HL1 := Lib.hid hl1; have HR1 := Lib.hid hr1; have HB1 := Lib.hid hb1
  clear hl1 hr1 hb1
  obtain ⟨m, hm⟩ : ∃ m, pathE a.toList = m := ⟨_, rfl⟩
  rw [hm]
  have HE1 := Lib.hid hm
  clear hm
  go_wp2_with fail
  refine (nSplitC b hb _ (HM.out.on HB1.out)).mono ?_
  rintro e w2 ⟨A2, c2, l2, rfl, hl2, hc2, hr2, hb2⟩
  have HL2 := Lib.hid hl2; have HR2 := Lib.hid hr2; have HR12 := Lib.hid ((HR1.out.below hb2).more hb2.size); have HB2 := Lib.hid (HB1.out.trans (hb2.mono HB1.out.size))
  clear hl2 hr2 hb2
  obtain ⟨m2, hm2⟩ : ∃ m, pathE b.toList = m := ⟨_, rfl⟩
  rw [hm2]
  have HE2 := Lib.hid hm2
  clear hm2
  by_cases h0 : m = 0
  · subst h0
    by_cases h02 : m2 = 0
    · subst h02
      by_cases hle : l1.length ≤ l2.length
      · have hzf : z = false := by
          rw [← HZ.out, Bool.eq_false_iff, Ne, under_iff]
          intro h
          have := h.2.2.2
          rw [← HL1.out, ← HL2.out, List.length_map, List.length_map] at this
          omega
        subst hzf
        have hd : decide ((l1.length : Int) ≤ (l2.length : Int)) = true := decide_eq_true (by omega)
        go_wp2
        go_ret
        exact ⟨rfl, HB2.out⟩
      · have hd : decide ((l1.length : Int) ≤ (l2.length : Int)) = false := decide_eq_false (by omega)
        have hzt : z = decide (l1.take l2.length = l2) := by
          rw [← HZ.out]
          by_cases hp : l1.take l2.length = l2
          · rw [decide_eq_true hp, under_iff]
            refine ⟨HE1.out, HE2.out, (pre_take l1 l2 HL1.out HL2.out).1 hp, ?_⟩
            rw [← HL1.out, ← HL2.out, List.length_map, List.length_map]
            omega
          · rw [decide_eq_false hp, Bool.eq_false_iff, Ne, under_iff]
            exact fun h => hp ((pre_take l1 l2 HL1.out HL2.out).2 h.2.2.1)
        have HZT := Lib.hid hzt
        have hn1 : l1.length ≤ 200 := by have := HLA.out; rw [← HL1.out, List.length_map] at this; omega
        clear hzt
        by_cases h20 : l2 = []
        · subst h20
          have hd0 : decide ((l1.length : Int) ≤ 0) = false := decide_eq_false (by have : ¬ l1.length ≤ 0 := hle; omega)
          have hd1 : ¬ l1.length ≤ 0 := hle
          have hd2 : l1 ≠ [] := by rintro rfl; exact hle (Nat.zero_le _)
          clear hd
          go_wp2_with fail
          refine (Tryd.slices_Equal_string_empty _ _ _ 0 _ _ (by omega)).mono ?_
          rintro e w3 ⟨rfl, rfl⟩
          go_wp2
          go_ret
          exact ⟨by rw [HZT.out]; rfl, HB2.out⟩
        · have hp2 : 0 < l2.length := List.length_pos_iff.2 h20
          obtain ⟨b1, o1, _, hA1, _, _, _⟩ := HR12.out.get (k := 0) (by omega)
          obtain ⟨b2, o2, _, hA2, _, _, _⟩ := HR2.out.get (k := 0) hp2
          subst hA1; subst hA2
          have hE := Tryd.slices_Equal_string b1 o1 l2.length c1 b2 o2 l2.length c2 l1 l2 w2 (by omega) (Nat.le_refl _) (by omega) (by omega) (getD_cells HR12.out) (getD_cells HR2.out)
          rw [List.take_length, ← HZT.out] at hE
          have HEQ := Lib.hid hE
          clear hE h20
          go_wp2_with fail
          refine HEQ.out.mono ?_
          rintro e w3 ⟨rfl, q, rfl⟩
          go_wp2
          go_ret
          exact ⟨rfl, below_drewN HB2.out q⟩
    · have hne : (m2 != 0) = true := by rw [bne_iff_ne]; exact h02
      have hzf : z = false := by
        rw [← HZ.out, Bool.eq_false_iff, Ne, under_iff]
        exact fun h => h02 (HE2.out.symm.trans h.2.1)
      subst hzf
      clear h02
      go_wp2
      go_ret
      exact ⟨rfl, HB2.out⟩
  · have hne : (m != 0) = true := by rw [bne_iff_ne]; exact h0
    have hzf : z = false := by
      rw [← HZ.out, Bool.eq_false_iff, Ne, under_iff]
      exact fun h => h0 (HE1.out.symm.trans h.1)
    subst hzf
    clear h0
    go_wp2
    go_ret
    exact ⟨rfl, HB2.out⟩
end Go.Proofs.YtblfhohoomkcmaaDoor
