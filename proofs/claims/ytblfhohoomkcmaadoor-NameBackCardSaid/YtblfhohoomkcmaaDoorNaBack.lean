import Derived.Test.YtblfhohoomkcmaaDoorNaFace
import Derived.Test.YtblfhohoomkcmaaDoorLawCap
namespace Go.Proofs.YtblfhohoomkcmaaDoor
open Wd Go.ChangeShapes Go.WideShapes Go.RowKit Go.Sort
set_option linter.unusedVariables false

theorem slashed_bound {ls : List (List UInt8)} {m : Nat} (h : ∀ p ∈ ls, p.length ≤ m) : (slashed ls).length ≤ ls.length * (m + 1) := by
  induction ls with
  | nil => show 0 ≤ _; omega
  | cons p ls ih =>
    rw [slashed_cons, List.length_cons, List.length_append, List.length_cons, Nat.add_mul]
    have h1 := ih (fun q hq => h q (by simp [hq]))
    have h2 := h p (by simp)
    omega

def CheckRel (ls : List ByteArray) (W : World) (i : Value) (w : World) : Prop := ∃ k : Nat, k ≤ ls.length ∧ i = .int .i64 k ∧ (∀ b ∈ ls.take k, b.size ≤ 30 ∧ nameN b.toList = 0) ∧ Below W.heap.size W w

theorem nameBack_far (n : Nat) (A : Option Addr) (c : Nat) (w : World) (hM : MaxW w) (hn : 20 < n) : Calls Tryd.prog 4 #[.slice A n c] w (TrueB w) := by
  have hd : decide ((20 : Int) < (n : Int)) = true := decide_eq_true (by omega)
  have HMX := Lib.hid hM
  clear hM
  go_enter Tryd.func4, Tryd.ntmps4
  go_wp2_with fail
  refine (nameAwake_true _ HMX.out).mono ?_
  rintro e w2 ⟨rfl, hb⟩
  have HB := Lib.hid hb
  clear hb
  go_wp2
  go_ret
  exact ⟨rfl, HB.out⟩

set_option maxHeartbeats 2000000 in
theorem nameBack_any (ls : List ByteArray) (hn : ls.length ≤ 20) (A : Option Addr) (c : Nat) (w : World) (hM : MaxW w) (hc : ls.length ≤ c) (hr : Row w w.heap.size A ls.length (ls.map Value.string)) :
    Calls Tryd.prog 4 #[.slice A ls.length c] w (TrueB w) := by
  have hd : decide ((20 : Int) < (ls.length : Int)) = false := decide_eq_false (by omega)
  have HR := Lib.hid hr; have HMX := Lib.hid hM; have HCC := Lib.hid hc
  clear hr hM hc
  go_enter Tryd.func4, Tryd.ntmps4
  go_wp2_with fail
  refine (nameAwake_true _ HMX.out).mono ?_
  rintro e w1 ⟨rfl, hb⟩
  have HB1 := Lib.hid hb
  have HR1 := Lib.hid ((HR.out.below hb).more hb.size)
  clear hb
  go_wp2
  go_loopw [15] (fun i wr => CheckRel ls w1 i wr) (fun i _ => ls.length - (intOf i).toNat)
  case atStart => exact ⟨0, Nat.zero_le _, rfl, by simp, Below.refl _ _⟩
  case round =>
    obtain ⟨k, hk, rfl, hg, hb⟩ := hrel
    have HG := Lib.hid hg; have HB2 := Lib.hid (HB1.out.trans (hb.mono HB1.out.size)); have HBL := Lib.hid hb
    clear hg
    by_cases hlt : k < ls.length
    · obtain ⟨b1, o1, s, rfl, _, hs, cs⟩ := (HR1.out.below hb).get hlt
      have ht := take_one' hs
      have HT := Lib.hid ht
      clear ht hs hb
      by_cases h30 : 30 < s.size
      · have hd2 : decide ((30 : Int) < (s.size : Int)) = true := decide_eq_true (by omega)
        go_wp2
        go_ret
        exact ⟨rfl, HB2.out⟩
      · have hd2 : decide ((30 : Int) < (s.size : Int)) = false := decide_eq_false (by omega)
        obtain ⟨m, hm⟩ : ∃ m, nameN s.toList = m := ⟨_, rfl⟩
        have HM := Lib.hid hm
        clear hm
        go_wp2_with fail
        refine (nCheck s (by omega) _).mono ?_
        rintro e w3 h
        obtain ⟨rfl, hb3⟩ := h.below
        rw [HM.out]
        have HB3 := Lib.hid (HB2.out.trans (hb3.mono HB2.out.size))
        have HBL3 := Lib.hid (HBL.out.trans (hb3.mono HBL.out.size))
        clear hb3 h
        by_cases hm0 : m = 0
        · subst hm0
          go_wp2
          go_roundw
          case rel =>
            refine ⟨k + 1, by omega, by go_num, ?_, HBL3.out⟩
            rw [HT.out]
            intro b hb
            rcases List.mem_append.1 hb with h | h
            · exact HG.out b h
            · rw [List.mem_singleton.1 h]; exact ⟨by omega, HM.out⟩
          case measure => simp [intOf]; omega
        · have hne : (m != 0) = true := by rw [bne_iff_ne]; exact hm0
          clear hm0
          go_wp2
          go_ret
          exact ⟨rfl, HB3.out⟩
    · obtain rfl : k = ls.length := by omega
      have hg := HG.out
      rw [List.take_length] at hg
      have hgood : ∀ p ∈ ls.map ByteArray.toList, nameN p = 0 := by
        intro p hp
        obtain ⟨b, hb, rfl⟩ := List.mem_map.1 hp
        exact (hg b hb).2
      have hbound : (slashed (ls.map ByteArray.toList)).length ≤ 1000000 := by
        have := slashed_bound (ls := ls.map ByteArray.toList) (m := 30) (fun p hp => by
          obtain ⟨b, hb, rfl⟩ := List.mem_map.1 hp
          rw [size_list]; exact (hg b hb).1)
        rw [List.length_map] at this
        omega
      have HGOOD := Lib.hid hgood; have HBD := Lib.hid hbound
      have HR2 := Lib.hid ((HR1.out.below hb).more hb.size)
      clear hg hgood hbound hb
      go_wp2_with fail
      refine (nJoin ls ls.length rfl A c _ (by omega) HCC.out HBD.out HR2.out).mono ?_
      rintro e w3 ⟨b, rfl, hbj, hb3⟩
      have HB3 := Lib.hid (HB2.out.trans (hb3.mono HB2.out.size))
      have HR3 := Lib.hid ((HR2.out.below hb3).more hb3.size)
      have HBJ := Lib.hid hbj
      have hbs : b.size ≤ 1000000 := by
        rw [← size_list, hbj]
        unfold joinN
        split
        · simp
        · exact HBD.out
      clear hb3 hbj
      go_wp2_with fail
      refine (nSplit b hbs _ (HMX.out.on HB3.out)).mono ?_
      rintro e w4 ⟨A4, c4, bs, rfl, hbl, hr4, hb4⟩
      have HB4 := Lib.hid (HB3.out.trans (hb4.mono HB3.out.size))
      have HR4 := Lib.hid ((HR3.out.below hb4).more hb4.size)
      have HX4 := Lib.hid hr4
      obtain ⟨p1, p2⟩ := path_join HGOOD.out
      rw [← HBJ.out, size_list] at p1 p2
      rw [p2] at hbl
      have HBLS := Lib.hid hbl
      clear hb4 hr4 hbl p2
      by_cases h120 : 120 < b.size
      · have hd3 : decide ((120 : Int) < (b.size : Int)) = true := decide_eq_true (by omega)
        rw [if_pos h120] at p1
        have hbs0 : bs = [] := by
          have := HBLS.out
          rw [if_pos h120] at this
          exact List.map_eq_nil_iff.1 this
        subst hbs0
        rw [p1]
        clear p1
        go_wp2
        go_ret
        exact ⟨rfl, HB4.out⟩
      · have hd3 : decide ((120 : Int) < (b.size : Int)) = false := decide_eq_false (by omega)
        rw [if_neg h120] at p1
        have hbseq : bs = ls := by
          have := HBLS.out
          rw [if_neg h120] at this
          exact (List.map_inj_right (fun a b h => tolist_inj h)).1 this
        subst hbseq
        rw [p1]
        clear p1
        go_wp2_with fail
        refine (sameTexts_any bs bs bs.length bs.length rfl rfl (by omega) _ _ _ _ w4.heap.size _ HX4.out HR4.out).mono ?_
        rintro e w5 h
        rw [show decide (bs = bs) = true from decide_eq_true rfl] at h
        obtain ⟨rfl, hb5⟩ := h.below
        have HB5 := Lib.hid (HB4.out.trans (hb5.mono HB4.out.size))
        clear hb5 h
        by_cases hz : 0 < bs.length
        · have hp : decide ((0 : Int) < (bs.length : Int)) = true := decide_eq_true (by omega)
          go_wp2
          go_ret
          exact ⟨rfl, HB5.out⟩
        · have hnil : bs = [] := List.eq_nil_of_length_eq_zero (by omega)
          have hb47 : (b.toList == [47]) = true := by
            rw [HBJ.out, hnil]; rfl
          subst hnil
          clear hz
          go_wp2
          go_ret
          exact ⟨rfl, HB5.out⟩

theorem nameBack_walk (ls : List ByteArray) (A : Option Addr) (c : Nat) {w : World} (hM : MaxW w) (hr : Row w w.heap.size A ls.length (ls.map Value.string)) (_ : ∀ y ∈ ls, y.size ≤ maxLen) (_ : ls.length ≤ maxLen) (hc : ls.length ≤ c) :
    Calls Tryd.prog 4 #[.slice A ls.length c] w (TrueB w) := by
  by_cases h : ls.length ≤ 20
  · exact nameBack_any ls h A c w hM hc hr
  · exact nameBack_far ls.length A c w hM (by omega)
end Go.Proofs.YtblfhohoomkcmaaDoor
