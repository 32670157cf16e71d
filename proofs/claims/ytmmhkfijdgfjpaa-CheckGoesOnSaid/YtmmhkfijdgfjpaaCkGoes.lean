import Derived.Test.YtmmhkfijdgfjpaaCkSums
import Derived.Test.YtmmhkfijdgfjpaaApp
namespace Go.Proofs.Ytmmhkfijdgfjpaa
open Wd U Go.ChangeShapes Go.WideShapes Go.RowKit Go.Sort
set_option linter.unusedVariables false

theorem infoU64 : (Try.prog.info? 23).map (fun i => (i.zero, i.size, i.bytes)) = some (some (.int .u64 0), 1, 8) := by kernel_rfl

theorem goes_far (n m : Nat) (A E : Option Addr) (c d : Nat) (w : World) (hn : 100 < n ∨ n ≤ 100 ∧ 100 < m) : Calls Try.prog 5 #[.slice A n c, .slice E m d] w (TrueB w) := by
  rcases hn with hn | ⟨hn, hm⟩
  · have hd : decide ((100 : Int) < (n : Int)) = true := decide_eq_true (by omega)
    go_enter Try.func5, Try.ntmps5
    go_wp2_with fail
    refine (checkAwake_true _).mono ?_
    rintro e w2 ⟨rfl, hb⟩
    have HB := Lib.hid hb
    clear hb
    go_wp2
    go_ret
    exact ⟨rfl, HB.out⟩
  · have hd : decide ((100 : Int) < (n : Int)) = false := decide_eq_false (by omega)
    have hd2 : decide ((100 : Int) < (m : Int)) = true := decide_eq_true (by omega)
    go_enter Try.func5, Try.ntmps5
    go_wp2_with fail
    refine (checkAwake_true _).mono ?_
    rintro e w2 ⟨rfl, hb⟩
    have HB := Lib.hid hb
    clear hb
    go_wp2
    go_ret
    exact ⟨rfl, HB.out⟩

def GoesRel (l ms : List Nat) (W : World) (i s : Value) (w : World) : Prop := ∃ k : Nat, k ≤ ms.length ∧ i = .int .i64 k ∧ s = .int .u64 ((sum (l ++ ms.take k) : Nat) : Int) ∧ Below W.heap.size W w

theorem cSum_is (l : List Nat) (t n : Nat) (ht : t = sum l) (hL : l.length = n) (hl : Small l) (A : Option Addr) (c B : Nat) (w : World) (hn : n ≤ 1000) (hB : B ≤ w.heap.size) (hr : Row w B A n (l.map wd)) : Calls Try.prog 9 #[.slice A n c] w (Grows (.int .u64 (t : Int)) w) := by
  subst ht; exact cSum l n hL hl A c B w hn hB hr

set_option maxRecDepth 100000 in
set_option maxHeartbeats 2000000 in
theorem goes_any (l ms : List Nat) (n m : Nat) (hL : l.length = n) (hM : ms.length = m) (hl : Small l) (hms : Small ms) (hn : n ≤ 100) (hm : m ≤ 100) (A E : Option Addr) (c d : Nat) (w : World) (hr : Row w w.heap.size A n (l.map wd)) (he : Row w w.heap.size E m (ms.map wd)) :
    Calls Try.prog 5 #[.slice A n c, .slice E m d] w (TrueB w) := by
  have hd : decide ((100 : Int) < (n : Int)) = false := decide_eq_false (by omega)
  have hd2 : decide ((100 : Int) < (m : Int)) = false := decide_eq_false (by omega)
  subst hM
  have HL := Lib.hid hL; have HS := Lib.hid hl; have HMS := Lib.hid hms; have HR := Lib.hid hr; have HE := Lib.hid he
  clear hL hl hms hr he
  go_enter Try.func5, Try.ntmps5
  go_wp2_with fail
  refine (checkAwake_true _).mono ?_
  rintro e w1 ⟨rfl, hb⟩
  have HB := Lib.hid hb
  have HR1 := Lib.hid ((HR.out.below hb).more hb.size)
  have HE1 := Lib.hid ((HE.out.below hb).more hb.size)
  clear hb
  go_wp2_with fail
  refine (cSum l n HL.out HS.out A c w1.heap.size _ (by omega) (Nat.le_refl _) HR1.out).mono ?_
  rintro e w2 h
  obtain ⟨rfl, hb⟩ := h.below
  have HB2 := Lib.hid (HB.out.trans (hb.mono HB.out.size))
  have HR2 := Lib.hid ((HR1.out.below hb).more hb.size)
  have HE2 := Lib.hid ((HE1.out.below hb).more hb.size)
  clear hb h
  go_wp2
  go_loopw [22, 5] (fun i s wr => GoesRel l ms w2 i s wr) (fun i _ _ => ms.length - (intOf i).toNat)
  case atStart => exact ⟨0, Nat.zero_le _, rfl, by rw [List.take_zero, List.append_nil], Below.refl _ _⟩
  case round =>
    obtain ⟨k, hk, rfl, hs, hb⟩ := hrel
    obtain ⟨s, hs1⟩ : ∃ s, s = sum (l ++ ms.take k) := ⟨_, rfl⟩
    rw [← hs1] at hs
    have hs2 : s < 18446744073709551616 := by rw [hs1]; exact sum_lt _
    have HS1 := Lib.hid hs1; have HB3 := Lib.hid hb
    subst hs
    clear hs1
    by_cases hlt : k < ms.length
    · obtain ⟨b, off, y, rfl, _, hy, cy⟩ := (HE2.out.below hb).get hlt
      have hwy := HMS.out.at hy
      have ht := take_one hy
      have HT := Lib.hid ht
      unfold wd at cy
      clear ht hy hb
      go_wp2_with fail
      refine (cMore s y hs2 hwy _).mono ?_
      rintro e w4 h
      obtain ⟨rfl, hb⟩ := h.below
      have HB4 := Lib.hid (HB3.out.trans (hb.mono HB3.out.size))
      clear hb h
      go_wp2
      go_roundw
      case rel => exact ⟨k + 1, by omega, by go_num, by rw [HT.out, ← List.append_assoc, sum_snoc, ← HS1.out], HB4.out⟩
      case measure => simp [intOf]; omega
    · obtain rfl : k = ms.length := by omega
      have hst := HS1.out
      rw [List.take_length] at hst
      have HST := Lib.hid hst
      have HR3 := Lib.hid ((HR2.out.below hb).more hb.size)
      have HE3 := Lib.hid ((HE2.out.below hb).more hb.size)
      have HB5 := Lib.hid (HB2.out.trans (hb.mono HB2.out.size))
      clear hst hb hs2
      have hws : w.heap.size ≤ wr.heap.size := HB5.out.size
      go_wp2_with (first
        | (at_builtin; refine wpList_append_row _ rfl (.const (.slice none 0 0)) (.tmp 30) 22 rfl w.heap.size 23 (.int .u64 0) 8 Try.underlying22 infoU64 rfl (.slice none 0 0) 0 [] rfl (own_nil _ _ _) wr.heap.size A n c (l.map wd) rfl HR3.out (oneW l) (by unfold maxLen; omega) (by omega) (by omega) ?_; intro v3 w3 hown3 hgr3 hat3; have hb3 : Below wr.heap.size wr w3 := below_of_grown hgr3; have hs3 : w.heap.size ≤ w3.heap.size := Nat.le_trans hws hb3.size; have HO3 := Lib.hid hown3; have HE4 := Lib.hid ((HE3.out.below hb3).more hb3.size); clear hown3 hgr3 hat3)
        | (at_builtin; refine wpList_append_row _ rfl (.tmp 31) (.tmp 32) 22 rfl w.heap.size 23 (.int .u64 0) 8 Try.underlying22 infoU64 rfl v3 (0 + n) ([] ++ l.map wd) rfl HO3.out w3.heap.size E ms.length d (ms.map wd) rfl HE4.out (oneW ms) (by unfold maxLen; omega) (by omega) (by omega) ?_; intro v5 w5 hown5 hgr5 hat5; have hb5 : Below w.heap.size w w5 := (HB5.out.trans (hb3.mono hws)).grown hgr5 hs3 (own_base HO3.out); obtain ⟨A5, c5, rfl, hrow5⟩ := Row.of_own hown5; have HROW5 := Lib.hid hrow5; have HB6 := Lib.hid hb5; clear hown5 hgr5 hat5 hrow5 hb5))
      have hrow : Row w5 w5.heap.size A5 (n + ms.length) ((l ++ ms).map wd) := by
        have := HROW5.out
        rw [Nat.zero_add, List.nil_append, ← List.map_append] at this
        exact this
      have HROW := Lib.hid hrow
      clear hrow
      try rw [Nat.zero_add]
      refine (cSum_is (l ++ ms) s (n + ms.length) HST.out (by rw [List.length_append, HL.out]) (HS.out.append HMS.out) A5 c5 w5.heap.size _ (by omega) (Nat.le_refl _) HROW.out).mono ?_
      rintro e w6 h
      obtain ⟨rfl, hb⟩ := h.below
      have HB7 := Lib.hid (HB6.out.trans (hb.mono HB6.out.size))
      clear hb h
      go_wp2_with fail
      refine (cSum_is [] U.start 0 sum_nil rfl (by intro x h; cases h) none 0 w6.heap.size _ (by omega) (Nat.le_refl _) Row.nil).mono ?_
      rintro e w7 h
      obtain ⟨rfl, hb⟩ := h.below
      have HB8 := Lib.hid (HB7.out.trans (hb.mono HB7.out.size))
      clear hb h
      go_wp2_with fail
      refine (cStart _).mono ?_
      rintro e w8 h
      obtain ⟨rfl, hb⟩ := h.below
      have HB9 := Lib.hid (HB8.out.trans (hb.mono HB8.out.size))
      clear hb h
      go_wp2
      go_ret
      exact ⟨rfl, HB9.out⟩

theorem checkGoesOn_walk (l : List Int) (A : Option Addr) (c : Nat) {w : World} (hr : Row w w.heap.size A l.length (l.map (Value.int .u64))) (hok : ∀ y ∈ l, (Lit.int .u64 y).wf = true) (_ : l.length ≤ maxLen)
    (ms : List Int) (E : Option Addr) (d : Nat) (he : Row w w.heap.size E ms.length (ms.map (Value.int .u64))) (hok2 : ∀ y ∈ ms, (Lit.int .u64 y).wf = true) (_ : ms.length ≤ maxLen) (_ : World) :
    Calls Try.prog 5 #[.slice A l.length c, .slice E ms.length d] w (TrueB w) := by
  obtain ⟨k, hk, hks, hkr⟩ := row_words hr hok
  obtain ⟨j, hj, hjs, hjr⟩ := row_words he hok2
  by_cases h : l.length ≤ 100 ∧ ms.length ≤ 100
  · rw [hk] at hkr
    rw [hj] at hjr
    exact goes_any k j l.length ms.length hk hj hks hjs h.1 h.2 A E c d w hkr hjr
  · exact goes_far l.length ms.length A E c d w (by omega)
end Go.Proofs.Ytmmhkfijdgfjpaa
