import Derived.Test.YtmmhkfijdgfjpaaCkLaw
import Derived.Test.YtmmhkfijdgfjpaaLawCap
import Derived.Deep.DeepCutAuto
namespace Go.Proofs.Ytmmhkfijdgfjpaa
open Wd U Go.ChangeShapes Go.WideShapes Go.RowKit Go.Sort
set_option linter.unusedVariables false

/-- whether words are sealed -/
def isS (l : List Nat) : Bool := decide (0 < l.length) && decide (l[l.length - 1]? = some (sum (l.take (l.length - 1))))
def Opened (l : List Nat) (n : Nat) (b : Bool) (W : World) (e : Ending) (w : World) : Prop :=
  ∃ (A : Option Addr) (c k : Nat), e = .returned (.tuple #[.slice A k c, .bool b]) ∧ k = (if b then n - 1 else 0) ∧ (b = true → Row w w.heap.size A (n - 1) ((l.take (n - 1)).map wd)) ∧ Below W.heap.size W w
theorem opens_any (l : List Nat) (n : Nat) (hL : l.length = n) (hl : Small l) (b : Bool) (hb : isS l = b) (A : Option Addr) (c : Nat) (hc : n ≤ c) (w : World) (hn : n ≤ 1000) (hr : Row w w.heap.size A n (l.map wd)) : Calls Try.prog 7 #[.slice A n c] w (Opened l n b w) := by
  subst hb
  by_cases h0 : 0 < n
  · by_cases h1 : l[n - 1]? = some (sum (l.take (n - 1)))
    · have hb : isS l = true := by unfold isS; rw [hL, h1]; simp [h0]
      have e : l = l.take (n - 1) ++ [sum (l.take (n - 1))] := by
        have h := take_one h1
        rw [List.take_of_length_le (by omega)] at h
        exact h
      have hr' := hr
      rw [e] at hr'
      rw [hb]
      refine (cOpen_yes (l.take (n - 1)) n (by rw [List.length_take]; omega) (hl.take _) A c w.heap.size hc w hn (Nat.le_refl _) hr').mono ?_
      rintro e w' ⟨A', c', rfl, hrow, hbl⟩
      have hlen : (l.take (n - 1)).length = n - 1 := by rw [List.length_take]; omega
      rw [hlen] at hrow ⊢
      exact ⟨A', c', n - 1, rfl, rfl, fun _ => hrow, hbl⟩
    · have hb : isS l = false := by unfold isS; rw [hL]; simp [h1]
      rw [hb]
      refine (opens_none l n hL hl h0 h1 A c w.heap.size hc w hn (Nat.le_refl _) hr).mono ?_
      rintro e w' ⟨A', c', rfl, hbl⟩
      exact ⟨A', c', 0, rfl, rfl, (fun h => by cases h), hbl⟩
  · have hb : isS l = false := by unfold isS; rw [hL]; simp [h0]
    rw [hb]
    obtain rfl : n = 0 := by omega
    refine (cOpen_none A c w).mono ?_
    rintro e w' ⟨A', c', rfl, hbl⟩
    exact ⟨A', c', 0, rfl, rfl, (fun h => by cases h), hbl⟩

theorem checkSums_far (n : Nat) (A : Option Addr) (c : Nat) (s x : Int) (w : World) (hn : 100 < n) : Calls Try.prog 3 #[.slice A n c, .int .u64 s, .int .u64 x] w (TrueB w) := by
  have hd : decide ((100 : Int) < (n : Int)) = true := decide_eq_true (by omega)
  go_enter Try.func3, Try.ntmps3
  go_wp2_with fail
  refine (checkAwake_true _).mono ?_
  rintro e w2 ⟨rfl, hb⟩
  have HB := Lib.hid hb
  clear hb
  go_wp2
  go_ret
  exact ⟨rfl, HB.out⟩

theorem sum64_is (l : List Nat) (t n : Nat) (ht : t = sum l) (hL : l.length = n) (hl : Small l) (A : Option Addr) (c B : Nat) (w : World) (hn : n ≤ 1000) (hr : Row w B A n (l.map wd)) :
    Calls Try.prog 8 #[.slice A n c] w fun e w' => e = .returned (.int .u64 (t : Int)) ∧ w = w' := by
  subst ht; exact refSum64_any l n hL hl A c B w hn hr

def Drawn (w w' : World) : Prop := ∃ k, w' = w.drewN k

set_option maxRecDepth 100000 in
set_option maxHeartbeats 2000000 in
theorem checkSums_any (l : List Nat) (n : Nat) (hL : l.length = n) (hl : Small l) (hn : n ≤ 100) (A : Option Addr) (c : Nat) (hc : n ≤ c) (hcm : c ≤ maxLen) (s x : Nat) (hs : s < 18446744073709551616) (hx : x < 18446744073709551616) (w : World) (hr : Row w w.heap.size A n (l.map wd)) :
    Calls Try.prog 3 #[.slice A n c, .int .u64 (s : Int), .int .u64 (x : Int)] w (TrueB w) := by
  have hd : decide ((100 : Int) < (n : Int)) = false := decide_eq_false (by omega)
  unfold maxLen at hcm
  obtain ⟨b, hb0⟩ : ∃ b, isS l = b := ⟨_, rfl⟩
  have HL := Lib.hid hL; have HS := Lib.hid hl; have HR := Lib.hid hr; have HB0 := Lib.hid hb0
  clear hL hl hr hb0
  go_enter Try.func3, Try.ntmps3
  go_wp2_with fail
  refine (checkAwake_true _).mono ?_
  rintro e w1 ⟨rfl, hb⟩
  have HB := Lib.hid hb
  have HR1 := Lib.hid ((HR.out.below hb).more hb.size)
  clear hb
  go_wp2_with fail
  refine (opens_any l n HL.out HS.out b HB0.out A c hc _ (by omega) HR1.out).mono ?_
  rintro e w2 ⟨A2, c2, k, rfl, hk, hrow, hb⟩
  have HB2 := Lib.hid (HB.out.trans (hb.mono HB.out.size))
  have HR2 := Lib.hid ((HR1.out.below hb).more hb.size)
  have HK := Lib.hid hk; have HROW := Lib.hid hrow
  clear hb hk hrow
  go_upto_region 7 with fail
  go_cut [10] from 23 to 37 (fun r wx => r = .bool b ∧ Drawn w2 wx)
  case first =>
    by_cases h0 : 0 < n
    · have hp : decide ((0 : Int) < (n : Int)) = true := decide_eq_true (by omega)
      have e1 : IntKind.i64.wrap ((n : Int) - 1) = (n : Int) - 1 := IntWalk.i64_in _ (by omega)
      have e2 : ((n : Int) - 1).toNat = n - 1 := by omega
      have e3 : (0 : Int) ≤ (n : Int) - 1 := by omega
      have e4 : (n : Int) - 1 < (n : Int) := by omega
      have e5 : (n : Int) - 1 ≤ (c : Int) := by omega
      have e6 : (1 : Int) ≤ (n : Int) := by omega
      obtain ⟨b1, o1, v, rfl, _, hv, cv⟩ := HR2.out.get (k := n - 1) (by omega)
      have hrt : Row w2 w2.heap.size (some ⟨b1, o1, none⟩) (n - 1) ((l.take (n - 1)).map wd) := by
        rw [List.map_take]; exact row_take HR2.out (by omega)
      obtain ⟨t, ht⟩ : ∃ t, t = sum (l.take (n - 1)) := ⟨_, rfl⟩
      have hdec : ((t : Int) == (v : Int)) = b := by
        rw [← HB0.out]
        unfold isS
        rw [HL.out, hv, ht, Bool.eq_iff_iff]
        simp [h0]
        omega
      have HRT := Lib.hid hrt; have HT := Lib.hid ht; have HDEC := Lib.hid hdec
      unfold wd at cv
      clear hv hrt ht hdec
      go_wp2
      go_quiet ((go_at_call 8; exact quiet_eq (sum64_is (l.take (n - 1)) t (n - 1) HT.out (by rw [List.length_take]; have := HL.out; omega) (HS.out.take _) _ _ w2.heap.size _ (by omega) (HRT.out.drewN _))))
      have hdec := HDEC.out
      go_wp2_with fail
      go_meet
      exact ⟨by rw [HDEC.out], _, rfl⟩
    · have hp : decide ((0 : Int) < (n : Int)) = false := decide_eq_false (by omega)
      have hb : b = false := by rw [← HB0.out]; unfold isS; rw [HL.out]; simp [h0]
      subst hb
      obtain rfl : n = 0 := by omega
      clear h0 hp
      go_wp2
      go_quiet (fail)
      go_wp2_with fail
      go_meet
      exact ⟨rfl, _, rfl⟩
  case rest =>
  obtain ⟨rfl, d1, rfl⟩ := hcut
  have hxr := bits_xor_u64_nat s x hs hx
  have HXR := Lib.hid hxr
  have HMORE := Lib.hid (more_wrap s x)
  clear hxr
  go_wp2_with fail
  refine (cSum l n HL.out HS.out A c w2.heap.size (w2.drewN d1) (by omega) (Nat.le_refl _) (HR2.out.drewN _)).mono ?_
  rintro e w3 h
  obtain ⟨rfl, hb⟩ := h.below
  have HB3 := Lib.hid ((below_drewN HB2.out d1).trans (hb.mono HB2.out.size))
  have HR3 := Lib.hid ((HR2.out.below (undrewN hb)).more hb.size)
  have HROW3 := Lib.hid (fun h : b = true => ((HROW.out h).below (undrewN hb)).more hb.size)
  clear hb h
  go_wp2_with fail
  refine (refSum64_any l n HL.out HS.out A c w3.heap.size _ (by omega) HR3.out).mono ?_
  rintro e w4 ⟨rfl, rfl⟩
  go_wp2_with fail
  refine (cMore s x hs hx _).mono ?_
  rintro e w4 h
  obtain ⟨rfl, hb⟩ := h.below
  have HB4 := Lib.hid (HB3.out.trans (hb.mono HB3.out.size))
  have HR4 := Lib.hid ((HR3.out.below hb).more hb.size)
  have HROW4 := Lib.hid (fun h : b = true => ((HROW3.out h).below hb).more hb.size)
  have hxr := HXR.out
  have hmm := HMORE.out
  clear hb h
  go_wp2_with fail
  refine (cStart _).mono ?_
  rintro e w5 h
  obtain ⟨rfl, hb⟩ := h.below
  have HB5 := Lib.hid (HB4.out.trans (hb.mono HB4.out.size))
  have HR5 := Lib.hid ((HR4.out.below hb).more hb.size)
  have HROW5 := Lib.hid (fun h : b = true => ((HROW4.out h).below hb).more hb.size)
  clear hb h hxr hmm
  go_wp2_with fail
  refine (sum64_is [] U.start 0 sum_nil rfl (by intro x h; cases h) none 0 w5.heap.size _ (by omega) Row.nil).mono ?_
  rintro e w6 ⟨rfl, rfl⟩
  have hb0 : b = false ∨ b = true := by cases b <;> simp
  rcases hb0 with hb0 | hb0
  · subst hb0
    obtain rfl : k = 0 := HK.out
    go_wp2
    go_ret
    exact ⟨rfl, HB5.out⟩
  · have HROW6 := Lib.hid (HROW5.out hb0)
    subst hb0
    obtain rfl : k = n - 1 := HK.out
    have h0 : 0 < n := by
      have := HB0.out
      unfold isS at this
      rw [HL.out] at this
      simp only [Bool.and_eq_true, decide_eq_true_eq] at this
      exact this.1
    have e1 : IntKind.i64.wrap ((n : Int) - 1) = (n : Int) - 1 := IntWalk.i64_in _ (by omega)
    have e2 : ((n : Int) - 1).toNat = n - 1 := by omega
    have e3 : (0 : Int) ≤ (n : Int) - 1 := by omega
    have e5 : (n : Int) - 1 ≤ (c : Int) := by omega
    have e6 : (1 : Int) ≤ (n : Int) := by omega
    obtain ⟨b1, o1, v, rfl, _, hv, cv⟩ := HR5.out.get (k := n - 1) (by omega)
    have hrt : Row w5 w5.heap.size (some ⟨b1, o1, none⟩) (n - 1) ((l.take (n - 1)).map wd) := by
      rw [List.map_take]; exact row_take HR5.out (by omega)
    have HRT := Lib.hid hrt
    clear hv cv hrt
    go_wp2_with fail
    refine (sameWords_eq (l.take (n - 1)) (n - 1) (by rw [List.length_take]; have := HL.out; omega) (by omega) _ _ _ _ w5.heap.size _ HROW6.out HRT.out).mono ?_
    rintro e w6 ⟨rfl, hgr⟩
    have hb6 : Below w5.heap.size w5 w6 := by obtain ⟨q, os, rfl⟩ := hgr; exact below_grow' _ _ _
    have HB6 := Lib.hid (HB5.out.trans (hb6.mono HB5.out.size))
    clear hgr hb6
    go_wp2
    go_ret
    exact ⟨rfl, HB6.out⟩

theorem checkSums_walk (l : List Int) (A : Option Addr) (c : Nat) {w : World} (hr : Row w w.heap.size A l.length (l.map (Value.int .u64))) (hok : ∀ y ∈ l, (Lit.int .u64 y).wf = true) (_ : l.length ≤ maxLen) (hc : l.length ≤ c) (hcm : c ≤ maxLen) (s : Int) (hs : (Lit.int .u64 s).wf = true) (x : Int) (hx : (Lit.int .u64 x).wf = true) (_ : World) :
    Calls Try.prog 3 #[.slice A l.length c, .int .u64 s, .int .u64 x] w (TrueB w) := by
  obtain ⟨m, hm, hsm, hrow⟩ := row_words hr hok
  have hb : IntKind.u64.min ≤ x ∧ x ≤ IntKind.u64.max := by simpa [Lit.wf] using hx
  have hb' : IntKind.u64.min ≤ s ∧ s ≤ IntKind.u64.max := by simpa [Lit.wf] using hs
  have m1 : IntKind.u64.min = 0 := by decide
  have m2 : IntKind.u64.max = 18446744073709551615 := by decide
  obtain ⟨k, rfl⟩ : ∃ k : Nat, x = (k : Int) := ⟨x.toNat, by omega⟩
  obtain ⟨j, rfl⟩ : ∃ j : Nat, s = (j : Int) := ⟨s.toNat, by omega⟩
  by_cases h1 : l.length ≤ 100
  · rw [hm] at hrow
    exact checkSums_any m l.length hm hsm h1 A c hc hcm j k (by omega) (by omega) w hrow
  · exact checkSums_far l.length A c _ _ w (by omega)
end Go.Proofs.Ytmmhkfijdgfjpaa
