import Derived.Test.YtanjikflljdjcaaDoorCcAw
/-
  The law CallWords.
-/
namespace Go.Proofs.YtanjikflljdjcaaDoor
open Wd U Go.RowKit Go.ChangeShapes Go.WideShapes Go.Sort
set_option linter.unusedVariables false
set_option maxRecDepth 100000
theorem kindFrom_is (s : ByteArray) (k : Nat) : (kindFrom s k = 0) ∨ ∃ j : Nat, k ≤ j ∧ j < 18 ∧ kindFrom s k = j ∧ ((wordS j).toList == s.toList) = true := by
  by_cases hk : k < 18
  · cases h : ((wordS k).toList == s.toList)
    · rw [kindFrom_no hk h]
      rcases kindFrom_is s (k + 1) with h' | ⟨j, h1, h2, h3, h4⟩
      · exact .inl h'
      · exact .inr ⟨j, by omega, h2, h3, h4⟩
    · exact .inr ⟨k, Nat.le_refl _, hk, kindFrom_yes hk h, h⟩
  · exact .inl (kindFrom_end hk)
termination_by 18 - k
theorem kindS_is (s : ByteArray) : kindS s = 0 ∨ ∃ j : Nat, 0 < j ∧ j < 18 ∧ kindS s = j ∧ ((wordS j).toList == s.toList) = true := by
  rcases kindFrom_is s 0 with h | ⟨j, _, h2, h3, h4⟩
  · exact .inl h
  · by_cases h0 : j = 0
    · subst h0; exact .inl h3
    · exact .inr ⟨j, by omega, h2, h3, h4⟩
theorem kindFrom_word {n k : Nat} (hn : n < 18) (hk : k ≤ n) : kindFrom (wordS n) k = n := by
  by_cases h : k = n
  · subst h; exact kindFrom_yes hn (by simp)
  · rw [kindFrom_no (by omega) (by rw [wordS_eq (by omega) hn]; exact decide_eq_false h)]
    exact kindFrom_word hn (by omega)
termination_by n - k
theorem kindS_word {a : Int} (h : 1 ≤ a ∧ a ≤ 17) : kindS (wordS a) = a := by
  obtain ⟨n, rfl⟩ := Int.eq_ofNat_of_zero_le (by omega : 0 ≤ a)
  exact kindFrom_word (by omega) (Nat.zero_le _)
theorem words_eq {a b : Int} (h : 1 ≤ a ∧ a ≤ 17) : ((wordS a).toList == (wordS b).toList) = (a == b) := by
  obtain ⟨n, rfl⟩ := Int.eq_ofNat_of_zero_le (by omega : 0 ≤ a)
  by_cases hb : 1 ≤ b ∧ b ≤ 17
  · obtain ⟨m, rfl⟩ := Int.eq_ofNat_of_zero_le (by omega : 0 ≤ b)
    rw [wordS_eq (by omega) (by omega)]
    by_cases e : n = m
    · subst e; simp
    · rw [decide_eq_false e]; symm; simp; omega
  · have e1 : (wordS b).toList.isEmpty = true := by
      rw [wordS_empty]
      by_cases h1 : b < 1
      · rw [decide_eq_true h1]; rfl
      · rw [decide_eq_true (by omega : 17 < b), Bool.or_true]
    have e2 : (wordS n).toList.isEmpty = false := by rw [wordS_empty, decide_eq_false (by omega), decide_eq_false (by omega)]; rfl
    have e3 : ((n : Int) == b) = false := by simp; omega
    rw [e3]
    cases hA : (wordS n).toList with
    | nil => rw [hA] at e2; cases e2
    | cons x l =>
      cases hB : (wordS b).toList with
      | nil => rfl
      | cons y m => rw [hB] at e1; cases e1
theorem nil_beq (l : List UInt8) : (l == ([] : List UInt8)) = l.isEmpty := by cases l <;> rfl
theorem nil_bne (l : List UInt8) : (l != ([] : List UInt8)) = !l.isEmpty := by cases l <;> rfl
theorem w0_bne {s : ByteArray} (h : s.toList.isEmpty = false) : ((wordS 0).toList != s.toList) = true := by
  have : (wordS 0).toList = [] := by rw [show (0 : Int) = ((0 : Nat) : Int) from rfl, wordS_list 0 (by decide)]; rfl
  rw [this]
  cases hs : s.toList with
  | nil => rw [hs] at h; cases h
  | cons x l => rfl
set_option maxHeartbeats 2000000 in
/-- the law's end: behind k := Kind(s) -/
theorem words_walk {w : World} (a b : Int) (s : ByteArray) (hT : Tabs w) (hs : s.size ≤ maxLen) : Calls Tryd.prog 4 #[.int .i64 a, .int .i64 b, .string s] w (TrueB w) := by
  have HT := Lib.hid hT
  clear hT
  unfold maxLen at hs
  go_enter Tryd.func4, Tryd.ntmps4
  go_wp2_with fail
  refine (callAwake HT.out).mono ?_
  rintro e' w1 ⟨rfl, b1⟩
  have HB1 := Lib.hid b1
  clear b1
  by_cases h30 : s.size > 30
  · have z : decide ((s.size : Int) > 30) = true := decide_eq_true (by omega)
    have z2 : decide (30 < s.size) = true := decide_eq_true h30
    go_wp2
    go_ret
    exact ⟨rfl, HB1.out⟩
  · have z : decide ((s.size : Int) > 30) = false := decide_eq_false (by omega)
    have z2 : decide (30 < s.size) = false := decide_eq_false h30
    clear h30 hs
    go_wp2_with fail
    refine (cWord a (HT.out.below HB1.out)).mono ?_
    rintro e' w2 h2
    obtain ⟨rfl, b2⟩ := h2.below
    have HB2 := Lib.hid (HB1.out.trans (b2.mono HB1.out.size))
    clear h2 b2
    go_wp2_with fail
    refine (cWord b (HT.out.below HB2.out)).mono ?_
    rintro e' w3 h3
    obtain ⟨rfl, b3⟩ := h3.below
    have HB3 := Lib.hid (HB2.out.trans (b3.mono HB2.out.size))
    clear h3 b3
    have FIN : Hid (∀ w3, Below w.heap.size w w3 → ∃ k : Int, kindS s = k ∧ (k = 0 ∨ 0 < k)) := Lib.hid fun w3 _ => ⟨kindS s, rfl, by rcases kindS_is s with h | ⟨j, h, _, h2, _⟩ <;> omega⟩
    clear FIN
    by_cases ha : 1 ≤ a ∧ a ≤ 17
    · have q1 : decide (a < 1) = false := decide_eq_false (by omega)
      have q2 : decide (a > 17) = false := decide_eq_false (by omega)
      have HW := Lib.hid (words_eq (b := b) ha)
      have HK := Lib.hid (kindS_word ha)
      have e0 : (wordS a).toList.isEmpty = false := by rw [wordS_empty, q1, show decide (17 < a) = false from q2]; rfl
      have e1 := nil_beq (wordS a).toList
      have e2 := nil_bne (wordS a).toList
      rw [e0] at e1 e2
      obtain ⟨x, hx⟩ : ∃ x, wordS a = x := ⟨_, rfl⟩
      obtain ⟨y, hy⟩ : ∃ y, wordS b = y := ⟨_, rfl⟩
      rw [hx] at HW HK e0 e1 e2 ⊢
      rw [hy] at HW ⊢
      clear hx hy ha
      obtain ⟨E, hE⟩ : ∃ E, (a == b) = E := ⟨_, rfl⟩
      have hE2 := HW.out
      rw [hE] at hE2
      clear HW
      cases E
      · skip
        go_wp2_with fail
        refine (cKind x (HT.out.below HB3.out)).mono ?_
        rw [HK.out]
        rintro e' w4 h4
        obtain ⟨rfl, b4⟩ := h4.below
        have HB4 := Lib.hid (HB3.out.trans (b4.mono HB3.out.size))
        clear h4 b4
        have aa : (a != a) = false := bne_self_eq_false a
        go_wp2_with fail
        refine (cKind s (HT.out.below HB4.out)).mono ?_
        rintro e' w5 h5
        obtain ⟨rfl, b5⟩ := h5.below
        have HB5 := Lib.hid (HB4.out.trans (b5.mono HB4.out.size))
        clear h5 b5
        rcases kindS_is s with hk | ⟨j, hj0, hj, hk, hw⟩
        · have HKS := Lib.hid hk
          rw [hk]
          clear hk
          have f1 := nil_beq s.toList
          cases f0 : s.toList.isEmpty
          · rw [f0] at f1
            have f2 := w0_bne f0
            obtain ⟨z0, hz0⟩ : ∃ z0, wordS 0 = z0 := ⟨_, rfl⟩
            have HZ := Lib.hid hz0
            rw [hz0] at f2
            have f3 : (z0.toList == s.toList) = false := by simpa [bne] using f2
            clear hz0
            go_wp2_with fail
            refine (cKind s (HT.out.below HB5.out)).mono ?_
            rw [HKS.out]
            rintro e' w6 h6
            obtain ⟨rfl, b6⟩ := h6.below
            have HB6 := Lib.hid (HB5.out.trans (b6.mono HB5.out.size))
            clear h6 b6
            go_wp2_with fail
            refine (cWord 0 (HT.out.below HB6.out)).mono ?_
            rw [HZ.out]
            rintro e' w7 h7
            obtain ⟨rfl, b7⟩ := h7.below
            have HB7 := Lib.hid (HB6.out.trans (b7.mono HB6.out.size))
            clear h7 b7
            go_wp2
            go_ret
            exact ⟨rfl, HB7.out⟩
          · rw [f0] at f1
            go_wp2
            go_ret
            exact ⟨rfl, HB5.out⟩
        · rw [hk]
          obtain ⟨J, hJ⟩ : ∃ J : Int, (j : Int) = J := ⟨_, rfl⟩
          rw [hJ] at hk hw ⊢
          have g1 : (J == 0) = false := by simp; omega
          have g2 : decide (J > 0) = true := decide_eq_true (by omega)
          have g3 : decide (0 < J) = true := decide_eq_true (by omega)
          obtain ⟨z0, hz0⟩ : ∃ z0, wordS J = z0 := ⟨_, rfl⟩
          have HZ := Lib.hid hz0
          rw [hz0] at hw
          clear hz0 hk hJ hj hj0
          go_wp2_with fail
          refine (cWord J (HT.out.below HB5.out)).mono ?_
          rw [HZ.out]
          rintro e' w7 h7
          obtain ⟨rfl, b7⟩ := h7.below
          have HB7 := Lib.hid (HB5.out.trans (b7.mono HB5.out.size))
          clear h7 b7
          go_wp2
          go_ret
          exact ⟨rfl, HB7.out⟩
      · skip
        go_wp2_with fail
        refine (cKind x (HT.out.below HB3.out)).mono ?_
        rw [HK.out]
        rintro e' w4 h4
        obtain ⟨rfl, b4⟩ := h4.below
        have HB4 := Lib.hid (HB3.out.trans (b4.mono HB3.out.size))
        clear h4 b4
        have aa : (a != a) = false := bne_self_eq_false a
        go_wp2_with fail
        refine (cKind s (HT.out.below HB4.out)).mono ?_
        rintro e' w5 h5
        obtain ⟨rfl, b5⟩ := h5.below
        have HB5 := Lib.hid (HB4.out.trans (b5.mono HB4.out.size))
        clear h5 b5
        rcases kindS_is s with hk | ⟨j, hj0, hj, hk, hw⟩
        · have HKS := Lib.hid hk
          rw [hk]
          clear hk
          have f1 := nil_beq s.toList
          cases f0 : s.toList.isEmpty
          · rw [f0] at f1
            have f2 := w0_bne f0
            obtain ⟨z0, hz0⟩ : ∃ z0, wordS 0 = z0 := ⟨_, rfl⟩
            have HZ := Lib.hid hz0
            rw [hz0] at f2
            have f3 : (z0.toList == s.toList) = false := by simpa [bne] using f2
            clear hz0
            go_wp2_with fail
            refine (cKind s (HT.out.below HB5.out)).mono ?_
            rw [HKS.out]
            rintro e' w6 h6
            obtain ⟨rfl, b6⟩ := h6.below
            have HB6 := Lib.hid (HB5.out.trans (b6.mono HB5.out.size))
            clear h6 b6
            go_wp2_with fail
            refine (cWord 0 (HT.out.below HB6.out)).mono ?_
            rw [HZ.out]
            rintro e' w7 h7
            obtain ⟨rfl, b7⟩ := h7.below
            have HB7 := Lib.hid (HB6.out.trans (b7.mono HB6.out.size))
            clear h7 b7
            go_wp2
            go_ret
            exact ⟨rfl, HB7.out⟩
          · rw [f0] at f1
            go_wp2
            go_ret
            exact ⟨rfl, HB5.out⟩
        · rw [hk]
          obtain ⟨J, hJ⟩ : ∃ J : Int, (j : Int) = J := ⟨_, rfl⟩
          rw [hJ] at hk hw ⊢
          have g1 : (J == 0) = false := by simp; omega
          have g2 : decide (J > 0) = true := decide_eq_true (by omega)
          have g3 : decide (0 < J) = true := decide_eq_true (by omega)
          obtain ⟨z0, hz0⟩ : ∃ z0, wordS J = z0 := ⟨_, rfl⟩
          have HZ := Lib.hid hz0
          rw [hz0] at hw
          clear hz0 hk hJ hj hj0
          go_wp2_with fail
          refine (cWord J (HT.out.below HB5.out)).mono ?_
          rw [HZ.out]
          rintro e' w7 h7
          obtain ⟨rfl, b7⟩ := h7.below
          have HB7 := Lib.hid (HB5.out.trans (b7.mono HB5.out.size))
          clear h7 b7
          go_wp2
          go_ret
          exact ⟨rfl, HB7.out⟩
    · have e0 : (wordS a).toList.isEmpty = true := by
        rw [wordS_empty]
        by_cases h1 : a < 1
        · rw [decide_eq_true h1]; rfl
        · rw [decide_eq_true (by omega : 17 < a), Bool.or_true]
      have e1 := nil_beq (wordS a).toList
      have e2 := nil_bne (wordS a).toList
      rw [e0] at e1 e2
      obtain ⟨x, hx⟩ : ∃ x, wordS a = x := ⟨_, rfl⟩
      obtain ⟨y, hy⟩ : ∃ y, wordS b = y := ⟨_, rfl⟩
      rw [hx] at e0 e1 e2 ⊢
      rw [hy]
      clear hx hy
      have HW1 := Lib.hid HB3.out
      by_cases h1 : a < 1
      · have q1 : decide (a < 1) = true := decide_eq_true h1
        clear h1 ha
        go_wp2_with fail
        refine (cKind s (HT.out.below HW1.out)).mono ?_
        rintro e' w5 h5
        obtain ⟨rfl, b5⟩ := h5.below
        have HB5 := Lib.hid (HW1.out.trans (b5.mono HW1.out.size))
        clear h5 b5
        rcases kindS_is s with hk | ⟨j, hj0, hj, hk, hw⟩
        · have HKS := Lib.hid hk
          rw [hk]
          clear hk
          have f1 := nil_beq s.toList
          cases f0 : s.toList.isEmpty
          · rw [f0] at f1
            have f2 := w0_bne f0
            obtain ⟨z0, hz0⟩ : ∃ z0, wordS 0 = z0 := ⟨_, rfl⟩
            have HZ := Lib.hid hz0
            rw [hz0] at f2
            have f3 : (z0.toList == s.toList) = false := by simpa [bne] using f2
            clear hz0
            go_wp2_with fail
            refine (cKind s (HT.out.below HB5.out)).mono ?_
            rw [HKS.out]
            rintro e' w6 h6
            obtain ⟨rfl, b6⟩ := h6.below
            have HB6 := Lib.hid (HB5.out.trans (b6.mono HB5.out.size))
            clear h6 b6
            go_wp2_with fail
            refine (cWord 0 (HT.out.below HB6.out)).mono ?_
            rw [HZ.out]
            rintro e' w7 h7
            obtain ⟨rfl, b7⟩ := h7.below
            have HB7 := Lib.hid (HB6.out.trans (b7.mono HB6.out.size))
            clear h7 b7
            go_wp2
            go_ret
            exact ⟨rfl, HB7.out⟩
          · rw [f0] at f1
            go_wp2
            go_ret
            exact ⟨rfl, HB5.out⟩
        · rw [hk]
          obtain ⟨J, hJ⟩ : ∃ J : Int, (j : Int) = J := ⟨_, rfl⟩
          rw [hJ] at hk hw ⊢
          have g1 : (J == 0) = false := by simp; omega
          have g2 : decide (J > 0) = true := decide_eq_true (by omega)
          have g3 : decide (0 < J) = true := decide_eq_true (by omega)
          obtain ⟨z0, hz0⟩ : ∃ z0, wordS J = z0 := ⟨_, rfl⟩
          have HZ := Lib.hid hz0
          rw [hz0] at hw
          clear hz0 hk hJ hj hj0
          go_wp2_with fail
          refine (cWord J (HT.out.below HB5.out)).mono ?_
          rw [HZ.out]
          rintro e' w7 h7
          obtain ⟨rfl, b7⟩ := h7.below
          have HB7 := Lib.hid (HB5.out.trans (b7.mono HB5.out.size))
          clear h7 b7
          go_wp2
          go_ret
          exact ⟨rfl, HB7.out⟩
      · have q1 : decide (a < 1) = false := decide_eq_false h1
        have q2 : decide (a > 17) = true := decide_eq_true (by omega)
        clear h1 ha
        go_wp2_with fail
        refine (cKind s (HT.out.below HW1.out)).mono ?_
        rintro e' w5 h5
        obtain ⟨rfl, b5⟩ := h5.below
        have HB5 := Lib.hid (HW1.out.trans (b5.mono HW1.out.size))
        clear h5 b5
        rcases kindS_is s with hk | ⟨j, hj0, hj, hk, hw⟩
        · have HKS := Lib.hid hk
          rw [hk]
          clear hk
          have f1 := nil_beq s.toList
          cases f0 : s.toList.isEmpty
          · rw [f0] at f1
            have f2 := w0_bne f0
            obtain ⟨z0, hz0⟩ : ∃ z0, wordS 0 = z0 := ⟨_, rfl⟩
            have HZ := Lib.hid hz0
            rw [hz0] at f2
            have f3 : (z0.toList == s.toList) = false := by simpa [bne] using f2
            clear hz0
            go_wp2_with fail
            refine (cKind s (HT.out.below HB5.out)).mono ?_
            rw [HKS.out]
            rintro e' w6 h6
            obtain ⟨rfl, b6⟩ := h6.below
            have HB6 := Lib.hid (HB5.out.trans (b6.mono HB5.out.size))
            clear h6 b6
            go_wp2_with fail
            refine (cWord 0 (HT.out.below HB6.out)).mono ?_
            rw [HZ.out]
            rintro e' w7 h7
            obtain ⟨rfl, b7⟩ := h7.below
            have HB7 := Lib.hid (HB6.out.trans (b7.mono HB6.out.size))
            clear h7 b7
            go_wp2
            go_ret
            exact ⟨rfl, HB7.out⟩
          · rw [f0] at f1
            go_wp2
            go_ret
            exact ⟨rfl, HB5.out⟩
        · rw [hk]
          obtain ⟨J, hJ⟩ : ∃ J : Int, (j : Int) = J := ⟨_, rfl⟩
          rw [hJ] at hk hw ⊢
          have g1 : (J == 0) = false := by simp; omega
          have g2 : decide (J > 0) = true := decide_eq_true (by omega)
          have g3 : decide (0 < J) = true := decide_eq_true (by omega)
          obtain ⟨z0, hz0⟩ : ∃ z0, wordS J = z0 := ⟨_, rfl⟩
          have HZ := Lib.hid hz0
          rw [hz0] at hw
          clear hz0 hk hJ hj hj0
          go_wp2_with fail
          refine (cWord J (HT.out.below HB5.out)).mono ?_
          rw [HZ.out]
          rintro e' w7 h7
          obtain ⟨rfl, b7⟩ := h7.below
          have HB7 := Lib.hid (HB5.out.trans (b7.mono HB5.out.size))
          clear h7 b7
          go_wp2
          go_ret
          exact ⟨rfl, HB7.out⟩
end Go.Proofs.YtanjikflljdjcaaDoor
