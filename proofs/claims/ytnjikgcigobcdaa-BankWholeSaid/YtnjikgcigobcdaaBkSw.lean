import Derived.Test.YtnjikgcigobcdaaBkAwa
namespace Go.Proofs.Ytnjikgcigobcdaa
open Wd Pm Go.Maps Go.ChangeShapes Go.WideShapes Go.RowKit Go.Sort
set_option linter.unusedVariables false

theorem row_none (w : World) : RowB w none [] := ⟨rfl, fun h => absurd h (by simp)⟩
/-- a switch where power may fail, and then a crash -/
theorem switch_crash {σ : St} (hc : Clean σ) (hr2 : σ.st 2 = 2) (ha : 0 ≤ σ.ar) (hn : 2 < σ.n) (ep k : Int) (ks : List Int) (keep : List Bool) (hk : KeysOf (runS (layA 2 [rootV ep k]) σ).1.hd ks) (τ : St) (hτ : (runS (layA 2 [rootV ep k]) σ).1.crash ks keep = τ) :
    Clean τ ∧ τ.n = σ.n ∧ (τ.st 2 = 2 ∨ τ.st 2 = rootV ep k) ∧ ((runS (layA 2 [rootV ep k]) σ).2 = 0 → τ.st 2 = rootV ep k) := by
  obtain ⟨k1, k2, k3, k4⟩ := lay_crash hc ha 2 [rootV ep k] (by omega) (by simp; omega) ks keep hk
  rw [hτ] at k1 k2 k3 k4
  refine ⟨k1, k2, ?_, fun e => ?_⟩
  · rcases k3 2 with e | e
    · exact .inl (e.trans hr2)
    · rw [newSt_one, if_pos rfl] at e; exact .inr e
  · rw [k4 e, newSt_one, if_pos rfl]
theorem armed_found {σ : St} {p : Int} {image log : List Int} (h : Found σ p image log) (a : Int) : Clean { σ with ar := max a 0 } := ⟨h.k.c.hd, h.k.c.sn, h.k.c.dead⟩
def swArr (p : Int) : Array Value := #[.int .i64 p, .int .i64 (bankG p), .int .i64 (imageG p), .int .i64 (logG p), .int .i64 (dataG p)]
set_option maxRecDepth 100000 in
set_option maxHeartbeats 8000000 in
theorem switch_true (p ep k arm : Int) (hp : (Lit.int .i64 p).wf = true) (he : (Lit.int .i64 ep).wf = true) (hk : (Lit.int .i64 k).wf = true) (ha : (Lit.int .i64 arm).wf = true) (A : Option Addr) (c : Nat) (keep : List Bool) (w : World) (r : Row w w.heap.size A keep.length (keep.map Value.bool)) (hm : keep.length ≤ maxLen) :
    Calls Try.prog 5 #[.int .i64 p, .int .i64 ep, .int .i64 k, .int .i64 arm, .slice A keep.length c] w (TrueB w) := by
  have HAM : arm ≤ 9223372036854775807 := by
    have h : IntKind.i64.min ≤ arm ∧ arm ≤ IntKind.i64.max := by simpa [Lit.wf] using ha
    exact h.2
  have R := Lib.hid r; have HM := Lib.hid hm
  obtain ⟨kn, hkn⟩ : ∃ kn, keep.length = kn := ⟨_, rfl⟩
  rw [hkn]
  have HKN := Lib.hid hkn
  clear r hm hkn he hk ha
  by_cases hg : good p
  rotate_left
  · have hcases : (p < 64 ∨ 1048576 < p) ∨ (100 < p ∧ p ≤ 1048576) := by unfold good at hg; omega
    have KN : ∀ w, Calls Try.prog 8 #[.int .i64 p, .slice none 0 0, .slice none 0 0] w (MadeNo w) := fun w => by
      rcases hcases with h | h
      · exact made_low p h _ _ w
      · exact made_high p h _ _ w
    have KN := Lib.hid KN
    clear hcases hg
    go_enter Try.func5, Try.ntmps5
    go_wp2_with fail
    refine (awake_bank w).mono ?_
    rintro e w1 ⟨rfl, b1⟩
    have B1 := Lib.hid b1
    clear b1
    go_wp2_with fail
    refine (KN.out w1).mono ?_
    rintro e w2 ⟨⟨a0, a1, a2, a3, a4, rfl⟩, b2⟩
    have B2 := Lib.hid (B1.out.trans (b2.mono B1.out.size))
    clear b2 KN B1
    go_wp2
    go_ret
    exact ⟨rfl, B2.out.alloc B2.out.size _⟩
  obtain ⟨hB, hI, hL, hsz⟩ := good_bd hg
  have KM := fun w1 : World => made_ok p hg none 0 [] none 0 [] w1 (row_none w1) (fun v hv => by cases hv) (by simp) (row_none w1) (fun v hv => by cases hv) (by simp)
  have hgo : (([] : List Int).length : Int) ≤ imageG p ∧ (([] : List Int).length : Int) ≤ logG p := ⟨hI.1, hL.1⟩
  have KMH := Lib.hid KM; have GO := Lib.hid hgo; have HG := Lib.hid hg
  clear KM hgo hg hB hI hL hsz
  go_enter Try.func5, Try.ntmps5
  go_wp2_with fail
  refine (awake_bank w).mono ?_
  rintro e w1 ⟨rfl, b1⟩
  have B1 := Lib.hid b1
  clear b1
  go_wp2_with fail
  refine (KMH.out w1).mono ?_
  rintro e w2 ⟨f, rfl, b2, h2⟩
  obtain ⟨σ, d2, fr2, fnd⟩ := h2 GO.out
  rw [decide_eq_true GO.out]
  unfold Fp.ptr
  have B3 := Lib.hid ((B1.out.trans (b2.mono B1.out.size)).alloc (Nat.le_trans B1.out.size b2.size) (.cells (swArr p) 28)); have FR := Lib.hid (show Fresh w f from fun k hk => Nat.le_trans B1.out.size (fr2 k hk)); have V3 := Lib.hid (d2.alloc (.cells (swArr p) 28)); have FN := Lib.hid fnd
  clear h2 b2 d2 fr2 fnd KMH B1 hp
  by_cases hc0 : (arm < 1)
  · have q0 : decide (arm < 1) = true := by simpa using hc0
    go_wp2
    go_ret
    exact ⟨rfl, B3.out⟩
  have q0 : decide (arm < 1) = false := by simpa using hc0
  by_cases hc1 : (ep < 0)
  · have q1 : decide (ep < 0) = true := by simpa using hc1
    go_wp2
    go_ret
    exact ⟨rfl, B3.out⟩
  have q1 : decide (ep < 0) = false := by simpa using hc1
  by_cases hc2 : (ep > 1099511627776)
  · have q2 : decide (ep > 1099511627776) = true := by simpa using hc2
    go_wp2
    go_ret
    exact ⟨rfl, B3.out⟩
  have q2 : decide (ep > 1099511627776) = false := by simpa using hc2
  by_cases hc3 : (k < 0)
  · have q3 : decide (k < 0) = true := by simpa using hc3
    go_wp2
    go_ret
    exact ⟨rfl, B3.out⟩
  have q3 : decide (k < 0) = false := by simpa using hc3
  by_cases hc4 : (k > 1)
  · have q4 : decide (k > 1) = true := by simpa using hc4
    go_wp2
    go_ret
    exact ⟨rfl, B3.out⟩
  have q4 : decide (k > 1) = false := by simpa using hc4
  by_cases hc5 : ((kn : Int) > 100)
  · have q5 : decide ((kn : Int) > 100) = true := by simpa using hc5
    go_wp2
    go_ret
    exact ⟨rfl, B3.out⟩
  have q5 : decide ((kn : Int) > 100) = false := by simpa using hc5
  go_upto_region 6 with fail
  have EP : 0 ≤ ep ∧ ep ≤ 1099511627776 := by omega
  have KK : k = 0 ∨ k = 1 := by omega
  have EPH := Lib.hid EP; have KKH := Lib.hid KK
  have hru : (2 * ep + (if k = 1 then 1 else 0)) / 2 = ep ∧ (2 * ep + (if k = 1 then 1 else 0)) % 2 = k := by
    rcases KK with rfl | rfl
    · rw [if_neg (by decide)]; omega
    · rw [if_pos rfl]; omega
  have HRU := Lib.hid hru
  clear q0 q1 q2 q3 q4 q5 hc1 hc2 hc3 hc4 hc5 EP KK hru
  obtain ⟨w3, hw3⟩ : ∃ w3, w2.alloc (.cells (swArr p) 28) = w3 := ⟨_, rfl⟩
  rw [hw3] at B3 V3
  unfold swArr at hw3
  rw [hw3]
  clear hw3
  have KA := Lib.hid (arm_dev V3.out arm HAM)
  unfold Fp.ptr at KA
  go_wp2_with fail
  refine (KA.out).mono ?_
  rintro e w4 ⟨rfl, g4⟩
  obtain ⟨f4, e4, d4, fr4, b4⟩ := g4.fresh FR.out B3.out
  have V4 := Lib.hid d4; have FR4 := Lib.hid fr4; have B4 := Lib.hid b4; have E4 := Lib.hid e4
  clear g4 d4 fr4 b4 e4 KA B3 V3 FR
  have KS := switch_dev V4.out ep k EPH.out.1 EPH.out.2 (by have := FN.out.ev; show σ.ev + 1000 < _; omega)
  rw [E4.out] at KS
  unfold Fp.ptr at KS
  have KSH := Lib.hid KS
  clear KS
  go_wp2_with fail
  refine (KSH.out).mono ?_
  rintro e w5 ⟨rfl, g5⟩
  obtain ⟨f5, e5, d5, fr5, b5⟩ := g5.fresh FR4.out B4.out
  have V5 := Lib.hid d5; have FR5 := Lib.hid fr5; have B5 := Lib.hid b5; have E5 := Lib.hid (e5.trans E4.out)
  clear g5 d5 fr5 b5 e5 KSH B4 V4 FR4 E4
  have KC := crash_dev V5.out w.heap.size (fun k hk => FR5.out k hk) B5.out.size A c keep (Row.below R.out B5.out) HM.out
  rw [E5.out, HKN.out] at KC
  unfold Fp.ptr at KC
  have KCH := Lib.hid KC
  clear KC
  go_wp2_with fail
  refine (KCH.out).mono ?_
  rintro e w6 ⟨rfl, ks, hks, g6⟩
  obtain ⟨f6, e6, d6, fr6, b6⟩ := g6.fresh FR5.out B5.out
  obtain ⟨τ, hτ⟩ : ∃ τ, (runS (layA 2 [rootV ep k]) { σ with ar := max arm 0 }).1.crash ks keep = τ := ⟨_, rfl⟩
  have fnd' := FN.out
  have hn2 : 2 < σ.n := by have h1 := fnd'.n; have h2 := HG.out.1; omega
  obtain ⟨c1, c2, c3, c4⟩ := switch_crash (σ := { σ with ar := max arm 0 }) (armed_found fnd' arm) fnd'.r (by show 0 ≤ max arm 0; omega) hn2 ep k ks keep hks τ hτ
  rw [hτ] at d6
  obtain ⟨er, her⟩ : ∃ er, (runS (layA 2 [rootV ep k]) { σ with ar := max arm 0 }).2 = er := ⟨_, rfl⟩
  rw [her] at c4 ⊢
  obtain ⟨r, hr⟩ : ∃ r, τ.st 2 = r := ⟨_, rfl⟩
  rw [hr] at c3 c4
  have hru := HRU.out
  have hr0 : 0 ≤ r ∧ r / 2 ≤ 1099511627776 := by
    have := EPH.out
    rcases c3 with h | h
    · omega
    · unfold rootV at h; split at h <;> omega
  have c2' : 2 < τ.n := by rw [c2]; exact hn2
  have KR := root_dev d6 c1.dead c2' r (by rw [load_clean c1 (by omega) (by omega), hr]) hr0.1 hr0.2
  rw [show f6.ptr = .pointer (some ⟨f.p, 0, none⟩) from e6.trans E5.out] at KR
  obtain ⟨n, hn⟩ : ∃ n, r / 2 = n := ⟨_, rfl⟩
  obtain ⟨j, hj⟩ : ∃ j, r % 2 = j := ⟨_, rfl⟩
  rw [hn, hj] at KR
  have hfact : (n = 1 ∧ j = 0 ∨ n = ep ∧ j = k) ∧ (er = 0 → n = ep ∧ j = k) := by
    have hh : r = rootV ep k → n = ep ∧ j = k := fun h => by
      have e : r = 2 * ep + (if k = 1 then 1 else 0) := h
      rw [← hn, ← hj, e]
      exact hru
    refine ⟨?_, fun e => hh (c4 e)⟩
    rcases c3 with h | h
    · left; omega
    · exact .inr (hh h)
  have KRH := Lib.hid KR; have B6 := Lib.hid b6; have FCT := Lib.hid hfact
  clear KR b6 hfact hr0 c1 c2 c3 c4 c2' hn2 fnd' hτ her hr hn hj hru d6 fr6 e6 g6 hks KCH B5 V5 FR5 E5
  go_wp2_with fail
  refine (KRH.out).mono ?_
  rintro e w7 ⟨rfl, b7⟩
  have B7 := Lib.hid (B6.out.trans (b7.mono B6.out.size))
  clear b7 KRH B6
  by_cases hf : n = ep ∧ j = k
  · obtain ⟨rfl, rfl⟩ := hf
    by_cases h1 : n = 1
    · subst h1
      by_cases h2 : j = 0
      · subst h2
        by_cases h3 : er = 0
        · subst h3
          go_wp2
          go_ret
          exact ⟨rfl, B7.out⟩
        · have e3 : (er != 0) = true := by simpa using h3
          go_wp2
          go_ret
          exact ⟨rfl, B7.out⟩
      · have e2 : (j == 0) = false := by simpa using h2
        by_cases h3 : er = 0
        · subst h3
          go_wp2
          go_ret
          exact ⟨rfl, B7.out⟩
        · have e3 : (er != 0) = true := by simpa using h3
          go_wp2
          go_ret
          exact ⟨rfl, B7.out⟩
    · have e1 : (n == 1) = false := by simpa using h1
      by_cases h3 : er = 0
      · subst h3
        go_wp2
        go_ret
        exact ⟨rfl, B7.out⟩
      · have e3 : (er != 0) = true := by simpa using h3
        go_wp2
        go_ret
        exact ⟨rfl, B7.out⟩
  · have h3 : ¬ er = 0 := fun e => hf (FCT.out.2 e)
    have e3 : (er != 0) = true := by simpa using h3
    obtain ⟨rfl, rfl⟩ : n = 1 ∧ j = 0 := by rcases FCT.out.1 with h | h; exact h; exact absurd h hf
    by_cases h4 : (1 : Int) = ep
    · subst h4
      have e4 : ((0 : Int) == k) = false := by
        have : ¬ (0 : Int) = k := fun e => hf ⟨rfl, e⟩
        simpa using this
      go_wp2
      go_ret
      exact ⟨rfl, B7.out⟩
    · have e4 : ((1 : Int) == ep) = false := by simpa using h4
      go_wp2
      go_ret
      exact ⟨rfl, B7.out⟩
end Go.Proofs.Ytnjikgcigobcdaa
