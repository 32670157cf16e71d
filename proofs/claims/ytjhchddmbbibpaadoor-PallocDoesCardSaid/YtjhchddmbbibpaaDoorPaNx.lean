import Derived.Test.YtjhchddmbbibpaaDoorPaPg
namespace Go.Proofs.YtjhchddmbbibpaaDoor
open Wd Pa Go.ChangeShapes Go.WideShapes Go.RowKit Go.Sort
set_option linter.unusedVariables false

theorem turnN_lt (t : Bool) : turnN t < 18446744073709551616 := by cases t <;> simp [turnN]
theorem shl_from (k : Nat) (hk : k < 64) : IntKind.u64.wrap (18446744073709551615 * 2 ^ k) = ((18446744073709551616 - 2 ^ k : Nat) : Int) := by
  have h1 := Nat.two_pow_pos k
  have h2 := two_pow_lt hk
  have e : (18446744073709551615 * 2 ^ k : Int) = ((18446744073709551615 * 2 ^ k : Nat) : Int) := by simp
  rw [e, IntKind.wrap_u64]
  omega
theorem from_all : (18446744073709551615 : Int) = ((18446744073709551615 : Nat) : Int) ∧ 18446744073709551615 = 18446744073709551616 - 2 ^ 0 := ⟨by omega, by omega⟩
def LookJ (f : Pp) (n : Nat) (U : Nat → Bool) (ws : List Nat) (i T : Int) (ii : Nat) (t : Bool) (W : World) (a : Act) (w : World) : Prop :=
  ∃ (v k fr : Nat) (F : Int) (u3 u4 u5 u6 u10 u11 u12 u13 u14 u15 u16 u17 u18 u19 u20 u21 u22 u23 u24 u25 u26 u27 u28 u29 u30 u31 u32 u33 u34 u35 u36 u37 u38 u39 u40 u41 u42 u43 u44 u45 u46 u47 u48 u49 u50 u51 u52 : Value), a = { tmps := #[.pointer (some ⟨f.g, 0, none⟩), .int .i64 i, .int .u64 T, u3, u4, u5, u6, .int .i64 ((n : Int) + 1), .int .i64 (v : Nat), .int .u64 F, u10, u11, u12, u13, u14, u15, u16, u17, u18, u19, u20, u21, u22, u23, u24, u25, u26, u27, u28, u29, u30, u31, u32, u33, u34, u35, u36, u37, u38, u39, u40, u41, u42, u43, u44, u45, u46, u47, u48, u49, u50, u51, u52], defers := [] } ∧ Look U n ii t ws.length v k ∧ (F = (fr : Int) ∧ fr = 18446744073709551616 - 2 ^ k) ∧ ∃ d, w = W.drewN d
/-- it tells the least page that is looked for, or the one behind the last -/
def NextR (U : Nat → Bool) (n ii : Nat) (t : Bool) (w : World) (e : Ending) (w' : World) : Prop := ∃ r : Nat, e = .returned (.int .i64 r) ∧ Nx U n ii t r ∧ ∃ d, w' = w.drewN d
theorem PgAt.drewN {w : World} {B n : Nat} {f : Pp} {U : Nat → Bool} {ws : List Nat} (h : PgAt w B f n U ws) (d : Nat) : PgAt (w.drewN d) B f n U ws := h.below ⟨rfl, rfl, rfl, Nat.le_refl _, fun _ _ => rfl⟩
theorem found_at (v c r : Nat) (hr : r = 64 * v + c + 1) (h : r ≤ 1048577) : wrap64 ((v : Int) * 64) = (v : Int) * 64 ∧ wrap64 ((v : Int) * 64 + (c : Int)) = (v : Int) * 64 + (c : Int) ∧ wrap64 ((v : Int) * 64 + (c : Int) + 1) = (r : Int) := by
  refine ⟨?_, ?_, ?_⟩ <;> unfold wrap64 <;> omega
theorem next_word {v : Nat} (h : v < 16385) : wrap64 ((v : Int) + 1) = ((v + 1 : Nat) : Int) := by unfold wrap64; omega
theorem xor_lt {x y : Nat} (hx : x < 18446744073709551616) (hy : y < 18446744073709551616) : x ^^^ y < 18446744073709551616 := Nat.xor_lt_two_pow (n := 64) hx hy
theorem from_lt (k : Nat) : 18446744073709551616 - 2 ^ k < 18446744073709551616 := by have := Nat.two_pow_pos k; omega
theorem tz_lt {z : Nat} (hz : z < 18446744073709551616) : Lib.ctz 64 z = Lib.ctz 64 z := rfl
/-- what is asked of one word -/
theorem look_word {w : World} {B n : Nat} {f : Pp} {U : Nat → Bool} {ws : List Nat} (h : PgAt w B f n U ws) {ii v k fr : Nat} {t : Bool} {F T : Int} (hl : Look U n ii t ws.length v k) (hF : F = (fr : Int)) (hfr : fr = 18446744073709551616 - 2 ^ k) (hT : T = ((turnN t : Nat) : Int)) :
    ∃ x y z : Nat, ws[v]? = some x ∧ w.cell? ⟨f.h, v, none⟩ = some (.int .u64 x) ∧ bits .xor .u64 (x : Int) T = (y : Int) ∧ bits .and .u64 (y : Int) F = (z : Int) ∧ fnd t x k = z ∧ z < 18446744073709551616 ∧ (v : Int) < (ws.length : Int) ∧ wrap64 ((v : Int) + 1) = ((v + 1 : Nat) : Int) := by
  obtain ⟨x, hx, hx2, _⟩ := h.wds.word hl.vK
  have hv : v < 16385 := by
    have h1 := hl.vK; have h2 := h.wds.len; have h3 := h.few
    clear hx2
    omega
  refine ⟨x, x ^^^ turnN t, fnd t x k, hx, h.cX hx, ?_, ?_, rfl, fnd_lt t x k hl.k64, Int.ofNat_lt.2 hl.vK, next_word hv⟩
  · rw [hT]; exact bits_xor_u64_nat x _ hx2 (turnN_lt t)
  · rw [hF, hfr]; exact bits_and_u64_nat _ _ (xor_lt hx2 (turnN_lt t)) (from_lt k)
theorem look_hit {w : World} {B n : Nat} {f : Pp} {U : Nat → Bool} {ws : List Nat} (h : PgAt w B f n U ws) {ii v k x z : Nat} {t : Bool} (hl : Look U n ii t ws.length v k) (hx : ws[v]? = some x) (hz : fnd t x k = z) (hz2 : z < 18446744073709551616) (h0 : z ≠ 0) :
    ∃ c r : Nat, Nx U n ii t r ∧ (∀ w, Tb w → Calls Tryd.prog 30 #[.int .u64 z] w fun e w' => e = .returned (.int .i64 c) ∧ w' = w) ∧ wrap64 ((v : Int) * 64) = (v : Int) * 64 ∧ wrap64 ((v : Int) * 64 + (c : Int)) = (v : Int) * 64 + (c : Int) ∧ wrap64 ((v : Int) * 64 + (c : Int) + 1) = (r : Int) := by
  obtain ⟨hn, hr⟩ := look_found h.wds hl hx (by rw [hz]; exact h0)
  rw [hz] at hn hr
  refine ⟨_, _, hn, fun w hT => tz_is z hz2 h0 w hT, ?_⟩
  have hfew := h.few
  exact found_at _ _ _ rfl (Nat.le_trans hr (Nat.succ_le_succ hfew))
/-- Int's own tests of a word -/
theorem test_no {z : Nat} (h : z = 0) : ((z : Int) != 0) = false := by rw [bne_eq_false_iff_eq]; omega
theorem test_yes {z : Nat} (h : z ≠ 0) : ((z : Int) != 0) = true := by rw [bne_iff_ne]; omega
set_option maxRecDepth 100000 in
set_option maxHeartbeats 400000 in
theorem next_is {w : World} {B n : Nat} {f : Pp} {U : Nat → Bool} {ws : List Nat} (h : PgAt w B f n U ws) (ii : Nat) (t : Bool) (i T : Int) (hi : i = (ii : Int)) (h1 : 1 ≤ ii) (h2 : ii ≤ n + 1) (hT : T = ((turnN t : Nat) : Int)) :
    Calls Tryd.prog 25 #[f.ptr, .int .i64 i, .int .u64 T] w (NextR U n ii t w) := by
  have hfew := h.few
  have KM := Lib.hid (many_is h)
  have HW0 := Lib.hid h; have HT := Lib.hid hT
  have cW := h.cW
  have q0 : wrap64 ((n : Int) + 1) = (n : Int) + 1 := by unfold wrap64; omega
  clear h hT
  unfold Pp.ptr at KM ⊢
  go_enter Tryd.func25, Tryd.ntmps25
  go_wp2
  refine wp_scope_jumps 0 (LookJ f n U ws i T ii t w) (fun a' _ => ws.length - (intOf (a'.tmps.getD 8 undef)).toNat) rfl ?_ ?_
  · by_cases hb : n < ii
    · have hge : ¬ i < (n : Int) + 1 := by omega
      have hge2 : (n : Int) + 1 ≤ i := by omega
      have HN := Lib.hid (nx_behind (U := U) (t := t) hb h2)
      clear hb hi h1 h2 hge2
      go_wp2_with (go_at_call 29; refine KM.out.mono ?_; rintro e w1 ⟨rfl, rfl⟩)
      simp only [Exit.jump]
      go_ret
      exact ⟨n + 1, rfl, HN.out, 0, rfl⟩
    · have hge : i < (n : Int) + 1 := by omega
      have hl0 := look_start (t := t) HW0.out.wds h1 (by omega)
      obtain ⟨j, hj⟩ : ∃ j, ii - 1 = j := ⟨_, rfl⟩
      rw [hj] at hl0
      obtain ⟨v, hv⟩ : ∃ v, v = j / 64 := ⟨_, rfl⟩
      obtain ⟨k, hk⟩ : ∃ k, k = j % 64 := ⟨_, rfl⟩
      rw [← hv, ← hk] at hl0
      have hk64 : k < 64 := by omega
      have q1 : wrap64 (i - 1) = (j : Int) := by unfold wrap64; omega
      have q2 : (j : Int) % 64 = (k : Int) := by omega
      have KV := Lib.hid (fun W => word_is j v i (by omega) (by omega) hv W)
      have HL := Lib.hid hl0
      clear hb hl0 hj hv hk h1 h2 hi
      obtain ⟨fr, hfr⟩ : ∃ fr, fr = 18446744073709551616 - 2 ^ k := ⟨_, rfl⟩
      have q3 : IntKind.u64.wrap (18446744073709551615 * 2 ^ k) = (fr : Int) := by rw [hfr]; exact shl_from k hk64
      have HF := Lib.hid hfr
      clear hfr
      go_wp2_with (go_at_call 29; refine KM.out.mono ?_; rintro e w1 ⟨rfl, rfl⟩)
      go_quiet ((go_at_call 22; exact quiet_eq (KV.out _)))
      go_wp2
      go_step3
      rename_i nq K hK
      refine hK _ _ ?_
      clear hK K
      obtain ⟨F, hF⟩ : ∃ F : Int, F = (fr : Int) := ⟨_, rfl⟩
      rw [← hF]
      clear KV q1 q2 q3 hk64 hge
      obtain ⟨x, y, z, hx, cx, hxor, hand, hz, hz2, i1, q1⟩ := look_word HW0.out HL.out hF HF.out HT.out
      have HX := Lib.hid hx; have HZ := Lib.hid hz; have HZ2 := Lib.hid hz2; have HXOR := Lib.hid hxor; have HAND := Lib.hid hand
      clear hx hxor hand hz hz2 hF
      by_cases h0 : z = 0
      · have hne := test_no h0
        by_cases hv : v + 1 < ws.length
        · have hlt : ((v + 1 : Nat) : Int) < (ws.length : Int) := Int.ofNat_lt.2 hv
          have HN := Lib.hid (look_next HW0.out.wds HL.out HX.out (by rw [HZ.out]; exact h0) hv)
          clear h0 hv
          go_wp2_with (simp only [HXOR.out, HAND.out])
          go_step3
          rw [q1]
          refine ⟨rfl, ⟨v + 1, 0, 18446744073709551615, 18446744073709551615, _, _, _, _, _, _, _, _, _, _, _, _, _, _, _, _, _, _, _, _, _, _, _, _, _, _, _, _, _, _, _, _, _, _, _, _, _, _, _, _, _, _, _, _, _, _, _, rfl, HN.out, from_all, _, rfl⟩⟩
        · have hlt : ¬ ((v + 1 : Nat) : Int) < (ws.length : Int) := fun h => hv (Int.ofNat_lt.1 h)
          have HN := Lib.hid (look_end HW0.out.wds HL.out HX.out (by rw [HZ.out]; exact h0) hv)
          clear h0 hv
          go_wp2_with (simp only [HXOR.out, HAND.out])
          simp only [Exit.jump]
          go_ret
          exact ⟨_, rfl, HN.out, _, rfl⟩
      · have hne := test_yes h0
        obtain ⟨c, r, hn, kt, q2, q3, q4⟩ := look_hit HW0.out HL.out HX.out HZ.out HZ2.out h0
        have HN := Lib.hid hn; have KT := Lib.hid kt
        clear hn h0 kt
        go_wp2_with (first | simp only [HXOR.out, HAND.out] | (go_at_call 30; refine (KT.out _ (HW0.out.drewN _).tab).mono ?_; rintro e w1 ⟨rfl, rfl⟩))
        simp only [Exit.jump]
        rw [q4]
        go_ret
        exact ⟨_, rfl, HN.out, _, rfl⟩
  · rintro a' wr ⟨v, k, fr, F, u3, u4, u5, u6, u10, u11, u12, u13, u14, u15, u16, u17, u18, u19, u20, u21, u22, u23, u24, u25, u26, u27, u28, u29, u30, u31, u32, u33, u34, u35, u36, u37, u38, u39, u40, u41, u42, u43, u44, u45, u46, u47, u48, u49, u50, u51, u52, rfl, hl, ⟨hF, hfr⟩, d, rfl⟩
    obtain ⟨x, y, z, hx, cx, hxor, hand, hz, hz2, i1, q1⟩ := look_word HW0.out hl hF hfr HT.out
    have HL := Lib.hid hl; have HX := Lib.hid hx; have HZ := Lib.hid hz; have HZ2 := Lib.hid hz2; have HXOR := Lib.hid hxor; have HAND := Lib.hid hand
    clear hl hx hxor hand hz hz2 hF hfr
    by_cases h0 : z = 0
    · have hne := test_no h0
      by_cases hv : v + 1 < ws.length
      · have hlt : ((v + 1 : Nat) : Int) < (ws.length : Int) := Int.ofNat_lt.2 hv
        have HN := Lib.hid (look_next HW0.out.wds HL.out HX.out (by rw [HZ.out]; exact h0) hv)
        have MS := Lib.hid (show ws.length - (v + 1) < ws.length - v by omega)
        clear h0 hv
        go_wp2_with (simp only [HXOR.out, HAND.out])
        go_step3
        rw [q1]
        refine ⟨rfl, ⟨v + 1, 0, 18446744073709551615, 18446744073709551615, _, _, _, _, _, _, _, _, _, _, _, _, _, _, _, _, _, _, _, _, _, _, _, _, _, _, _, _, _, _, _, _, _, _, _, _, _, _, _, _, _, _, _, _, _, _, _, rfl, HN.out, from_all, _, rfl⟩, ?_⟩
        simp [intOf]; exact MS.out
      · have hlt : ¬ ((v + 1 : Nat) : Int) < (ws.length : Int) := fun h => hv (Int.ofNat_lt.1 h)
        have HN := Lib.hid (look_end HW0.out.wds HL.out HX.out (by rw [HZ.out]; exact h0) hv)
        clear h0 hv
        go_wp2_with (simp only [HXOR.out, HAND.out])
        simp only [Exit.jump]
        go_ret
        exact ⟨_, rfl, HN.out, _, rfl⟩
    · have hne := test_yes h0
      obtain ⟨c, r, hn, kt, q2, q3, q4⟩ := look_hit HW0.out HL.out HX.out HZ.out HZ2.out h0
      have HN := Lib.hid hn; have KT := Lib.hid kt
      clear hn h0 kt
      go_wp2_with (first | simp only [HXOR.out, HAND.out] | (go_at_call 30; refine (KT.out _ (HW0.out.drewN _).tab).mono ?_; rintro e w1 ⟨rfl, rfl⟩))
      simp only [Exit.jump]
      rw [q4]
      go_ret
      exact ⟨_, rfl, HN.out, _, rfl⟩
end Go.Proofs.YtjhchddmbbibpaaDoor
