/-
  FloatMid: the middle of any two finite floats, each nought or beyond 1e-300, is finite and between them; clamping twice changes nothing more. No condition on the floats.
-/
import Derived.Test.YtldohbpiicefpaaRows
import Derived.Test.YtldohbpiicefpaaFlMid
import Derived.ProofKit
import Derived.OpenShut
import Derived.Lib.Hide
namespace Go.Proofs.Ytldohbpiicefpaa.floatMid
open Go.ChangeShapes Go.WideShapes Go.ChangeAt Go.RowKit
set_option linter.unusedVariables false

theorem clamp_w (x lo hi : Nat) (hx : x < 18446744073709551616) (hl : lo < 18446744073709551616) (hh : hi < 18446744073709551616) (w : World) : Calls Try.prog 14 #[.float .f64 x, .float .f64 lo, .float .f64 hi] w fun e w' => e = .returned (.float .f64 (clampW x lo hi)) ∧ w = w' := clamp_any x lo hi hx hl hh w
theorem clamp_small (x lo hi : Nat) (hx : x < 18446744073709551616) (hl : lo < 18446744073709551616) (hh : hi < 18446744073709551616) : clampW x lo hi < 18446744073709551616 := by
  unfold clampW; split
  · exact hl
  · split
    · exact hh
    · exact hx
theorem same_self (x : Nat) : sameB x x = true := by unfold sameB; simp
theorem clamp_twice (x lo hi : Nat) (h : lsB hi lo = false) : sameB (clampW (clampW x lo hi) lo hi) (clampW x lo hi) = true := by
  have e : clampW (clampW x lo hi) lo hi = clampW x lo hi := by
    unfold clampW lsB at *
    have h' := of_decide_eq_false h
    simp only [decide_eq_true_eq] at *
    (repeat' split) <;> first | rfl | omega
  rw [e]; exact same_self _

/-- what the last line asks -/
def Good (x y : Nat) : Prop := (2 ≤ cls x ∧ cls x ≤ 5) ∧ (2 ≤ cls y ∧ cls y ≤ 5) ∧ exactB x = true ∧ exactB y = true

def Returns (W : World) (e : Ending) (w' : World) : Prop := e = .returned (.bool true) ∧ Grown W w'
theorem grown_drewN (W : World) (n : Nat) : Grown W (W.drewN n) := Grown.refl W

theorem fin_of {x : Nat} (h : 2 ≤ cls x ∧ cls x ≤ 5) : Fl.rung x < Fl.inf := by
  have hz : zeroB x = true → Fl.rung x = 0 := fun h => of_decide_eq_true h
  have hi : infB x = false → Fl.rung x ≠ Fl.inf := fun h => of_decide_eq_false h
  have hn : Fl.nan x = false → ¬ Fl.inf < Fl.rung x := fun h => of_decide_eq_false h
  have : Fl.inf = 9218868437227405312 := rfl
  revert h
  refine cls_cases x _ ?_ ?_ ?_ ?_ ?_ ?_ ?_ <;> intros <;> simp_all <;> omega

theorem cls_fin {x : Nat} (h : Fl.rung x < Fl.inf) : 2 ≤ cls x ∧ cls x ≤ 5 := by
  have hn : Fl.nan x = false := by simp [Fl.nan]; omega
  have hi : infB x = false := by simp [infB]; omega
  refine cls_cases x _ ?_ ?_ ?_ ?_ ?_ ?_ ?_ <;> intros <;> simp_all

set_option maxHeartbeats 2000000 in
theorem walk_good (x y lo hi : Nat) (hx : x < 18446744073709551616) (hy : y < 18446744073709551616) (hl : lo < 18446744073709551616) (hh : hi < 18446744073709551616) (hg : Good x y) (W : World) :
    Calls Try.prog 6 #[.float .f64 x, .float .f64 y, .float .f64 lo, .float .f64 hi] W (Returns W) := by
  obtain ⟨⟨gx1, gx2⟩, ⟨gy1, gy2⟩, ex, ey⟩ := hg
  obtain ⟨h1, h2, m, d1, d2, d3, d4, mm⟩ := middle (fin_of ⟨gx1, gx2⟩) (fin_of ⟨gy1, gy2⟩) ex ey
  obtain ⟨hm, mf, mg, ml⟩ := mm
  obtain ⟨gm1, gm2⟩ := cls_fin mf
  have M1 := Lib.hid (mid_good x y h1 h2 m d1 d2 d3)
  have M2 := Lib.hid (mid_good y x h2 h1 m d2 d1 d4)
  clear d1 d2 d3 d4 mf
  have hc := clamp_small x lo hi hx hl hh
  have ss := same_self m
  have ct := clamp_twice x lo hi
  cases hb : lsB hi lo
  · have ct' := ct hb
    clear ct
    cases a : geB m x <;> cases b : leB m x
    all_goals
      simp only [a, b, true_or, false_or, Bool.false_eq_true] at mg ml
      unfold geB at *; unfold leB at *
      go_enter Try.func6, Try.ntmps6
      go_wp2_with (first | (go_at_call 10; refine (less_any _ _ (by assumption) (by assumption) _).mono ?_; rintro e w' ⟨rfl, rfl⟩) | (go_at_call 12; refine (same_any _ _ (clamp_small _ _ _ (by assumption) (by assumption) (by assumption)) (by assumption) _).mono ?_; rintro e w' ⟨rfl, rfl⟩) | (go_at_call 8; refine (class_any _ (by assumption) _).mono ?_; rintro e w' ⟨rfl, rfl⟩) | (go_at_call 7; refine (awake_any _).mono ?_; rintro e w' ⟨rfl, rfl⟩) | (go_at_call 23; refine (exact_any _ _).mono ?_; rintro e w' ⟨rfl, rfl⟩) | (go_at_call 13; refine (refSame_any _ _ _).mono ?_; rintro e w' ⟨rfl, rfl⟩) | (go_at_call 14; refine (clamp_w _ _ _ (by assumption) (by assumption) (by assumption) _).mono ?_; rintro e w' ⟨rfl, rfl⟩))
      refine (M1.out _).mono ?_
      rintro e w' ⟨rfl, rfl⟩
      go_wp2_with (first | (go_at_call 10; refine (less_any _ _ (by assumption) (by assumption) _).mono ?_; rintro e w' ⟨rfl, rfl⟩) | (go_at_call 12; refine (same_any _ _ (clamp_small _ _ _ (by assumption) (by assumption) (by assumption)) (by assumption) _).mono ?_; rintro e w' ⟨rfl, rfl⟩) | (go_at_call 8; refine (class_any _ (by assumption) _).mono ?_; rintro e w' ⟨rfl, rfl⟩) | (go_at_call 7; refine (awake_any _).mono ?_; rintro e w' ⟨rfl, rfl⟩) | (go_at_call 23; refine (exact_any _ _).mono ?_; rintro e w' ⟨rfl, rfl⟩) | (go_at_call 13; refine (refSame_any _ _ _).mono ?_; rintro e w' ⟨rfl, rfl⟩) | (go_at_call 14; refine (clamp_w _ _ _ (by assumption) (by assumption) (by assumption) _).mono ?_; rintro e w' ⟨rfl, rfl⟩))
      refine (M2.out _).mono ?_
      rintro e w' ⟨rfl, rfl⟩
      go_wp2_with (first | (go_at_call 10; refine (less_any _ _ (by assumption) (by assumption) _).mono ?_; rintro e w' ⟨rfl, rfl⟩) | (go_at_call 12; refine (same_any _ _ (clamp_small _ _ _ (by assumption) (by assumption) (by assumption)) (by assumption) _).mono ?_; rintro e w' ⟨rfl, rfl⟩) | (go_at_call 8; refine (class_any _ (by assumption) _).mono ?_; rintro e w' ⟨rfl, rfl⟩) | (go_at_call 7; refine (awake_any _).mono ?_; rintro e w' ⟨rfl, rfl⟩) | (go_at_call 23; refine (exact_any _ _).mono ?_; rintro e w' ⟨rfl, rfl⟩) | (go_at_call 13; refine (refSame_any _ _ _).mono ?_; rintro e w' ⟨rfl, rfl⟩) | (go_at_call 14; refine (clamp_w _ _ _ (by assumption) (by assumption) (by assumption) _).mono ?_; rintro e w' ⟨rfl, rfl⟩))
      go_ret
      exact ⟨rfl, Grown.refl _⟩
  · clear ct
    cases a : geB m x <;> cases b : leB m x
    all_goals
      simp only [a, b, true_or, false_or, Bool.false_eq_true] at mg ml
      unfold geB at *; unfold leB at *
      go_enter Try.func6, Try.ntmps6
      go_wp2_with (first | (go_at_call 10; refine (less_any _ _ (by assumption) (by assumption) _).mono ?_; rintro e w' ⟨rfl, rfl⟩) | (go_at_call 12; refine (same_any _ _ (clamp_small _ _ _ (by assumption) (by assumption) (by assumption)) (by assumption) _).mono ?_; rintro e w' ⟨rfl, rfl⟩) | (go_at_call 8; refine (class_any _ (by assumption) _).mono ?_; rintro e w' ⟨rfl, rfl⟩) | (go_at_call 7; refine (awake_any _).mono ?_; rintro e w' ⟨rfl, rfl⟩) | (go_at_call 23; refine (exact_any _ _).mono ?_; rintro e w' ⟨rfl, rfl⟩) | (go_at_call 13; refine (refSame_any _ _ _).mono ?_; rintro e w' ⟨rfl, rfl⟩) | (go_at_call 14; refine (clamp_w _ _ _ (by assumption) (by assumption) (by assumption) _).mono ?_; rintro e w' ⟨rfl, rfl⟩))
      refine (M1.out _).mono ?_
      rintro e w' ⟨rfl, rfl⟩
      go_wp2_with (first | (go_at_call 10; refine (less_any _ _ (by assumption) (by assumption) _).mono ?_; rintro e w' ⟨rfl, rfl⟩) | (go_at_call 12; refine (same_any _ _ (clamp_small _ _ _ (by assumption) (by assumption) (by assumption)) (by assumption) _).mono ?_; rintro e w' ⟨rfl, rfl⟩) | (go_at_call 8; refine (class_any _ (by assumption) _).mono ?_; rintro e w' ⟨rfl, rfl⟩) | (go_at_call 7; refine (awake_any _).mono ?_; rintro e w' ⟨rfl, rfl⟩) | (go_at_call 23; refine (exact_any _ _).mono ?_; rintro e w' ⟨rfl, rfl⟩) | (go_at_call 13; refine (refSame_any _ _ _).mono ?_; rintro e w' ⟨rfl, rfl⟩) | (go_at_call 14; refine (clamp_w _ _ _ (by assumption) (by assumption) (by assumption) _).mono ?_; rintro e w' ⟨rfl, rfl⟩))
      refine (M2.out _).mono ?_
      rintro e w' ⟨rfl, rfl⟩
      go_wp2_with (first | (go_at_call 10; refine (less_any _ _ (by assumption) (by assumption) _).mono ?_; rintro e w' ⟨rfl, rfl⟩) | (go_at_call 12; refine (same_any _ _ (clamp_small _ _ _ (by assumption) (by assumption) (by assumption)) (by assumption) _).mono ?_; rintro e w' ⟨rfl, rfl⟩) | (go_at_call 8; refine (class_any _ (by assumption) _).mono ?_; rintro e w' ⟨rfl, rfl⟩) | (go_at_call 7; refine (awake_any _).mono ?_; rintro e w' ⟨rfl, rfl⟩) | (go_at_call 23; refine (exact_any _ _).mono ?_; rintro e w' ⟨rfl, rfl⟩) | (go_at_call 13; refine (refSame_any _ _ _).mono ?_; rintro e w' ⟨rfl, rfl⟩) | (go_at_call 14; refine (clamp_w _ _ _ (by assumption) (by assumption) (by assumption) _).mono ?_; rintro e w' ⟨rfl, rfl⟩))
      go_ret
      exact ⟨rfl, Grown.refl _⟩

/-- why the last line isn't asked: the first of its conditions that fails -/
theorem bad_cases (x y : Nat) (hg : ¬ Good x y) : ∀ P : Prop,
    (cls x < 2 → P) → (5 < cls x → P) →
    (2 ≤ cls x → cls x ≤ 5 → cls y < 2 → P) → (2 ≤ cls x → cls x ≤ 5 → 5 < cls y → P) →
    (2 ≤ cls x → cls x ≤ 5 → 2 ≤ cls y → cls y ≤ 5 → exactB x = false → P) →
    (2 ≤ cls x → cls x ≤ 5 → 2 ≤ cls y → cls y ≤ 5 → exactB x = true → exactB y = false → P) → P := by
  intro P p1 p2 p3 p4 p5 p6
  by_cases a : cls x < 2
  · exact p1 a
  by_cases b : 5 < cls x
  · exact p2 b
  by_cases c : cls y < 2
  · exact p3 (by omega) (by omega) c
  by_cases d : 5 < cls y
  · exact p4 (by omega) (by omega) d
  cases e : exactB x
  · exact p5 (by omega) (by omega) (by omega) (by omega) e
  · cases f : exactB y
    · exact p6 (by omega) (by omega) (by omega) (by omega) e f
    · exact absurd ⟨⟨by omega, by omega⟩, ⟨by omega, by omega⟩, e, f⟩ hg

set_option maxHeartbeats 2000000 in
theorem walk_bad (x y lo hi : Nat) (hx : x < 18446744073709551616) (hy : y < 18446744073709551616) (hl : lo < 18446744073709551616) (hh : hi < 18446744073709551616) (hg : ¬ Good x y) (W : World) :
    Calls Try.prog 6 #[.float .f64 x, .float .f64 y, .float .f64 lo, .float .f64 hi] W (Returns W) := by
  have hc := clamp_small x lo hi hx hl hh
  have ct := clamp_twice x lo hi
  cases hb : lsB hi lo
  · have ct' := ct hb
    clear ct
    refine bad_cases x y hg _ ?_ ?_ ?_ ?_ ?_ ?_ <;> clear hg <;> intros
    all_goals
      go_enter Try.func6, Try.ntmps6
      go_wp2_with (first | (go_at_call 10; refine (less_any _ _ (by assumption) (by assumption) _).mono ?_; rintro e w' ⟨rfl, rfl⟩) | (go_at_call 12; refine (same_any _ _ (clamp_small _ _ _ (by assumption) (by assumption) (by assumption)) (by assumption) _).mono ?_; rintro e w' ⟨rfl, rfl⟩) | (go_at_call 8; refine (class_any _ (by assumption) _).mono ?_; rintro e w' ⟨rfl, rfl⟩) | (go_at_call 7; refine (awake_any _).mono ?_; rintro e w' ⟨rfl, rfl⟩) | (go_at_call 23; refine (exact_any _ _).mono ?_; rintro e w' ⟨rfl, rfl⟩) | (go_at_call 13; refine (refSame_any _ _ _).mono ?_; rintro e w' ⟨rfl, rfl⟩) | (go_at_call 14; refine (clamp_w _ _ _ (by assumption) (by assumption) (by assumption) _).mono ?_; rintro e w' ⟨rfl, rfl⟩) | (go_at_call 22; refine (mid_any _ _ _).mono ?_; rintro e w' ⟨r, n, rfl, hr, rfl⟩))
      go_ret
      exact ⟨rfl, grown_drewN _ _⟩
  · clear ct
    refine bad_cases x y hg _ ?_ ?_ ?_ ?_ ?_ ?_ <;> clear hg <;> intros
    all_goals
      go_enter Try.func6, Try.ntmps6
      go_wp2_with (first | (go_at_call 10; refine (less_any _ _ (by assumption) (by assumption) _).mono ?_; rintro e w' ⟨rfl, rfl⟩) | (go_at_call 12; refine (same_any _ _ (clamp_small _ _ _ (by assumption) (by assumption) (by assumption)) (by assumption) _).mono ?_; rintro e w' ⟨rfl, rfl⟩) | (go_at_call 8; refine (class_any _ (by assumption) _).mono ?_; rintro e w' ⟨rfl, rfl⟩) | (go_at_call 7; refine (awake_any _).mono ?_; rintro e w' ⟨rfl, rfl⟩) | (go_at_call 23; refine (exact_any _ _).mono ?_; rintro e w' ⟨rfl, rfl⟩) | (go_at_call 13; refine (refSame_any _ _ _).mono ?_; rintro e w' ⟨rfl, rfl⟩) | (go_at_call 14; refine (clamp_w _ _ _ (by assumption) (by assumption) (by assumption) _).mono ?_; rintro e w' ⟨rfl, rfl⟩) | (go_at_call 22; refine (mid_any _ _ _).mono ?_; rintro e w' ⟨r, n, rfl, hr, rfl⟩))
      go_ret
      exact ⟨rfl, grown_drewN _ _⟩

theorem lt_of {b : Nat} (h : (Lit.float .f64 b).wf = true) : b < 18446744073709551616 := by simpa [Lit.wf] using h

theorem walk (a0 : Nat) (w0 : (Lit.float .f64 a0).wf = true) (a1 : Nat) (w1 : (Lit.float .f64 a1).wf = true) (a2 : Nat) (w2 : (Lit.float .f64 a2).wf = true) (a3 : Nat) (w3 : (Lit.float .f64 a3).wf = true) (W : World) :
    Calls Try.prog 6 #[.float .f64 a0, .float .f64 a1, .float .f64 a2, .float .f64 a3] W fun e w' => e = .returned (.bool true) ∧ Grown W w' := by
  by_cases hg : Good a0 a1
  · exact walk_good a0 a1 a2 a3 (lt_of w0) (lt_of w1) (lt_of w2) (lt_of w3) hg W
  · exact walk_bad a0 a1 a2 a3 (lt_of w0) (lt_of w1) (lt_of w2) (lt_of w3) hg W

theorem own : ownKnob Try.prog.godebug = none := by kernel_rfl

set_option maxRecDepth 100000 in
theorem lifted (os : Os) (started : os.Started) (H : Type) (enc : TypeId × Value → H) :
    ReturnsInHanded {} Try.checked os 6 .any (Rows.floatMidSpec.pre6 enc Try.prog Try.f6 Rows.floatMidRow.domain false) (Rows.floatMidSpec.post enc Try.prog Try.f6 false true false false) := by
  refine returnsInHanded_of_change (C := Try.checked) own started (by kernel_rfl) Try.func6
    (ChangeSpec.witness6 (enc := enc) (C := Try.checked) false ⟨#[], #[.float .f64 0, .float .f64 0, .float .f64 0, .float .f64 0], []⟩ 8 (by kernel_rfl) (by kernel_rfl) (by kernel_rfl) (by kernel_rfl)) ?_
  intro W base args ds gs before hval0 hW hcnd _
  have hval : ∀ (j : Nat) t v, Try.f6.params[j]? = some t → args[j]? = some v → Value.okWide Try.prog W .any base t v := hval0
  have hW' := hW
  obtain ⟨p, q, hA0, hV, rfl, hfz, hnd⟩ := hW
  have hA : DataW.TrodAll enc Try.prog W 0 (fun _ => true) true Try.f6.params.toList args.toList ds p := hA0
  rw [Try.params6] at hA hval
  obtain ⟨v0, vs0, d0, ds0, p0, q0, hargs, rfl, rfl, h0, r0⟩ := trodAll_cons hA
  obtain ⟨v1, vs1, d1, ds1, p1, q1, rfl, rfl, rfl, h1, r1⟩ := trodAll_cons r0
  obtain ⟨v2, vs2, d2, ds2, p2, q2, rfl, rfl, rfl, h2, r2⟩ := trodAll_cons r1
  obtain ⟨v3, vs3, d3, ds3, p3, q3, rfl, rfl, rfl, h3, r3⟩ := trodAll_cons r2
  obtain ⟨rfl, rfl, rfl⟩ := trodAll_nil r3
  obtain rfl : args = #[v0, v1, v2, v3] := by cases args; simp_all
  obtain ⟨rfl, rfl⟩ := trodVars_none hV
  obtain ⟨a0, rfl, rfl, rfl, w0⟩ := open_float Try.underlying22 (hval 0 22 v0 rfl rfl) h0
  obtain ⟨a1, rfl, rfl, rfl, w1⟩ := open_float Try.underlying22 (hval 1 22 v1 rfl rfl) h1
  obtain ⟨a2, rfl, rfl, rfl, w2⟩ := open_float Try.underlying22 (hval 2 22 v2 rfl rfl) h2
  obtain ⟨a3, rfl, rfl, rfl, w3⟩ := open_float Try.underlying22 (hval 3 22 v3 rfl rfl) h3
  clear hA0 hval0
  simp only [List.append_nil] at hW'
  refine (walk a0 w0 a1 w1 a2 w2 a3 w3 W).mono fun e W' ⟨he, hg⟩ => ?_
  subst he
  exact ⟨_, rfl, post_of_same (pa := []) (pv := []) hW' (fun _ _ _ => (trodAll_cons_mk (shut_bool Try.underlying4 _) trodAll_mk0)) (fun sp _ => (trodAll_cons_mk (shut_float Try.underlying22 w0) (trodAll_cons_mk (shut_float Try.underlying22 w1) (trodAll_cons_mk (shut_float Try.underlying22 w2) (trodAll_cons_mk (shut_float Try.underlying22 w3) trodAll_mk0))))) (fun _ _ => rfl) rfl
    (hg.frame _) hg.2.1 (ok_one (by kernel_rfl) rfl (okWide_bool_mk Try.underlying4 _))⟩

theorem holds : Rows.FloatMidSaid :=
  OpenClaim.holds_of_wide 6 Try.f6 rfl rfl rfl rfl rfl rfl rfl ⟨rfl, rfl, rfl, rfl, rfl⟩ rfl rfl rfl rfl rfl (by kernel_rfl) Try.func6 (by kernel_rfl)
    (of_decide_eq_true (by kernel_rfl)) (by unfold Func.isWrapper; first | (rw [if_pos (by decide +kernel)]; kernel_rfl) | (rw [if_neg (by decide +kernel)]; exact ⟨rfl, rfl⟩))
    (fun os started H enc _ => lifted os started H enc)

end Go.Proofs.Ytldohbpiicefpaa.floatMid
