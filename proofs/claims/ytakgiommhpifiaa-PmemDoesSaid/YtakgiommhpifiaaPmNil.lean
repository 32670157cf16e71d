import Derived.Test.YtakgiommhpifiaaPmEvi
namespace Go.Proofs.Ytakgiommhpifiaa
open Wd Pm Go.Maps Go.RowKit
set_option linter.unusedVariables false

/-! a read -/
def St.loadErr (σ : St) (i : Int) : Int := refErr σ.dead (hasW σ.n i)
@[irreducible] def St.loadVal (σ : St) (i : Int) : Int := if refErr σ.dead (hasW σ.n i) = 0 then (σ.hd i).getD (σ.st i) else 0
theorem load_dev {w : World} {f : Fp} {σ : St} (h : Dev w f σ) (i : Int) : Calls Try.prog 12 #[f.ptr, .int .i64 i] w fun e w' => e = .returned (.tuple #[.int .u64 (σ.loadVal i), .int .i64 (refErr σ.dead (hasW σ.n i))]) ∧ w = w' := by
  have hp : f.ptr = .pointer (some ⟨f.p, 0, none⟩) := rfl
  have nle := h.good.nle
  unfold St.loadVal
  rw [hp]
  by_cases he : refErr σ.dead (hasW σ.n i) = 0
  · rw [if_pos he]
    obtain ⟨h0, h1⟩ := hasW_iff.1 (refErr_ok he).2
    obtain ⟨k, rfl⟩ := Int.eq_ofNat_of_zero_le h0
    have hk : k < σ.n := by omega
    have hw := wf_i (x := (k : Int)) (by omega) (by omega)
    have hq : (refErr σ.dead (hasW σ.n k) != 0) = false := by simpa using he
    have c0 := h.reads.c0
    have c1 := h.reads.c1
    have cw := h.word k hk
    have HE := Lib.hid he
    clear he hp
    cases hc : σ.hd (k : Int) with
    | none =>
      have HC := Lib.hid hc
      clear hc
      go_enter Try.func12, Try.ntmps12
      go_wp2_with (first
        | (go_at_call 28; refine (hasWord_dev h _).mono ?_; rintro e w' ⟨rfl, rfl⟩)
        | (go_at_call 27; refine (refusal_dev h _).mono ?_; rintro e w' ⟨rfl, rfl⟩)
        | (at_lookup; refine wp_look_not _ rfl _ _ 52 rfl keyedInt Try.underlying52 Try.underlying29 Try.underlying3 (zeroU _) rfl h.2.2.1 _ rfl hw HC.out ?_))
      go_ret2
      exact ⟨by rw [HE.out]; rfl, rfl⟩
    | some c =>
      have HC := Lib.hid hc
      clear hc
      go_enter Try.func12, Try.ntmps12
      go_wp2_with (first
        | (go_at_call 28; refine (hasWord_dev h _).mono ?_; rintro e w' ⟨rfl, rfl⟩)
        | (go_at_call 27; refine (refusal_dev h _).mono ?_; rintro e w' ⟨rfl, rfl⟩)
        | (at_lookup; refine wp_look_yes _ rfl _ _ 52 rfl keyedInt Try.underlying52 Try.underlying29 Try.underlying3 (zeroU _) rfl h.2.2.1 _ rfl hw c HC.out ?_))
      go_ret2
      exact ⟨by rw [HE.out]; rfl, rfl⟩
  · rw [if_neg he]
    have hq := refErr_no he
    clear he hp
    go_enter Try.func12, Try.ntmps12
    go_wp2_with (first
      | (go_at_call 28; refine (hasWord_dev h _).mono ?_; rintro e w' ⟨rfl, rfl⟩)
      | (go_at_call 27; refine (refusal_dev h _).mono ?_; rintro e w' ⟨rfl, rfl⟩))
    go_ret2
    exact ⟨rfl, rfl⟩

/-! a device that nobody made -/
theorem hasWord_nil (w : World) (i : Int) : Calls Try.prog 28 #[.pointer none, .int .i64 i] w fun e w' => e = .returned (.bool false) ∧ w = w' := by
  by_cases h0 : i ≥ 0
  · have h1 : decide (i < 0) = false := by simp; omega
    go_enter Try.func28, Try.ntmps28
    go_wp2_with (go_at_call 20; refine (words_nil _).mono ?_; rintro e w' ⟨rfl, rfl⟩)
    go_ret
    exact ⟨rfl, rfl⟩
  · have h1 : decide (i ≥ 0) = false := by simp; omega
    go_enter Try.func28, Try.ntmps28
    go_wp2
    go_ret
    exact ⟨rfl, rfl⟩
theorem hasLine_nil (w : World) : Calls Try.prog 42 #[.pointer none, .int .i64 0] w fun e w' => e = .returned (.bool false) ∧ w = w' := by
  go_enter Try.func42, Try.ntmps42
  go_wp2_with (go_at_call 20; refine (words_nil _).mono ?_; rintro e w' ⟨rfl, rfl⟩)
  go_ret
  exact ⟨rfl, rfl⟩
theorem load_nil (w : World) : Calls Try.prog 12 #[.pointer none, .int .i64 0] w fun e w' => e = .returned (.tuple #[.int .u64 0, .int .i64 91]) ∧ w = w' := by
  go_enter Try.func12, Try.ntmps12
  go_wp2_with (first
    | (go_at_call 28; refine (hasWord_nil _ _).mono ?_; rintro e w' ⟨rfl, rfl⟩)
    | (go_at_call 27; refine (refusal_nil _ _).mono ?_; rintro e w' ⟨rfl, rfl⟩))
  go_ret2
  exact ⟨rfl, rfl⟩
def Err91 (w : World) (e : Ending) (w' : World) : Prop := e = .returned (.int .i64 91) ∧ Below w.heap.size w w'
theorem store_nil (w : World) (i v : Int) : Calls Try.prog 9 #[.pointer none, .int .i64 i, .int .u64 v] w (Err91 w) := by
  have B3 : Below w.heap.size w (((w.alloc (.cells #[.pointer none] 25)).alloc (.cells #[.int .i64 i] 3)).alloc (.cells #[.int .u64 v] 29)) := (((Below.refl _ _).alloc (Nat.le_refl _) _).alloc (by simp) _).alloc (by simp; omega) _
  have BH := Lib.hid B3
  clear B3
  go_enter Try.func9, Try.ntmps9
  go_wp2
  go_quiet ((first | (go_at_call 28; exact quiet_eq (hasWord_nil _ _)) | (go_at_call 27; exact quiet_eq (refusal_nil _ _))))
  go_wp2
  go_ret
  exact ⟨rfl, below_drewN BH.out _⟩
theorem flush_nil (w : World) : Calls Try.prog 22 #[.pointer none, .int .i64 0] w (Err91 w) := by
  have B3 : Below w.heap.size w ((w.alloc (.cells #[.pointer none] 25)).alloc (.cells #[.int .i64 0] 3)) := ((Below.refl _ _).alloc (Nat.le_refl _) _).alloc (by simp) _
  have BH := Lib.hid B3
  clear B3
  go_enter Try.func22, Try.ntmps22
  go_wp2
  go_quiet ((first | (go_at_call 42; exact quiet_eq (hasLine_nil _)) | (go_at_call 27; exact quiet_eq (refusal_nil _ _))))
  go_wp2
  go_ret
  exact ⟨rfl, below_drewN BH.out _⟩
theorem fence_nil (w : World) : Calls Try.prog 23 #[.pointer none] w fun e w' => e = .returned (.int .i64 91) ∧ w = w' := by
  go_enter Try.func23, Try.ntmps23
  go_wp2_with (go_at_call 27; refine (refusal_nil _ _).mono ?_; rintro e w' ⟨rfl, rfl⟩)
  go_ret
  exact ⟨rfl, rfl⟩
theorem evict_nil (w : World) : Calls Try.prog 34 #[.pointer none, .int .i64 0] w fun e w' => e = .returned (.bool false) ∧ w = w' := by
  go_enter Try.func34, Try.ntmps34
  go_wp2_with (first
    | (go_at_call 42; refine (hasLine_nil _).mono ?_; rintro e w' ⟨rfl, rfl⟩)
    | (go_at_call 27; refine (refusal_nil _ _).mono ?_; rintro e w' ⟨rfl, rfl⟩))
  go_ret
  exact ⟨rfl, rfl⟩
theorem dirty_nil (w : World) : Calls Try.prog 17 #[.pointer none] w fun e w' => e = .returned (.slice none 0 0) ∧ w = w' := by
  go_enter Try.func17, Try.ntmps17
  go_wp2_with (go_at_call 24; refine (made_nil _).mono ?_; rintro e w' ⟨rfl, rfl⟩)
  go_ret
  exact ⟨rfl, rfl⟩
theorem copy_nil (w : World) : Calls Try.prog 8 #[.pointer none] w fun e w' => e = .returned (.pointer none) ∧ w = w' := by
  go_enter Try.func8, Try.ntmps8
  go_wp2_with (go_at_call 24; refine (made_nil _).mono ?_; rintro e w' ⟨rfl, rfl⟩)
  go_ret
  exact ⟨rfl, rfl⟩
theorem crash_nil (w : World) : Calls Try.prog 10 #[.pointer none, .slice none 0 0] w fun e w' => e = .returned (.tuple #[]) ∧ w = w' := by
  go_enter Try.func10, Try.ntmps10
  go_wp2_with (go_at_call 24; refine (made_nil _).mono ?_; rintro e w' ⟨rfl, rfl⟩)
  refine bodyPost_ret (results_none rfl _ _ _) rfl ?_
  exact ⟨rfl, rfl⟩
end Go.Proofs.Ytakgiommhpifiaa
