import Derived.Test.YtnjikgcigobcdaaPmEvi
namespace Go.Proofs.Ytnjikgcigobcdaa
open Wd Pm Go.Maps Go.RowKit
set_option linter.unusedVariables false

/-! a read -/
def St.loadErr (σ : St) (i : Int) : Int := refErr σ.dead (hasW σ.n i)
@[irreducible] def St.loadVal (σ : St) (i : Int) : Int := if refErr σ.dead (hasW σ.n i) = 0 then (σ.hd i).getD (σ.st i) else 0
theorem load_dev {w : World} {f : Fp} {σ : St} (h : Dev w f σ) (i : Int) : Calls Try.prog 43 #[f.ptr, .int .i64 i] w fun e w' => e = .returned (.tuple #[.int .u64 (σ.loadVal i), .int .i64 (refErr σ.dead (hasW σ.n i))]) ∧ w = w' := by
  have hp : f.ptr = .pointer (some ⟨f.p, 0, none⟩) := rfl
  have nle := h.good.nle
  unfold St.loadVal
  rw [hp]
  by_cases he : refErr σ.dead (hasW σ.n i) = 0
  · rw [if_pos he]
    obtain ⟨h0, h1⟩ := hasW_iff.1 (refErr_ok he).2
    obtain ⟨k, rfl⟩ := Int.eq_ofNat_of_zero_le h0
    have hk : k < σ.n := by omega
    have hw := wf_i (x := (k : Int)) (by omega) (by omega)
    have hq : (refErr σ.dead (hasW σ.n k) != 0) = false := by simpa using he
    have c0 := h.reads.c0
    have c1 := h.reads.c1
    have cw := h.word k hk
    have HE := Lib.hid he
    clear he hp
    cases hc : σ.hd (k : Int) with
    | none =>
      have HC := Lib.hid hc
      clear hc
      go_enter Try.func43, Try.ntmps43
      go_wp2_with (first
        | (go_at_call 63; refine (hasWord_dev h _).mono ?_; rintro e w' ⟨rfl, rfl⟩)
        | (go_at_call 62; refine (refusal_dev h _).mono ?_; rintro e w' ⟨rfl, rfl⟩)
        | (at_lookup; refine wp_look_not _ rfl _ _ 71 rfl keyedInt Try.underlying71 Try.underlying49 Try.underlying3 (zeroU _) rfl h.2.2.1 _ rfl hw HC.out ?_))
      go_ret2
      exact ⟨by rw [HE.out]; rfl, rfl⟩
    | some c =>
      have HC := Lib.hid hc
      clear hc
      go_enter Try.func43, Try.ntmps43
      go_wp2_with (first
        | (go_at_call 63; refine (hasWord_dev h _).mono ?_; rintro e w' ⟨rfl, rfl⟩)
        | (go_at_call 62; refine (refusal_dev h _).mono ?_; rintro e w' ⟨rfl, rfl⟩)
        | (at_lookup; refine wp_look_yes _ rfl _ _ 71 rfl keyedInt Try.underlying71 Try.underlying49 Try.underlying3 (zeroU _) rfl h.2.2.1 _ rfl hw c HC.out ?_))
      go_ret2
      exact ⟨by rw [HE.out]; rfl, rfl⟩
  · rw [if_neg he]
    have hq := refErr_no he
    clear he hp
    go_enter Try.func43, Try.ntmps43
    go_wp2_with (first
      | (go_at_call 63; refine (hasWord_dev h _).mono ?_; rintro e w' ⟨rfl, rfl⟩)
      | (go_at_call 62; refine (refusal_dev h _).mono ?_; rintro e w' ⟨rfl, rfl⟩))
    go_ret2
    exact ⟨rfl, rfl⟩