import Derived.Test.YtnjikgcigobcdaaPmEv
namespace Go.Proofs.Ytnjikgcigobcdaa
open Wd Pm Go.Maps Go.RowKit
set_option linter.unusedVariables false

/-! what a store makes of a device -/
def put (F : IFn) (i v : Int) : IFn := fun y => if y = i then some v else F y
def del (F : IFn) (i : Int) : IFn := fun y => if y = i then none else F y
def St.hold (σ : St) (i v : Int) : St := { σ with hd := if σ.sn i = none ∧ v = σ.st i then del σ.hd i else put σ.hd i v }
theorem in_put {F : IFn} {n : Nat} (h : ∀ x c, F x = some c → 0 ≤ x ∧ x < n ∧ U64 c) {i v : Int} (hi : 0 ≤ i ∧ i < n) (hv : U64 v) : ∀ x c, put F i v x = some c → 0 ≤ x ∧ x < n ∧ U64 c := by
  intro x c hc
  unfold put at hc
  split at hc
  · rename_i e; subst e; cases hc; exact ⟨hi.1, hi.2, hv⟩
  · exact h x c hc
theorem in_del {F : IFn} {n : Nat} (h : ∀ x c, F x = some c → 0 ≤ x ∧ x < n ∧ U64 c) (i : Int) : ∀ x c, del F i x = some c → 0 ≤ x ∧ x < n ∧ U64 c := by
  intro x c hc
  unfold del at hc
  split at hc
  · cases hc
  · exact h x c hc

theorem hold_dev {w : World} {f : Fp} {σ : St} (h : Dev w f σ) (i v : Int) (hi : 0 ≤ i ∧ i < σ.n) (hv : U64 v) : Calls Try.prog 70 #[f.ptr, .int .i64 i, .int .u64 v] w fun e w' => e = .returned (.tuple #[]) ∧ Goes w f (σ.hold i v) w' := by
  obtain ⟨h0, h1⟩ := hi
  obtain ⟨k, rfl⟩ := Int.eq_ofNat_of_zero_le h0
  have hk : k < σ.n := by omega
  have nle := h.good.nle
  have hw := wf_i (x := (k : Int)) (by omega) (by omega)
  have c0 := h.reads.c0
  have c1 := h.reads.c1
  have c2 := h.reads.c2
  have cw := h.word k hk
  have hn : σ.n < maxLen := by unfold maxLen; omega
  have hp : f.ptr = .pointer (some ⟨f.p, 0, none⟩) := rfl
  rw [hp]
  clear hp
  unfold St.hold
  cases hs : σ.sn k with
  | some c =>
    have HS := Lib.hid hs
    simp only [reduceCtorEq, false_and, if_false]
    clear hs
    go_enter Try.func70, Try.ntmps70
    go_wp2_with (first
      | (at_lookup; refine wp_look_yes _ rfl _ _ 71 rfl keyedInt Try.underlying71 Try.underlying49 Try.underlying3 (zeroU _) rfl h.2.2.2.1 _ rfl hw c HS.out ?_)
      | (at_mapUpdate; refine wp_store _ rfl _ _ _ 71 rfl keyedInt Try.underlying71 Try.underlying49 Try.underlying3 rfl h.2.2.1 hn _ _ rfl rfl hw hv ?_; intro w1 hM hT))
    go_end0
    exact ⟨rfl, Goes.mk' (h.turnH hT hM (in_put h.good.hd ⟨h0, h1⟩ hv)) (Turn.grown hT.grown (memH f))⟩
  | none =>
    have HS := Lib.hid hs
    by_cases hv' : v = σ.st k
    · simp only [true_and, if_pos hv']
      have hq : (v == σ.st k) = true := by simpa using hv'
      clear hs
      go_enter Try.func70, Try.ntmps70
      go_wp2_with (first
        | (at_lookup; refine wp_look_not _ rfl _ _ 71 rfl keyedInt Try.underlying71 Try.underlying49 Try.underlying3 (zeroU _) rfl h.2.2.2.1 _ rfl hw HS.out ?_)
        | (at_delete; refine wp_drop _ rfl _ _ 71 rfl keyedInt Try.underlying71 Try.underlying3 rfl h.2.2.1 _ rfl hw ?_; intro w1 hM hT))
      refine bodyPost_ret (results_none rfl _ _ _) rfl ?_
      exact ⟨rfl, Goes.mk' (h.turnH hT hM (in_del h.good.hd _)) (Turn.grown hT.grown (memH f))⟩
    · simp only [true_and, if_neg hv']
      have hq : (v == σ.st k) = false := by simpa using hv'
      clear hs hv'
      go_enter Try.func70, Try.ntmps70
      go_wp2_with (first
        | (at_lookup; refine wp_look_not _ rfl _ _ 71 rfl keyedInt Try.underlying71 Try.underlying49 Try.underlying3 (zeroU _) rfl h.2.2.2.1 _ rfl hw HS.out ?_)
        | (at_mapUpdate; refine wp_store _ rfl _ _ _ 71 rfl keyedInt Try.underlying71 Try.underlying49 Try.underlying3 rfl h.2.2.1 hn _ _ rfl rfl hw hv ?_; intro w1 hM hT))
      go_end0
      exact ⟨rfl, Goes.mk' (h.turnH hT hM (in_put h.good.hd ⟨h0, h1⟩ hv)) (Turn.grown hT.grown (memH f))⟩
end Go.Proofs.Ytnjikgcigobcdaa
