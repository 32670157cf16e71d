import Derived.Test.YtnoojhkkojijpaaDoorEfSml
import Derived.Test.YtnoojhkkojijpaaDoorEfFew
import Derived.RangeFuncNested
import Derived.RangeFuncBound
import Derived.RangeFuncCalls
import Derived.RangeFuncLeaves
import Derived.Shelf.Abstract
import Derived.Shelf.RegionOpen
import Derived.OwnWalkIn
import Derived.TacticsInMore
import Derived.LoopNIn
import Derived.LoopIn
/-
  slices.Backward over a row of effects: what it hands to a loop's body, the last one first.
-/
namespace Go.Proofs.YtnoojhkkojijpaaDoor
open Wd U Go.RowKit Go.ChangeShapes Go.WideShapes Go.Shelf
set_option linter.unusedVariables false
attribute [local go_sem] Oper.semAt_some

/-- what has come when k rounds are over -/
def backs (l : List Eff) (k : Nat) : List (Nat × Eff) := (List.range k).map (fun j => (l.length - 1 - j, (l[l.length - 1 - j]?).getD default))
theorem backs_succ (l : List Eff) (k : Nat) : backs l (k + 1) = backs l k ++ [(l.length - 1 - k, (l[l.length - 1 - k]?).getD default)] := by simp [backs, List.range_succ]
theorem backs_length (l : List Eff) (k : Nat) : (backs l k).length = k := by simp [backs]

set_option maxRecDepth 100000 in
set_option maxHeartbeats 4000000 in
theorem back_in (F : Fence) (n : Nat) (h7 : F.fn 30) (hro : F.round = none) (hn : 1 ≤ n) (lp Bs n₀ : Nat) (A : Option Addr) (cap : Nat) (l : List Eff) (hm : l.length ≤ 1000) (J Jx : List (Nat × Eff) → World → Prop)
    (hY : ∀ pre (x : Nat × Eff) W, J pre W → pre.length < l.length → YieldAt F (n - 1) Tryd.prog lp #[.int .i64 (x.1 : Int), x.2.val] W fun e W' =>
      (e = .returned (.bool true) ∧ J (pre ++ [x]) W' ∧ Below n₀ W W') ∨ (e = .returned (.bool false) ∧ Jx (pre ++ [x]) W'))
    (W : World) (hBs : W.cell? ⟨Bs, 0, none⟩ = some (.slice A l.length cap)) (hBn : Bs < n₀) (hE : Effs W n₀ A l) (h0 : J [] W) :
    CallsIn F n Tryd.prog 30 #[.func (.yield lp) #[] #[], .pointer (some ⟨Bs, 0, none⟩)] W fun e W' => (∃ v, e = .returned v) ∧
      (J (backs l l.length) W' ∨ (∃ k, k ≤ l.length ∧ Jx (backs l k) W')) := by
  refine callsIn_of_wp Tryd.func30 rfl h7 ?_ hro
  simp only [Tryd.ntmps30, List.size_toArray, List.length_cons, List.length_nil, Nat.reduceAdd, Nat.reduceSub, Array.replicate_succ, Array.replicate_zero, List.push_toArray, List.append_toArray, List.nil_append, List.cons_append]
  have hw1 : wrap64 ((l.length : Int) - 1) = (l.length : Int) - 1 := by unfold wrap64; omega
  gi_wp2
  gi_loopw [3] (fun i wr => ∃ k : Nat, k ≤ l.length ∧ i = .int .i64 ((l.length : Int) - 1 - k) ∧ J (backs l k) wr ∧ Below n₀ W wr) (fun i _ => (intOf i + 1).toNat)
  case atStart => exact ⟨0, Nat.zero_le _, by simp, h0, Below.refl _ _⟩
  case round =>
    obtain ⟨k, hk, rfl, hJs, hnx⟩ := hrel
    have hB := (hnx.cell (p := ⟨Bs, 0, none⟩) hBn).trans hBs
    by_cases hlt : k < l.length
    · obtain ⟨p, hp⟩ : ∃ p, l.length = p + 1 + k := ⟨l.length - 1 - k, by omega⟩
      have hpl : p < l.length := by omega
      have hi : (l.length : Int) - 1 - k = (p : Int) := by omega
      rw [hi]
      obtain ⟨e, he⟩ : ∃ e, l[p]? = some e := ⟨_, List.getElem?_eq_getElem hpl⟩
      have hs := backs_succ l k
      rw [show l.length - 1 - k = p by omega, he, Option.getD_some] at hs
      obtain ⟨fn, tmps, assign, body, hy, hR⟩ := hY _ (p, e) wr hJs (by rw [backs_length]; exact hlt)
      unfold Eff.val at hy
      dsimp only at hy
      obtain ⟨b, off, rfl, hbB, x0, x1, x2, x3, x4, x5, x6, x7, x8⟩ := effs_cells (hE.below hnx) he
      have q0 : decide ((p : Int) ≥ 0) = true := decide_eq_true (by omega)
      have hw2 : wrap64 ((p : Int) - 1) = (p : Int) - 1 := by unfold wrap64; omega
      have HS := Lib.hid hs; have HP := Lib.hid hp
      have hpi : (p : Int) < (l.length : Int) := by omega
      clear hs hi he hp
      gi_wp2
      refine hR.mono ?_
      rintro e W3 (⟨rfl, hJ3, hk3⟩ | ⟨rfl, hJx3⟩)
      · gi_wp2
        go_roundw
        case rel => exact ⟨k + 1, by omega, by have := HP.out; simp; omega, by rw [HS.out]; exact hJ3, hnx.trans hk3⟩
        case measure => simp [intOf]
      · gi_wp2
        refine bodyPost_ret (results_none rfl _ _ _) rfl ?_
        exact ⟨⟨_, rfl⟩, .inr ⟨k + 1, by omega, by rw [HS.out]; exact hJx3⟩⟩
    · obtain rfl : k = l.length := by omega
      have hi : (l.length : Int) - 1 - l.length = -1 := by omega
      rw [hi]
      gi_wp2
      go_end0
      exact ⟨⟨_, rfl⟩, .inl hJs⟩
end Go.Proofs.YtnoojhkkojijpaaDoor
