import Derived.Test.YtnijffgdapfgpaaPnMem
import Derived.RangeFuncNested
import Derived.RangeFuncBound
import Derived.RangeFuncCalls
import Derived.RangeFuncLeaves
import Derived.Shelf.Abstract
import Derived.Shelf.RegionOpen
import Derived.OwnWalkIn
import Derived.TacticsInMore
import Derived.LoopNIn
import Derived.LoopIn
/-! slices.Backward over the list's row: what it hands to a loop's body, the last one first. -/
namespace Go.Proofs.Ytnijffgdapfgpaa
open Wd U Go.RowKit Go.ChangeShapes Go.WideShapes Go.Shelf
set_option linter.unusedVariables false
attribute [local go_sem] Oper.semAt_some
def wbacks (l : List (Eff × Int)) (k : Nat) : List (Nat × Eff × Int) := (List.range k).map (fun j => (l.length - 1 - j, (l[l.length - 1 - j]?).getD default))
theorem wbacks_succ (l : List (Eff × Int)) (k : Nat) : wbacks l (k + 1) = wbacks l k ++ [(l.length - 1 - k, (l[l.length - 1 - k]?).getD default)] := by simp [wbacks, List.range_succ]
theorem wbacks_length (l : List (Eff × Int)) (k : Nat) : (wbacks l k).length = k := by simp [wbacks]
set_option maxRecDepth 100000 in
set_option maxHeartbeats 4000000 in
theorem wback_in (F : Fence) (n : Nat) (h7 : F.fn 22) (hro : F.round = none) (hn : 1 ≤ n) (lp Bs : Nat) (A : Option Addr) (cap : Nat) (l : List (Eff × Int)) (hm : l.length ≤ 1000) (J Jx : List (Nat × Eff × Int) → World → Prop) (Kp : World → World → Prop) (Hd : World → Prop)
    (hKp : ∀ X Y, Kp X Y → Hd X → Hd Y) (hHd : ∀ X, Hd X → X.cell? ⟨Bs, 0, none⟩ = some (.slice A l.length cap) ∧ ∀ (k : Nat) (x : Eff × Int), l[k]? = some x → ∃ q off, A = some ⟨q, off, none⟩ ∧ ∀ (j : Nat) (u : Value), (wcells x)[j]? = some u → X.cell? ⟨q, off + (k * 10 + j), none⟩ = some u)
    (hY : ∀ pre (x : Nat × Eff × Int) W, J pre W → pre.length < l.length → YieldAt F (n - 1) Try.prog lp #[.int .i64 (x.1 : Int), wval x.2] W fun e W' =>
      (e = .returned (.bool true) ∧ J (pre ++ [x]) W' ∧ Kp W W') ∨ (e = .returned (.bool false) ∧ Jx (pre ++ [x]) W'))
    (W : World) (h0 : J [] W) (hd0 : Hd W) :
    CallsIn F n Try.prog 22 #[.func (.yield lp) #[] #[], .pointer (some ⟨Bs, 0, none⟩)] W fun e W' => (∃ v, e = .returned v) ∧
      (J (wbacks l l.length) W' ∨ (∃ k, k ≤ l.length ∧ Jx (wbacks l k) W')) := by
  refine callsIn_of_wp Try.func22 rfl h7 ?_ hro
  simp only [Try.ntmps22, List.size_toArray, List.length_cons, List.length_nil, Nat.reduceAdd, Nat.reduceSub, Array.replicate_succ, Array.replicate_zero, List.push_toArray, List.append_toArray, List.nil_append, List.cons_append]
  have hw1 : wrap64 ((l.length : Int) - 1) = (l.length : Int) - 1 := by unfold wrap64; omega
  have hBs := (hHd W hd0).1
  gi_wp2
  clear hBs
  gi_loopw [3] (fun i wr => ∃ k : Nat, k ≤ l.length ∧ i = .int .i64 ((l.length : Int) - 1 - k) ∧ J (wbacks l k) wr ∧ Hd wr) (fun i _ => (intOf i + 1).toNat)
  case atStart => exact ⟨0, Nat.zero_le _, by simp, h0, hd0⟩
  case round =>
    obtain ⟨k, hk, rfl, hJs, hdw⟩ := hrel
    obtain ⟨hB, hx⟩ := hHd wr hdw
    by_cases hlt : k < l.length
    · obtain ⟨p, hp⟩ : ∃ p, l.length = p + 1 + k := ⟨l.length - 1 - k, by omega⟩
      have hpl : p < l.length := by omega
      have hi : (l.length : Int) - 1 - k = (p : Int) := by omega
      rw [hi]
      obtain ⟨e, he⟩ : ∃ e, l[p]? = some e := ⟨_, List.getElem?_eq_getElem hpl⟩
      have hs := wbacks_succ l k
      rw [show l.length - 1 - k = p by omega, he, Option.getD_some] at hs
      obtain ⟨fn, tmps, assign, body, hy, hR⟩ := hY _ (p, e) wr hJs (by rw [wbacks_length]; exact hlt)
      unfold wval at hy
      dsimp only at hy
      obtain ⟨q, off, hA, hxx⟩ := hx p e he
      clear hx
      subst hA
      have x0 := hxx 0 _ rfl; have x1 := hxx 1 _ rfl; have x2 := hxx 2 _ rfl; have x3 := hxx 3 _ rfl; have x4 := hxx 4 _ rfl; have x5 := hxx 5 _ rfl; have x6 := hxx 6 _ rfl; have x7 := hxx 7 _ rfl; have x8 := hxx 8 _ rfl; have x9 := hxx 9 _ rfl
      simp only [Nat.add_zero, ← Nat.add_assoc] at x0 x1 x2 x3 x4 x5 x6 x7 x8 x9
      have q0 : decide ((p : Int) ≥ 0) = true := decide_eq_true (by omega)
      have hw2 : wrap64 ((p : Int) - 1) = (p : Int) - 1 := by unfold wrap64; omega
      have HS := Lib.hid hs; have HP := Lib.hid hp
      have HDW := Lib.hid hdw
      have hpi : (p : Int) < (l.length : Int) := by omega
      clear hs hi he hp hxx hdw
      gi_wp2
      refine hR.mono ?_
      rintro e W3 (⟨rfl, hJ3, hk3⟩ | ⟨rfl, hJx3⟩)
      · gi_wp2
        go_roundw
        case rel => exact ⟨k + 1, by omega, by have := HP.out; simp; omega, by rw [HS.out]; exact hJ3, hKp _ _ hk3 HDW.out⟩
        case measure => simp [intOf]
      · gi_wp2
        refine bodyPost_ret (results_none rfl _ _ _) rfl ?_
        exact ⟨⟨_, rfl⟩, .inr ⟨k + 1, by omega, by rw [HS.out]; exact hJx3⟩⟩
    · obtain rfl : k = l.length := by omega
      have hi : (l.length : Int) - 1 - l.length = -1 := by omega
      rw [hi]
      clear hx
      gi_wp2
      go_end0
      exact ⟨⟨_, rfl⟩, .inl hJs⟩
end Go.Proofs.Ytnijffgdapfgpaa
