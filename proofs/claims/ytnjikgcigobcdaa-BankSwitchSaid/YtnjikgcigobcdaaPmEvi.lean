import Derived.Test.YtnjikgcigobcdaaPmAw
namespace Go.Proofs.Ytnjikgcigobcdaa
open Wd Pm Go.Maps Go.RowKit
set_option linter.unusedVariables false

theorem own_turn {w w' : World} {base n : Nat} {e : TypeId} {v : Value} {xs : List Value} {S : List Nat} (h : w.ownsRow base e 1 v n xs) (t : Turn w w' S) (hS : ∀ q, v.ownBlock = some q → q ∉ S) : w'.ownsRow base e 1 v n xs := by
  refine ⟨h.1, ?_⟩
  rcases h.2 with ⟨rfl, h0⟩ | ⟨g, cap, cur, rfl, hb, hh, h1, h2, hs, ht⟩
  · exact .inl ⟨rfl, h0⟩
  · exact .inr ⟨g, cap, cur, rfl, hb, (t.block g (lt_of_block hh) (hS g rfl)).trans hh, h1, h2, hs, ht⟩

/-! what an eviction makes of a device -/
def delL (F : IFn) (ks : List Int) : IFn := fun x => if x ∈ ks then none else F x
theorem delL_nil (F : IFn) : delL F [] = F := by funext x; simp [delL]
theorem delL_snoc (F : IFn) (ks : List Int) (y : Int) : (fun x => if x = y then none else delL F ks x) = delL F (ks ++ [y]) := by
  funext x
  unfold delL
  by_cases e : x = y
  · subst e; simp
  · simp [e]
theorem in_delL {F : IFn} {n : Nat} (h : ∀ x c, F x = some c → 0 ≤ x ∧ x < n ∧ U64 c) (ks : List Int) : ∀ x c, delL F ks x = some c → 0 ≤ x ∧ x < n ∧ U64 c := by
  intro x c hc
  unfold delL at hc
  split at hc
  · cases hc
  · exact h x c hc
def St.drop (σ : St) (ks : List Int) : St := { σ with st := evSt σ ks, hd := delL σ.hd ks, sn := delL σ.sn ks }
@[irreducible] def St.evict (σ : St) (line : Int) : St × Bool := if refErr σ.dead (hasL σ.n line) = 0 then (σ.drop (dirtyL σ.hd (line * 8) 8), decide (0 < (dirtyL σ.hd (line * 8) 8).length)) else (σ, false)
theorem dirtyL_nodup (F : IFn) (lo : Int) (m : Nat) : (dirtyL F lo m).Pairwise (· < ·) := by
  unfold dirtyL
  refine List.Pairwise.filter _ (List.pairwise_map.2 ?_)
  exact List.pairwise_lt_range.imp fun h => by omega

def EvRel (w1 : World) (f : Fp) (σ : St) (l : List Int) (i : Value) (wr : World) : Prop := ∃ k : Nat, k ≤ l.length ∧ i = .int .i64 k ∧ Dev wr f (σ.drop (l.take k)) ∧ Turn w1 wr f.blocks