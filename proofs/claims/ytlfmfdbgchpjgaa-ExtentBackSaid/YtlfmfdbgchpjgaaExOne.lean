import Derived.Test.YtlfmfdbgchpjgaaExBtw
import Derived.Laws.OwnMore
namespace Go.Proofs.Ytlfmfdbgchpjgaa
open Wd Ex Go.RowKit Go.ChangeShapes Go.WideShapes Go.Sort
set_option linter.unusedVariables false
set_option maxRecDepth 100000

/-- one extent in a block just made -/
theorem own_new {w : World} {base : Nat} (hb : base ≤ w.heap.size) (e : Ext) : OwnX (w.alloc (.cells (xc e) 29)) base (.slice (some ⟨w.heap.size, 0, none⟩) 1 1) [e] :=
  ⟨rfl, .inr ⟨w.heap.size, 1, xc e, rfl, hb, heap_alloc_new w _, Nat.le_refl _, by unfold maxLen; omega, rfl, rfl⟩⟩
theorem xOne (i p : Int) (w : World) : Calls Try.prog 23 #[.int .i64 i, .int .i64 p] w (MadeX (oneE i p) w) := by
  by_cases h : p < 1
  · have hd : oneE i p = [] := by unfold oneE; rw [if_pos h]
    rw [hd]
    clear hd
    go_enter Try.func23, Try.ntmps23
    go_wp2
    go_ret
    exact ⟨_, rfl, own_nilX _ _, Below.refl _ _⟩
  · have hd : oneE i p = [⟨i, 1, p⟩] := by unfold oneE; rw [if_neg h]
    rw [hd]
    clear hd
    go_enter Try.func23, Try.ntmps23
    go_wp2
    go_ret
    exact ⟨_, rfl, own_new (e := ⟨i, 1, p⟩) (Nat.le_refl _), (Below.refl _ _).alloc (Nat.le_refl _) _⟩
theorem xHole (a b : Int) (h : b ≤ a ∨ b - a ≤ 9223372036854775807) (w : World) : Calls Try.prog 28 #[.int .i64 a, .int .i64 b] w (MadeX (holeE a b) w) := by
  by_cases h1 : b ≤ a
  · have hd : holeE a b = [] := by unfold holeE; rw [if_pos h1]
    rw [hd]
    clear hd h
    go_enter Try.func28, Try.ntmps28
    go_wp2
    go_ret
    exact ⟨_, rfl, own_nilX _ _, Below.refl _ _⟩
  · have hd : holeE a b = [⟨a, b - a, 0⟩] := by unfold holeE; rw [if_neg h1]
    have q : wrap64 (b - a) = b - a := by unfold wrap64; omega
    rw [hd]
    clear hd h
    go_enter Try.func28, Try.ntmps28
    go_wp2
    go_ret
    exact ⟨_, rfl, own_new (e := ⟨a, b - a, 0⟩) (Nat.le_refl _), (Below.refl _ _).alloc (Nat.le_refl _) _⟩

theorem grown_via {w wr w' : World} {r0 r : Option Nat} (h : w.grownBy wr r0) (k : wr.grownBy w' r) (hr : ∀ g, r = some g → r0 = some g ∨ w.heap.size ≤ g) : w.grownBy w' r0 :=
  ⟨k.os.trans h.os, k.tape.trans h.tape, k.output.trans h.output, Nat.le_trans h.size k.size, fun b hb hne => (k.block b (Nat.lt_of_lt_of_le hb h.size) (fun e => by
    rcases hr b e.symm with h1 | h1
    · exact hne h1.symm
    · omega)).trans (h.block b hb hne)⟩
theorem grown_refl (w : World) (r : Option Nat) : w.grownBy w r := ⟨rfl, rfl, rfl, Nat.le_refl _, fun _ _ _ => rfl⟩
/-- the last one's length is set -/
theorem own_len {w : World} {base g cap : Nat} {i : List Ext} {x : Ext} (h : OwnX w base (.slice (some ⟨g, 0, none⟩) (i.length + 1) cap) (i ++ [x])) (u : Int) :
    OwnX (w.setCell ⟨g, i.length * 3 + 1, none⟩ (.int .i64 u)) base (.slice (some ⟨g, 0, none⟩) (i.length + 1) cap) (i ++ [⟨x.f, u, x.p⟩]) := by
  obtain ⟨h1, h2⟩ := h
  rcases h2 with ⟨h2, _⟩ | ⟨g', cap', cur, h2, hb, hh, hc, hm, hsz, ht⟩
  · cases h2
  · have h3 : g = g' ∧ cap = cap' := by injection h2 with a b c; injection a with a; injection a with a; exact ⟨a, c⟩
    obtain ⟨rfl, rfl⟩ := h3
    have hlen : (i ++ [x]).length = i.length + 1 := by simp
    rw [hlen] at hc ht
    refine ⟨by rw [xvals_len], .inr ⟨g, cap, cur.setIfInBounds (i.length * 3 + 1) (.int .i64 u), by simp, hb, ?_, by simpa using hc, hm, by simpa using hsz, ?_⟩⟩
    · exact (show Cells w g _ cur from hh).set _ _
    · rw [Array.toList_setIfInBounds, List.length_append, List.length_singleton, List.take_set, ht, xvals_snoc, xvals_snoc]
      rw [List.set_append_right _ _ (by rw [xvals_len]; omega), xvals_len]
      congr 1
      rw [show i.length * 3 + 1 - i.length * 3 = 1 by omega]
      rfl
end Go.Proofs.Ytlfmfdbgchpjgaa
