import Derived.Test.YtbejbiogabpmfaaGreatG06
import Derived.RangeFuncNested
import Derived.RangeFuncBound
import Derived.RangeFuncCalls

/-! A range over a function whose iterator tells, of each thing, what holds of it in the world in which it is handed on; the body never ends the loop. -/
namespace Go.Proofs.YtbejbiogabpmfaaGreat
open Go.RowKit
set_option linter.unusedVariables false
/-- the iterator g goes through things of which Ok holds as they are handed on; behind it S holds of all of them -/
def SeqTells {α : Type} (F : Fence) (n : Nat) (P : Program) (g : Nat) (lb : Array Value) (encs : α → Array Value) (Kp : World → World → Prop) (Ok : α → World → Prop) (S : List α → World → Prop) (N : Nat) (w : World) : Prop :=
  ∀ (l : Nat) (J : List α → World → Prop) (W : World), Below w.heap.size w W → OwnFrom W.heap.size J →
    (∀ pre x W1, J pre W1 → Ok x W1 → pre.length < N → YieldAt F (n - 1) P l (encs x) W1 fun e W' => e = .returned (.bool true) ∧ J (pre ++ [x]) W' ∧ Kp W1 W' ∧ KeepsFrom W.heap.size W1 W') →
    J [] W → CallsIn F n P g (#[.func (.yield l) #[] #[]] ++ lb) W fun e W' => (∃ v, e = .returned v) ∧ ∃ xs, S xs W' ∧ J xs W'
theorem ownFrom_mono {β : Type} {B B' : Nat} {I : β → World → Prop} (h : OwnFrom B I) (hB : B ≤ B') : OwnFrom B' I := fun s X Y row hs hg hr => h s X Y row hs hg fun r e => ⟨Nat.le_trans hB (hr r e).1, (hr r e).2⟩
theorem keepsFrom_mono {B B' : Nat} {W W' : World} (h : KeepsFrom B W W') (hB : B ≤ B') : KeepsFrom B' W W' := ⟨h.size, fun k o hk => h.same k o (Nat.le_trans hB hk)⟩
theorem wp_range_tells {α : Type} {F : Fence} {n : Nat} {P : Program} {g : Operand} {ps : Array Tmp} {assign body : Code} {Q : Exit → Act → World → Prop} {a : Act} {w : World}
    (hro : F.round = none) (h1 : 1 ≤ n) {gf : Nat} {lb : Array Value} (hg : a.eval g = .func (.func gf) #[] lb) (hFg : F.fn gf) (eg : ∀ args w, (callFunc gf args).run P w = .ok (.enter gf args) w)
    {encs : α → Array Value} {Kp : World → World → Prop} {Ok : α → World → Prop} {S : List α → World → Prop} {N : Nat} (hseq : SeqTells F (n - 1) P gf lb encs Kp Ok S N w)
    (hKt : ∀ {A B C : World}, Kp A B → Kp B C → Kp A C) (hKb : ∀ (W : World) (o o' : Obj), W.heap[w.heap.size + 1]? = some o → o.isCells = false → o.isWalk = false → Kp W (W.putObj (w.heap.size + 1) o'))
    (hS : OwnFrom w.heap.size S) (hps : ∀ x, (encs x).size = ps.size)
    (I : List α → World → Prop) (hI : OwnFrom w.heap.size I) (h0 : I [] w) (Ax : α → Act → World → Prop) (hAx : ∀ x a', OwnFrom w.heap.size (fun (_ : Unit) W => Ax x a' W))
    (hassign : ∀ (l : Nat) (pre : List α) (x : α) (W : World) (K : Act → World → Prop), I pre W → Ok x W → (∀ a' W', KeepsFrom w.heap.size W W' → Kp W W' → I pre W' → Ax x a' W' → K a' W') →
      assign.wpIn (F.inRound l) (n - 1 - 1) P (Exit.then K (fun _ _ _ => False)) { tmps := (ps.zip (encs x)).foldl (fun t (p, v) => t.setIfInBounds p v) a.tmps, defers := [] } W)
    (hbody : ∀ (l : Nat) (pre : List α) (x : α) (a' : Act) (W : World), w.heap.size ≤ l → I pre W → Ax x a' W → pre.length < N → body.wpIn (F.inRound l) (n - 1 - 1) P (ownPostG w.heap.size Kp I (fun _ _ _ => False) (pre ++ [x]) W) a' W)
    (hdone : ∀ (D : Nat) (xs : List α) (W : World), w.heap.size ≤ D → S xs W → I xs W → W.heap[D]? = some (.deferred (some [])) → Q .normal { a with defers := { target := .collected D, args := #[] } :: a.defers } W) :
    (Code.rangeFunc g ps assign body).wpIn F n P Q a w := by
  refine wpIn_rangeFunc fun fn hfn => ?_
  rw [hro]
  obtain ⟨L, hL⟩ : ∃ L : LoopState → Option Code → Loop, L = fun st pe => { state := st, pending := pe, fn, tmps := a.tmps, params := ps, assign, body, defers := w.heap.size } := ⟨_, rfl⟩
  obtain ⟨V, hV⟩ : ∃ V, (w.alloc (.deferred (some []))).alloc (.loop (L .ready none)) = V := ⟨_, rfl⟩
  have hs : (w.alloc (.deferred (some []))).heap.size = w.heap.size + 1 := World.size_alloc _ _
  have v1 : V.heap[w.heap.size + 1]? = some (.loop (L .ready none)) := by rw [← hV, ← hs]; exact World.alloc_heap_new _ _
  have v0 : V.heap[w.heap.size]? = some (.deferred (some [])) := by rw [← hV]; exact (Below.heap_alloc _ _ _ (by omega)).trans (World.alloc_heap_new w _)
  have vb : Below w.heap.size w V := by rw [← hV]; exact ((Below.refl _ w).alloc (Nat.le_refl _) _).alloc (by omega) _
  have vs : V.heap.size = w.heap.size + 2 := by rw [← hV, World.size_alloc, hs]
  have vB : w.heap.size ≤ V.heap.size := by omega
  have vI : I [] V := by rw [← hV]; exact hI.alloc _ (hI.alloc _ h0)
  have busy : ∀ W : World, W.heap[w.heap.size + 1]? = some (.loop (L .ready none)) → w.heap.size + 1 < W.heap.size := fun W h => (Array.getElem?_eq_some_iff.1 h).1
  refine ⟨w.heap.size + 1, [{ target := .collected w.heap.size, args := #[] }], V, { target := .fn (.func gf) lb, args := #[.func (.yield (w.heap.size + 1)) #[] #[]] }, V, gf, #[.func (.yield (w.heap.size + 1)) #[] #[]] ++ lb, V,
    by rw [← hV, hL]; exact run_enterLoop_outer _ _ _ _ _, by simp only [resolve, hg]; simp [go_sem], fun f' hf' => by simp [Target.leads] at hf'; subst hf'; exact hFg, by simp [invoke, go_sem, eg], fun _ => h1, ?_⟩
  refine (hseq (w.heap.size + 1) (fun pre W => I pre W ∧ W.heap[w.heap.size + 1]? = some (.loop (L .ready none)) ∧ W.heap[w.heap.size]? = some (.deferred (some []))) V vb ?_ ?_ ⟨vI, v1, v0⟩).mono ?_
  · rintro s X Y row ⟨x1, x2, x3⟩ hgr hr
    have hr' : ∀ r, row = some r → w.heap.size + 2 ≤ r := fun r e => by have := (hr r e).1; omega
    refine ⟨hI s X Y row x1 hgr fun r e => ⟨by have := hr' r e; omega, (hr r e).2⟩, (hgr.block _ (Array.getElem?_eq_some_iff.1 x2).1 fun e => ?_).trans x2, (hgr.block _ (Array.getElem?_eq_some_iff.1 x3).1 fun e => ?_).trans x3⟩
    · have := hr' _ e.symm; omega
    · have := hr' _ e.symm; omega
  · rintro pre x W ⟨x1, x2, x3⟩ hok hlen
    have hy := run_yield (P := P) (args := encs x) x2 (by rw [hL]; exact hps x)
    rw [hL] at hy
    refine ⟨fn, _, assign, body, hy, roundIn_of_wpIn hfn (hassign _ pre x W _ x1 hok fun a' Wa ka kp ia ax => ?_)⟩
    clear hy
    have y2 := ka.same _ _ (by omega) x2 rfl
    have y3 := ka.same _ _ (Nat.le_refl _) x3 rfl
    have hlt := busy Wa y2
    refine ⟨_, run_beginRound y2 (by rw [hL]), ?_⟩
    have z2 : (Wa.putObj (w.heap.size + 1) (.loop { L .ready none with state := .busy })).heap[w.heap.size + 1]? = some (.loop { L .ready none with state := .busy }) := World.putObj_heap_same hlt
    have z3 : (Wa.putObj (w.heap.size + 1) (.loop { L .ready none with state := .busy })).heap[w.heap.size]? = some (.deferred (some [])) := (World.putObj_heap_other (by omega)).trans y3
    refine wpIn_mono (hbody _ pre x a' _ (by omega) (hI.putObj _ ia (by omega) y2 rfl) ((hAx x a').putObj (s := ()) _ ax (by omega) y2 rfl) hlen) ?_
    rintro e a3 W3 hp
    cases e with
    | normal =>
      obtain ⟨k3, p3, i3⟩ := hp
      have u2 := k3.same _ _ (by omega) z2 rfl
      have u3 := k3.same _ _ (Nat.le_refl _) z3 rfl
      have hend := run_endRound (P := P) none u2
      rw [hL] at hend
      refine ⟨_, _, hend, rfl, ⟨hI.putObj _ i3 (by omega) u2 rfl, ?_, (World.putObj_heap_other (by omega)).trans u3⟩, hKt kp (hKt (hKt (hKb _ _ _ y2 rfl rfl) p3) (hKb _ _ _ u2 rfl rfl)),
        ((((keepsFrom_mono ka vB).trans (KeepsFrom.of_grownBy (grownBy_putObj' Wa _ _) fun j e => by cases e; omega)).trans (keepsFrom_mono k3 vB)).trans (KeepsFrom.of_grownBy (grownBy_putObj' W3 _ _) fun j e => by cases e; omega))⟩
      rw [World.putObj_heap_same (Array.getElem?_eq_some_iff.1 u2).1, hL]; rfl
    | ret => exact hp.2.elim
    | exit id => exact hp.2.elim
    | goto t => exact hp.2.elim
    | panic ch => exact hp.elim
    | outgrown => exact hp.elim
  · rintro e W2 ⟨⟨v, rfl⟩, xs, hSx, x1, x2, x3⟩
    have hend := run_endLoop (P := P) x2 (by rw [hL]; simp)
    rw [hL] at hend
    exact ⟨none, _, hend, hdone _ xs _ (Nat.le_refl _) (hS.putObj _ hSx (by omega) x2 rfl) (hI.putObj _ x1 (by omega) x2 rfl) ((World.putObj_heap_other (by omega)).trans x3)⟩
end Go.Proofs.YtbejbiogabpmfaaGreat
