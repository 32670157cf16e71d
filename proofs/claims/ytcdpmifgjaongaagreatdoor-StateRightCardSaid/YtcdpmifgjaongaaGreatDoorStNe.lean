import Derived.Test.YtcdpmifgjaongaaGreatDoorStNl
import Derived.Test.YtcdpmifgjaongaaGreatDoorG30
/-! A range over the nodes of a State that nobody made. -/
namespace Go.Proofs.YtcdpmifgjaongaaGreatDoor
open Wd Ino Sm U Go.Maps Go.RowKit Go.ChangeShapes Go.WideShapes Go.Shelf Go.Sort
set_option linter.unusedVariables false
set_option maxRecDepth 100000
theorem ne_seq {n : Nat} {w : World} {encs : Unit → Array Value} : SeqStopsK Fence.wide n Tryz.prog 53 #[] encs (fun _ _ => True) (fun xs : List Unit => xs = []) (fun _ => False) 0 w := by
  intro l J Jx W hW hJ hJx hY h0
  refine callsIn_wide.2 ?_
  go_enter Tryz.func53, Tryz.ntmps53
  go_wp2
  go_end0
  exact ⟨⟨_, rfl⟩, h0⟩
/-- nothing is gone through -/
theorem wp_none {n0 : Nat} (h3 : 3 ≤ n0) {w : World} {g : Operand} {ps : Array Tmp} {body : Code} {Q : Exit → Act → World → Prop} {a : Act}
    (hg : a.eval g = .func (.func 53) #[] #[]) (hps : ps.size = 2)
    (hdone : ∀ (D : Nat) (W : World), w.heap.size ≤ D → Below w.heap.size w W → W.heap[D]? = some (.deferred (some [])) → Q .normal { a with defers := { target := .collected D, args := #[] } :: a.defers } W) :
    (Code.rangeFunc g ps Code.skip body).wpIn Fence.wide n0 Tryz.prog Q a w := by
  refine wpIn_rangeFunc_ownH (α := Unit) rfl (by omega) (gf := 53) (lb := #[]) hg trivial (enters_of Tryz.func53 (by kernel_rfl) rfl)
    (ne_seq (w := w) (encs := fun _ => #[.int .i64 0, .int .i64 0])) (fun _ _ => trivial) (fun W l o o' hl h hc hw => trivial) (Below.refl _ _) (fun x => by rw [hps]; rfl) (fun _ W => Below w.heap.size w W) (fun _ _ _ => False) (ownFrom_below (Nat.le_refl _) (Nat.le_refl _)) (fun c s W W' row hs _ _ => hs) (Below.refl _ _) (fun _ _ _ => True) (fun _ _ _ _ _ _ _ _ _ => trivial) ?_ ?_ ?_ ?_
  · intro l pre x W K hi hK
    gi_wp2
    exact hK _ _ (KeepsFrom.refl _ _) trivial hi trivial
  · intro l pre x a' W hl hlp hi hax hlt
    exact absurd hlt (by omega)
  · intro D xs W hD hx hi hd
    exact hdone D W hD hi hd
  · intro D c pre W _ hx
    exact hx.elim
end Go.Proofs.YtcdpmifgjaongaaGreatDoor
