import Derived.Test.YthonpifdhjpbgaaSoSort
import Derived.Test.YthonpifdhjpbgaaFlRef
namespace Go.Proofs.Ythonpifdhjpbgaa
open Wd So Go.ChangeShapes Go.WideShapes Go.RowKit
set_option linter.unusedVariables false

theorem infof64 : (Try.prog.info? 26).map (fun i => (i.zero, i.size, i.bytes)) = some (some (.float .f64 0), 1, 8) := by kernel_rfl
theorem sizef64 : (Try.prog.info? 26).map (·.size) = some 1 := by kernel_rfl

/-- a rising list of its own -/
def SortedNew (xs : List Nat) (n : Nat) (W : World) (e : Ending) (w : World) : Prop :=
  ∃ g ys, e = .returned (.slice (some ⟨g, 0, none⟩) n n) ∧ ys.Perm xs ∧ Srt rk 0 n ys ∧ FRow w g ys ∧ W.heap.size ≤ g ∧ Below W.heap.size W w

theorem oneF' (l : List Nat) : ∀ u ∈ l.map (Value.float .f64), u.oneCell' = true := oneF l

set_option maxHeartbeats 1000000 in
theorem sort_any (A : Option Addr) (n c : Nat) (xs : List Nat) (w : World) (hL : xs.length = n) (hn : n ≤ 40) (hwd : Words xs) (hr : Row w w.heap.size A n (xs.map (Value.float .f64))) :
    Calls Try.prog 23 #[.slice A n c] w (SortedNew xs n w) := by
  have hmk := fun W => make_row (P := Try.prog) 22 26 (.float .f64 0) 8 Try.underlying22 infof64 rfl n (by omega) (by omega) W
  have hg0 : (w.alloc (.cells (Array.replicate n (Value.float .f64 0)) 26)).heap[w.heap.size]? = some (.cells (List.replicate n (Value.float .f64 0)).toArray 26 (0, 0)) := by
    rw [List.toArray_replicate]; exact Cells.new _ _ _
  have hsrc : 0 < (xs.map (Value.float .f64)).length → some (⟨w.heap.size, 0, none⟩ : Addr) = some ⟨w.heap.size, 0, none⟩ ∧ ∃ ad, A = some ad ∧ ∀ j v, (xs.map (Value.float .f64))[j]? = some v → (w.alloc (.cells (Array.replicate n (Value.float .f64 0)) 26)).cell? (ad.add j) = some v := by
    intro h
    obtain ⟨b, off, rfl, hb, hc⟩ := hr.2 (by simp at h; omega)
    refine ⟨rfl, _, rfl, fun j v hv => ?_⟩
    obtain ⟨hj, rfl⟩ := List.getElem?_eq_some_iff.1 hv
    have e : (⟨b, off, none⟩ : Addr).add j = ⟨b, off + j, none⟩ := by unfold Addr.add; split <;> simp_all
    rw [e, World.cell?_alloc_lt _ _ _ (by exact hb)]
    exact hc j hj
  have HG0 := Lib.hid hg0; have HSRC := Lib.hid hsrc; have HL := Lib.hid hL; have HW := Lib.hid hwd
  clear hg0 hsrc hL hwd hr
  go_enter Try.func23, Try.ntmps23
  go_wp2_with (with_reducible refine wpList_copy_splice rfl (.tmp 7) (.tmp 8) 22 22 rfl 26 Try.underlying22 sizef64 (some ⟨w.heap.size, 0, none⟩) A n n n c rfl rfl w.heap.size 0 (List.replicate n (Value.float .f64 0)) 26 HG0.out (xs.map (Value.float .f64)) (by rw [List.length_map, HL.out]; exact (Nat.min_self n).symm) HSRC.out (by simp [HL.out]) (oneF xs) w.heap.size w ((Below.refl _ _).alloc (Nat.le_refl _) _) (Nat.le_refl _) ?_; intro w1 hcell hbel)
  have hfr : FRow w1 w.heap.size xs := by
    have h := hcell.out
    have e : splice (List.replicate n (Value.float .f64 0)) 0 (xs.map (Value.float .f64)) = xs.map (Value.float .f64) := by
      have := HL.out
      simp [splice, this]
    rw [e] at h
    exact h
  have HFR := Lib.hid hfr
  have hz : w.heap.size < w1.heap.size := Cells.lt hfr
  clear hfr hcell
  refine (stableFunc_any w.heap.size n n xs _ HL.out hn HW.out HFR.out).mono ?_
  rintro en w2 ⟨rfl, ys, k, ks, hr2, hg2⟩
  have KS := Lib.hid ks
  have KP := Lib.hid k.perm
  clear ks k
  go_wp2
  go_ret
  exact ⟨w.heap.size, ys, rfl, KP.out, KS.out, hr2, Nat.le_refl _, hbel.grown hg2 hbel.size (fun q hq => by injection hq with hq; omega)⟩
end Go.Proofs.Ythonpifdhjpbgaa
