import Derived.Maps.OwnOps
import Derived.Maps.OwnSet
import Derived.Carry
import Derived.Test.YtjhchddmbbibpaaDoorPaFace
namespace Go.Proofs.YtjhchddmbbibpaaDoor
open Wd Pa Go.Maps Go.ChangeShapes Go.WideShapes Go.RowKit Go.Sort
set_option linter.unusedVariables false
abbrev keyI (x : Int) : Lit := .int .i64 x
abbrev yesB : DataW Unit := .lit (.bool true)
theorem keyI_lit (x : Int) : WideAt.IsKeyLit (keyI x) := trivial
/-- the datum reads as the set -/
def SetV (D : DataW Unit) (F : Int → Bool) : Prop := ∀ x, Maps.has D (keyI x) = F x ∧ (F x = true → ∀ z, D.atKey (keyI x) z = yesB)
def plus (F : Int → Bool) (x : Int) : Int → Bool := fun y => if y = x then true else F y
theorem setV_empty : SetV (.map []) (fun _ => false) := fun x => ⟨rfl, fun h => by cases h⟩
theorem SetV.put {D : DataW Unit} {F : Int → Bool} (h : SetV D F) (hm : IsMap D) (x : Int) : SetV (D.put (keyI x) yesB) (plus F x) := by
  intro y
  unfold plus
  by_cases e : y = x
  · subst e
    rw [if_pos rfl]
    exact ⟨by rw [has_put_same hm (keyI_lit y)], fun _ z => atKey_put_same hm (keyI_lit y) _ _⟩
  · rw [if_neg e]
    have hne : keyI y ≠ keyI x := fun h => e (by injection h)
    exact ⟨by rw [has_put_other hne]; exact (h y).1, fun hc z => by rw [atKey_put_other hne]; exact (h y).2 hc z⟩
/-- block b is a set of ints, of at most n entries -/
def Bp (w : World) (b n : Nat) (F : Int → Bool) : Prop := ∃ D : DataW Unit, w.ownsMap Tryd.prog 3 (plainElem Tryd.prog 4) b n D ∧ SetV D F
theorem keyedI : Keyed Tryd.prog 3 := int_keyed Tryd.underlying3
theorem zeroBo (w : World) : (zeroValue 4).run Tryd.prog w = .ok (.bool false) w := by kernel_rfl
section
variable {w w' : World} {b n : Nat} {F : Int → Bool}
theorem Bp.made (w : World) : Bp (w.alloc (.map #[] 0)) w.heap.size 0 (fun _ => false) := ⟨_, World.ownsMap_made w Tryd.prog 3 _, setV_empty⟩
theorem Bp.kept {row : Option Nat} (h : Bp w b n F) (hg : w.grownBy w' row) (hne : some b ≠ row) : Bp w' b n F := let ⟨D, h, v⟩ := h; ⟨D, h.kept hg hne, v⟩
theorem Bp.cells {c : Array Value} {T : TypeId} {g : Nat} (h : Bp w b n F) (hc : Wd.Cells w g T c) : b ≠ g := by
  rintro rfl
  obtain ⟨D, ⟨es, clock, h1, _⟩, _⟩ := h
  unfold Wd.Cells at hc
  rw [hc] at h1
  cases h1
theorem bool_inv {v : Value} {x : Bool} {ps : List MemPlace} (h : plainElem (H := Unit) Tryd.prog 4 v = some (.lit (.bool x), ps)) : v = .bool x := by
  unfold plainElem at h
  rw [Tryd.underlying4] at h
  cases v <;> simp at h
  rw [h.1]
theorem Bp.look (h : Bp w b n F) (x : Int) (hx : (Lit.int .i64 x).wf = true) : (Instr.lookup 45 (.map (some b)) (.int .i64 x) false).run Tryd.prog w = .ok (.bool (F x)) w := by
  obtain ⟨D, h, v⟩ := h
  obtain ⟨u, ps, hrun, hu⟩ := h.lookup keyedI Tryd.underlying45 (zeroBo w) (plainElem_bool (H := Unit) Tryd.underlying4 false) (keyOf_int_mk Tryd.underlying3 hx)
  rw [hrun]
  cases hf : F x with
  | true =>
    rw [(v x).2 hf] at hu
    rw [bool_inv hu]
  | false =>
    rw [atKey_of_not_has (by rw [(v x).1, hf])] at hu
    rw [bool_inv hu]
theorem Bp.put (h : Bp w b n F) (hn : n < maxLen) (x : Int) (hx : (Lit.int .i64 x).wf = true) : ∃ w', (Instr.mapUpdate 45 (.map (some b)) (.int .i64 x) (.bool true)).run Tryd.prog w = .ok () w' ∧ Bp w' b (n + 1) (plus F x) ∧ w.grownBy w' (some b) := by
  obtain ⟨D, h, v⟩ := h
  obtain ⟨w', h1, h2, h3⟩ := h.update keyedI Tryd.underlying45 hn (keyOf_int_mk Tryd.underlying3 hx) (plainElem_bool (H := Unit) Tryd.underlying4 true)
  exact ⟨w', h1, ⟨_, h2, v.put h.isMap x⟩, h3⟩
end
end Go.Proofs.YtjhchddmbbibpaaDoor
