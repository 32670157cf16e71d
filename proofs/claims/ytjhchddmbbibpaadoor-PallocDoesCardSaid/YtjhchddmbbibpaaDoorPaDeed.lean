import Derived.Test.YtjhchddmbbibpaaDoorWd
import Derived.Test.YtjhchddmbbibpaaDoorStructs
import Derived.Test.YtjhchddmbbibpaaDoorChecked
namespace Go.Proofs.YtjhchddmbbibpaaDoor
open Wd Go.RowKit Go.ChangeShapes Go.WideShapes Go.ChangeAt Go.Deep
set_option linter.unusedVariables false
/-- something that is done with pages: its kind, its page -/
def dvals (d : Int × Int) : Array Value := #[.int .i64 d.1, .int .i64 d.2]
/-- deeds in a row -/
structure Deeds (w : World) (B : Nat) (A : Option Addr) (l : List (Int × Int)) : Prop where
  at_ : 0 < l.length → ∃ b off, A = some ⟨b, off, none⟩ ∧ b < B ∧ ∀ (j : Nat) (d : Int × Int), l[j]? = some d → ∀ (k : Nat) (x : Value), (dvals d)[k]? = some x → w.cell? ⟨b, off + (j * 2 + k), none⟩ = some x
theorem Deeds.below {w w' : World} {B : Nat} {A : Option Addr} {l : List (Int × Int)} (h : Deeds w B A l) (hb : Below B w w') : Deeds w' B A l :=
  ⟨fun hn => by
    obtain ⟨b, off, e, hB, hx⟩ := h.at_ hn
    exact ⟨b, off, e, hB, fun j d hj k x hk => (hb.cell (p := ⟨b, _, none⟩) hB).trans (hx j d hj k x hk)⟩⟩
set_option maxRecDepth 100000 in
theorem open_pdeeds {H : Type} {enc : TypeId × Value → H} {w : World} {base : Nat} {spare : Nat → Bool} {held : Bool} {r : Reach} {b0 : Nat} {v : Value} {d : DataW H} {p : List MemPlace}
    (hv : Value.okWide Tryd.prog w r b0 23 v) (h : DataW.Trod enc Tryd.prog w base spare held 23 v d p) :
    ∃ (A : Option Addr) (c : Nat) (l : List (Int × Int)), v = .slice A l.length c ∧ Deeds w w.heap.size A l ∧ l.length ≤ maxLen := by
  obtain ⟨A, len, cap, rfl, h1, h2, h3⟩ := open_structs Tryd.underlying23 Tryd.underlying30 (by kernel_rfl) (by kernel_rfl) (by decide) hv h
  by_cases hn : 0 < len
  · obtain ⟨b, off, rfl, hb, hx⟩ := h3 hn
    have each : ∀ i, i < len → ∃ d : Int × Int, (∀ (k : Nat) (x : Value), (dvals d)[k]? = some x → w.cell? ⟨b, off + (i * 2 + k), none⟩ = some x) := by
      intro i hi
      obtain ⟨n, hy⟩ := hx i hi
      obtain ⟨u0, y0, c0, t0⟩ := hy 0 _ rfl
      obtain ⟨u1, y1, c1, t1⟩ := hy 1 _ rfl
      obtain ⟨a0, z0, _, w0⟩ := DataW.trod_int Tryd.underlying3 t0
      obtain ⟨a1, z1, _, w1⟩ := DataW.trod_int Tryd.underlying3 t1
      obtain rfl := (List.cons.inj z0).1
      obtain rfl := (List.cons.inj z1).1
      refine ⟨(a0, a1), ?_⟩
      intro k x hk
      match k, hk with
      | 0, hk => cases hk; exact c0
      | 1, hk => cases hk; exact c1
      | k + 2, hk => simp [dvals] at hk
    obtain ⟨Y, hY⟩ := choose_lt (n := len) (p := fun i (d : Int × Int) => (∀ (k : Nat) (x : Value), (dvals d)[k]? = some x → w.cell? ⟨b, off + (i * 2 + k), none⟩ = some x)) each
    refine ⟨_, cap, (List.range len).map Y, by simp, ⟨fun _ => ⟨b, off, rfl, hb, fun j d hj k x hk => ?_⟩⟩, by simp; exact Nat.le_trans h1 h2⟩
    obtain ⟨hj1, hj2⟩ := List.getElem?_eq_some_iff.1 hj
    simp at hj1 hj2
    subst hj2
    exact hY j hj1 k x hk
  · obtain rfl : len = 0 := by omega
    exact ⟨A, cap, [], rfl, ⟨fun h => absurd h (by simp)⟩, by simp⟩
end Go.Proofs.YtjhchddmbbibpaaDoor
