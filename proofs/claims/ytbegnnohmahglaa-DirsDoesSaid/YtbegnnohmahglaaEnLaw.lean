import Derived.Test.YtbegnnohmahglaaEnMem
import Derived.Test.YtbegnnohmahglaaLawCap
namespace Go.Proofs.Ytbegnnohmahglaa
open Wd Ino Go.RowKit Go.ChangeShapes Go.WideShapes Go.ChangeAt Go.Deep Go.Sort
set_option linter.unusedVariables false
set_option maxRecDepth 100000
/-- a row of names that is handed to a law -/
theorem open_ents {H : Type} {enc : TypeId × Value → H} {w : World} {base : Nat} {spare : Nat → Bool} {held : Bool} {r : Reach} {b0 : Nat} {v : Value} {d : DataW H} {p : List MemPlace}
    (hv : Value.okWide Try.prog w r b0 22 v) (h : DataW.Trod enc Try.prog w base spare held 22 v d p) :
    ∃ (A : Option Addr) (c : Nat) (l : List Ent), v = .slice A l.length c ∧ Ens w w.heap.size A l ∧ (∀ e ∈ l, Ent.Ok e) ∧ l.length ≤ c ∧ c ≤ maxLen := by
  obtain ⟨A, len, cap, rfl, h1, h2, h3⟩ := Wd.open_structs Try.underlying22 Try.underlying32 (by kernel_rfl) (by kernel_rfl) (by decide) hv h
  by_cases hn : 0 < len
  · obtain ⟨b, off, rfl, hb, hx⟩ := h3 hn
    have each : ∀ i, i < len → ∃ d : Ent, (∀ (k : Nat) (x : Value), (ev d)[k]? = some x → w.cell? ⟨b, off + (i * 2 + k), none⟩ = some x) ∧ Ent.Ok d := by
      intro i hi
      obtain ⟨n, hy⟩ := hx i hi
      obtain ⟨u0, y0, c0, t0⟩ := hy 0 _ rfl
      obtain ⟨u1, y1, c1, t1⟩ := hy 1 _ rfl
      obtain ⟨a0, z0, _, w0⟩ := DataW.trod_string Try.underlying9 t0
      obtain ⟨a1, z1, _, w1⟩ := DataW.trod_int Try.underlying3 t1
      obtain rfl := (List.cons.inj z0).1
      obtain rfl := (List.cons.inj z1).1
      refine ⟨⟨a0, a1⟩, ?_, w0, i64R_of w1⟩
      intro k x hk
      match k, hk with
      | 0, hk => cases hk; exact c0
      | 1, hk => cases hk; exact c1
      | k + 2, hk => simp [ev] at hk
    obtain ⟨Y, hY⟩ := choose_lt (n := len) (p := fun i (d : Ent) => (∀ (k : Nat) (x : Value), (ev d)[k]? = some x → w.cell? ⟨b, off + (i * 2 + k), none⟩ = some x) ∧ Ent.Ok d) each
    refine ⟨_, cap, (List.range len).map Y, by simp, fun _ => ⟨b, off, rfl, hb, fun j d hj k x hk => ?_⟩, fun e he => ?_, by simpa using h1, h2⟩
    · obtain ⟨hj1, hj2⟩ := List.getElem?_eq_some_iff.1 hj
      simp at hj1 hj2
      subst hj2
      exact (hY j hj1).1 k x hk
    · obtain ⟨i, hi, rfl⟩ := List.mem_map.1 he
      exact (hY i (List.mem_range.1 hi)).2
  · obtain rfl : len = 0 := by omega
    exact ⟨A, cap, [], rfl, Ens.nil _ _ _, (fun e he => by cases he), by simp, h2⟩
end Go.Proofs.Ytbegnnohmahglaa
