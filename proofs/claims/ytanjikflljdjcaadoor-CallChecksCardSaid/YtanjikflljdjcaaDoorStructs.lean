import Derived.Deep.Fields
import Derived.ChangeSame
import Derived.Test.YtanjikflljdjcaaDoorLaw
namespace Wd
open Go Go.RowKit Go.ChangeShapes Go.WideShapes Go.ChangeAt Go.Deep

section
variable {H : Type} {enc : TypeId × Value → H} {P : Program} {w : World} {base : Nat} {spare : Nat → Bool} {held : Bool}

theorem add_at {b off k : Nat} {spot : Option Nat} (hs : spot = none) : (⟨b, off, spot⟩ : Addr).add k = ⟨b, off + k, none⟩ := by
  subst hs; unfold Addr.add; split <;> simp_all

/-- a field's value, read as a slice of one-cell elements: a row -/
theorem row_of_trod {α : Type} [Inhabited α] {f : α → Value} {ok : α → Prop} {t e : TypeId} {v : Value} {m : Nat} {x : DataW H × List MemPlace} (ht : P.underlying t = some (.slice e)) (hc : P.cellsOf e = 1)
    (hel : ∀ n v x, DataW.trod enc P w base spare held n e [v] = some x → ∃ y, v = f y ∧ ok y) (h : DataW.trod enc P w base spare held m t [v] = some x) :
    ∃ (A : Option Addr) (c : Nat) (l : List α), v = .slice A l.length c ∧ Row w w.heap.size A l.length (l.map f) ∧ (∀ y ∈ l, ok y) ∧ l.length ≤ c ∧ c ≤ maxLen := by
  rcases open_slice1 ht hc h with ⟨hcs, _⟩ | ⟨a, len, cap, m', n, V, D, Pl, hcs, _, hl, hm, hmm, _, hx⟩
  · obtain rfl := (List.cons.inj hcs).1
    exact ⟨none, 0, [], rfl, Row.nil, by simp, by simp, by simp⟩
  · obtain rfl := (List.cons.inj hcs).1
    have hle : len ≤ m' := by rw [hmm]; split <;> omega
    obtain ⟨Y, hY⟩ := choose_lt (n := len) (p := fun i y => V i = f y ∧ ok y) (fun i hi => hel _ _ _ (hx i (by omega)).2)
    refine ⟨some a, cap, (List.range len).map Y, by simp, ⟨by simp, fun hn => ?_⟩, ?_, by simp; omega, hm⟩
    · simp only [List.length_map, List.length_range] at hn
      obtain ⟨b, off, spot⟩ := a
      have hc0 := (hx 0 (by omega)).1
      have hs : spot = none := by simpa [Addr.add] using World.cell?_spot hc0
      refine ⟨b, off, by rw [hs], ?_, fun j hj => ?_⟩
      · simpa [Addr.add] using World.block_lt_of_cell? _ _ hc0
      · simp at hj
        have := (hx j (by omega)).1
        rw [(hY j hj).1, add_at hs] at this
        simpa using this
    · intro y hy
      obtain ⟨i, hi, rfl⟩ := List.mem_map.1 hy
      exact (hY i (List.mem_range.1 hi)).2

/-- a slice of structs of one-cell fields: each field of each element -/
theorem open_structs {r : Reach} {b0 : Nat} {t e : TypeId} {fs : Array Field} {v : Value} {d : DataW H} {p : List MemPlace} (ht : P.underlying t = some (.slice e)) (he : P.underlying e = some (.struct fs)) (hone : oneCellFields P fs = true) (hC : P.cellsOf e = fs.size) (hpos : 0 < fs.size)
    (hv : Value.okWide P w r b0 t v) (h : DataW.Trod enc P w base spare held t v d p) :
    ∃ (A : Option Addr) (len cap : Nat), v = .slice A len cap ∧ len ≤ cap ∧ cap ≤ maxLen ∧ (0 < len → ∃ b off, A = some ⟨b, off, none⟩ ∧ b < w.heap.size ∧
      ∀ i, i < len → ∃ n, ∀ (j : Nat) (f : Field), fs[j]? = some f → ∃ (u : Value) (y : DataW H × List MemPlace), w.cell? ⟨b, off + (i * fs.size + j), none⟩ = some u ∧ DataW.trod enc P w base spare held n f.type [u] = some y) := by
  obtain ⟨a0, len0, cap0, rfl⟩ := okWide_slice ht hv
  obtain ⟨fuel, hf⟩ := h
  rcases open_slice ht hf with ⟨hcs, _⟩ | ⟨a, len, cap, m, n, D, Pl, hcs, _, hl, hm, hmm, _, hi⟩
  · obtain ⟨rfl, rfl, rfl⟩ : a0 = _ ∧ len0 = _ ∧ cap0 = _ := by simpa [Value.cells] using hcs
    exact ⟨none, 0, 0, rfl, Nat.le_refl _, by simp, fun h => absurd h (by omega)⟩
  · obtain ⟨rfl, rfl, rfl⟩ : a0 = _ ∧ len0 = _ ∧ cap0 = _ := by simpa [Value.cells] using hcs
    have hle : len0 ≤ m := by rw [hmm]; split <;> omega
    have each : ∀ i, i < len0 → ∃ n, ∀ (j : Nat) (f : Field), fs[j]? = some f → ∃ (u : Value) (y : DataW H × List MemPlace), w.cell? (a.add (i * fs.size + j)) = some u ∧ DataW.trod enc P w base spare held n f.type [u] = some y := by
      intro i hil
      obtain ⟨cs', h1, h2⟩ := hi i (by omega)
      rw [hC] at h1
      obtain ⟨ys, n', _, _, hlen, hyl, hg⟩ := DataW.trod_struct he h2
      obtain ⟨_, hcl, hat⟩ := World.cells?_some h1
      refine ⟨n', fun j f hj => ?_⟩
      obtain ⟨ho, hk⟩ := hone_of hone j f hj
      have hjl : j < fs.size := (Array.getElem?_eq_some_iff.1 hj).1
      have h3 := hg j f hj
      rw [ho, hk, show (cs'.drop j).take 1 = [cs'[j]'(by omega)] from by rw [List.drop_eq_getElem_cons (by omega)]; rfl] at h3
      have hys : ys[j]? = some (ys[j]'(by omega)) := List.getElem?_eq_getElem (by omega)
      refine ⟨cs'[j]'(by omega), _, ?_, h3.trans hys⟩
      have := hat j hjl
      rw [add_add] at this
      rw [this, List.getElem?_eq_getElem (by omega)]
    refine ⟨some a, len0, cap0, rfl, hl, hm, fun hn => ?_⟩
    obtain ⟨b, off, spot⟩ := a
    obtain ⟨f0, hf0⟩ : ∃ f, fs[0]? = some f := ⟨_, Array.getElem?_eq_getElem hpos⟩
    obtain ⟨n0, hx⟩ := each 0 hn
    obtain ⟨u, y, hc0, _⟩ := hx 0 f0 hf0
    have hs : spot = none := by simpa [Addr.add] using World.cell?_spot hc0
    refine ⟨b, off, by rw [hs], by simpa [Addr.add] using World.block_lt_of_cell? _ _ hc0, fun i hil => ?_⟩
    obtain ⟨n1, hx⟩ := each i hil
    refine ⟨n1, fun j f hj => ?_⟩
    obtain ⟨u, y, h1, h2⟩ := hx j f hj
    rw [add_at hs] at h1
    exact ⟨u, y, h1, h2⟩
end
end Wd
