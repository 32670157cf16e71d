import Derived.Test.YtcmgngjafnpnoaaFdX
import Derived.Deep.Strs
/-! Deeds of the law FdDoes, as they come in. -/
namespace Wd
open Go Go.RowKit Go.ChangeShapes Go.WideShapes Go.ChangeAt Go.Deep
section
variable {H : Type} {enc : TypeId × Value → H} {P : Program} {w : World} {base : Nat} {spare : Nat → Bool} {held : Bool}
theorem trod_fields5 {t : TypeId} {fs : Array Field} {fuel : Nat} {cs : List Value} {x : DataW H × List MemPlace} (he : P.underlying t = some (.struct fs)) (hone : oneCellFields P fs = true) (hC : P.cellsOf t = fs.size) (h : DataW.trod enc P w base spare held fuel t cs = some x) :
    cs.length = fs.size ∧ ∃ n, ∀ (j : Nat) (f : Field), fs[j]? = some f → ∃ (u : Value) (y : DataW H × List MemPlace), cs[j]? = some u ∧ DataW.trod enc P w base spare held n f.type [u] = some y := by
  obtain ⟨ys, n', _, _, hlen, hyl, hg⟩ := DataW.trod_struct he h
  rw [hC] at hlen
  refine ⟨hlen, n', fun j f hj => ?_⟩
  obtain ⟨ho, hk⟩ := hone_of hone j f hj
  have hjl : j < fs.size := (Array.getElem?_eq_some_iff.1 hj).1
  have h3 := hg j f hj
  rw [ho, hk, show (cs.drop j).take 1 = [cs[j]'(by omega)] from by rw [List.drop_eq_getElem_cons (by omega)]; rfl] at h3
  have hys : ys[j]? = some (ys[j]'(by omega)) := List.getElem?_eq_getElem (by omega)
  exact ⟨cs[j]'(by omega), _, List.getElem?_eq_getElem (by omega), h3.trans hys⟩
/-- a slice of elements of K cells -/
theorem open_elems5 {r : Reach} {b0 : Nat} {t e : TypeId} {K : Nat} {v : Value} {d : DataW H} {p : List MemPlace} (ht : P.underlying t = some (.slice e)) (hC : P.cellsOf e = K) (hpos : 0 < K)
    (hv : Value.okWide P w r b0 t v) (h : DataW.Trod enc P w base spare held t v d p) :
    ∃ (A : Option Addr) (len cap : Nat), v = .slice A len cap ∧ len ≤ cap ∧ cap ≤ maxLen ∧ (0 < len → ∃ b off, A = some ⟨b, off, none⟩ ∧ b < w.heap.size ∧
      ∀ i, i < len → ∃ (cs : List Value) (n : Nat) (y : DataW H × List MemPlace), cs.length = K ∧ (∀ j, j < K → w.cell? ⟨b, off + (i * K + j), none⟩ = cs[j]?) ∧ DataW.trod enc P w base spare held n e cs = some y) := by
  obtain ⟨a0, len0, cap0, rfl⟩ := okWide_slice ht hv
  obtain ⟨fuel, hf⟩ := h
  rcases open_slice ht hf with ⟨hcs, _⟩ | ⟨a, len, cap, m, n, D, Pl, hcs, _, hl, hm, hmm, _, hi⟩
  · obtain ⟨rfl, rfl, rfl⟩ : a0 = _ ∧ len0 = _ ∧ cap0 = _ := by simpa [Value.cells] using hcs
    exact ⟨none, 0, 0, rfl, Nat.le_refl _, by simp, fun h => absurd h (by omega)⟩
  · obtain ⟨rfl, rfl, rfl⟩ : a0 = _ ∧ len0 = _ ∧ cap0 = _ := by simpa [Value.cells] using hcs
    have hle : len0 ≤ m := by rw [hmm]; split <;> omega
    have each : ∀ i, i < len0 → ∃ (cs : List Value) (n : Nat) (y : DataW H × List MemPlace), cs.length = K ∧ (∀ j, j < K → w.cell? (a.add (i * K + j)) = cs[j]?) ∧ DataW.trod enc P w base spare held n e cs = some y := by
      intro i hil
      obtain ⟨cs', h1, h2⟩ := hi i (by omega)
      rw [hC] at h1
      obtain ⟨_, hcl, hat⟩ := World.cells?_some h1
      refine ⟨cs', n, _, hcl, fun j hj => ?_, h2⟩
      have := hat j hj
      rw [add_add] at this
      exact this
    refine ⟨some a, len0, cap0, rfl, hl, hm, fun hn => ?_⟩
    obtain ⟨b, off, spot⟩ := a
    obtain ⟨cs0, n0, y0, hl0, hx, _⟩ := each 0 hn
    have hc0 := hx 0 hpos
    rw [List.getElem?_eq_getElem (by omega)] at hc0
    have hs : spot = none := by simpa [Addr.add] using World.cell?_spot hc0
    refine ⟨b, off, by rw [hs], by simpa [Addr.add] using World.block_lt_of_cell? _ _ hc0, fun i hil => ?_⟩
    obtain ⟨cs1, n1, y1, hl1, hx, ht1⟩ := each i hil
    refine ⟨cs1, n1, y1, hl1, fun j hj => ?_, ht1⟩
    have := hx j hj
    rw [add_at hs] at this
    exact this
end
end Wd
namespace Go.Proofs.Ytcmgngjafnpnoaa
open Wd Go.RowKit Go.ChangeShapes Go.WideShapes Go.ChangeAt Go.Deep
set_option linter.unusedVariables false
set_option maxRecDepth 100000 in
theorem fdeed_of {H : Type} {enc : TypeId × Value → H} {w : World} {base : Nat} {spare : Nat → Bool} {held : Bool} {n : Nat} {cs : List Value} {y : DataW H × List MemPlace}
    (h : DataW.trod enc Try.prog w base spare held n 30 cs = some y) : ∃ d : Fdd, cs = d.cells ∧ i64R d.fd := by
  obtain ⟨y0, y1, y2, m, _, hl, t0, t1, t2⟩ := trod_struct3 Try.underlying30 h
  have hC : Try.prog.cellsOf 30 = 5 := by kernel_rfl
  have hO : Try.prog.cellsOf 27 = 3 := by kernel_rfl
  have hI : Try.prog.cellsOf 3 = 1 := by kernel_rfl
  rw [hC] at hl
  dsimp only at t0 t1 t2
  rw [hI] at t0 t1
  rw [hO] at t2
  match cs, hl with
  | [u0, u1, u2, u3, u4], _ =>
    obtain ⟨a0, z0, _, w0⟩ := DataW.trod_int Try.underlying3 t0
    obtain ⟨a1, z1, _, w1⟩ := DataW.trod_int Try.underlying3 t1
    obtain ⟨_, n2, hg⟩ := trod_fields5 Try.underlying27 (by kernel_rfl) (by kernel_rfl) t2
    obtain ⟨_, p2, c2, s2⟩ := hg 0 _ rfl
    obtain ⟨_, p3, c3, s3⟩ := hg 1 _ rfl
    obtain ⟨_, p4, c4, s4⟩ := hg 2 _ rfl
    obtain ⟨a2, z2, _, _⟩ := DataW.trod_int Try.underlying3 s2
    obtain ⟨a3, z3, _, _⟩ := DataW.trod_int Try.underlying3 s3
    obtain ⟨a4, z4, _, _⟩ := DataW.trod_int Try.underlying3 s4
    have e0 : u0 = .int .i64 a0 := (List.cons.inj z0).1
    have e1 : u1 = .int .i64 a1 := (List.cons.inj z1).1
    have f2 := (List.cons.inj z2).1
    have f3 := (List.cons.inj z3).1
    have f4 := (List.cons.inj z4).1
    have e2 : u2 = .int .i64 a2 := (Option.some.inj c2).trans f2
    have e3 : u3 = .int .i64 a3 := (Option.some.inj c3).trans f3
    have e4 : u4 = .int .i64 a4 := (Option.some.inj c4).trans f4
    subst e0 e1 e2 e3 e4
    exact ⟨⟨a0, a1, ⟨a2, a3, a4⟩⟩, rfl, i64R_of w1⟩
set_option maxRecDepth 100000 in
theorem open_fdds {H : Type} {enc : TypeId × Value → H} {w : World} {base : Nat} {spare : Nat → Bool} {held : Bool} {r : Reach} {b0 : Nat} {v : Value} {d : DataW H} {p : List MemPlace}
    (hv : Value.okWide Try.prog w r b0 22 v) (h : DataW.Trod enc Try.prog w base spare held 22 v d p) :
    ∃ (A : Option Addr) (c : Nat) (l : List Fdd), v = .slice A l.length c ∧ DdRow w A l ∧ (∀ d ∈ l, i64R d.fd) ∧ l.length ≤ c ∧ c ≤ maxLen := by
  obtain ⟨A, len, cap, rfl, h1, h2, h3⟩ := open_elems5 (K := 5) Try.underlying22 (by kernel_rfl) (by decide) hv h
  by_cases hn : 0 < len
  · obtain ⟨b, off, rfl, hb, hx⟩ := h3 hn
    have each : ∀ i, i < len → ∃ d : Fdd, (∀ (k : Nat) (x : Value), d.cells[k]? = some x → w.cell? ⟨b, off + (i * 5 + k), none⟩ = some x) ∧ i64R d.fd := by
      intro i hi
      obtain ⟨cs, n, y, hl, hc, ht⟩ := hx i hi
      obtain ⟨d, hd, hok⟩ := fdeed_of ht
      refine ⟨d, fun k x hk => ?_, hok⟩
      rw [← hd] at hk
      rw [hc k (by have := (List.getElem?_eq_some_iff.1 hk).1; omega)]
      exact hk
    obtain ⟨Y, hY⟩ := choose_lt (n := len) (p := fun i (d : Fdd) => (∀ (k : Nat) (x : Value), d.cells[k]? = some x → w.cell? ⟨b, off + (i * 5 + k), none⟩ = some x) ∧ i64R d.fd) each
    refine ⟨_, cap, (List.range len).map Y, by simp, fun _ => ⟨b, off, rfl, hb, fun j d hj k x hk => ?_⟩, fun d hd => ?_, by simp; exact h1, h2⟩
    · obtain ⟨hj1, hj2⟩ := List.getElem?_eq_some_iff.1 hj
      simp at hj1 hj2
      subst hj2
      exact (hY j hj1).1 k x hk
    · obtain ⟨i, hi, rfl⟩ := List.mem_map.1 hd
      exact (hY i (List.mem_range.1 hi)).2
  · obtain rfl : len = 0 := by omega
    exact ⟨A, cap, [], rfl, (fun h => absurd h (by simp)), (fun d hd => by cases hd), by simp, h2⟩
end Go.Proofs.Ytcmgngjafnpnoaa
