import Derived.Maps.OwnOps
import Derived.Maps.OwnSet
import Derived.Maps.RangeWalk
import Derived.Test.YtdfgehmabfacbaaGrow
import Derived.Test.YtdfgehmabfacbaaApp
import Derived.Test.YtdfgehmabfacbaaOwn
/-! A map from int to any values, as a function: what its block holds, and what each operation makes of it. -/
namespace Sm
open Go Go.RowKit Go.Maps Go.ChangeMaps Go.MapKept

abbrev KI (x : Int) : Lit := .int .i64 x
abbrev VFn := Int → Option Value
def HR : Value → Option (DataW Value × List MemPlace) := fun v => some (.held v, [])
theorem key_lit (x : Int) : WideAt.IsKeyLit (KI x) := trivial
def Views (D : DataW Value) (F : VFn) : Prop := ∀ x, Maps.has D (KI x) = (F x).isSome ∧ ∀ c, F x = some c → ∀ z, D.atKey (KI x) z = .held c
theorem views_empty : Views (.map []) (fun _ => none) := fun x => ⟨rfl, fun c h => by cases h⟩
theorem Views.put {D : DataW Value} {F : VFn} (h : Views D F) (hm : IsMap D) (x : Int) (c : Value) : Views (D.put (KI x) (.held c)) (fun y => if y = x then some c else F y) := by
  intro y
  by_cases e : y = x
  · subst e
    simp only [if_true]
    exact ⟨by rw [has_put_same hm (key_lit y)]; rfl, fun c' hc z => by rw [atKey_put_same hm (key_lit y)]; cases hc; rfl⟩
  · simp only [if_neg e]
    have hne : KI y ≠ KI x := fun h => e (by injection h)
    exact ⟨by rw [has_put_other hne]; exact (h y).1, fun c' hc z => by rw [atKey_put_other hne]; exact (h y).2 c' hc z⟩
theorem Views.del {D : DataW Value} {F : VFn} (h : Views D F) (x : Int) : Views (D.del (KI x)) (fun y => if y = x then none else F y) := by
  intro y
  by_cases e : y = x
  · subst e
    simp only [if_true]
    exact ⟨by rw [has_del_same]; rfl, fun c' hc z => by cases hc⟩
  · simp only [if_neg e]
    have hne : KI y ≠ KI x := fun h => e (by injection h)
    exact ⟨by rw [has_del_other hne]; exact (h y).1, fun c' hc z => by rw [atKey_del_other hne]; exact (h y).2 c' hc z⟩
/-- block b is a map from int, of at most n entries, that holds what F says -/
def Mv (P : Program) (k : TypeId) (w : World) (b n : Nat) (F : VFn) : Prop := ∃ D : DataW Value, w.ownsMap P k HR b n D ∧ Views D F
section
variable {P : Program} {k e t : TypeId} {w w' : World} {b n : Nat} {F : VFn}
theorem Mv.lt (h : Mv P k w b n F) : b < w.heap.size := let ⟨_, h, _⟩ := h; h.lt
theorem Mv.same (h : Mv P k w b n F) (hb : w'.heap[b]? = w.heap[b]?) : Mv P k w' b n F := by
  obtain ⟨D, ⟨es, clock, h1, F1, h2, h3⟩, v⟩ := h
  exact ⟨D, ⟨es, clock, hb.trans h1, F1, h2, h3⟩, v⟩
theorem Mv.mono (h : Mv P k w b n F) {m : Nat} (hn : n ≤ m) : Mv P k w b m F := let ⟨D, h, v⟩ := h; ⟨D, h.mono hn, v⟩
theorem Mv.congr {G : VFn} (h : Mv P k w b n F) (hg : ∀ x, F x = G x) : Mv P k w b n G := by rw [← (funext hg : F = G)]; exact h
theorem Mv.made (w : World) (P : Program) (k : TypeId) : Mv P k (w.alloc (.map #[] 0)) w.heap.size 0 (fun _ => none) := ⟨_, World.ownsMap_made w P k _, views_empty⟩
theorem Mv.cells {c : Array Value} {T : TypeId} {g : Nat} (h : Mv P k w b n F) (hc : Wd.Cells w g T c) : b ≠ g := by
  rintro rfl
  obtain ⟨D, ⟨es, clock, h1, _⟩, _⟩ := h
  unfold Wd.Cells at hc
  rw [hc] at h1
  cases h1
theorem Mv.block (h : Mv P k w b n F) : ∃ es clock, w.heap[b]? = some (.map es clock) := let ⟨_, ⟨es, clock, h1, _⟩, _⟩ := h; ⟨es, clock, h1⟩
theorem Mv.clone {b' : Nat} (h : Mv P k w b n F) {es : Array MapEntry} {clock : Nat} (hb : w.heap[b]? = some (.map es clock)) (hb' : w'.heap[b']? = some (.map es clock)) : Mv P k w' b' n F := by
  obtain ⟨D, ⟨es', clock', h1, F1, h2, h3⟩, v⟩ := h
  rw [hb] at h1
  injection h1 with h1
  injection h1 with e1 e2
  subst e1 e2
  exact ⟨D, ⟨es, clock, hb', F1, h2, h3⟩, v⟩
theorem Views.at {D : DataW Value} {F : VFn} (v : Views D F) (x : Int) (z : Value) : D.atKey (KI x) (.held z) = .held ((F x).getD z) := by
  cases hx : F x with
  | none => exact atKey_of_not_has (by rw [(v x).1, hx]; rfl) _
  | some c => exact (v x).2 c hx _
theorem Mv.look (h : Mv P k w b n F) (K : Keyed P k) (ht : P.underlying t = some (.map k e)) (hk : P.underlying k = some (.int .i64)) {z : Value} (hz : (zeroValue e).run P w = .ok z w) (x : Int) (hx : (Lit.int .i64 x).wf = true) :
    (Instr.lookup t (.map (some b)) (.int .i64 x) false).run P w = .ok ((F x).getD z) w := by
  obtain ⟨D, h, v⟩ := h
  obtain ⟨c, ps, h1, h2⟩ := h.lookup K ht hz (show HR z = some (.held z, []) from rfl) (keyOf_int_mk hk hx)
  rw [v.at x] at h2
  unfold HR at h2
  injection h2 with h2
  injection h2 with h2 _
  injection h2 with h2
  rw [h1, h2]
theorem Mv.look_ok (h : Mv P k w b n F) (K : Keyed P k) (ht : P.underlying t = some (.map k e)) (hk : P.underlying k = some (.int .i64)) {z : Value} (hz : (zeroValue e).run P w = .ok z w) (x : Int) (hx : (Lit.int .i64 x).wf = true) :
    (Instr.lookup t (.map (some b)) (.int .i64 x) true).run P w = .ok (.tuple #[(F x).getD z, .bool (F x).isSome]) w := by
  obtain ⟨D, h, v⟩ := h
  obtain ⟨c, ps, h1, h2⟩ := h.look_ok K ht hz (show HR z = some (.held z, []) from rfl) (keyOf_int_mk hk hx)
  rw [v.at x] at h2
  unfold HR at h2
  injection h2 with h2
  injection h2 with h2 _
  injection h2 with h2
  rw [h1, h2, (v x).1]
theorem Mv.store (h : Mv P k w b n F) (K : Keyed P k) (ht : P.underlying t = some (.map k e)) (hk : P.underlying k = some (.int .i64)) (hn : n < maxLen) (x : Int) (c : Value) (hx : (Lit.int .i64 x).wf = true) :
    ∃ w', (Instr.mapUpdate t (.map (some b)) (.int .i64 x) c).run P w = .ok () w' ∧ Mv P k w' b (n + 1) (fun y => if y = x then some c else F y) ∧ w.mapTurned w' b := by
  obtain ⟨D, h, v⟩ := h
  obtain ⟨w', h1, h2, h3⟩ := h.store K ht hn (keyOf_int_mk hk hx) (show HR c = some (.held c, []) from rfl)
  exact ⟨w', h1, ⟨_, h2, v.put h.isMap x c⟩, h3⟩
theorem Mv.drop (h : Mv P k w b n F) (K : Keyed P k) (ht : P.underlying t = some (.map k e)) (hk : P.underlying k = some (.int .i64)) (x : Int) (hx : (Lit.int .i64 x).wf = true) (ty : TypeId) :
    ∃ w', (Builtin.delete_ #[t, k] ty #[.map (some b), .int .i64 x]).run P w = .ok (.tuple #[]) w' ∧ Mv P k w' b n (fun y => if y = x then none else F y) ∧ w.mapTurned w' b := by
  obtain ⟨D, h, v⟩ := h
  obtain ⟨w', h1, h2, h3⟩ := h.drop K ht (keyOf_int_mk hk hx) ty
  exact ⟨w', h1, ⟨_, h2, v.del x⟩, h3⟩
theorem turned_block (h : w.mapTurned w' b) {q : Nat} (hq : q ≠ b) : w'.heap[q]? = w.heap[q]? := by
  obtain ⟨es, clock, es', clock', hb, rfl⟩ := h
  exact heap_setBlock_other hb _ hq
theorem turned_size (h : w.mapTurned w' b) : w'.heap.size = w.heap.size := by
  obtain ⟨es, clock, es', clock', hb, rfl⟩ := h
  simp [setBlock]
theorem turned_below (h : w.mapTurned w' b) {B : Nat} {w0 : World} (h0 : Below B w0 w) (hb : B ≤ b) : Below B w0 w' := by
  have hs := turned_size h
  have hk := fun q hq => turned_block h (q := q) hq
  obtain ⟨es, clock, es', clock', hb', rfl⟩ := h
  exact ⟨h0.os, h0.tape, h0.output, by rw [hs]; exact h0.size, fun q hq => (hk q (by omega)).trans (h0.block q hq)⟩
end
end Sm
