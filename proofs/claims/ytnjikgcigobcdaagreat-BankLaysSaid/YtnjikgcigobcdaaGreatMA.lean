import Derived.Below
import Derived.OneCell
import Derived.Deep.Draws
import Derived.Laws.Rows
import Derived.Laws.MakeOwn
import Derived.Lib.Hide
import Derived.OwnWalk
import Derived.Laws.Entries
import Derived.Maps.OwnOps
import Derived.Maps.OwnSet
import Derived.Maps.RangeWalk
import Derived.Test.YtnjikgcigobcdaaGreatShelf
import Derived.Test.YtnjikgcigobcdaaGreatChecked
import Derived.WalkKit
import Derived.WalkLawsBesides
import Derived.WalkSpells
import Derived.Deep.QuietTactic
import Derived.BigQuiet
import Derived.KernelRfl
import Derived.Outline
import Derived.Laws.Pointers
import Derived.Defers
import Derived.Recover

namespace Wd
open Go Go.RowKit

/-- block g holds just these cells, none of them frozen -/
def Cells (w : World) (g : Nat) (t : TypeId) (cs : Array Value) : Prop := w.heap[g]? = some (.cells cs t (0, 0))

section
variable {w w' : World} {g : Nat} {t : TypeId} {cs : Array Value}
theorem Cells.lt (h : Cells w g t cs) : g < w.heap.size := lt_of_block h
theorem Cells.cell (h : Cells w g t cs) (i : Nat) : w.cell? ⟨g, i, none⟩ = cs[i]? := cell_of_row w g i cs t (0, 0) h
theorem Cells.free (h : Cells w g t cs) (i : Nat) : w.frozen? ⟨g, i, none⟩ = false := by
  unfold Cells at h; simp [World.frozen?, h]
theorem Cells.new (w : World) (t : TypeId) (cs : Array Value) : Cells (w.alloc (.cells cs t)) w.heap.size t cs := heap_alloc_new w _
theorem Cells.drewN (h : Cells w g t cs) (n : Nat) : Cells (w.drewN n) g t cs := h
theorem Cells.alloc (h : Cells w g t cs) (o : Obj) : Cells (w.alloc o) g t cs := (Below.heap_alloc w o g h.lt).trans h
theorem Cells.set (h : Cells w g t cs) (i : Nat) (u : Value) : Cells (w.setCell ⟨g, i, none⟩ u) g t (cs.setIfInBounds i u) := by
  unfold Cells at *; simp [World.setCell, Array.getElem?_modify, h]
theorem Cells.far (h : Cells w g t cs) {p : Addr} (hp : g ≠ p.block) (u : Value) : Cells (w.setCell p u) g t cs := (Below.heap_setCell w p u g hp).trans h
theorem Cells.below {B : Nat} (h : Cells w g t cs) (hb : Below B w w') (hg : g < B) : Cells w' g t cs := (hb.block g hg).trans h
theorem Cells.below' (h : Cells w g t cs) (hb : Below w.heap.size w w') : Cells w' g t cs := h.below hb h.lt
theorem Cells.grown {row : Option Nat} (h : Cells w g t cs) (hb : w.grownBy w' row) (hg : some g ≠ row) : Cells w' g t cs := (hb.block g h.lt hg).trans h
theorem Cells.ne {g' : Nat} {t' : TypeId} {cs' : Array Value} (h : Cells w g t cs) (h' : Cells w g' t' cs') (hne : t ≠ t') : g ≠ g' := by
  rintro rfl
  unfold Cells at h h'
  rw [h] at h'
  injection h' with h'; injection h' with _ ht
  exact hne ht
end

@[go_sem] theorem run_store_f (P : Program) (w : World) (a : Addr) (m : Mode) (k : FloatKind) (b : Nat) : (store a (.float k b) m).run P w = stored P w a (.float k b) m := run_store P w a _ m rfl

theorem below_drewN {B : Nat} {a w : World} (h : Below B a w) (n : Nat) : Below B a (w.drewN n) := ⟨h.os, h.tape, h.output, h.size, h.block⟩
theorem undrewN {B : Nat} {a w : World} {n : Nat} (h : Below B (a.drewN n) w) : Below B a w := ⟨h.os, h.tape, h.output, h.size, h.block⟩
theorem undrew {B : Nat} {a w : World} (h : Below B a.drew w) : Below B a w := ⟨h.os, h.tape, h.output, h.size, h.block⟩
theorem grown_of_below {a w : World} (h : Below a.heap.size a w) (row : Option Nat) : a.grownBy w row := ⟨h.os, h.tape, h.output, h.size, fun k hk _ => h.block k hk⟩
theorem below_of_grown {a w : World} (h : a.grownBy w none) : Below a.heap.size a w := ⟨h.os, h.tape, h.output, h.size, fun k hk => h.block k hk (by simp)⟩
theorem below_of_grown_d {a w : World} (h : a.drew.grownBy w none) : Below a.heap.size a w := ⟨h.os, h.tape, h.output, h.size, fun k hk => h.block k hk (by simp)⟩
theorem oneB (l : List Bool) : ∀ u ∈ l.map Value.bool, u.oneCell' = true := by
  intro u hu
  obtain ⟨b, _, rfl⟩ := List.mem_map.1 hu
  rfl
theorem oneF (l : List Nat) : ∀ u ∈ l.map (Value.float .f64), u.oneCell' = true := by
  intro u hu
  obtain ⟨b, _, rfl⟩ := List.mem_map.1 hu
  rfl
theorem base_of {v : Value} {h : Nat} (hat : v.ownBlock = none ∨ v.ownBlock = some h) : ∀ k, v.ownBlock = some k → h ≤ k := by
  intro k hk
  rcases hat with e | e <;> rw [e] at hk
  · cases hk
  · have := Option.some.inj hk; omega
theorem base_of2 {v : Value} {h g : Nat} (hat : v.ownBlock = none ∨ v.ownBlock = some h) (hg : g ≤ h) : ∀ k, v.ownBlock = some k → g ≤ k := fun k hk => by have := base_of hat k hk; omega
theorem base_of' {v : Value} {h : Nat} (hat : v.ownBlock = none ∨ v.ownBlock = some (h + 1)) : ∀ k, v.ownBlock = some k → h ≤ k := fun k hk => by have := base_of hat k hk; omega
theorem grown_set {a w : World} {g : Nat} (h : a.grownBy w (some g)) (i : Nat) (u : Value) : a.grownBy (w.setCell ⟨g, i, none⟩ u) (some g) :=
  ⟨h.os, h.tape, h.output, by simpa [World.setCell] using h.size, fun k hk hne => (Below.heap_setCell w ⟨g, i, none⟩ u k (fun e => hne (by rw [e]))).trans (h.block k hk hne)⟩
theorem grown_drew {a w : World} {row : Option Nat} (h : a.grownBy w row) : a.grownBy w.drew row := ⟨h.os, h.tape, h.output, h.size, h.block⟩
theorem grown_drewN {a w : World} {row : Option Nat} (h : a.grownBy w row) (n : Nat) : a.grownBy (w.drewN n) row := ⟨h.os, h.tape, h.output, h.size, h.block⟩
theorem grown_trans {a b c : World} {row : Option Nat} (h : a.grownBy b row) (k : b.grownBy c row) : a.grownBy c row :=
  ⟨k.os.trans h.os, k.tape.trans h.tape, k.output.trans h.output, Nat.le_trans h.size k.size, fun i hi hne => (k.block i (Nat.lt_of_lt_of_le hi h.size) hne).trans (h.block i hi hne)⟩

/-- every cell of an old block reads as it did -/
theorem Below.old {W w1 : World} (hb : Below W.heap.size W w1) : ∀ b o, b < W.heap.size → w1.cell? ⟨b, o, none⟩ = W.cell? ⟨b, o, none⟩ :=
  fun b o h => hb.cell (p := ⟨b, o, none⟩) h

/-- make([]T, n): n zero values in a new block -/
theorem make_row {P : Program} (t e : TypeId) (z : Value) (by_ : Nat) (ht : P.underlying t = some (.slice e)) (hi : (P.info? e).map (fun i => (i.zero, i.size, i.bytes)) = some (some z, 1, by_))
    (hz : z.cells = #[z]) (n : Nat) (hb : by_ * n ≤ 281474976710656) (h63 : n ≤ 9223372036854775807) (w : World) :
    (Instr.makeSlice t (.int .i64 (n : Int)) (.int .i64 (n : Int))).run P w = .ok (.slice (some ⟨w.heap.size, 0, none⟩) n n) (w.alloc (.cells (List.replicate n z).toArray e)) := by
  obtain ⟨i, h1, h2, h3, h4⟩ := info_parts hi
  have hb' : (i.bytes : Int) * (n : Int) ≤ 281474976710656 := by
    have h : ((i.bytes * n : Nat) : Int) ≤ 281474976710656 := by rw [h4]; omega
    rwa [Int.natCast_mul] at h
  have hr := run_make (P := P) w t e i z ht h1 h2 .i64 .i64 n n (by omega) (by omega) hb' (by omega)
  simp only [Int.toNat_natCast] at hr
  have e1 : madeCells z.cells (n * i.size) = (List.replicate n z).toArray := by
    rw [h3, Nat.mul_one, hz]
    have := toList_madeCells_one z n
    rw [← this]
  rw [e1] at hr
  exact hr

/-- the slice .slice A n c reads as the row xs of one-cell elements, below block B -/
def Row (w : World) (B : Nat) (A : Option Addr) (n : Nat) (xs : List Value) : Prop :=
  xs.length = n ∧ (0 < n → ∃ b off, A = some ⟨b, off, none⟩ ∧ b < B ∧ ∀ j, (h : j < xs.length) → w.cell? ⟨b, off + j, none⟩ = some xs[j])

section
variable {w w' : World} {B B' n : Nat} {A : Option Addr} {xs : List Value}
theorem Row.nil : Row w B A 0 [] := ⟨rfl, fun h => absurd h (by omega)⟩
theorem Row.at (h : Row w B A n xs) {k : Nat} (hk : k < n) : ∃ b off, A = some ⟨b, off, none⟩ ∧ b < B ∧ w.cell? ⟨b, off + k, none⟩ = some (xs[k]'(by rw [h.1]; exact hk)) := by
  obtain ⟨b, off, e, hb, hc⟩ := h.2 (by omega)
  exact ⟨b, off, e, hb, hc k (by rw [h.1]; exact hk)⟩
theorem Row.get {α : Type} {f : α → Value} {l : List α} (h : Row w B A n (l.map f)) {k : Nat} (hk : k < n) : ∃ b off x, A = some ⟨b, off, none⟩ ∧ b < B ∧ l[k]? = some x ∧ w.cell? ⟨b, off + k, none⟩ = some (f x) := by
  have hl : k < l.length := by have := h.1; simp at this; omega
  obtain ⟨b, off, e, hb, hc⟩ := h.at hk
  exact ⟨b, off, l[k], e, hb, List.getElem?_eq_getElem hl, by rw [hc, List.getElem_map]⟩
theorem Row.keep (h : Row w B A n xs) (hk : ∀ b o, b < B → w'.cell? ⟨b, o, none⟩ = w.cell? ⟨b, o, none⟩) : Row w' B A n xs :=
  ⟨h.1, fun hn => by
    obtain ⟨b, off, e, hb, hc⟩ := h.2 hn
    exact ⟨b, off, e, hb, fun j hj => (hk b _ hb).trans (hc j hj)⟩⟩
theorem Row.more (h : Row w B A n xs) (hB : B ≤ B') : Row w B' A n xs :=
  ⟨h.1, fun hn => by
    obtain ⟨b, off, e, hb, hc⟩ := h.2 hn
    exact ⟨b, off, e, by omega, hc⟩⟩
theorem Row.below (h : Row w B A n xs) (hb : Below B w w') : Row w' B A n xs := h.keep fun b o hp => hb.cell (p := ⟨b, o, none⟩) hp
theorem Row.of_cells {g : Nat} {t : TypeId} {cs : Array Value} (h : Cells w g t cs) (hg : g < B) : Row w B (some ⟨g, 0, none⟩) cs.size cs.toList :=
  ⟨by simp, fun _ => ⟨g, 0, rfl, hg, fun j hj => by rw [Nat.zero_add, h.cell j]; simp at hj ⊢⟩⟩
theorem Row.fresh (w : World) (n : Nat) (v : Value) (t : TypeId) : Row (w.alloc (.cells (Array.replicate n v) t)) (w.alloc (.cells (Array.replicate n v) t)).heap.size (some ⟨w.heap.size, 0, none⟩) n (List.replicate n v) := by
  have := Row.of_cells (B := (w.alloc (.cells (Array.replicate n v) t)).heap.size) (Cells.new w t (Array.replicate n v)) (by simp)
  simpa using this
theorem row_eq {w : World} {B n m p : Nat} {A : Option Addr} {xs ys : List Value} (h : Row w B A (n + p) xs) (e : n = m) (e' : xs = ys := by rfl) : Row w B A (m + p) ys := by subst e e'; exact h
theorem Row.one (w : World) (v : Value) (t : TypeId) : Row (w.alloc (.cells #[v] t)) (w.alloc (.cells #[v] t)).heap.size (some ⟨w.heap.size, 0, none⟩) 1 [v] :=
  Row.of_cells (Cells.new w t #[v]) (by simp)
theorem Row.drewN (h : Row w B A n xs) (k : Nat) : Row (w.drewN k) B A n xs := h
end

theorem own_drewN {w : World} {base : Nat} {e : TypeId} {size n : Nat} {v : Value} {xs : List Value} (h : w.ownsRow base e size v n xs) (k : Nat) : (w.drewN k).ownsRow base e size v n xs := h
theorem own_base {w : World} {base : Nat} {e : TypeId} {size n : Nat} {v : Value} {xs : List Value} (h : w.ownsRow base e size v n xs) : ∀ q, v.ownBlock = some q → base ≤ q := by
  intro q hq
  rcases h.2 with ⟨rfl, _⟩ | ⟨g, cap, cur, rfl, hb, _⟩
  · cases hq
  · have : g = q := by simpa [Value.ownBlock] using hq
    omega
theorem own_ne {v : Value} {g h : Nat} (hat : v.ownBlock = none ∨ v.ownBlock = some h) (hlt : g < h) : some g ≠ v.ownBlock := by
  rcases hat with e | e <;> rw [e]
  · simp
  · intro e; have := Option.some.inj e; omega
theorem own_ne' {v : Value} {g h : Nat} (hat : v.ownBlock = none ∨ v.ownBlock = some h) (hlt : g < h) : ∀ b, b ≤ g → some b ≠ v.ownBlock := fun b hb => own_ne hat (by omega)
theorem one_new (w : World) (n : Nat) (v : Value) (t : TypeId) : ∀ j u, [v][j]? = some u → ((w.drewN n).alloc (.cells #[v] t)).cell? ((⟨w.heap.size, 0, none⟩ : Addr).add j) = some u := by
  intro j u h
  match j, h with
  | 0, h =>
    have := (Cells.new (w.drewN n) t #[v]).cell 0
    simp at h this
    rw [← h]
    simpa [Addr.add] using this
theorem Row.of_own {w : World} {base : Nat} {e : TypeId} {n : Nat} {v : Value} {xs : List Value} (h : w.ownsRow base e 1 v n xs) : ∃ A c, v = .slice A n c ∧ Row w w.heap.size A n xs := by
  obtain ⟨h1, h2⟩ := h
  rw [Nat.mul_one] at h1
  rcases h2 with ⟨rfl, rfl⟩ | ⟨g, cap, cur, rfl, _, hh, hnc, _, hcs, ht⟩
  · exact ⟨none, 0, rfl, h1, fun hn => absurd hn (by omega)⟩
  · refine ⟨_, _, rfl, h1, fun _ => ⟨g, 0, rfl, lt_of_block hh, fun j hj => ?_⟩⟩
    rw [Nat.zero_add, Cells.cell hh j]
    rw [Nat.mul_one] at ht
    have : (cur.toList.take n)[j]? = some xs[j] := by rw [ht, List.getElem?_eq_getElem hj]
    rw [List.getElem?_take_of_lt (by omega)] at this
    simpa using this

/-- a callee that leaves the world alone, in a region that draws -/
theorem quiet_eq {P : Program} {f : FuncId} {args : Array Value} {w : World} {n : Nat} {v : Value} (h : Calls P f args (w.drewN n) fun e w' => e = .returned v ∧ w.drewN n = w') :
    Calls P f args (w.drewN n) fun e w'' => e = .returned v ∧ ∃ m, w'' = w.drewN m :=
  h.mono fun _ _ ⟨he, hm⟩ => ⟨he, n, hm.symm⟩
theorem quiet_eq2 {P : Program} {f : FuncId} {args : Array Value} {w : World} {a n : Nat} {v : Value} (h : Calls P f args (w.drewN (a + n)) fun e w' => e = .returned v ∧ w.drewN (a + n) = w') :
    Calls P f args (w.drewN (a + n)) fun e w'' => e = .returned v ∧ ∃ m, w'' = w.drewN (a + m) :=
  h.mono fun _ _ ⟨he, hm⟩ => ⟨he, n, hm.symm⟩
end Wd

/-! A map from int to uint64 as a function: what its block holds, and what each operation makes of it. -/
namespace Pm
open Go Go.RowKit Go.Maps

abbrev KI (x : Int) : Lit := .int .i64 x
abbrev VU (c : Int) : DataW Unit := .lit (.int .u64 c)
abbrev IFn := Int → Option Int

theorem key_lit (x : Int) : WideAt.IsKeyLit (KI x) := trivial
/-- the datum reads as the function -/
def Views (D : DataW Unit) (F : IFn) : Prop := ∀ x, Maps.has D (KI x) = (F x).isSome ∧ ∀ c, F x = some c → ∀ z, D.atKey (KI x) z = VU c

theorem views_empty : Views (.map []) (fun _ => none) := fun x => ⟨rfl, fun c h => by cases h⟩
theorem Views.put {D : DataW Unit} {F : IFn} (h : Views D F) (hm : IsMap D) (x c : Int) : Views (D.put (KI x) (VU c)) (fun y => if y = x then some c else F y) := by
  intro y
  by_cases e : y = x
  · subst e
    simp only [if_true]
    exact ⟨by rw [has_put_same hm (key_lit y)]; rfl, fun c' hc z => by rw [atKey_put_same hm (key_lit y)]; cases hc; rfl⟩
  · simp only [if_neg e]
    have hne : KI y ≠ KI x := fun h => e (by injection h)
    exact ⟨by rw [has_put_other hne]; exact (h y).1, fun c' hc z => by rw [atKey_put_other hne]; exact (h y).2 c' hc z⟩
theorem Views.del {D : DataW Unit} {F : IFn} (h : Views D F) (x : Int) : Views (D.del (KI x)) (fun y => if y = x then none else F y) := by
  intro y
  by_cases e : y = x
  · subst e
    simp only [if_true]
    exact ⟨by rw [has_del_same]; rfl, fun c' hc z => by cases hc⟩
  · simp only [if_neg e]
    have hne : KI y ≠ KI x := fun h => e (by injection h)
    exact ⟨by rw [has_del_other hne]; exact (h y).1, fun c' hc z => by rw [atKey_del_other hne]; exact (h y).2 c' hc z⟩

/-- block b is a map from int to uint64, of at most n entries, that holds what F says -/
def Mp (P : Program) (k e : TypeId) (w : World) (b n : Nat) (F : IFn) : Prop := ∃ D : DataW Unit, w.ownsMap P k (plainElem P e) b n D ∧ Views D F

section
variable {P : Program} {k e t : TypeId} {w w' : World} {b n : Nat} {F : IFn}
theorem Mp.lt (h : Mp P k e w b n F) : b < w.heap.size := let ⟨_, h, _⟩ := h; h.lt
theorem Mp.kept {row : Option Nat} (h : Mp P k e w b n F) (hg : w.grownBy w' row) (hne : some b ≠ row) : Mp P k e w' b n F := let ⟨D, h, v⟩ := h; ⟨D, h.kept hg hne, v⟩
theorem Mp.same (h : Mp P k e w b n F) (hb : w'.heap[b]? = w.heap[b]?) : Mp P k e w' b n F := by
  obtain ⟨D, ⟨es, clock, h1, F1, h2, h3⟩, v⟩ := h
  exact ⟨D, ⟨es, clock, hb.trans h1, F1, h2, h3⟩, v⟩
theorem Mp.mono (h : Mp P k e w b n F) {m : Nat} (hn : n ≤ m) : Mp P k e w b m F := let ⟨D, h, v⟩ := h; ⟨D, h.mono hn, v⟩
theorem Mp.congr {G : IFn} (h : Mp P k e w b n F) (hg : ∀ x, F x = G x) : Mp P k e w b n G := by rw [← (funext hg : F = G)]; exact h
theorem Mp.made (w : World) (P : Program) (k e : TypeId) : Mp P k e (w.alloc (.map #[] 0)) w.heap.size 0 (fun _ => none) := ⟨_, World.ownsMap_made w P k _, views_empty⟩
theorem Mp.cells {c : Array Value} {T : TypeId} {g : Nat} (h : Mp P k e w b n F) (hc : Wd.Cells w g T c) : b ≠ g := by
  rintro rfl
  obtain ⟨D, ⟨es, clock, h1, _⟩, _⟩ := h
  unfold Wd.Cells at hc
  rw [hc] at h1
  cases h1

/-- what a lookup reads -/
theorem Views.at {D : DataW Unit} {F : IFn} (v : Views D F) (x : Int) : D.atKey (KI x) (VU 0) = VU ((F x).getD 0) := by
  cases hx : F x with
  | none => exact atKey_of_not_has (by rw [(v x).1, hx]; rfl) _
  | some c => exact (v x).2 c hx _

theorem Mp.look (h : Mp P k e w b n F) (K : Keyed P k) (ht : P.underlying t = some (.map k e)) (he : P.underlying e = some (.int .u64)) (hk : P.underlying k = some (.int .i64)) (hz : (zeroValue e).run P w = .ok (.int .u64 0) w) (x : Int) (hx : (Lit.int .i64 x).wf = true) :
    (Instr.lookup t (.map (some b)) (.int .i64 x) false).run P w = .ok (.int .u64 ((F x).getD 0)) w := by
  obtain ⟨D, h, v⟩ := h
  obtain ⟨c, h1, h2, _⟩ := h.lookup_int K ht he hz (keyOf_int_mk hk hx)
  rw [v.at x] at h2
  injection h2 with h2
  injection h2 with _ h2
  rw [h1, h2]

theorem Mp.look_ok (h : Mp P k e w b n F) (K : Keyed P k) (ht : P.underlying t = some (.map k e)) (he : P.underlying e = some (.int .u64)) (hk : P.underlying k = some (.int .i64)) (hz : (zeroValue e).run P w = .ok (.int .u64 0) w) (x : Int) (hx : (Lit.int .i64 x).wf = true) :
    (Instr.lookup t (.map (some b)) (.int .i64 x) true).run P w = .ok (.tuple #[.int .u64 ((F x).getD 0), .bool (F x).isSome]) w := by
  obtain ⟨D, h, v⟩ := h
  obtain ⟨c, ps, h1, h2⟩ := h.look_ok K ht hz (plainElem_int (H := Unit) he (by decide)) (keyOf_int_mk hk hx)
  obtain ⟨a, rfl, h3, _⟩ := plainElem_int_inv he h2
  rw [Prod.mk.injEq] at h3
  have h4 := h3.1
  rw [v.at x] at h4
  injection h4 with h4
  injection h4 with _ h4
  rw [h1, (v x).1, h4]

theorem Mp.store (h : Mp P k e w b n F) (K : Keyed P k) (ht : P.underlying t = some (.map k e)) (he : P.underlying e = some (.int .u64)) (hk : P.underlying k = some (.int .i64)) (hn : n < maxLen) (x c : Int) (hx : (Lit.int .i64 x).wf = true) (hc : (Lit.int .u64 c).wf = true) :
    ∃ w', (Instr.mapUpdate t (.map (some b)) (.int .i64 x) (.int .u64 c)).run P w = .ok () w' ∧ Mp P k e w' b (n + 1) (fun y => if y = x then some c else F y) ∧ w.mapTurned w' b := by
  obtain ⟨D, h, v⟩ := h
  obtain ⟨w', h1, h2, h3⟩ := h.store K ht hn (keyOf_int_mk hk hx) (plainElem_int (H := Unit) he hc)
  exact ⟨w', h1, ⟨_, h2, v.put h.isMap x c⟩, h3⟩

theorem Mp.drop (h : Mp P k e w b n F) (K : Keyed P k) (ht : P.underlying t = some (.map k e)) (hk : P.underlying k = some (.int .i64)) (x : Int) (hx : (Lit.int .i64 x).wf = true) (ty : TypeId) :
    ∃ w', (Builtin.delete_ #[t, k] ty #[.map (some b), .int .i64 x]).run P w = .ok (.tuple #[]) w' ∧ Mp P k e w' b n (fun y => if y = x then none else F y) ∧ w.mapTurned w' b := by
  obtain ⟨D, h, v⟩ := h
  obtain ⟨w', h1, h2, h3⟩ := h.drop K ht (keyOf_int_mk hk hx) ty
  exact ⟨w', h1, ⟨_, h2, v.del x⟩, h3⟩
end

/-! at the operations -/
section
variable {P : Program} (w : World) {ops : Array Oper} {rest : List Oper} {o : Oper} {a : Act} {Q : Exit → Act → World → Prop} {k e : TypeId} {b n : Nat} {F : IFn}
theorem wp_look (hg : o.guard = none) (m x : Operand) (t : TypeId) (hop : o.op = Op.lookup t m x false) (K : Keyed P k) (ht : P.underlying t = some (.map k e)) (he : P.underlying e = some (.int .u64)) (hk : P.underlying k = some (.int .i64)) (hz : (zeroValue e).run P w = .ok (.int .u64 0) w)
    (hm : a.eval m = .map (some b)) (hown : Mp P k e w b n F) (i : Int) (hx : a.eval x = .int .i64 i) (hw : (Lit.int .i64 i).wf = true)
    (hK : wpList P ops Q rest (a.put o.dst (.int .u64 ((F i).getD 0))) w) : wpList P ops Q (o :: rest) a w := by
  refine wpList_plain hg fun K' hK' => ?_
  have hrun := hown.look (t := t) K ht he hk hz i hw
  unfold Oper.wp
  simp [execOp, hop, hm, hx, hrun, Result.andThen]
  exact hK' _ _ hK
theorem wp_look_ok (hg : o.guard = none) (m x : Operand) (t : TypeId) (hop : o.op = Op.lookup t m x true) (K : Keyed P k) (ht : P.underlying t = some (.map k e)) (he : P.underlying e = some (.int .u64)) (hk : P.underlying k = some (.int .i64)) (hz : (zeroValue e).run P w = .ok (.int .u64 0) w)
    (hm : a.eval m = .map (some b)) (hown : Mp P k e w b n F) (i : Int) (hx : a.eval x = .int .i64 i) (hw : (Lit.int .i64 i).wf = true)
    (hK : wpList P ops Q rest (a.put o.dst (.tuple #[.int .u64 ((F i).getD 0), .bool (F i).isSome])) w) : wpList P ops Q (o :: rest) a w := by
  refine wpList_plain hg fun K' hK' => ?_
  have hrun := hown.look_ok (t := t) K ht he hk hz i hw
  unfold Oper.wp
  simp [execOp, hop, hm, hx, hrun, Result.andThen]
  exact hK' _ _ hK
theorem wp_store (hg : o.guard = none) (m x v : Operand) (t : TypeId) (hop : o.op = Op.mapUpdate t m x v) (K : Keyed P k) (ht : P.underlying t = some (.map k e)) (he : P.underlying e = some (.int .u64)) (hk : P.underlying k = some (.int .i64))
    (hm : a.eval m = .map (some b)) (hown : Mp P k e w b n F) (hn : n < maxLen) (i c : Int) (hx : a.eval x = .int .i64 i) (hv : a.eval v = .int .u64 c) (hw : (Lit.int .i64 i).wf = true) (hc : (Lit.int .u64 c).wf = true)
    (hK : ∀ w', Mp P k e w' b (n + 1) (fun y => if y = i then some c else F y) → w.mapTurned w' b → wpList P ops Q rest (a.put o.dst undef) w') : wpList P ops Q (o :: rest) a w := by
  refine wpList_plain hg fun K' hK' => ?_
  obtain ⟨w', hrun, r1, r2⟩ := hown.store K ht he hk hn i c hw hc
  unfold Oper.wp
  simp [execOp, hop, hm, hx, hv, hrun, Result.andThen]
  exact hK' _ _ (hK w' r1 r2)
theorem wp_drop (hg : o.guard = none) (m x : Operand) (t : TypeId) (hop : o.op = Op.call { callee := Callee.builtin Builtin.delete, args := #[m, x], argTypes := #[t, k] }) (K : Keyed P k) (ht : P.underlying t = some (.map k e)) (hk : P.underlying k = some (.int .i64))
    (hm : a.eval m = .map (some b)) (hown : Mp P k e w b n F) (i : Int) (hx : a.eval x = .int .i64 i) (hw : (Lit.int .i64 i).wf = true)
    (hK : ∀ w', Mp P k e w' b n (fun y => if y = i then none else F y) → w.mapTurned w' b → wpList P ops Q rest (a.put o.dst (.tuple #[])) w') : wpList P ops Q (o :: rest) a w := by
  refine wpList_plain hg fun K' hK' => ?_
  obtain ⟨w', hrun, r1, r2⟩ := hown.drop K ht hk i hw o.type
  unfold Oper.wp
  simp [execOp, hop, resolve, invoke, builtin, hm, hx, hrun, Result.andThen]
  exact hK' _ _ (hK w' r1 r2)
end

/-! the same, where it is known whether something is there -/
section
variable {P : Program} (w : World) {ops : Array Oper} {rest : List Oper} {o : Oper} {a : Act} {Q : Exit → Act → World → Prop} {k e : TypeId} {b n : Nat} {F : IFn}
theorem wp_look_yes (hg : o.guard = none) (m x : Operand) (t : TypeId) (hop : o.op = Op.lookup t m x true) (K : Keyed P k) (ht : P.underlying t = some (.map k e)) (he : P.underlying e = some (.int .u64)) (hk : P.underlying k = some (.int .i64)) (hz : (zeroValue e).run P w = .ok (.int .u64 0) w)
    (hm : a.eval m = .map (some b)) (hown : Mp P k e w b n F) (i : Int) (hx : a.eval x = .int .i64 i) (hw : (Lit.int .i64 i).wf = true) (c : Int) (hc : F i = some c)
    (hK : wpList P ops Q rest (a.put o.dst (.tuple #[.int .u64 c, .bool true])) w) : wpList P ops Q (o :: rest) a w :=
  wp_look_ok w hg m x t hop K ht he hk hz hm hown i hx hw (by rw [hc]; exact hK)
theorem wp_look_not (hg : o.guard = none) (m x : Operand) (t : TypeId) (hop : o.op = Op.lookup t m x true) (K : Keyed P k) (ht : P.underlying t = some (.map k e)) (he : P.underlying e = some (.int .u64)) (hk : P.underlying k = some (.int .i64)) (hz : (zeroValue e).run P w = .ok (.int .u64 0) w)
    (hm : a.eval m = .map (some b)) (hown : Mp P k e w b n F) (i : Int) (hx : a.eval x = .int .i64 i) (hw : (Lit.int .i64 i).wf = true) (hc : F i = none)
    (hK : wpList P ops Q rest (a.put o.dst (.tuple #[.int .u64 0, .bool false])) w) : wpList P ops Q (o :: rest) a w :=
  wp_look_ok w hg m x t hop K ht he hk hz hm hown i hx hw (by rw [hc]; exact hK)
theorem wp_look_val (hg : o.guard = none) (m x : Operand) (t : TypeId) (hop : o.op = Op.lookup t m x false) (K : Keyed P k) (ht : P.underlying t = some (.map k e)) (he : P.underlying e = some (.int .u64)) (hk : P.underlying k = some (.int .i64)) (hz : (zeroValue e).run P w = .ok (.int .u64 0) w)
    (hm : a.eval m = .map (some b)) (hown : Mp P k e w b n F) (i : Int) (hx : a.eval x = .int .i64 i) (hw : (Lit.int .i64 i).wf = true) (c : Int) (hc : (F i).getD 0 = c)
    (hK : wpList P ops Q rest (a.put o.dst (.int .u64 c)) w) : wpList P ops Q (o :: rest) a w :=
  wp_look w hg m x t hop K ht he hk hz hm hown i hx hw (by rw [hc]; exact hK)
end

/-! ranging -/
/-- one key less -/
def strike (left : Int → Bool) (x : Int) : Int → Bool := fun z => left z && decide (z ≠ x)
/-- a range over the map is under way; left: which keys are still to come -/
def Rg (P : Program) (k e : TypeId) (w : World) (b r n : Nat) (F : IFn) (left : Int → Bool) (cnt : Nat) : Prop := ∃ (D : DataW Unit) (lf : Lit → Bool), w.ranges P k (plainElem P e) b r n D lf cnt ∧ Views D F ∧ ∀ x, left x = lf (KI x)
section
variable {P : Program} {w : World} {ops : Array Oper} {rest : List Oper} {o : Oper} {a : Act} {Q : Exit → Act → World → Prop} {k e : TypeId} {b n r cnt : Nat} {F : IFn} {left : Int → Bool} {w' : World}
theorem Rg.owns (h : Rg P k e w b r n F left cnt) : Mp P k e w b n F := let ⟨D, _, h, v, _⟩ := h; ⟨D, h.owns, v⟩
theorem Rg.left_eq (h : Rg P k e w b r n F left cnt) : w.rangeLeft b r = cnt := let ⟨_, _, h, _, _⟩ := h; h.left_eq
theorem Rg.lt (h : Rg P k e w b r n F left cnt) : r < w.heap.size := let ⟨_, _, h, _, _⟩ := h; h.lt
theorem Rg.kept {row : Option Nat} (h : Rg P k e w b r n F left cnt) (hg : w.grownBy w' row) (hb : some b ≠ row) (hr : some r ≠ row) : Rg P k e w' b r n F left cnt := let ⟨D, lf, h, v, l⟩ := h; ⟨D, lf, h.kept hg hb hr, v, l⟩
theorem Rg.cells {c : Array Value} {T : TypeId} {g : Nat} (h : Rg P k e w b r n F left cnt) (hc : Wd.Cells w g T c) : r ≠ g := by
  rintro rfl
  obtain ⟨D, lf, ⟨es, clock, since, seen, c0, _, _, _, _, h1, _⟩, _⟩ := h
  unfold Wd.Cells at hc
  rw [hc] at h1
  cases h1
theorem Rg.map {b' n' : Nat} {F' : IFn} (h : Rg P k e w b r n F left cnt) (hc : Mp P k e w b' n' F') : r ≠ b' := by
  rintro rfl
  obtain ⟨D, lf, ⟨es, clock, since, seen, c0, _, _, _, _, h1, _⟩, _⟩ := h
  obtain ⟨D', ⟨es', clock', h2, _⟩, _⟩ := hc
  rw [h2] at h1
  cases h1
variable (w) in
theorem wp_range (hg : o.guard = none) (m : Operand) (t : TypeId) (hop : o.op = Op.range t m) (K : Keyed P k) (ht : P.underlying t = some (.map k e))
    (hm : a.eval m = .map (some b)) (hown : Mp P k e w b n F)
    (hK : ∀ w' cnt, Rg P k e w' b w.heap.size n F (fun x => (F x).isSome) cnt → w.grownBy w' none → w'.heap.size = w.heap.size + 1 → wpList P ops Q rest (a.put o.dst (.pointer (some ⟨w.heap.size, 0, none⟩))) w') :
    wpList P ops Q (o :: rest) a w := by
  obtain ⟨D, hown, v⟩ := hown
  exact wpList_range_own w hg m t hop k e K ht _ b n D hm hown fun w' h1 h2 h3 => hK w' _ ⟨D, _, h1, v, fun x => (v x).1.symm⟩ h2 h3
variable (w) in
theorem wp_next (hg : o.guard = none) (it : Operand) (hop : o.op = Op.next it false) (K : Keyed P k) (hk : P.underlying k = some (.int .i64)) (he : P.underlying e = some (.int .u64))
    (hit : a.eval it = .pointer (some ⟨r, 0, none⟩)) (h : Rg P k e w b r n F left cnt)
    (hDone : cnt = 0 → (∀ x, left x = false) → wpList P ops Q rest (a.put o.dst (.tuple #[.bool false])) w)
    (hMore : ∀ (x c : Int) (w' : World) (cnt' : Nat), left x = true → F x = some c → Rg P k e w' b r n F (strike left x) cnt' → cnt' < cnt →
      w.grownBy w' (some r) → w'.heap.size = w.heap.size → (Instr.entry (.pointer (some ⟨r, 0, none⟩))).run P w' = .ok (.tuple #[.int .i64 x, .int .u64 c]) w' → wpList P ops Q rest (a.put o.dst (.tuple #[.bool true, .int .i64 x, .int .u64 c])) w') :
    wpList P ops Q (o :: rest) a w := by
  obtain ⟨D, lf, h, v, l⟩ := h
  refine wpList_next_ranges_ii w hg it hop k e .i64 .u64 K hk he b r n D lf cnt hit h (fun h1 h2 => hDone h1 fun x => (l x).trans (h2 _)) fun x c w' cnt' hx hc hl hat hrg hlt hgr hsz hen => ?_
  have hF : F x = some c := by
    have h1 := Maps.has_true_of_atKey hat
    rw [(v x).1] at h1
    obtain ⟨c', hc'⟩ := Option.isSome_iff_exists.1 h1
    have h2 := (v x).2 c' hc' (VU 0)
    rw [hat] at h2
    injection h2 with h2
    injection h2 with _ h2
    rw [hc', h2]
  refine hMore x c w' cnt' ((l x).trans hl) hF ⟨D, _, hrg, v, fun z => ?_⟩ hlt hgr hsz hen
  show (left z && decide (z ≠ x)) = (lf (KI z) && !(KI z).sameKey (KI x))
  rw [l z]
  by_cases e : z = x
  · subst e; rw [WideAt.sameKey_self (key_lit z)]; simp
  · rw [Maps.sameKey_ne (fun h => e (by injection h))]; simp [e]
end

/-! how many entries there may be: keys from 0 to N -/
theorem pigeon : ∀ (N : Nat) (l : List Int), l.Pairwise (· ≠ ·) → (∀ x ∈ l, 0 ≤ x ∧ x < N) → l.length ≤ N
  | 0, [], _, _ => Nat.le_refl _
  | 0, x :: _, _, h => by have := h x (by simp); omega
  | N + 1, l, hp, h => by
    have h1 := pigeon N (l.filter (· ≠ (N : Int))) (hp.filter _) (fun x hx => by
      have h2 := List.mem_filter.1 hx
      have h3 := h x h2.1
      have h4 : x ≠ N := by simpa using h2.2
      omega)
    have h5 : ∀ (l : List Int), l.Pairwise (· ≠ ·) → l.length ≤ (l.filter (· ≠ (N : Int))).length + 1 := by
      intro l
      induction l with
      | nil => intro _; simp
      | cons x l ih =>
        intro hp
        obtain ⟨hx, hp⟩ := List.pairwise_cons.1 hp
        by_cases e : x = N
        · subst e
          have : l.filter (· ≠ (N : Int)) = l := List.filter_eq_self.2 fun y hy => by have := hx y hy; simp; exact fun h => this h.symm
          rw [List.filter_cons_of_neg (by simp), this]; simp
        · have := ih hp
          rw [List.filter_cons_of_pos (by simpa using e)]; simpa using this
    have := h5 l hp
    omega
theorem Mp.few {P : Program} {k e : TypeId} {w : World} {b n N : Nat} {F : IFn} (h : Mp P k e w b n F) (K : Keyed P k) (hk : P.underlying k = some (.int .i64)) (hF : ∀ x, (F x).isSome = true → 0 ≤ x ∧ x < N) : Mp P k e w b N F := by
  obtain ⟨D, h, v⟩ := h
  have h' := h
  obtain ⟨es, clock, h1, F1, h2, rfl⟩ := h
  have ap := Maps.fit_apart K F1
  have each : ∀ p ∈ es.toList.map (WideElems.rg (H := Unit) P k (plainElem P e)), ∃ x, p.1 = KI x ∧ 0 ≤ x ∧ x < N := by
    intro p hp
    obtain ⟨m, hm, rfl⟩ := List.mem_map.1 hp
    obtain ⟨y, hy⟩ := F1.reads m hm
    obtain ⟨x, _, ex, _⟩ := Maps.keyOf_int_inv hk (WideElems.rd_key hy)
    have e1 : (WideElems.rg (H := Unit) P k (plainElem P e) m).1 = KI x := by rw [WideElems.rg_of hy, ex]
    refine ⟨x, e1, hF x ?_⟩
    rw [← (v x).1]
    exact List.any_eq_true.2 ⟨_, mem_sorted.2 hp, by rw [e1]; exact WideAt.sameKey_self (key_lit x)⟩
  refine ⟨_, ⟨es, clock, h1, F1, ?_, rfl⟩, v⟩
  have hl := pigeon N ((es.toList.map (WideElems.rg (H := Unit) P k (plainElem P e))).map fun p => match p.1 with | .int _ x => x | _ => 0) ?_ ?_
  · simpa using hl
  · rw [List.pairwise_map]
    refine (List.Pairwise.and_mem.1 ap).imp fun {p q} ⟨hp, hq, hne⟩ => ?_
    obtain ⟨x, ex, _⟩ := each p hp
    obtain ⟨y, ey, _⟩ := each q hq
    rw [ex, ey] at hne ⊢
    exact fun h => hne (by rw [show x = y from h])
  · intro x hx
    obtain ⟨p, hp, rfl⟩ := List.mem_map.1 hx
    obtain ⟨y, ey, h1, h2⟩ := each p hp
    rw [ey]
    exact ⟨h1, h2⟩
end Pm

namespace Go.Proofs.YtnjikgcigobcdaaGreat
open Wd Pm Go.Maps Go.RowKit
set_option linter.unusedVariables false

/-- a device, plainly: how many words, what they stay as, what dirty ones hold, what is on its way, how many events, when power fails, and whether it did -/
structure St where
  n : Nat
  st : Int → Int
  hd : IFn
  sn : IFn
  ev : Int
  ar : Int
  dead : Bool
/-- the blocks that a device lies in; its words' room, and what lies behind them -/
structure Fp where
  p : Nat
  bs : Nat
  bh : Nat
  bn : Nat
  c : Nat
  ex : Array Value
def Fp.blocks (f : Fp) : List Nat := [f.p, f.bs, f.bh, f.bn]
def Fp.ptr (f : Fp) : Value := .pointer (some ⟨f.p, 0, none⟩)
def St.row (σ : St) : Array Value := ((List.range σ.n).map fun (i : Nat) => Value.int .u64 (σ.st (i : Int))).toArray

def U64 (c : Int) : Prop := (Lit.int .u64 c).wf = true
structure Good (σ : St) : Prop where
  nle : σ.n ≤ 33554432
  st : ∀ x : Int, 0 ≤ x → x < σ.n → U64 (σ.st x)
  hd : ∀ x c, σ.hd x = some c → 0 ≤ x ∧ x < σ.n ∧ U64 c
  sn : ∀ x c, σ.sn x = some c → 0 ≤ x ∧ x < σ.n ∧ U64 c
  ev : 0 ≤ σ.ev ∧ σ.ev ≤ 4611686018427387904
  ar : 0 ≤ σ.ar ∧ σ.ar ≤ 9223372036854775807

def Dev (w : World) (f : Fp) (σ : St) : Prop :=
  Cells w f.p 57 #[.slice (some ⟨f.bs, 0, none⟩) σ.n f.c, .map (some f.bh), .map (some f.bn), .int .i64 σ.ev, .int .i64 σ.ar, .bool σ.dead] ∧ Cells w f.bs 31 (σ.row ++ f.ex) ∧
  Mp Tryz.prog 3 31 w f.bh σ.n σ.hd ∧ Mp Tryz.prog 3 31 w f.bn σ.n σ.sn ∧ f.bh ≠ f.bn ∧ Good σ

/-- nothing has turned but blocks of S, and new ones -/
structure Turn (w w' : World) (S : List Nat) : Prop where
  os : w'.os = w.os
  tape : w'.tape = w.tape
  output : w'.output = w.output
  size : w.heap.size ≤ w'.heap.size
  block : ∀ k, k < w.heap.size → k ∉ S → w'.heap[k]? = w.heap[k]?

/-- the device goes on as σ', and nothing else has turned -/
def Goes (w : World) (f : Fp) (σ' : St) (w' : World) : Prop := ∃ f', Dev w' f' σ' ∧ f'.p = f.p ∧ (∀ k ∈ f'.blocks, k ∈ f.blocks ∨ w.heap.size ≤ k) ∧ Turn w w' f.blocks

theorem Turn.refl (w : World) (S : List Nat) : Turn w w S := ⟨rfl, rfl, rfl, Nat.le_refl _, fun _ _ _ => rfl⟩
theorem Turn.trans {a b c : World} {S S' : List Nat} (h : Turn a b S) (k : Turn b c S') (hS : ∀ x ∈ S', x ∈ S ∨ a.heap.size ≤ x) : Turn a c S :=
  ⟨k.os.trans h.os, k.tape.trans h.tape, k.output.trans h.output, Nat.le_trans h.size k.size, fun i hi hn => (k.block i (Nat.lt_of_lt_of_le hi h.size) (fun hm => by rcases hS i hm with h1 | h1; exact hn h1; omega)).trans (h.block i hi hn)⟩
theorem Turn.more {a b : World} {S S' : List Nat} (h : Turn a b S) (hS : ∀ x ∈ S, x ∈ S') : Turn a b S' := ⟨h.os, h.tape, h.output, h.size, fun k hk hn => h.block k hk fun hm => hn (hS k hm)⟩
theorem Turn.grown {a b : World} {g : Nat} {S : List Nat} (h : a.grownBy b (some g)) (hg : g ∈ S) : Turn a b S := ⟨h.os, h.tape, h.output, h.size, fun k hk hn => h.block k hk fun e => hn (by have := Option.some.inj e; subst this; exact hg)⟩
theorem Turn.none {a b : World} {S : List Nat} (h : a.grownBy b none) : Turn a b S := ⟨h.os, h.tape, h.output, h.size, fun k hk hn => h.block k hk (by simp)⟩
theorem Turn.set (a : World) {p : Addr} {S : List Nat} (hp : p.block ∈ S) (u : Value) : Turn a (a.setCell p u) S := ⟨rfl, rfl, rfl, by simp, fun k hk hn => Below.heap_setCell a p u k (fun e => hn (by rw [e]; exact hp))⟩
theorem Turn.below {a b : World} {S : List Nat} {B : Nat} (h : Turn a b S) (hb : a.heap.size = B ∨ B ≤ a.heap.size) (hS : ∀ x ∈ S, B ≤ x) : Below B a b := ⟨h.os, h.tape, h.output, h.size, fun k hk => h.block k (by omega) fun hm => by have := hS k hm; omega⟩
theorem Turn.ofBelow {a b : World} {S : List Nat} (h : Below a.heap.size a b) : Turn a b S := ⟨h.os, h.tape, h.output, h.size, fun k hk _ => h.block k hk⟩
theorem Goes.refl {w : World} {f : Fp} {σ : St} (h : Dev w f σ) : Goes w f σ w := ⟨f, h, rfl, fun k hk => .inl hk, Turn.refl _ _⟩

section
variable {w w' : World} {f : Fp} {σ : St}
theorem Dev.good (h : Dev w f σ) : Good σ := h.2.2.2.2.2
theorem Dev.lt (h : Dev w f σ) : f.p < w.heap.size ∧ f.bs < w.heap.size ∧ f.bh < w.heap.size ∧ f.bn < w.heap.size := ⟨h.1.lt, h.2.1.lt, h.2.2.1.lt, h.2.2.2.1.lt⟩
theorem Dev.ne (h : Dev w f σ) : f.p ≠ f.bs ∧ f.bh ≠ f.p ∧ f.bn ≠ f.p ∧ f.bh ≠ f.bs ∧ f.bn ≠ f.bs ∧ f.bh ≠ f.bn :=
  ⟨h.1.ne h.2.1 (by decide), h.2.2.1.cells h.1, h.2.2.2.1.cells h.1, h.2.2.1.cells h.2.1, h.2.2.2.1.cells h.2.1, h.2.2.2.2.1⟩
theorem Dev.keep (h : Dev w f σ) (hb : ∀ k ∈ f.blocks, w'.heap[k]? = w.heap[k]?) : Dev w' f σ := by
  obtain ⟨h1, h2, h3, h4, h5, h6⟩ := h
  exact ⟨(hb _ (by simp [Fp.blocks])).trans h1, (hb _ (by simp [Fp.blocks])).trans h2, h3.same (hb _ (by simp [Fp.blocks])), h4.same (hb _ (by simp [Fp.blocks])), h5, h6⟩
theorem Dev.below (h : Dev w f σ) (hb : Below w.heap.size w w') : Dev w' f σ := h.keep fun k hk => hb.block k (by have := h.lt; simp [Fp.blocks] at hk; omega)
theorem Dev.alloc (h : Dev w f σ) (o : Obj) : Dev (w.alloc o) f σ := h.below ((Below.refl _ _).alloc (Nat.le_refl _) _)
theorem Dev.far (h : Dev w f σ) {p : Addr} (hp : p.block ∉ f.blocks) (u : Value) : Dev (w.setCell p u) f σ := h.keep fun k hk => Below.heap_setCell w p u k (fun e => hp (by rw [← e]; exact hk))
theorem Dev.cell (h : Dev w f σ) (i : Nat) : w.cell? ⟨f.p, i, none⟩ = (#[.slice (some ⟨f.bs, 0, none⟩) σ.n f.c, .map (some f.bh), .map (some f.bn), .int .i64 σ.ev, .int .i64 σ.ar, .bool σ.dead] : Array Value)[i]? := h.1.cell i
theorem Dev.free (h : Dev w f σ) (i : Nat) : w.frozen? ⟨f.p, i, none⟩ = false := h.1.free i
theorem St.row_at (σ : St) (i : Nat) (hi : i < σ.n) : σ.row[i]? = some (.int .u64 (σ.st i)) := by simp [St.row, hi]
theorem Dev.word (h : Dev w f σ) (i : Nat) (hi : i < σ.n) : w.cell? ⟨f.bs, i, none⟩ = some (.int .u64 (σ.st i)) := by rw [h.2.1.cell i, Array.getElem?_append_left (by simpa [St.row] using hi), σ.row_at i hi]

/-- from a device to a device -/
theorem Goes.trans {w1 w2 : World} {σ1 σ2 : St} (h : Goes w f σ1 w1) (k : ∀ f1, f1.p = f.p → Dev w1 f1 σ1 → Goes w1 f1 σ2 w2) : Goes w f σ2 w2 := by
  obtain ⟨f1, d1, e1, n1, t1⟩ := h
  obtain ⟨f2, d2, e2, n2, t2⟩ := k f1 e1 d1
  exact ⟨f2, d2, e2.trans e1, fun x hx => by
    rcases n2 x hx with h | h
    · exact n1 x h
    · exact .inr (Nat.le_trans t1.size h), t1.trans t2 n1⟩
/-- a block of another type stays -/
theorem _root_.Wd.Cells.turn {g : Nat} {T : TypeId} {cs : Array Value} (h : Cells w g T cs) (d : Dev w f σ) (h1 : T ≠ 57) (h2 : T ≠ 31) (t : Turn w w' f.blocks) : Cells w' g T cs := by
  refine (t.block g h.lt ?_).trans h
  intro hm
  simp only [Fp.blocks, List.mem_cons, List.not_mem_nil, or_false] at hm
  rcases hm with rfl | rfl | rfl | rfl
  · exact h.ne d.1 h1 rfl
  · exact h.ne d.2.1 h2 rfl
  · exact d.2.2.1.cells h rfl
  · exact d.2.2.2.1.cells h rfl
end

theorem keyedInt : Keyed Tryz.prog 3 := int_keyed Tryz.underlying3
theorem zeroU (w : World) : (zeroValue 31).run Tryz.prog w = .ok (.int .u64 0) w := by kernel_rfl
theorem wf_i {x : Int} (h : -9223372036854775808 ≤ x) (h' : x ≤ 9223372036854775807) : (Lit.int .i64 x).wf = true := WalkArith.wf_i64 (by omega)
end Go.Proofs.YtnjikgcigobcdaaGreat

namespace Go.Proofs.YtnjikgcigobcdaaGreat
open Wd Pm Go.Maps Go.RowKit
set_option linter.unusedVariables false

/-- the cells that a walk reads -/
structure Reads (w : World) (f : Fp) (σ : St) : Prop where
  c0 : w.cell? ⟨f.p, 0, none⟩ = some (.slice (some ⟨f.bs, 0, none⟩) σ.n f.c)
  c1 : w.cell? ⟨f.p, 1, none⟩ = some (.map (some f.bh))
  c2 : w.cell? ⟨f.p, 2, none⟩ = some (.map (some f.bn))
  c3 : w.cell? ⟨f.p, 3, none⟩ = some (.int .i64 σ.ev)
  c4 : w.cell? ⟨f.p, 4, none⟩ = some (.int .i64 σ.ar)
  c5 : w.cell? ⟨f.p, 5, none⟩ = some (.bool σ.dead)
theorem Dev.reads {w : World} {f : Fp} {σ : St} (h : Dev w f σ) : Reads w f σ := ⟨h.cell 0, h.cell 1, h.cell 2, h.cell 3, h.cell 4, h.cell 5⟩

theorem neqMap (w : World) (r : Option Nat) : (binOp .neq 55 (.map r) (.map none)).run Tryz.prog w = .ok (.bool r.isSome) w := by
  have := run_neq_map_nil (P := Tryz.prog) w 55 3 31 r Tryz.underlying55
  cases r <;> simpa using this

/-- there is such a word, such a line -/
@[irreducible] def hasW (n : Nat) (i : Int) : Bool := decide (0 ≤ i ∧ i < n)
@[irreducible] def hasL (n : Nat) (i : Int) : Bool := decide (0 ≤ i ∧ i < (n + 7) / 8)
theorem hasW_iff {n : Nat} {i : Int} : hasW n i = true ↔ 0 ≤ i ∧ i < n := by unfold hasW; simp
theorem hasL_iff {n : Nat} {i : Int} : hasL n i = true ↔ 0 ≤ i ∧ i < (n + 7) / 8 := by unfold hasL; simp
theorem hasW_no {n : Nat} {i : Int} : hasW n i = false ↔ ¬ (0 ≤ i ∧ i < n) := by unfold hasW; simp only [decide_eq_false_iff_not]
theorem hasL_no {n : Nat} {i : Int} : hasL n i = false ↔ ¬ (0 ≤ i ∧ i < (n + 7) / 8) := by unfold hasL; simp only [decide_eq_false_iff_not]
/-- why a call can't be -/
@[irreducible] def refErr (dead there : Bool) : Int := if dead then 5 else if there then 0 else 90

theorem made_dev {w : World} {f : Fp} {σ : St} (h : Dev w f σ) : Calls Tryz.prog 33 #[f.ptr] w fun e w' => e = .returned (.bool true) ∧ w = w' := by
  unfold Fp.ptr
  have c1 := h.reads.c1
  have hq := fun (w : World) => neqMap w (some f.bh)
  clear h
  go_enter Tryz.func33, Tryz.ntmps33
  go_wp2
  go_ret
  exact ⟨rfl, rfl⟩
theorem made_nil (w : World) : Calls Tryz.prog 33 #[.pointer none] w fun e w' => e = .returned (.bool false) ∧ w = w' := by
  go_enter Tryz.func33, Tryz.ntmps33
  go_wp2
  go_ret
  exact ⟨rfl, rfl⟩

theorem words_dev {w : World} {f : Fp} {σ : St} (h : Dev w f σ) : Calls Tryz.prog 71 #[f.ptr] w fun e w' => e = .returned (.int .i64 σ.n) ∧ w = w' := by
  have c0 := h.reads.c0
  unfold Fp.ptr
  go_enter Tryz.func71, Tryz.ntmps71
  go_wp2_with (go_at_call 33; refine (made_dev h).mono ?_; rintro e w' ⟨rfl, rfl⟩)
  go_ret
  exact ⟨rfl, rfl⟩
theorem words_nil (w : World) : Calls Tryz.prog 71 #[.pointer none] w fun e w' => e = .returned (.int .i64 0) ∧ w = w' := by
  go_enter Tryz.func71, Tryz.ntmps71
  go_wp2_with (go_at_call 33; refine (made_nil _).mono ?_; rintro e w' ⟨rfl, rfl⟩)
  go_ret
  exact ⟨rfl, rfl⟩

theorem hasWord_dev {w : World} {f : Fp} {σ : St} (h : Dev w f σ) (i : Int) : Calls Tryz.prog 40 #[f.ptr, .int .i64 i] w fun e w' => e = .returned (.bool (hasW σ.n i)) ∧ w = w' := by
  by_cases h0 : 0 ≤ i
  · by_cases h1 : i < σ.n
    · rw [hasW_iff.2 ⟨h0, h1⟩]
      have h1' : decide (i < (σ.n : Int)) = true := by simpa using h1
      unfold Fp.ptr
      go_enter Tryz.func40, Tryz.ntmps40
      go_wp2_with (go_at_call 71; refine (words_dev h).mono ?_; rintro e w' ⟨rfl, rfl⟩)
      go_ret
      exact ⟨rfl, rfl⟩
    · rw [hasW_no.2 fun h => h1 h.2]
      have h1' : decide (i < (σ.n : Int)) = false := by simpa using h1
      unfold Fp.ptr
      go_enter Tryz.func40, Tryz.ntmps40
      go_wp2_with (go_at_call 71; refine (words_dev h).mono ?_; rintro e w' ⟨rfl, rfl⟩)
      go_ret
      exact ⟨rfl, rfl⟩
  · rw [hasW_no.2 fun h => h0 h.1]
    have h0' : decide (i ≥ 0) = false := by simpa using h0
    unfold Fp.ptr
    go_enter Tryz.func40, Tryz.ntmps40
    go_wp2
    go_ret
    exact ⟨rfl, rfl⟩

theorem hasLine_dev {w : World} {f : Fp} {σ : St} (h : Dev w f σ) (i : Int) : Calls Tryz.prog 55 #[f.ptr, .int .i64 i] w fun e w' => e = .returned (.bool (hasL σ.n i)) ∧ w = w' := by
  have nle := h.good.nle
  by_cases h0 : 0 ≤ i
  · by_cases h1 : i < (σ.n + 7) / 8
    · rw [hasL_iff.2 ⟨h0, h1⟩]
      have h1' : decide (i < ((σ.n : Int) + 8 - 1) / 8) = true := by simp; omega
      unfold Fp.ptr
      go_enter Tryz.func55, Tryz.ntmps55
      go_wp2_with (go_at_call 71; refine (words_dev h).mono ?_; rintro e w' ⟨rfl, rfl⟩)
      go_ret
      exact ⟨rfl, rfl⟩
    · rw [hasL_no.2 fun h => h1 h.2]
      have h1' : decide (i < ((σ.n : Int) + 8 - 1) / 8) = false := by simp; omega
      unfold Fp.ptr
      go_enter Tryz.func55, Tryz.ntmps55
      go_wp2_with (go_at_call 71; refine (words_dev h).mono ?_; rintro e w' ⟨rfl, rfl⟩)
      go_ret
      exact ⟨rfl, rfl⟩
  · rw [hasL_no.2 fun h => h0 h.1]
    have h0' : decide (i ≥ 0) = false := by simpa using h0
    unfold Fp.ptr
    go_enter Tryz.func55, Tryz.ntmps55
    go_wp2
    go_ret
    exact ⟨rfl, rfl⟩

theorem refusal_dev {w : World} {f : Fp} {σ : St} (h : Dev w f σ) (b : Bool) : Calls Tryz.prog 54 #[f.ptr, .bool b] w fun e w' => e = .returned (.int .i64 (refErr σ.dead b)) ∧ w = w' := by
  have c5 := h.reads.c5
  unfold Fp.ptr refErr
  cases hb : σ.dead <;> rw [hb] at c5 <;> cases b
  all_goals
    go_enter Tryz.func54, Tryz.ntmps54
    go_wp2_with (go_at_call 33; refine (made_dev h).mono ?_; rintro e w' ⟨rfl, rfl⟩)
    go_ret
    exact ⟨rfl, rfl⟩
theorem refusal_nil (w : World) (b : Bool) : Calls Tryz.prog 54 #[.pointer none, .bool b] w fun e w' => e = .returned (.int .i64 91) ∧ w = w' := by
  go_enter Tryz.func54, Tryz.ntmps54
  go_wp2_with (go_at_call 33; refine (made_nil _).mono ?_; rintro e w' ⟨rfl, rfl⟩)
  go_ret
  exact ⟨rfl, rfl⟩
end Go.Proofs.YtnjikgcigobcdaaGreat

namespace Go.Proofs.YtnjikgcigobcdaaGreat
open Wd Pm Go.Maps Go.RowKit
set_option linter.unusedVariables false

/-! a device behind a write -/
section
variable {w w' : World} {f : Fp} {σ : St}
theorem Dev.setAr (h : Dev w f σ) (a : Int) (ha : 0 ≤ a ∧ a ≤ 9223372036854775807) : Dev (w.setCell ⟨f.p, 4, none⟩ (.int .i64 a)) f { σ with ar := a } := by
  have n := h.ne
  obtain ⟨h1, h2, h3, h4, h5, h6⟩ := h
  refine ⟨h1.set 4 _, h2.far (by exact n.1.symm) _, h3.same (Below.heap_setCell _ _ _ _ n.2.1), h4.same (Below.heap_setCell _ _ _ _ n.2.2.1), h5, ?_⟩
  exact ⟨h6.nle, h6.st, h6.hd, h6.sn, h6.ev, ha⟩
theorem Dev.setEv (h : Dev w f σ) (a : Int) (ha : 0 ≤ a ∧ a ≤ 4611686018427387904) : Dev (w.setCell ⟨f.p, 3, none⟩ (.int .i64 a)) f { σ with ev := a } := by
  have n := h.ne
  obtain ⟨h1, h2, h3, h4, h5, h6⟩ := h
  refine ⟨h1.set 3 _, h2.far (by exact n.1.symm) _, h3.same (Below.heap_setCell _ _ _ _ n.2.1), h4.same (Below.heap_setCell _ _ _ _ n.2.2.1), h5, ?_⟩
  exact ⟨h6.nle, h6.st, h6.hd, h6.sn, ha, h6.ar⟩
theorem Dev.setDead (h : Dev w f σ) (a : Bool) : Dev (w.setCell ⟨f.p, 5, none⟩ (.bool a)) f { σ with dead := a } := by
  have n := h.ne
  obtain ⟨h1, h2, h3, h4, h5, h6⟩ := h
  refine ⟨h1.set 5 _, h2.far (by exact n.1.symm) _, h3.same (Below.heap_setCell _ _ _ _ n.2.1), h4.same (Below.heap_setCell _ _ _ _ n.2.2.1), h5, ?_⟩
  exact ⟨h6.nle, h6.st, h6.hd, h6.sn, h6.ev, h6.ar⟩
theorem Dev.setW (h : Dev w f σ) (i : Nat) (hi : i < σ.n) (v : Int) (hv : U64 v) : Dev (w.setCell ⟨f.bs, i, none⟩ (.int .u64 v)) f { σ with st := fun y => if y = i then v else σ.st y } := by
  have n := h.ne
  obtain ⟨h1, h2, h3, h4, h5, h6⟩ := h
  refine ⟨h1.far (by exact n.1) _, ?_, h3.same (Below.heap_setCell _ _ _ _ n.2.2.2.1), h4.same (Below.heap_setCell _ _ _ _ n.2.2.2.2.1), h5, ?_⟩
  · have := h2.set i (.int .u64 v)
    have e : σ.row.setIfInBounds i (.int .u64 v) = ({ σ with st := fun y => if y = i then v else σ.st y } : St).row := by
      apply Array.ext_getElem?
      intro j
      by_cases e : j = i
      · subst e
        rw [Array.getElem?_setIfInBounds_self_of_lt (by simp [St.row, hi]), St.row_at { σ with st := fun y => if y = (j : Int) then v else σ.st y } j hi]
        simp
      · rw [Array.getElem?_setIfInBounds_ne (Ne.symm e)]
        by_cases hj : j < σ.n
        · rw [σ.row_at j hj, St.row_at { σ with st := fun y => if y = (i : Int) then v else σ.st y } j hj]
          have e' : ¬ (j : Int) = i := by omega
          simp [e']
        · simp [St.row, hj]
    rw [Array.setIfInBounds_append_left (by simpa [St.row] using hi), e] at this
    exact this
  · refine ⟨h6.nle, fun x hx hx' => ?_, h6.hd, h6.sn, h6.ev, h6.ar⟩
    show U64 (if x = i then v else σ.st x)
    split
    · exact hv
    · exact h6.st x hx hx'
theorem few_of {F : IFn} {n : Nat} (h : ∀ x c, F x = some c → 0 ≤ x ∧ x < n ∧ U64 c) : ∀ x, (F x).isSome = true → 0 ≤ x ∧ x < n := fun x hx => by
  obtain ⟨c, hc⟩ := Option.isSome_iff_exists.1 hx
  exact ⟨(h x c hc).1, (h x c hc).2.1⟩
/-- the map of what dirty words hold has turned -/
theorem Dev.turnH (h : Dev w f σ) (ht : w.mapTurned w' f.bh) {m : Nat} {F : IFn} (hm : Mp Tryz.prog 3 31 w' f.bh m F) (hF : ∀ x c, F x = some c → 0 ≤ x ∧ x < σ.n ∧ U64 c) : Dev w' f { σ with hd := F } := by
  have n := h.ne
  obtain ⟨h1, h2, h3, h4, h5, h6⟩ := h
  have g := ht.grown
  refine ⟨h1.grown g (by simpa using n.2.1.symm), h2.grown g (by simpa using n.2.2.2.1.symm), hm.few keyedInt Tryz.underlying3 (few_of hF), h4.kept g (by simpa using h5.symm), h5, ?_⟩
  exact ⟨h6.nle, h6.st, hF, h6.sn, h6.ev, h6.ar⟩
/-- the map of what is on its way has turned -/
theorem Dev.turnN (h : Dev w f σ) (ht : w.mapTurned w' f.bn) {m : Nat} {F : IFn} (hm : Mp Tryz.prog 3 31 w' f.bn m F) (hF : ∀ x c, F x = some c → 0 ≤ x ∧ x < σ.n ∧ U64 c) : Dev w' f { σ with sn := F } := by
  have n := h.ne
  obtain ⟨h1, h2, h3, h4, h5, h6⟩ := h
  have g := ht.grown
  refine ⟨h1.grown g (by simpa using n.2.2.1.symm), h2.grown g (by simpa using n.2.2.2.2.1.symm), h3.kept g (by simpa using h5), hm.few keyedInt Tryz.underlying3 (few_of hF), h5, ?_⟩
  exact ⟨h6.nle, h6.st, h6.hd, hF, h6.ev, h6.ar⟩
theorem memP (f : Fp) : f.p ∈ f.blocks := by simp [Fp.blocks]
theorem memS (f : Fp) : f.bs ∈ f.blocks := by simp [Fp.blocks]
theorem memH (f : Fp) : f.bh ∈ f.blocks := by simp [Fp.blocks]
theorem memN (f : Fp) : f.bn ∈ f.blocks := by simp [Fp.blocks]
theorem Goes.mk' {σ' : St} (d : Dev w' f σ') (t : Turn w w' f.blocks) : Goes w f σ' w' := ⟨f, d, rfl, fun k hk => .inl hk, t⟩
end

/-! what a word stays as, what it holds -/
@[irreducible] def St.stays (σ : St) (i : Int) : Int := if hasW σ.n i then σ.st i else 0
@[irreducible] def St.load (σ : St) (i : Int) : Int := (σ.hd i).getD (σ.st i)

theorem stays_dev {w : World} {f : Fp} {σ : St} (h : Dev w f σ) (i : Int) : Calls Tryz.prog 18 #[f.ptr, .int .i64 i] w fun e w' => e = .returned (.int .u64 (σ.stays i)) ∧ w = w' := by
  have c0 := h.reads.c0
  have nle := h.good.nle
  unfold Fp.ptr St.stays
  by_cases hi : hasW σ.n i = true
  · rw [if_pos hi]
    obtain ⟨h0, h1⟩ := hasW_iff.1 hi
    obtain ⟨k, rfl⟩ := Int.eq_ofNat_of_zero_le h0
    have hk : k < σ.n := by omega
    have hc := h.word k hk
    have HI := Lib.hid hi
    clear hi
    go_enter Tryz.func18, Tryz.ntmps18
    go_wp2_with (go_at_call 40; refine (hasWord_dev h _).mono ?_; rintro e w' ⟨rfl, rfl⟩; simp only [HI.out])
    go_ret
    exact ⟨rfl, rfl⟩
  · rw [if_neg hi]
    have hi : hasW σ.n i = false := by simpa using hi
    go_enter Tryz.func18, Tryz.ntmps18
    go_wp2_with (go_at_call 40; refine (hasWord_dev h _).mono ?_; rintro e w' ⟨rfl, rfl⟩)
    go_ret
    exact ⟨rfl, rfl⟩
theorem stays_nil (w : World) (i : Int) : Calls Tryz.prog 18 #[.pointer none, .int .i64 i] w fun e w' => e = .returned (.int .u64 0) ∧ w = w' := by
  have hw : Calls Tryz.prog 40 #[.pointer none, .int .i64 i] w fun e w' => e = .returned (.bool false) ∧ w = w' := by
    by_cases h0 : i ≥ 0
    · have h1 : decide (i < 0) = false := by simp; omega
      go_enter Tryz.func40, Tryz.ntmps40
      go_wp2_with (go_at_call 71; refine (words_nil _).mono ?_; rintro e w' ⟨rfl, rfl⟩)
      go_ret
      exact ⟨rfl, rfl⟩
    · have h1 : decide (i ≥ 0) = false := by simp; omega
      go_enter Tryz.func40, Tryz.ntmps40
      go_wp2
      go_ret
      exact ⟨rfl, rfl⟩
  go_enter Tryz.func18, Tryz.ntmps18
  go_wp2_with (go_at_call 40; refine (hw).mono ?_; rintro e w' ⟨rfl, rfl⟩)
  go_ret
  exact ⟨rfl, rfl⟩

theorem arm_dev {w : World} {f : Fp} {σ : St} (h : Dev w f σ) (n : Int) (hn : n ≤ 9223372036854775807) : Calls Tryz.prog 10 #[f.ptr, .int .i64 n] w fun e w' => e = .returned (.tuple #[]) ∧ Goes w f { σ with ar := max n 0 } w' := by
  have c4 := h.reads.c4
  have z4 := h.free 4
  have hd := h.setAr (max n 0) (by omega)
  unfold Fp.ptr
  go_enter Tryz.func10, Tryz.ntmps10
  go_wp2_with (go_at_call 33; refine (made_dev h).mono ?_; rintro e w' ⟨rfl, rfl⟩)
  go_end0
  exact ⟨rfl, Goes.mk' hd (Turn.set _ (memP f) _)⟩
theorem arm_nil (w : World) (n : Int) : Calls Tryz.prog 10 #[.pointer none, .int .i64 n] w fun e w' => e = .returned (.tuple #[]) ∧ w = w' := by
  go_enter Tryz.func10, Tryz.ntmps10
  go_wp2_with (go_at_call 33; refine (made_nil _).mono ?_; rintro e w' ⟨rfl, rfl⟩)
  go_end0
  exact ⟨rfl, rfl⟩

/-! power that runs out -/
theorem drain_off {w : World} {f : Fp} {σ : St} (h : Dev w f σ) (ha : σ.ar = 0) : Calls Tryz.prog 89 #[f.ptr] w fun e w' => e = .returned (.tuple #[]) ∧ w = w' := by
  have c4 := h.reads.c4
  rw [ha] at c4
  unfold Fp.ptr
  clear ha
  go_enter Tryz.func89, Tryz.ntmps89
  go_wp2
  refine bodyPost_ret (results_none rfl _ _ _) rfl ?_
  exact ⟨rfl, rfl⟩
theorem drain_on {w : World} {f : Fp} {σ : St} (h : Dev w f σ) (ha : 1 < σ.ar) : Calls Tryz.prog 89 #[f.ptr] w fun e w' => e = .returned (.tuple #[]) ∧ w.setCell ⟨f.p, 4, none⟩ (.int .i64 (σ.ar - 1)) = w' := by
  have c4 := h.reads.c4
  have z4 := h.free 4
  have g := h.good.ar
  have e1 : (σ.ar == 0) = false := by simp; omega
  have e2 : (σ.ar - 1 == 0) = false := by simp; omega
  unfold Fp.ptr
  go_enter Tryz.func89, Tryz.ntmps89
  go_wp2
  go_end0
  exact ⟨rfl, rfl⟩
theorem drain_end {w : World} {f : Fp} {σ : St} (h : Dev w f σ) (ha : σ.ar = 1) : Calls Tryz.prog 89 #[f.ptr] w fun e w' => (∃ pv : Value, e = .panicked [{ v := .iface 9 pv, recovered := false }]) ∧ w.setCell ⟨f.p, 4, none⟩ (.int .i64 0) = w' := by
  have c4 := h.reads.c4
  have z4 := h.free 4
  rw [ha] at c4
  unfold Fp.ptr
  clear ha
  go_enter Tryz.func89, Tryz.ntmps89
  go_wp2
  exact ⟨rfl, ⟨_, rfl⟩, rfl⟩
end Go.Proofs.YtnjikgcigobcdaaGreat

namespace Go.Proofs.YtnjikgcigobcdaaGreat
open Wd Pm Go.Maps Go.RowKit
set_option linter.unusedVariables false

/-- what is deferred, in a frame that panics -/
theorem catch_panicking {w : World} {f : Fp} {σ : St} (h : Dev w f σ) (q0 q1 : Nat) (x : Int) (u : TypeId) (pv : Value) (older : List PanicEntry) (h0 : w.cell? ⟨q0, 0, none⟩ = some f.ptr) (h1 : w.cell? ⟨q1, 0, none⟩ = some (.int .i64 x)) (hz : w.frozen? ⟨q1, 0, none⟩ = false) (hne : q1 ≠ f.p) :
    CallsD Tryz.prog 88 #[.pointer (some ⟨q0, 0, none⟩), .pointer (some ⟨q1, 0, none⟩)] (.panicking ({ v := .iface u pv, recovered := false } :: older)) w fun e u' w' =>
      e = .returned (.tuple #[]) ∧ u' = .panicking ({ v := .iface u pv, recovered := true } :: older) ∧ w' = (w.setCell ⟨f.p, 5, none⟩ (.bool true)).setCell ⟨q1, 0, none⟩ (.int .i64 5) := by
  have c5 := h.reads.c5
  have z5 := h.free 5
  unfold Fp.ptr at h0
  have hz1 : (w.setCell ⟨f.p, 5, none⟩ (.bool true)).frozen? ⟨q1, 0, none⟩ = false := by simpa [go_sem] using hz
  have hc1 : (w.setCell ⟨f.p, 5, none⟩ (.bool true)).cell? ⟨q1, 0, none⟩ = some (.int .i64 x) := by rw [World.cell?_setCell_other _ _ _ _ (by simp)]; exact h1
  refine callsD_of_wpS Tryz.func88 rfl fun c₀ cs hu => ?_
  apply wpS_seq
  apply wpS_region
  simp [wpOpsS, go_sem, recoverD, hu, Tryz.ntmps88, Exit.thenS]
  refine wpS_cond (t := true) (by simp [Act.eval, Array.replicate]) ?_
  simp only [if_true]
  apply wpS_seq
  apply wpS_region
  simp [wpOpsS, go_sem, h0, c5, z5, Exit.thenS, Array.replicate]
  apply wpS_region
  simp [wpOpsS, go_sem, hc1, hz1, bodyPostS, results, Tryz.results88]
theorem catch_idle (p q : Addr) (w : World) :
    CallsD Tryz.prog 88 #[.pointer (some p), .pointer (some q)] .returning w fun e u' w' => e = .returned (.tuple #[]) ∧ u' = .returning ∧ w' = w := by
  refine callsD_of_wpS Tryz.func88 rfl fun c₀ cs hu => ?_
  apply wpS_seq
  apply wpS_region
  simp [wpOpsS, go_sem, recoverD, hu, Tryz.ntmps88, Exit.thenS]
  refine wpS_cond (t := false) (by simp [Act.eval, Array.replicate]) ?_
  simp only [Bool.false_eq_true, if_false]
  refine wpS_of_wp (wp_skip ?_)
  cases c₀
  simp_all [bodyPostS, results, Tryz.results88]

theorem event_fail {w : World} {f : Fp} {σ : St} (h : Dev w f σ) (ha : σ.ar = 1) (fv : Value) : Calls Tryz.prog 56 #[f.ptr, fv] w fun e w' => e = .returned (.int .i64 5) ∧ Goes w f { σ with ar := 0, dead := true } w' := by
  have hmf : ∀ (fn : Fn) (first cap : Array Value) (w : World), (Instr.makeFunc fn first cap).run Tryz.prog w = .ok (.func fn first cap) w := fun _ _ _ _ => rfl
  have hp : f.ptr = .pointer (some ⟨f.p, 0, none⟩) := rfl
  rw [hp]
  go_enter_defers Tryz.func56, Tryz.ntmps56
  go_wp2_with (go_at_call 89; refine (drain_end ((h.alloc _).alloc _) ha).mono ?_; rintro e w' ⟨⟨pv, rfl⟩, rfl⟩)
  have d1 : Dev (((w.alloc (.cells #[.pointer (some ⟨f.p, 0, none⟩)] 27)).alloc (.cells #[.int .i64 0] 37)).setCell ⟨f.p, 4, none⟩ (.int .i64 0)) f { σ with ar := 0 } := ((h.alloc _).alloc _).setAr 0 (by omega)
  have l := h.lt
  have k0 := (((Cells.new w 27 #[.pointer (some ⟨f.p, 0, none⟩)]).alloc (.cells #[.int .i64 0] 37)).far (p := ⟨f.p, 4, none⟩) (by simp; omega) (.int .i64 0)).cell 0
  have k1' := (Cells.new (w.alloc (.cells #[.pointer (some ⟨f.p, 0, none⟩)] 27)) 37 #[.int .i64 0]).far (p := ⟨f.p, 4, none⟩) (by simp; omega) (.int .i64 0)
  rw [World.size_alloc] at k1'
  refine leaves_cons (f := 88) (args := #[.pointer (some ⟨w.heap.size, 0, none⟩), .pointer (some ⟨w.heap.size + 1, 0, none⟩)]) (by simp) (by simp [go_sem]) ?_
  refine (catch_panicking d1 w.heap.size (w.heap.size + 1) 0 9 pv [] k0 (k1'.cell 0) (k1'.free 0) (by omega)).mono ?_
  rintro e u' w'' ⟨rfl, rfl, rfl⟩
  have d2 := (d1.setDead true).far (p := ⟨w.heap.size + 1, 0, none⟩) (by simp [Fp.blocks]; omega) (.int .i64 5)
  have t1 : Turn w (((w.alloc (.cells #[.pointer (some ⟨f.p, 0, none⟩)] 27)).alloc (.cells #[.int .i64 0] 37)).setCell ⟨f.p, 4, none⟩ (.int .i64 0)) f.blocks := (Turn.ofBelow (((Below.refl _ _).alloc (Nat.le_refl _) _).alloc (by simp) _)).trans (Turn.set _ (memP f) _) (fun x hx => .inl hx)
  have t2 := (t1.trans (Turn.set _ (p := ⟨f.p, 5, none⟩) (memP f) (.bool true)) (fun x hx => .inl hx)).trans (Turn.set (S := [w.heap.size + 1]) _ (p := ⟨w.heap.size + 1, 0, none⟩) (by simp) (.int .i64 5)) (fun x hx => by simp at hx; right; omega)
  have G := Goes.mk' d2 t2
  clear d2 t2 t1 k1' k0 d1
  simp [Leaves, settle, results, Tryz.results56, go_sem]
  exact G

/-- behind an event that power doesn't fail at -/
def St.drained (σ : St) : St := { σ with ar := if σ.ar = 0 then 0 else σ.ar - 1 }
def St.counted (σ : St) : St := { σ with ev := σ.ev + 1 }
theorem drain_ok {w : World} {f : Fp} {σ : St} (h : Dev w f σ) (ha : σ.ar ≠ 1) : Calls Tryz.prog 89 #[f.ptr] w fun e w' => e = .returned (.tuple #[]) ∧ Dev w' f σ.drained ∧ w.grownBy w' (some f.p) := by
  have g := h.good.ar
  unfold St.drained
  by_cases h0 : σ.ar = 0
  · rw [if_pos h0]
    refine (drain_off h h0).mono fun e w' ⟨he, hw⟩ => ?_
    subst hw
    refine ⟨he, ?_, World.grownBy.refl w _⟩
    rw [← h0]
    exact h
  · rw [if_neg h0]
    refine (drain_on h (by omega)).mono fun e w' ⟨he, hw⟩ => ?_
    subst hw
    exact ⟨he, h.setAr _ (by omega), grown_set (World.grownBy.refl w _) 4 _⟩

theorem event_store {w : World} {f : Fp} {σ : St} (h : Dev w f σ) (ha : σ.ar ≠ 1) (hev : σ.ev < 4611686018427387904) (a b c : Nat) {σ2 : St} (hev2 : σ2.ev = σ.ev)
    (hstep : ∀ w1, Turn w w1 f.blocks → Dev w1 f σ.drained → Calls Tryz.prog 63 #[.pointer (some ⟨a, 0, none⟩), .pointer (some ⟨b, 0, none⟩), .pointer (some ⟨c, 0, none⟩)] w1 fun e w2 => e = .returned (.tuple #[]) ∧ Goes w1 f σ2 w2) :
    Calls Tryz.prog 56 #[f.ptr, .func (.func 63) #[] #[.pointer (some ⟨a, 0, none⟩), .pointer (some ⟨b, 0, none⟩), .pointer (some ⟨c, 0, none⟩)]] w fun e w' => e = .returned (.int .i64 0) ∧ Goes w f σ2.counted w' := by
  have hmf : ∀ (fn : Fn) (first cap : Array Value) (w : World), (Instr.makeFunc fn first cap).run Tryz.prog w = .ok (.func fn first cap) w := fun _ _ _ _ => rfl
  have hp : f.ptr = .pointer (some ⟨f.p, 0, none⟩) := rfl
  have l := h.lt
  have HE := Lib.hid hev2
  clear hev2
  try rw [hp] at hstep
  rw [hp]
  clear hp
  go_enter_defers Tryz.func56, Tryz.ntmps56
  go_wp2_with fail
  refine (drain_ok ((h.alloc (.cells #[.pointer (some ⟨f.p, 0, none⟩)] 27)).alloc (.cells #[.int .i64 0] 37)) ha).mono ?_
  rintro e w1 ⟨rfl, d1, g1⟩
  have k0 := ((Cells.new w 27 #[.pointer (some ⟨f.p, 0, none⟩)]).alloc (.cells #[.int .i64 0] 37)).grown g1 (by simp; omega)
  have k1 := (Cells.new (w.alloc (.cells #[.pointer (some ⟨f.p, 0, none⟩)] 27)) 37 #[.int .i64 0]).grown g1 (by simp; omega)
  rw [World.size_alloc] at k1
  have t1 : Turn w w1 f.blocks := (Turn.ofBelow (((Below.refl _ _).alloc (Nat.le_refl _) _).alloc (by simp) _)).trans (Turn.grown g1 (memP f)) (fun x hx => .inl hx)
  go_wp2_with fail
  refine (hstep w1 t1 d1).mono ?_
  rintro e w2 ⟨rfl, f2, d2, e2, n2, t2⟩
  have k0' := k0.turn d1 (by decide) (by decide) t2
  have k1' := k1.turn d1 (by decide) (by decide) t2
  have s1 := g1.size
  simp only [World.size_alloc] at s1
  have hne : ∀ k ∈ f2.blocks, k ≠ w.heap.size + 1 := fun k hk => by
    rcases n2 k hk with h1 | h1
    · simp [Fp.blocks] at h1; omega
    · omega
  have hge := h.good.ev
  have c0 : w2.cell? ⟨w.heap.size, 0, none⟩ = some (.pointer (some ⟨f.p, 0, none⟩)) := k0'.cell 0
  have c1 : w2.cell? ⟨w.heap.size + 1, 0, none⟩ = some (.int .i64 0) := k1'.cell 0
  have z1 := k1'.free 0
  have c3 := d2.reads.c3
  have z3 := d2.free 3
  rw [HE.out, e2] at c3
  rw [e2] at z3
  have hv : (w2.setCell ⟨f.p, 3, none⟩ (.int .i64 (σ.ev + 1))).frozen? ⟨w.heap.size + 1, 0, none⟩ = false := by simpa [go_sem] using z1
  have T := Lib.hid t1
  have T2 := Lib.hid t2
  have K1 := Lib.hid k1'
  have N2 := Lib.hid n2
  have HN := Lib.hid hne
  have D2 := Lib.hid d2
  have E2 := Lib.hid e2
  clear hne t1 t2 k1' n2 d2 k0 k0' k1 g1 d1 hstep e2
  go_wp2_with fail
  refine leaves_cons (f := 88) (args := #[.pointer (some ⟨w.heap.size, 0, none⟩), .pointer (some ⟨w.heap.size + 1, 0, none⟩)]) (by simp) (by simp [go_sem]) ?_
  refine (catch_idle ⟨w.heap.size, 0, none⟩ ⟨w.heap.size + 1, 0, none⟩ _).mono ?_
  rintro e u' w'' ⟨rfl, rfl, rfl⟩
  have hx : ((w2.setCell ⟨f.p, 3, none⟩ (.int .i64 (σ.ev + 1))).setCell ⟨w.heap.size + 1, 0, none⟩ (.int .i64 0)).cell? ⟨w.heap.size + 1, 0, none⟩ = some (.int .i64 0) :=
    ((K1.out.far (p := ⟨f.p, 3, none⟩) (by simp; omega) (.int .i64 (σ.ev + 1))).set 0 (.int .i64 0)).cell 0
  have G : Goes w f σ2.counted ((w2.setCell ⟨f.p, 3, none⟩ (.int .i64 (σ.ev + 1))).setCell ⟨w.heap.size + 1, 0, none⟩ (.int .i64 0)) := by
    have hne := HN.out
    have d3 := ((D2.out).setEv (σ.ev + 1) (by omega)).far (p := ⟨w.heap.size + 1, 0, none⟩) (fun hm => hne _ hm rfl) (.int .i64 0)
    rw [E2.out] at d3
    have e4 : ({ σ2 with ev := σ.ev + 1 } : St) = σ2.counted := by unfold St.counted; rw [HE.out]
    rw [e4] at d3
    have t3 := T.out.trans T2.out (fun x hx => .inl hx)
    have t4 := (t3.trans (Turn.set w2 (p := ⟨f.p, 3, none⟩) (memP f) (.int .i64 (σ.ev + 1))) (fun x hx => .inl hx)).trans (Turn.set (S := [w.heap.size + 1]) _ (p := ⟨w.heap.size + 1, 0, none⟩) (by simp) (.int .i64 0)) (fun x hx => by simp at hx; right; omega)
    exact ⟨f2, d3, E2.out, fun k hk => by
      rcases N2.out k hk with h1 | h1
      · exact .inl h1
      · right; omega, t4⟩
  have HG := Lib.hid G
  clear G HN D2 K1 N2 T T2 E2 HE
  simp [Leaves, settle, results, Tryz.results56, go_sem]
  refine ⟨.int .i64 0, ?_, rfl, HG.out⟩
  rw [hx]
theorem event_flush {w : World} {f : Fp} {σ : St} (h : Dev w f σ) (ha : σ.ar ≠ 1) (hev : σ.ev < 4611686018427387904) (a b : Nat) {σ2 : St} (hev2 : σ2.ev = σ.ev)
    (hstep : ∀ w1, Turn w w1 f.blocks → Dev w1 f σ.drained → Calls Tryz.prog 57 #[.pointer (some ⟨a, 0, none⟩), .pointer (some ⟨b, 0, none⟩)] w1 fun e w2 => e = .returned (.tuple #[]) ∧ Goes w1 f σ2 w2) :
    Calls Tryz.prog 56 #[f.ptr, .func (.func 57) #[] #[.pointer (some ⟨a, 0, none⟩), .pointer (some ⟨b, 0, none⟩)]] w fun e w' => e = .returned (.int .i64 0) ∧ Goes w f σ2.counted w' := by
  have hmf : ∀ (fn : Fn) (first cap : Array Value) (w : World), (Instr.makeFunc fn first cap).run Tryz.prog w = .ok (.func fn first cap) w := fun _ _ _ _ => rfl
  have hp : f.ptr = .pointer (some ⟨f.p, 0, none⟩) := rfl
  have l := h.lt
  have HE := Lib.hid hev2
  clear hev2
  try rw [hp] at hstep
  rw [hp]
  clear hp
  go_enter_defers Tryz.func56, Tryz.ntmps56
  go_wp2_with fail
  refine (drain_ok ((h.alloc (.cells #[.pointer (some ⟨f.p, 0, none⟩)] 27)).alloc (.cells #[.int .i64 0] 37)) ha).mono ?_
  rintro e w1 ⟨rfl, d1, g1⟩
  have k0 := ((Cells.new w 27 #[.pointer (some ⟨f.p, 0, none⟩)]).alloc (.cells #[.int .i64 0] 37)).grown g1 (by simp; omega)
  have k1 := (Cells.new (w.alloc (.cells #[.pointer (some ⟨f.p, 0, none⟩)] 27)) 37 #[.int .i64 0]).grown g1 (by simp; omega)
  rw [World.size_alloc] at k1
  have t1 : Turn w w1 f.blocks := (Turn.ofBelow (((Below.refl _ _).alloc (Nat.le_refl _) _).alloc (by simp) _)).trans (Turn.grown g1 (memP f)) (fun x hx => .inl hx)
  go_wp2_with fail
  refine (hstep w1 t1 d1).mono ?_
  rintro e w2 ⟨rfl, f2, d2, e2, n2, t2⟩
  have k0' := k0.turn d1 (by decide) (by decide) t2
  have k1' := k1.turn d1 (by decide) (by decide) t2
  have s1 := g1.size
  simp only [World.size_alloc] at s1
  have hne : ∀ k ∈ f2.blocks, k ≠ w.heap.size + 1 := fun k hk => by
    rcases n2 k hk with h1 | h1
    · simp [Fp.blocks] at h1; omega
    · omega
  have hge := h.good.ev
  have c0 : w2.cell? ⟨w.heap.size, 0, none⟩ = some (.pointer (some ⟨f.p, 0, none⟩)) := k0'.cell 0
  have c1 : w2.cell? ⟨w.heap.size + 1, 0, none⟩ = some (.int .i64 0) := k1'.cell 0
  have z1 := k1'.free 0
  have c3 := d2.reads.c3
  have z3 := d2.free 3
  rw [HE.out, e2] at c3
  rw [e2] at z3
  have hv : (w2.setCell ⟨f.p, 3, none⟩ (.int .i64 (σ.ev + 1))).frozen? ⟨w.heap.size + 1, 0, none⟩ = false := by simpa [go_sem] using z1
  have T := Lib.hid t1
  have T2 := Lib.hid t2
  have K1 := Lib.hid k1'
  have N2 := Lib.hid n2
  have HN := Lib.hid hne
  have D2 := Lib.hid d2
  have E2 := Lib.hid e2
  clear hne t1 t2 k1' n2 d2 k0 k0' k1 g1 d1 hstep e2
  go_wp2_with fail
  refine leaves_cons (f := 88) (args := #[.pointer (some ⟨w.heap.size, 0, none⟩), .pointer (some ⟨w.heap.size + 1, 0, none⟩)]) (by simp) (by simp [go_sem]) ?_
  refine (catch_idle ⟨w.heap.size, 0, none⟩ ⟨w.heap.size + 1, 0, none⟩ _).mono ?_
  rintro e u' w'' ⟨rfl, rfl, rfl⟩
  have hx : ((w2.setCell ⟨f.p, 3, none⟩ (.int .i64 (σ.ev + 1))).setCell ⟨w.heap.size + 1, 0, none⟩ (.int .i64 0)).cell? ⟨w.heap.size + 1, 0, none⟩ = some (.int .i64 0) :=
    ((K1.out.far (p := ⟨f.p, 3, none⟩) (by simp; omega) (.int .i64 (σ.ev + 1))).set 0 (.int .i64 0)).cell 0
  have G : Goes w f σ2.counted ((w2.setCell ⟨f.p, 3, none⟩ (.int .i64 (σ.ev + 1))).setCell ⟨w.heap.size + 1, 0, none⟩ (.int .i64 0)) := by
    have hne := HN.out
    have d3 := ((D2.out).setEv (σ.ev + 1) (by omega)).far (p := ⟨w.heap.size + 1, 0, none⟩) (fun hm => hne _ hm rfl) (.int .i64 0)
    rw [E2.out] at d3
    have e4 : ({ σ2 with ev := σ.ev + 1 } : St) = σ2.counted := by unfold St.counted; rw [HE.out]
    rw [e4] at d3
    have t3 := T.out.trans T2.out (fun x hx => .inl hx)
    have t4 := (t3.trans (Turn.set w2 (p := ⟨f.p, 3, none⟩) (memP f) (.int .i64 (σ.ev + 1))) (fun x hx => .inl hx)).trans (Turn.set (S := [w.heap.size + 1]) _ (p := ⟨w.heap.size + 1, 0, none⟩) (by simp) (.int .i64 0)) (fun x hx => by simp at hx; right; omega)
    exact ⟨f2, d3, E2.out, fun k hk => by
      rcases N2.out k hk with h1 | h1
      · exact .inl h1
      · right; omega, t4⟩
  have HG := Lib.hid G
  clear G HN D2 K1 N2 T T2 E2 HE
  simp [Leaves, settle, results, Tryz.results56, go_sem]
  refine ⟨.int .i64 0, ?_, rfl, HG.out⟩
  rw [hx]
theorem event_fence {w : World} {f : Fp} {σ : St} (h : Dev w f σ) (ha : σ.ar ≠ 1) (hev : σ.ev < 4611686018427387904)  {σ2 : St} (hev2 : σ2.ev = σ.ev)
    (hstep : ∀ w1, Turn w w1 f.blocks → Dev w1 f σ.drained → Calls Tryz.prog 61 #[f.ptr] w1 fun e w2 => e = .returned (.tuple #[]) ∧ Goes w1 f σ2 w2) :
    Calls Tryz.prog 56 #[f.ptr, .func (.func 61) #[f.ptr] #[]] w fun e w' => e = .returned (.int .i64 0) ∧ Goes w f σ2.counted w' := by
  have hmf : ∀ (fn : Fn) (first cap : Array Value) (w : World), (Instr.makeFunc fn first cap).run Tryz.prog w = .ok (.func fn first cap) w := fun _ _ _ _ => rfl
  have hp : f.ptr = .pointer (some ⟨f.p, 0, none⟩) := rfl
  have l := h.lt
  have HE := Lib.hid hev2
  clear hev2
  try rw [hp] at hstep
  rw [hp]
  clear hp
  go_enter_defers Tryz.func56, Tryz.ntmps56
  go_wp2_with fail
  refine (drain_ok ((h.alloc (.cells #[.pointer (some ⟨f.p, 0, none⟩)] 27)).alloc (.cells #[.int .i64 0] 37)) ha).mono ?_
  rintro e w1 ⟨rfl, d1, g1⟩
  have k0 := ((Cells.new w 27 #[.pointer (some ⟨f.p, 0, none⟩)]).alloc (.cells #[.int .i64 0] 37)).grown g1 (by simp; omega)
  have k1 := (Cells.new (w.alloc (.cells #[.pointer (some ⟨f.p, 0, none⟩)] 27)) 37 #[.int .i64 0]).grown g1 (by simp; omega)
  rw [World.size_alloc] at k1
  have t1 : Turn w w1 f.blocks := (Turn.ofBelow (((Below.refl _ _).alloc (Nat.le_refl _) _).alloc (by simp) _)).trans (Turn.grown g1 (memP f)) (fun x hx => .inl hx)
  go_wp2_with fail
  refine (hstep w1 t1 d1).mono ?_
  rintro e w2 ⟨rfl, f2, d2, e2, n2, t2⟩
  have k0' := k0.turn d1 (by decide) (by decide) t2
  have k1' := k1.turn d1 (by decide) (by decide) t2
  have s1 := g1.size
  simp only [World.size_alloc] at s1
  have hne : ∀ k ∈ f2.blocks, k ≠ w.heap.size + 1 := fun k hk => by
    rcases n2 k hk with h1 | h1
    · simp [Fp.blocks] at h1; omega
    · omega
  have hge := h.good.ev
  have c0 : w2.cell? ⟨w.heap.size, 0, none⟩ = some (.pointer (some ⟨f.p, 0, none⟩)) := k0'.cell 0
  have c1 : w2.cell? ⟨w.heap.size + 1, 0, none⟩ = some (.int .i64 0) := k1'.cell 0
  have z1 := k1'.free 0
  have c3 := d2.reads.c3
  have z3 := d2.free 3
  rw [HE.out, e2] at c3
  rw [e2] at z3
  have hv : (w2.setCell ⟨f.p, 3, none⟩ (.int .i64 (σ.ev + 1))).frozen? ⟨w.heap.size + 1, 0, none⟩ = false := by simpa [go_sem] using z1
  have T := Lib.hid t1
  have T2 := Lib.hid t2
  have K1 := Lib.hid k1'
  have N2 := Lib.hid n2
  have HN := Lib.hid hne
  have D2 := Lib.hid d2
  have E2 := Lib.hid e2
  clear hne t1 t2 k1' n2 d2 k0 k0' k1 g1 d1 hstep e2
  go_wp2_with fail
  refine leaves_cons (f := 88) (args := #[.pointer (some ⟨w.heap.size, 0, none⟩), .pointer (some ⟨w.heap.size + 1, 0, none⟩)]) (by simp) (by simp [go_sem]) ?_
  refine (catch_idle ⟨w.heap.size, 0, none⟩ ⟨w.heap.size + 1, 0, none⟩ _).mono ?_
  rintro e u' w'' ⟨rfl, rfl, rfl⟩
  have hx : ((w2.setCell ⟨f.p, 3, none⟩ (.int .i64 (σ.ev + 1))).setCell ⟨w.heap.size + 1, 0, none⟩ (.int .i64 0)).cell? ⟨w.heap.size + 1, 0, none⟩ = some (.int .i64 0) :=
    ((K1.out.far (p := ⟨f.p, 3, none⟩) (by simp; omega) (.int .i64 (σ.ev + 1))).set 0 (.int .i64 0)).cell 0
  have G : Goes w f σ2.counted ((w2.setCell ⟨f.p, 3, none⟩ (.int .i64 (σ.ev + 1))).setCell ⟨w.heap.size + 1, 0, none⟩ (.int .i64 0)) := by
    have hne := HN.out
    have d3 := ((D2.out).setEv (σ.ev + 1) (by omega)).far (p := ⟨w.heap.size + 1, 0, none⟩) (fun hm => hne _ hm rfl) (.int .i64 0)
    rw [E2.out] at d3
    have e4 : ({ σ2 with ev := σ.ev + 1 } : St) = σ2.counted := by unfold St.counted; rw [HE.out]
    rw [e4] at d3
    have t3 := T.out.trans T2.out (fun x hx => .inl hx)
    have t4 := (t3.trans (Turn.set w2 (p := ⟨f.p, 3, none⟩) (memP f) (.int .i64 (σ.ev + 1))) (fun x hx => .inl hx)).trans (Turn.set (S := [w.heap.size + 1]) _ (p := ⟨w.heap.size + 1, 0, none⟩) (by simp) (.int .i64 0)) (fun x hx => by simp at hx; right; omega)
    exact ⟨f2, d3, E2.out, fun k hk => by
      rcases N2.out k hk with h1 | h1
      · exact .inl h1
      · right; omega, t4⟩
  have HG := Lib.hid G
  clear G HN D2 K1 N2 T T2 E2 HE
  simp [Leaves, settle, results, Tryz.results56, go_sem]
  refine ⟨.int .i64 0, ?_, rfl, HG.out⟩
  rw [hx]
end Go.Proofs.YtnjikgcigobcdaaGreat

namespace Go.Proofs.YtnjikgcigobcdaaGreat
open Wd Pm Go.Maps Go.RowKit
set_option linter.unusedVariables false

/-! what a store makes of a device -/
def put (F : IFn) (i v : Int) : IFn := fun y => if y = i then some v else F y
def del (F : IFn) (i : Int) : IFn := fun y => if y = i then none else F y
def St.hold (σ : St) (i v : Int) : St := { σ with hd := if σ.sn i = none ∧ v = σ.st i then del σ.hd i else put σ.hd i v }
theorem in_put {F : IFn} {n : Nat} (h : ∀ x c, F x = some c → 0 ≤ x ∧ x < n ∧ U64 c) {i v : Int} (hi : 0 ≤ i ∧ i < n) (hv : U64 v) : ∀ x c, put F i v x = some c → 0 ≤ x ∧ x < n ∧ U64 c := by
  intro x c hc
  unfold put at hc
  split at hc
  · rename_i e; subst e; cases hc; exact ⟨hi.1, hi.2, hv⟩
  · exact h x c hc
theorem in_del {F : IFn} {n : Nat} (h : ∀ x c, F x = some c → 0 ≤ x ∧ x < n ∧ U64 c) (i : Int) : ∀ x c, del F i x = some c → 0 ≤ x ∧ x < n ∧ U64 c := by
  intro x c hc
  unfold del at hc
  split at hc
  · cases hc
  · exact h x c hc

theorem hold_dev {w : World} {f : Fp} {σ : St} (h : Dev w f σ) (i v : Int) (hi : 0 ≤ i ∧ i < σ.n) (hv : U64 v) : Calls Tryz.prog 64 #[f.ptr, .int .i64 i, .int .u64 v] w fun e w' => e = .returned (.tuple #[]) ∧ Goes w f (σ.hold i v) w' := by
  obtain ⟨h0, h1⟩ := hi
  obtain ⟨k, rfl⟩ := Int.eq_ofNat_of_zero_le h0
  have hk : k < σ.n := by omega
  have nle := h.good.nle
  have hw := wf_i (x := (k : Int)) (by omega) (by omega)
  have c0 := h.reads.c0
  have c1 := h.reads.c1
  have c2 := h.reads.c2
  have cw := h.word k hk
  have hn : σ.n < maxLen := by unfold maxLen; omega
  have hp : f.ptr = .pointer (some ⟨f.p, 0, none⟩) := rfl
  rw [hp]
  clear hp
  unfold St.hold
  cases hs : σ.sn k with
  | some c =>
    have HS := Lib.hid hs
    simp only [reduceCtorEq, false_and, if_false]
    clear hs
    go_enter Tryz.func64, Tryz.ntmps64
    go_wp2_with (first
      | (at_lookup; refine wp_look_yes _ rfl _ _ 55 rfl keyedInt Tryz.underlying55 Tryz.underlying31 Tryz.underlying3 (zeroU _) rfl h.2.2.2.1 _ rfl hw c HS.out ?_)
      | (at_mapUpdate; refine wp_store _ rfl _ _ _ 55 rfl keyedInt Tryz.underlying55 Tryz.underlying31 Tryz.underlying3 rfl h.2.2.1 hn _ _ rfl rfl hw hv ?_; intro w1 hM hT))
    go_end0
    exact ⟨rfl, Goes.mk' (h.turnH hT hM (in_put h.good.hd ⟨h0, h1⟩ hv)) (Turn.grown hT.grown (memH f))⟩
  | none =>
    have HS := Lib.hid hs
    by_cases hv' : v = σ.st k
    · simp only [true_and, if_pos hv']
      have hq : (v == σ.st k) = true := by simpa using hv'
      clear hs
      go_enter Tryz.func64, Tryz.ntmps64
      go_wp2_with (first
        | (at_lookup; refine wp_look_not _ rfl _ _ 55 rfl keyedInt Tryz.underlying55 Tryz.underlying31 Tryz.underlying3 (zeroU _) rfl h.2.2.2.1 _ rfl hw HS.out ?_)
        | (at_delete; refine wp_drop _ rfl _ _ 55 rfl keyedInt Tryz.underlying55 Tryz.underlying3 rfl h.2.2.1 _ rfl hw ?_; intro w1 hM hT))
      refine bodyPost_ret (results_none rfl _ _ _) rfl ?_
      exact ⟨rfl, Goes.mk' (h.turnH hT hM (in_del h.good.hd _)) (Turn.grown hT.grown (memH f))⟩
    · simp only [true_and, if_neg hv']
      have hq : (v == σ.st k) = false := by simpa using hv'
      clear hs hv'
      go_enter Tryz.func64, Tryz.ntmps64
      go_wp2_with (first
        | (at_lookup; refine wp_look_not _ rfl _ _ 55 rfl keyedInt Tryz.underlying55 Tryz.underlying31 Tryz.underlying3 (zeroU _) rfl h.2.2.2.1 _ rfl hw HS.out ?_)
        | (at_mapUpdate; refine wp_store _ rfl _ _ _ 55 rfl keyedInt Tryz.underlying55 Tryz.underlying31 Tryz.underlying3 rfl h.2.2.1 hn _ _ rfl rfl hw hv ?_; intro w1 hM hT))
      go_end0
      exact ⟨rfl, Goes.mk' (h.turnH hT hM (in_put h.good.hd ⟨h0, h1⟩ hv)) (Turn.grown hT.grown (memH f))⟩
end Go.Proofs.YtnjikgcigobcdaaGreat

namespace Go.Proofs.YtnjikgcigobcdaaGreat
open Wd Pm Go.Maps Go.RowKit
set_option linter.unusedVariables false

theorem Dev.drewN {w : World} {f : Fp} {σ : St} (h : Dev w f σ) (n : Nat) : Dev (w.drewN n) f σ := h
/-- a call that may be refused, or meet failing power -/
@[irreducible] def St.tried (σ : St) (there : Bool) (go : St → St) : St × Int :=
  if refErr σ.dead there = 0 then (if σ.ar = 1 then ({ σ with ar := 0, dead := true }, 5) else ((go σ.drained).counted, 0)) else (σ, refErr σ.dead there)

theorem store1_dev {w : World} {f : Fp} {σ : St} (h : Dev w f σ) (a b c : Nat) (i v : Int) (hi : 0 ≤ i ∧ i < σ.n) (hv : U64 v) (ca : w.cell? ⟨a, 0, none⟩ = some f.ptr) (cb : w.cell? ⟨b, 0, none⟩ = some (.int .i64 i)) (cc : w.cell? ⟨c, 0, none⟩ = some (.int .u64 v)) :
    Calls Tryz.prog 63 #[.pointer (some ⟨a, 0, none⟩), .pointer (some ⟨b, 0, none⟩), .pointer (some ⟨c, 0, none⟩)] w fun e w' => e = .returned (.tuple #[]) ∧ Goes w f (σ.hold i v) w' := by
  have hp : f.ptr = .pointer (some ⟨f.p, 0, none⟩) := rfl
  rw [hp] at ca
  clear hp
  go_enter Tryz.func63, Tryz.ntmps63
  go_wp2_with (go_at_call 64; refine (hold_dev h i v hi hv).mono ?_; rintro e w' ⟨rfl, hG⟩)
  go_end0
  exact ⟨rfl, hG⟩

theorem refErr_no {d b : Bool} (h : ¬ refErr d b = 0) : (refErr d b != 0) = true := by simpa using h
theorem refErr_ok {d b : Bool} (h : refErr d b = 0) : d = false ∧ b = true := by
  unfold refErr at h
  cases d <;> cases b <;> simp at h ⊢

theorem grown_turn {w w' : World} {S : List Nat} (h : Below w.heap.size w w') (k : Nat) : Turn w (w'.drewN k) S := Turn.ofBelow (below_drewN h k)

theorem _root_.Wd.Cells.turn' {w w' : World} {g : Nat} {T : TypeId} {cs : Array Value} {S : List Nat} (h : Cells w g T cs) (hn : g ∉ S) (t : Turn w w' S) : Cells w' g T cs := (t.block g h.lt hn).trans h
theorem Goes.from {w w0 w' : World} {f : Fp} {σ' : St} (g : Goes w0 f σ' w') (b : Below w.heap.size w w0) : Goes w f σ' w' := by
  obtain ⟨f', d, e, n, t⟩ := g
  exact ⟨f', d, e, fun k hk => by
    rcases n k hk with h | h
    · exact .inl h
    · exact .inr (Nat.le_trans b.size h), (Turn.ofBelow b).trans t (fun x hx => .inl hx)⟩
theorem Dev.out {w : World} {f : Fp} {σ : St} (h : Dev w f σ) {k : Nat} (hk : w.heap.size ≤ k) : k ∉ f.blocks := by
  have := h.lt
  simp [Fp.blocks]; omega

/-- a world of three variables more, and some draws -/
theorem store_dev {w : World} {f : Fp} {σ : St} (h : Dev w f σ) (hev : σ.ev < 4611686018427387904) (i v : Int) (hv : U64 v) : Calls Tryz.prog 31 #[f.ptr, .int .i64 i, .int .u64 v] w fun e w' =>
    e = .returned (.int .i64 (σ.tried (hasW σ.n i) (·.hold i v)).2) ∧ Goes w f (σ.tried (hasW σ.n i) (·.hold i v)).1 w' := by
  have hp : f.ptr = .pointer (some ⟨f.p, 0, none⟩) := rfl
  have h3 := ((h.alloc (.cells #[.pointer (some ⟨f.p, 0, none⟩)] 27)).alloc (.cells #[.int .i64 i] 3)).alloc (.cells #[.int .u64 v] 31)
  have B3 : Below w.heap.size w (((w.alloc (.cells #[.pointer (some ⟨f.p, 0, none⟩)] 27)).alloc (.cells #[.int .i64 i] 3)).alloc (.cells #[.int .u64 v] 31)) := (((Below.refl _ _).alloc (Nat.le_refl _) _).alloc (by simp) _).alloc (by simp; omega) _
  have BH := Lib.hid B3
  clear B3
  unfold St.tried
  rw [hp]
  by_cases he : refErr σ.dead (hasW σ.n i) = 0
  · rw [if_pos he]
    obtain ⟨ed, eh⟩ := refErr_ok he
    have hi := hasW_iff.1 eh
    have hq : (refErr σ.dead (hasW σ.n i) != 0) = false := by simpa using he
    have k1 := ((Cells.new w 27 #[.pointer (some ⟨f.p, 0, none⟩)]).alloc (.cells #[.int .i64 i] 3)).alloc (.cells #[.int .u64 v] 31)
    have k2 := (Cells.new (w.alloc (.cells #[.pointer (some ⟨f.p, 0, none⟩)] 27)) 3 #[.int .i64 i]).alloc (.cells #[.int .u64 v] 31)
    have k3 := Cells.new ((w.alloc (.cells #[.pointer (some ⟨f.p, 0, none⟩)] 27)).alloc (.cells #[.int .i64 i] 3)) 31 #[.int .u64 v]
    simp only [World.size_alloc] at k2 k3
    have K1 := Lib.hid k1
    have K2 := Lib.hid k2
    have K3 := Lib.hid k3
    have O1 := Lib.hid (h.out (Nat.le_refl _))
    have O2 := Lib.hid (h.out (k := w.heap.size + 1) (by omega))
    have O3 := Lib.hid (h.out (k := w.heap.size + 1 + 1) (by omega))
    clear he ed eh k1 k2 k3
    by_cases ha : σ.ar = 1
    · rw [if_pos ha]
      clear hp
      have HA := Lib.hid ha
      clear ha
      go_enter Tryz.func31, Tryz.ntmps31
      go_wp2
      go_quiet ((first | (go_at_call 40; exact quiet_eq (hasWord_dev (h3.drewN _) i)) | (go_at_call 54; exact quiet_eq (refusal_dev (h3.drewN _) _))))
      go_wp2_with (go_at_call 56; refine (event_fail (h3.drewN _) HA.out _).mono ?_; rintro e w' ⟨rfl, hG⟩)
      go_ret
      exact ⟨rfl, hG.from (below_drewN BH.out _)⟩
    · rw [if_neg ha]
      have HA := Lib.hid ha
      clear ha
      go_enter Tryz.func31, Tryz.ntmps31
      go_wp2
      go_quiet ((first | (go_at_call 40; exact quiet_eq (hasWord_dev (h3.drewN _) i)) | (go_at_call 54; exact quiet_eq (refusal_dev (h3.drewN _) _))))
      go_wp2_with fail
      refine (event_store (h3.drewN _) HA.out hev w.heap.size (w.heap.size + 1) (w.heap.size + 1 + 1) (σ2 := σ.drained.hold i v) rfl (fun w1 t1 d1 => store1_dev d1 _ _ _ i v hi hv ?_ ?_ ?_)).mono ?_
      · exact ((K1.out.drewN _).turn' O1.out t1).cell 0
      · exact ((K2.out.drewN _).turn' O2.out t1).cell 0
      · exact ((K3.out.drewN _).turn' O3.out t1).cell 0
      rintro e w' ⟨rfl, hG⟩
      go_wp2
      go_ret
      exact ⟨rfl, hG.from (below_drewN BH.out _)⟩
  · rw [if_neg he]
    have hq := refErr_no he
    clear he hp
    go_enter Tryz.func31, Tryz.ntmps31
    go_wp2
    go_quiet ((first | (go_at_call 40; exact quiet_eq (hasWord_dev (h3.drewN _) i)) | (go_at_call 54; exact quiet_eq (refusal_dev (h3.drewN _) _))))
    go_wp2
    go_ret
    exact ⟨rfl, f, h3.drewN _, rfl, fun k hk => .inl hk, grown_turn BH.out _⟩
end Go.Proofs.YtnjikgcigobcdaaGreat
