import Derived.Below
import Derived.OneCell
import Derived.Deep.Draws
import Derived.Laws.Rows
import Derived.Laws.MakeOwn
import Derived.Lib.Hide
import Derived.OwnWalk
import Derived.Laws.Entries
namespace Wd
open Go Go.RowKit

/-- block g holds just these cells, none of them frozen -/
def Cells (w : World) (g : Nat) (t : TypeId) (cs : Array Value) : Prop := w.heap[g]? = some (.cells cs t (0, 0))

section
variable {w w' : World} {g : Nat} {t : TypeId} {cs : Array Value}
theorem Cells.lt (h : Cells w g t cs) : g < w.heap.size := lt_of_block h
theorem Cells.cell (h : Cells w g t cs) (i : Nat) : w.cell? ⟨g, i, none⟩ = cs[i]? := cell_of_row w g i cs t (0, 0) h
theorem Cells.free (h : Cells w g t cs) (i : Nat) : w.frozen? ⟨g, i, none⟩ = false := by
  unfold Cells at h; simp [World.frozen?, h]
theorem Cells.new (w : World) (t : TypeId) (cs : Array Value) : Cells (w.alloc (.cells cs t)) w.heap.size t cs := heap_alloc_new w _
theorem Cells.drewN (h : Cells w g t cs) (n : Nat) : Cells (w.drewN n) g t cs := h
theorem Cells.alloc (h : Cells w g t cs) (o : Obj) : Cells (w.alloc o) g t cs := (Below.heap_alloc w o g h.lt).trans h
theorem Cells.set (h : Cells w g t cs) (i : Nat) (u : Value) : Cells (w.setCell ⟨g, i, none⟩ u) g t (cs.setIfInBounds i u) := by
  unfold Cells at *; simp [World.setCell, Array.getElem?_modify, h]
theorem Cells.far (h : Cells w g t cs) {p : Addr} (hp : g ≠ p.block) (u : Value) : Cells (w.setCell p u) g t cs := (Below.heap_setCell w p u g hp).trans h
theorem Cells.below {B : Nat} (h : Cells w g t cs) (hb : Below B w w') (hg : g < B) : Cells w' g t cs := (hb.block g hg).trans h
theorem Cells.below' (h : Cells w g t cs) (hb : Below w.heap.size w w') : Cells w' g t cs := h.below hb h.lt
theorem Cells.grown {row : Option Nat} (h : Cells w g t cs) (hb : w.grownBy w' row) (hg : some g ≠ row) : Cells w' g t cs := (hb.block g h.lt hg).trans h
theorem Cells.ne {g' : Nat} {t' : TypeId} {cs' : Array Value} (h : Cells w g t cs) (h' : Cells w g' t' cs') (hne : t ≠ t') : g ≠ g' := by
  rintro rfl
  unfold Cells at h h'
  rw [h] at h'
  injection h' with h'; injection h' with _ ht
  exact hne ht
end

@[go_sem] theorem run_store_f (P : Program) (w : World) (a : Addr) (m : Mode) (k : FloatKind) (b : Nat) : (store a (.float k b) m).run P w = stored P w a (.float k b) m := run_store P w a _ m rfl

theorem below_drewN {B : Nat} {a w : World} (h : Below B a w) (n : Nat) : Below B a (w.drewN n) := ⟨h.os, h.tape, h.output, h.size, h.block⟩
theorem undrewN {B : Nat} {a w : World} {n : Nat} (h : Below B (a.drewN n) w) : Below B a w := ⟨h.os, h.tape, h.output, h.size, h.block⟩
theorem undrew {B : Nat} {a w : World} (h : Below B a.drew w) : Below B a w := ⟨h.os, h.tape, h.output, h.size, h.block⟩
theorem grown_of_below {a w : World} (h : Below a.heap.size a w) (row : Option Nat) : a.grownBy w row := ⟨h.os, h.tape, h.output, h.size, fun k hk _ => h.block k hk⟩
theorem below_of_grown {a w : World} (h : a.grownBy w none) : Below a.heap.size a w := ⟨h.os, h.tape, h.output, h.size, fun k hk => h.block k hk (by simp)⟩
theorem below_of_grown_d {a w : World} (h : a.drew.grownBy w none) : Below a.heap.size a w := ⟨h.os, h.tape, h.output, h.size, fun k hk => h.block k hk (by simp)⟩
theorem oneB (l : List Bool) : ∀ u ∈ l.map Value.bool, u.oneCell' = true := by
  intro u hu
  obtain ⟨b, _, rfl⟩ := List.mem_map.1 hu
  rfl
theorem oneF (l : List Nat) : ∀ u ∈ l.map (Value.float .f64), u.oneCell' = true := by
  intro u hu
  obtain ⟨b, _, rfl⟩ := List.mem_map.1 hu
  rfl
theorem base_of {v : Value} {h : Nat} (hat : v.ownBlock = none ∨ v.ownBlock = some h) : ∀ k, v.ownBlock = some k → h ≤ k := by
  intro k hk
  rcases hat with e | e <;> rw [e] at hk
  · cases hk
  · have := Option.some.inj hk; omega
theorem base_of2 {v : Value} {h g : Nat} (hat : v.ownBlock = none ∨ v.ownBlock = some h) (hg : g ≤ h) : ∀ k, v.ownBlock = some k → g ≤ k := fun k hk => by have := base_of hat k hk; omega
theorem base_of' {v : Value} {h : Nat} (hat : v.ownBlock = none ∨ v.ownBlock = some (h + 1)) : ∀ k, v.ownBlock = some k → h ≤ k := fun k hk => by have := base_of hat k hk; omega
theorem grown_set {a w : World} {g : Nat} (h : a.grownBy w (some g)) (i : Nat) (u : Value) : a.grownBy (w.setCell ⟨g, i, none⟩ u) (some g) :=
  ⟨h.os, h.tape, h.output, by simpa [World.setCell] using h.size, fun k hk hne => (Below.heap_setCell w ⟨g, i, none⟩ u k (fun e => hne (by rw [e]))).trans (h.block k hk hne)⟩
theorem grown_drew {a w : World} {row : Option Nat} (h : a.grownBy w row) : a.grownBy w.drew row := ⟨h.os, h.tape, h.output, h.size, h.block⟩
theorem grown_drewN {a w : World} {row : Option Nat} (h : a.grownBy w row) (n : Nat) : a.grownBy (w.drewN n) row := ⟨h.os, h.tape, h.output, h.size, h.block⟩
theorem grown_trans {a b c : World} {row : Option Nat} (h : a.grownBy b row) (k : b.grownBy c row) : a.grownBy c row :=
  ⟨k.os.trans h.os, k.tape.trans h.tape, k.output.trans h.output, Nat.le_trans h.size k.size, fun i hi hne => (k.block i (Nat.lt_of_lt_of_le hi h.size) hne).trans (h.block i hi hne)⟩

/-- every cell of an old block reads as it did -/
theorem Below.old {W w1 : World} (hb : Below W.heap.size W w1) : ∀ b o, b < W.heap.size → w1.cell? ⟨b, o, none⟩ = W.cell? ⟨b, o, none⟩ :=
  fun b o h => hb.cell (p := ⟨b, o, none⟩) h

/-- make([]T, n): n zero values in a new block -/
theorem make_row {P : Program} (t e : TypeId) (z : Value) (by_ : Nat) (ht : P.underlying t = some (.slice e)) (hi : (P.info? e).map (fun i => (i.zero, i.size, i.bytes)) = some (some z, 1, by_))
    (hz : z.cells = #[z]) (n : Nat) (hb : by_ * n ≤ 281474976710656) (h63 : n ≤ 9223372036854775807) (w : World) :
    (Instr.makeSlice t (.int .i64 (n : Int)) (.int .i64 (n : Int))).run P w = .ok (.slice (some ⟨w.heap.size, 0, none⟩) n n) (w.alloc (.cells (List.replicate n z).toArray e)) := by
  obtain ⟨i, h1, h2, h3, h4⟩ := info_parts hi
  have hb' : (i.bytes : Int) * (n : Int) ≤ 281474976710656 := by
    have h : ((i.bytes * n : Nat) : Int) ≤ 281474976710656 := by rw [h4]; omega
    rwa [Int.natCast_mul] at h
  have hr := run_make (P := P) w t e i z ht h1 h2 .i64 .i64 n n (by omega) (by omega) hb' (by omega)
  simp only [Int.toNat_natCast] at hr
  have e1 : madeCells z.cells (n * i.size) = (List.replicate n z).toArray := by
    rw [h3, Nat.mul_one, hz]
    have := toList_madeCells_one z n
    rw [← this]
  rw [e1] at hr
  exact hr

/-- the slice .slice A n c reads as the row xs of one-cell elements, below block B -/
def Row (w : World) (B : Nat) (A : Option Addr) (n : Nat) (xs : List Value) : Prop :=
  xs.length = n ∧ (0 < n → ∃ b off, A = some ⟨b, off, none⟩ ∧ b < B ∧ ∀ j, (h : j < xs.length) → w.cell? ⟨b, off + j, none⟩ = some xs[j])

section
variable {w w' : World} {B B' n : Nat} {A : Option Addr} {xs : List Value}
theorem Row.nil : Row w B A 0 [] := ⟨rfl, fun h => absurd h (by omega)⟩
theorem Row.at (h : Row w B A n xs) {k : Nat} (hk : k < n) : ∃ b off, A = some ⟨b, off, none⟩ ∧ b < B ∧ w.cell? ⟨b, off + k, none⟩ = some (xs[k]'(by rw [h.1]; exact hk)) := by
  obtain ⟨b, off, e, hb, hc⟩ := h.2 (by omega)
  exact ⟨b, off, e, hb, hc k (by rw [h.1]; exact hk)⟩
theorem Row.get {α : Type} {f : α → Value} {l : List α} (h : Row w B A n (l.map f)) {k : Nat} (hk : k < n) : ∃ b off x, A = some ⟨b, off, none⟩ ∧ b < B ∧ l[k]? = some x ∧ w.cell? ⟨b, off + k, none⟩ = some (f x) := by
  have hl : k < l.length := by have := h.1; simp at this; omega
  obtain ⟨b, off, e, hb, hc⟩ := h.at hk
  exact ⟨b, off, l[k], e, hb, List.getElem?_eq_getElem hl, by rw [hc, List.getElem_map]⟩
theorem Row.keep (h : Row w B A n xs) (hk : ∀ b o, b < B → w'.cell? ⟨b, o, none⟩ = w.cell? ⟨b, o, none⟩) : Row w' B A n xs :=
  ⟨h.1, fun hn => by
    obtain ⟨b, off, e, hb, hc⟩ := h.2 hn
    exact ⟨b, off, e, hb, fun j hj => (hk b _ hb).trans (hc j hj)⟩⟩
theorem Row.more (h : Row w B A n xs) (hB : B ≤ B') : Row w B' A n xs :=
  ⟨h.1, fun hn => by
    obtain ⟨b, off, e, hb, hc⟩ := h.2 hn
    exact ⟨b, off, e, by omega, hc⟩⟩
theorem Row.below (h : Row w B A n xs) (hb : Below B w w') : Row w' B A n xs := h.keep fun b o hp => hb.cell (p := ⟨b, o, none⟩) hp
theorem Row.of_cells {g : Nat} {t : TypeId} {cs : Array Value} (h : Cells w g t cs) (hg : g < B) : Row w B (some ⟨g, 0, none⟩) cs.size cs.toList :=
  ⟨by simp, fun _ => ⟨g, 0, rfl, hg, fun j hj => by rw [Nat.zero_add, h.cell j]; simp at hj ⊢⟩⟩
theorem Row.fresh (w : World) (n : Nat) (v : Value) (t : TypeId) : Row (w.alloc (.cells (Array.replicate n v) t)) (w.alloc (.cells (Array.replicate n v) t)).heap.size (some ⟨w.heap.size, 0, none⟩) n (List.replicate n v) := by
  have := Row.of_cells (B := (w.alloc (.cells (Array.replicate n v) t)).heap.size) (Cells.new w t (Array.replicate n v)) (by simp)
  simpa using this
theorem row_eq {w : World} {B n m p : Nat} {A : Option Addr} {xs ys : List Value} (h : Row w B A (n + p) xs) (e : n = m) (e' : xs = ys := by rfl) : Row w B A (m + p) ys := by subst e e'; exact h
theorem Row.one (w : World) (v : Value) (t : TypeId) : Row (w.alloc (.cells #[v] t)) (w.alloc (.cells #[v] t)).heap.size (some ⟨w.heap.size, 0, none⟩) 1 [v] :=
  Row.of_cells (Cells.new w t #[v]) (by simp)
theorem Row.drewN (h : Row w B A n xs) (k : Nat) : Row (w.drewN k) B A n xs := h
end

theorem own_drewN {w : World} {base : Nat} {e : TypeId} {size n : Nat} {v : Value} {xs : List Value} (h : w.ownsRow base e size v n xs) (k : Nat) : (w.drewN k).ownsRow base e size v n xs := h
theorem own_base {w : World} {base : Nat} {e : TypeId} {size n : Nat} {v : Value} {xs : List Value} (h : w.ownsRow base e size v n xs) : ∀ q, v.ownBlock = some q → base ≤ q := by
  intro q hq
  rcases h.2 with ⟨rfl, _⟩ | ⟨g, cap, cur, rfl, hb, _⟩
  · cases hq
  · have : g = q := by simpa [Value.ownBlock] using hq
    omega
theorem own_ne {v : Value} {g h : Nat} (hat : v.ownBlock = none ∨ v.ownBlock = some h) (hlt : g < h) : some g ≠ v.ownBlock := by
  rcases hat with e | e <;> rw [e]
  · simp
  · intro e; have := Option.some.inj e; omega
theorem own_ne' {v : Value} {g h : Nat} (hat : v.ownBlock = none ∨ v.ownBlock = some h) (hlt : g < h) : ∀ b, b ≤ g → some b ≠ v.ownBlock := fun b hb => own_ne hat (by omega)
theorem one_new (w : World) (n : Nat) (v : Value) (t : TypeId) : ∀ j u, [v][j]? = some u → ((w.drewN n).alloc (.cells #[v] t)).cell? ((⟨w.heap.size, 0, none⟩ : Addr).add j) = some u := by
  intro j u h
  match j, h with
  | 0, h =>
    have := (Cells.new (w.drewN n) t #[v]).cell 0
    simp at h this
    rw [← h]
    simpa [Addr.add] using this
theorem Row.of_own {w : World} {base : Nat} {e : TypeId} {n : Nat} {v : Value} {xs : List Value} (h : w.ownsRow base e 1 v n xs) : ∃ A c, v = .slice A n c ∧ Row w w.heap.size A n xs := by
  obtain ⟨h1, h2⟩ := h
  rw [Nat.mul_one] at h1
  rcases h2 with ⟨rfl, rfl⟩ | ⟨g, cap, cur, rfl, _, hh, hnc, _, hcs, ht⟩
  · exact ⟨none, 0, rfl, h1, fun hn => absurd hn (by omega)⟩
  · refine ⟨_, _, rfl, h1, fun _ => ⟨g, 0, rfl, lt_of_block hh, fun j hj => ?_⟩⟩
    rw [Nat.zero_add, Cells.cell hh j]
    rw [Nat.mul_one] at ht
    have : (cur.toList.take n)[j]? = some xs[j] := by rw [ht, List.getElem?_eq_getElem hj]
    rw [List.getElem?_take_of_lt (by omega)] at this
    simpa using this

/-- a callee that leaves the world alone, in a region that draws -/
theorem quiet_eq {P : Program} {f : FuncId} {args : Array Value} {w : World} {n : Nat} {v : Value} (h : Calls P f args (w.drewN n) fun e w' => e = .returned v ∧ w.drewN n = w') :
    Calls P f args (w.drewN n) fun e w'' => e = .returned v ∧ ∃ m, w'' = w.drewN m :=
  h.mono fun _ _ ⟨he, hm⟩ => ⟨he, n, hm.symm⟩
theorem quiet_eq2 {P : Program} {f : FuncId} {args : Array Value} {w : World} {a n : Nat} {v : Value} (h : Calls P f args (w.drewN (a + n)) fun e w' => e = .returned v ∧ w.drewN (a + n) = w') :
    Calls P f args (w.drewN (a + n)) fun e w'' => e = .returned v ∧ ∃ m, w'' = w.drewN (a + m) :=
  h.mono fun _ _ ⟨he, hm⟩ => ⟨he, n, hm.symm⟩
end Wd
