import Derived.Below
import Derived.OneCell
import Derived.Deep.Draws
import Derived.Laws.Rows
import Derived.Laws.MakeOwn
import Derived.Lib.Hide
import Derived.OwnWalk
import Derived.Laws.Entries
import Derived.Test.YtbejbiogabpmfaaGreatChecked
import Derived.WalkKit
import Derived.WalkLawsBesides
import Derived.Deep.QuietTactic
import Derived.BigQuiet
import Derived.KernelRfl
import Derived.Outline
import Derived.Laws.Cover2
import Derived.Shelf.SlSortCmp.QuietGrown
import Derived.Maps.AppendAt
import Derived.Deep.AppendLies
import Derived.Deep.RegionLaw
import Derived.Laws.BytesString
import Derived.Deep.WholeRow
import Derived.IntWalk
import Derived.Laws.Bits64

namespace Wd
open Go Go.RowKit

/-- block g holds just these cells, none of them frozen -/
def Cells (w : World) (g : Nat) (t : TypeId) (cs : Array Value) : Prop := w.heap[g]? = some (.cells cs t (0, 0))

section
variable {w w' : World} {g : Nat} {t : TypeId} {cs : Array Value}
theorem Cells.lt (h : Cells w g t cs) : g < w.heap.size := lt_of_block h
theorem Cells.cell (h : Cells w g t cs) (i : Nat) : w.cell? ⟨g, i, none⟩ = cs[i]? := cell_of_row w g i cs t (0, 0) h
theorem Cells.free (h : Cells w g t cs) (i : Nat) : w.frozen? ⟨g, i, none⟩ = false := by
  unfold Cells at h; simp [World.frozen?, h]
theorem Cells.new (w : World) (t : TypeId) (cs : Array Value) : Cells (w.alloc (.cells cs t)) w.heap.size t cs := heap_alloc_new w _
theorem Cells.drewN (h : Cells w g t cs) (n : Nat) : Cells (w.drewN n) g t cs := h
theorem Cells.alloc (h : Cells w g t cs) (o : Obj) : Cells (w.alloc o) g t cs := (Below.heap_alloc w o g h.lt).trans h
theorem Cells.set (h : Cells w g t cs) (i : Nat) (u : Value) : Cells (w.setCell ⟨g, i, none⟩ u) g t (cs.setIfInBounds i u) := by
  unfold Cells at *; simp [World.setCell, Array.getElem?_modify, h]
theorem Cells.far (h : Cells w g t cs) {p : Addr} (hp : g ≠ p.block) (u : Value) : Cells (w.setCell p u) g t cs := (Below.heap_setCell w p u g hp).trans h
theorem Cells.below {B : Nat} (h : Cells w g t cs) (hb : Below B w w') (hg : g < B) : Cells w' g t cs := (hb.block g hg).trans h
theorem Cells.below' (h : Cells w g t cs) (hb : Below w.heap.size w w') : Cells w' g t cs := h.below hb h.lt
theorem Cells.grown {row : Option Nat} (h : Cells w g t cs) (hb : w.grownBy w' row) (hg : some g ≠ row) : Cells w' g t cs := (hb.block g h.lt hg).trans h
theorem Cells.ne {g' : Nat} {t' : TypeId} {cs' : Array Value} (h : Cells w g t cs) (h' : Cells w g' t' cs') (hne : t ≠ t') : g ≠ g' := by
  rintro rfl
  unfold Cells at h h'
  rw [h] at h'
  injection h' with h'; injection h' with _ ht
  exact hne ht
end

@[go_sem] theorem run_store_f (P : Program) (w : World) (a : Addr) (m : Mode) (k : FloatKind) (b : Nat) : (store a (.float k b) m).run P w = stored P w a (.float k b) m := run_store P w a _ m rfl

theorem below_drewN {B : Nat} {a w : World} (h : Below B a w) (n : Nat) : Below B a (w.drewN n) := ⟨h.os, h.tape, h.output, h.size, h.block⟩
theorem grown_of_below {a w : World} (h : Below a.heap.size a w) (row : Option Nat) : a.grownBy w row := ⟨h.os, h.tape, h.output, h.size, fun k hk _ => h.block k hk⟩
theorem below_of_grown {a w : World} (h : a.grownBy w none) : Below a.heap.size a w := ⟨h.os, h.tape, h.output, h.size, fun k hk => h.block k hk (by simp)⟩
/-- every cell of an old block reads as it did -/
theorem Below.old {W w1 : World} (hb : Below W.heap.size W w1) : ∀ b o, b < W.heap.size → w1.cell? ⟨b, o, none⟩ = W.cell? ⟨b, o, none⟩ :=
  fun b o h => hb.cell (p := ⟨b, o, none⟩) h

/-- make([]T, n): n zero values in a new block -/
theorem make_row {P : Program} (t e : TypeId) (z : Value) (by_ : Nat) (ht : P.underlying t = some (.slice e)) (hi : (P.info? e).map (fun i => (i.zero, i.size, i.bytes)) = some (some z, 1, by_))
    (hz : z.cells = #[z]) (n : Nat) (hb : by_ * n ≤ 281474976710656) (h63 : n ≤ 9223372036854775807) (w : World) :
    (Instr.makeSlice t (.int .i64 (n : Int)) (.int .i64 (n : Int))).run P w = .ok (.slice (some ⟨w.heap.size, 0, none⟩) n n) (w.alloc (.cells (List.replicate n z).toArray e)) := by
  obtain ⟨i, h1, h2, h3, h4⟩ := info_parts hi
  have hb' : (i.bytes : Int) * (n : Int) ≤ 281474976710656 := by
    have h : ((i.bytes * n : Nat) : Int) ≤ 281474976710656 := by rw [h4]; omega
    rwa [Int.natCast_mul] at h
  have hr := run_make (P := P) w t e i z ht h1 h2 .i64 .i64 n n (by omega) (by omega) hb' (by omega)
  simp only [Int.toNat_natCast] at hr
  have e1 : madeCells z.cells (n * i.size) = (List.replicate n z).toArray := by
    rw [h3, Nat.mul_one, hz]
    have := toList_madeCells_one z n
    rw [← this]
  rw [e1] at hr
  exact hr

/-- the slice .slice A n c reads as the row xs of one-cell elements, below block B -/
def Row (w : World) (B : Nat) (A : Option Addr) (n : Nat) (xs : List Value) : Prop :=
  xs.length = n ∧ (0 < n → ∃ b off, A = some ⟨b, off, none⟩ ∧ b < B ∧ ∀ j, (h : j < xs.length) → w.cell? ⟨b, off + j, none⟩ = some xs[j])

section
variable {w w' : World} {B B' n : Nat} {A : Option Addr} {xs : List Value}
theorem Row.nil : Row w B A 0 [] := ⟨rfl, fun h => absurd h (by omega)⟩
theorem Row.at (h : Row w B A n xs) {k : Nat} (hk : k < n) : ∃ b off, A = some ⟨b, off, none⟩ ∧ b < B ∧ w.cell? ⟨b, off + k, none⟩ = some (xs[k]'(by rw [h.1]; exact hk)) := by
  obtain ⟨b, off, e, hb, hc⟩ := h.2 (by omega)
  exact ⟨b, off, e, hb, hc k (by rw [h.1]; exact hk)⟩
theorem Row.get {α : Type} {f : α → Value} {l : List α} (h : Row w B A n (l.map f)) {k : Nat} (hk : k < n) : ∃ b off x, A = some ⟨b, off, none⟩ ∧ b < B ∧ l[k]? = some x ∧ w.cell? ⟨b, off + k, none⟩ = some (f x) := by
  have hl : k < l.length := by have := h.1; simp at this; omega
  obtain ⟨b, off, e, hb, hc⟩ := h.at hk
  exact ⟨b, off, l[k], e, hb, List.getElem?_eq_getElem hl, by rw [hc, List.getElem_map]⟩
theorem Row.keep (h : Row w B A n xs) (hk : ∀ b o, b < B → w'.cell? ⟨b, o, none⟩ = w.cell? ⟨b, o, none⟩) : Row w' B A n xs :=
  ⟨h.1, fun hn => by
    obtain ⟨b, off, e, hb, hc⟩ := h.2 hn
    exact ⟨b, off, e, hb, fun j hj => (hk b _ hb).trans (hc j hj)⟩⟩
theorem Row.more (h : Row w B A n xs) (hB : B ≤ B') : Row w B' A n xs :=
  ⟨h.1, fun hn => by
    obtain ⟨b, off, e, hb, hc⟩ := h.2 hn
    exact ⟨b, off, e, by omega, hc⟩⟩
theorem Row.below (h : Row w B A n xs) (hb : Below B w w') : Row w' B A n xs := h.keep fun b o hp => hb.cell (p := ⟨b, o, none⟩) hp
theorem Row.of_cells {g : Nat} {t : TypeId} {cs : Array Value} (h : Cells w g t cs) (hg : g < B) : Row w B (some ⟨g, 0, none⟩) cs.size cs.toList :=
  ⟨by simp, fun _ => ⟨g, 0, rfl, hg, fun j hj => by rw [Nat.zero_add, h.cell j]; simp at hj ⊢⟩⟩
theorem Row.fresh (w : World) (n : Nat) (v : Value) (t : TypeId) : Row (w.alloc (.cells (Array.replicate n v) t)) (w.alloc (.cells (Array.replicate n v) t)).heap.size (some ⟨w.heap.size, 0, none⟩) n (List.replicate n v) := by
  have := Row.of_cells (B := (w.alloc (.cells (Array.replicate n v) t)).heap.size) (Cells.new w t (Array.replicate n v)) (by simp)
  simpa using this
theorem Row.one (w : World) (v : Value) (t : TypeId) : Row (w.alloc (.cells #[v] t)) (w.alloc (.cells #[v] t)).heap.size (some ⟨w.heap.size, 0, none⟩) 1 [v] :=
  Row.of_cells (Cells.new w t #[v]) (by simp)
theorem Row.drewN (h : Row w B A n xs) (k : Nat) : Row (w.drewN k) B A n xs := h
end

theorem own_base {w : World} {base : Nat} {e : TypeId} {size n : Nat} {v : Value} {xs : List Value} (h : w.ownsRow base e size v n xs) : ∀ q, v.ownBlock = some q → base ≤ q := by
  intro q hq
  rcases h.2 with ⟨rfl, _⟩ | ⟨g, cap, cur, rfl, hb, _⟩
  · cases hq
  · have : g = q := by simpa [Value.ownBlock] using hq
    omega
theorem own_ne {v : Value} {g h : Nat} (hat : v.ownBlock = none ∨ v.ownBlock = some h) (hlt : g < h) : some g ≠ v.ownBlock := by
  rcases hat with e | e <;> rw [e]
  · simp
  · intro e; have := Option.some.inj e; omega
theorem own_ne' {v : Value} {g h : Nat} (hat : v.ownBlock = none ∨ v.ownBlock = some h) (hlt : g < h) : ∀ b, b ≤ g → some b ≠ v.ownBlock := fun b hb => own_ne hat (by omega)
theorem Row.of_own {w : World} {base : Nat} {e : TypeId} {n : Nat} {v : Value} {xs : List Value} (h : w.ownsRow base e 1 v n xs) : ∃ A c, v = .slice A n c ∧ Row w w.heap.size A n xs := by
  obtain ⟨h1, h2⟩ := h
  rw [Nat.mul_one] at h1
  rcases h2 with ⟨rfl, rfl⟩ | ⟨g, cap, cur, rfl, _, hh, hnc, _, hcs, ht⟩
  · exact ⟨none, 0, rfl, h1, fun hn => absurd hn (by omega)⟩
  · refine ⟨_, _, rfl, h1, fun _ => ⟨g, 0, rfl, lt_of_block hh, fun j hj => ?_⟩⟩
    rw [Nat.zero_add, Cells.cell hh j]
    rw [Nat.mul_one] at ht
    have : (cur.toList.take n)[j]? = some xs[j] := by rw [ht, List.getElem?_eq_getElem hj]
    rw [List.getElem?_take_of_lt (by omega)] at this
    simpa using this

theorem quiet_eq2 {P : Program} {f : FuncId} {args : Array Value} {w : World} {a n : Nat} {v : Value} (h : Calls P f args (w.drewN (a + n)) fun e w' => e = .returned v ∧ w.drewN (a + n) = w') :
    Calls P f args (w.drewN (a + n)) fun e w'' => e = .returned v ∧ ∃ m, w'' = w.drewN (a + m) :=
  h.mono fun _ _ ⟨he, hm⟩ => ⟨he, n, hm.symm⟩
end Wd

namespace Go.Proofs.YtbejbiogabpmfaaGreat
open Wd Go.ChangeShapes Go.WideShapes Go.RowKit Go.Sort
set_option linter.unusedVariables false

/-- it returns v; the world has drawn some, and has some blocks more -/
def Grows (v : Value) (w : World) (e : Ending) (w' : World) : Prop := e = .returned v ∧ ∃ q os, w' = grow (w.drewN q) os
theorem below_grow' (w : World) (n : Nat) (os : Array Obj) : Below w.heap.size w (grow (w.drewN n) os) :=
  ⟨rfl, rfl, rfl, by simp, fun k hk => heap_grow_old (w.drewN n) os hk⟩
theorem Grows.below {v : Value} {w w' : World} {e : Ending} (h : Grows v w e w') : e = .returned v ∧ Below w.heap.size w w' := by
  obtain ⟨rfl, q, os, rfl⟩ := h
  exact ⟨rfl, below_grow' _ _ _⟩
theorem grow_none (w : World) : ∃ q os, w = grow (w.drewN q) os := ⟨0, #[], by rw [grow_empty]; rfl⟩
theorem grow_one (w : World) (o : Obj) : ∃ q os, w.alloc o = grow (w.drewN q) os := ⟨0, #[o], rfl⟩
theorem grow_trans {w w1 w2 : World} (h : ∃ q os, w1 = grow (w.drewN q) os) (k : ∃ q os, w2 = grow (w1.drewN q) os) : ∃ q os, w2 = grow (w.drewN q) os := by
  obtain ⟨q, os, rfl⟩ := h
  obtain ⟨q', os', rfl⟩ := k
  exact ⟨q + q', os ++ os', by show grow (grow ((w.drewN q).drewN q') os) os' = _; rw [grow_grow, World.drewN_drewN]⟩
theorem grow_alloc {w w1 : World} (h : ∃ q os, w1 = grow (w.drewN q) os) (o : Obj) : ∃ q os, w1.alloc o = grow (w.drewN q) os := grow_trans h (grow_one w1 o)
theorem grow_drewN {w w1 : World} (h : ∃ q os, w1 = grow (w.drewN q) os) (n : Nat) : ∃ q os, w1.drewN n = grow (w.drewN q) os := grow_trans h ⟨n, #[], by rw [grow_empty]⟩
/-- met in a region that draws -/
theorem Grows.in {P : Program} {f : FuncId} {args : Array Value} {v : Value} (h : ∀ w, Calls P f args w (Grows v w)) (w : World) (n : Nat) (os : Array Obj) :
    Calls P f args (grow (w.drewN n) os) fun e w'' => e = .returned v ∧ ∃ p : GrownBy, w'' = grow (w.drewN p.n) p.os :=
  Calls.grown_of (h _)
theorem Grows.inAt {P : Program} {f : FuncId} {args : Array Value} {v : Value} {w : World} (h : ∀ n os, Calls P f args (grow (w.drewN n) os) (Grows v (grow (w.drewN n) os))) (n : Nat) (os : Array Obj) :
    Calls P f args (grow (w.drewN n) os) fun e w'' => e = .returned v ∧ ∃ p : GrownBy, w'' = grow (w.drewN p.n) p.os := Calls.grown_of (h n os)
end Go.Proofs.YtbejbiogabpmfaaGreat

namespace U
open Go Wd Go.RowKit

/-- a word of 64 bits -/
def wd (n : Nat) : Value := .int .u64 (n : Int)
def Small (l : List Nat) : Prop := ∀ x ∈ l, x < 18446744073709551616
theorem Small.at {l : List Nat} (h : Small l) {j x : Nat} (hx : l[j]? = some x) : x < 18446744073709551616 := h x (List.mem_of_getElem? hx)
theorem Small.take {l : List Nat} (h : Small l) (n : Nat) : Small (l.take n) := fun x hx => h x (List.mem_of_mem_take hx)
theorem Small.drop {l : List Nat} (h : Small l) (n : Nat) : Small (l.drop n) := fun x hx => h x (List.mem_of_mem_drop hx)
theorem Small.append {l m : List Nat} (h : Small l) (k : Small m) : Small (l ++ m) := fun x hx => (List.mem_append.1 hx).elim (h x) (k x)
theorem take_one {α : Type} {l : List α} {k : Nat} {x : α} (h : l[k]? = some x) : l.take (k + 1) = l.take k ++ [x] := by
  rw [List.take_add_one, h]; rfl
theorem oneW (l : List Nat) : ∀ u ∈ l.map wd, u.oneCell' = true := by
  intro u hu
  obtain ⟨b, _, rfl⟩ := List.mem_map.1 hu
  rfl
/-- a block of words -/
def WRow (w : World) (g : Nat) (t : TypeId) (ws : List Nat) : Prop := Cells w g t (ws.map wd).toArray
theorem WRow.cell {w : World} {g : Nat} {t : TypeId} {ws : List Nat} (h : WRow w g t ws) {j c : Nat} (hx : ws[j]? = some c) : w.cell? ⟨g, j, none⟩ = some (.int .u64 (c : Int)) := by
  rw [Cells.cell h]; simp [hx, wd]
theorem WRow.set {w : World} {g : Nat} {t : TypeId} {ws : List Nat} (h : WRow w g t ws) (j c : Nat) : WRow (w.setCell ⟨g, j, none⟩ (.int .u64 (c : Int))) g t (ws.set j c) := by
  have := Cells.set h j (.int .u64 (c : Int))
  unfold WRow
  rw [List.map_set, ← List.setIfInBounds_toArray]
  exact this
theorem WRow.row {w : World} {g n B : Nat} {t : TypeId} {ws : List Nat} (h : WRow w g t ws) (hn : ws.length = n) (hg : g < B) : Row w B (some ⟨g, 0, none⟩) n (ws.map wd) := by
  have := Row.of_cells (B := B) h hg
  rw [show (List.map wd ws).toArray.size = n by rw [List.size_toArray, List.length_map]; exact hn] at this
  exact this
/-- a part of a row, from its beginning on -/
theorem row_take {w : World} {B n k : Nat} {A : Option Addr} {xs : List Value} (h : Row w B A n xs) (hk : k ≤ n) : Row w B A k (xs.take k) := by
  refine ⟨by rw [List.length_take, h.1]; omega, fun hk0 => ?_⟩
  obtain ⟨b, off, e, hb, hc⟩ := h.2 (by omega)
  refine ⟨b, off, e, hb, fun j hj => ?_⟩
  rw [List.length_take] at hj
  rw [List.getElem_take]
  exact hc j (by omega)

/-- FNV's step -/
@[irreducible] def more (s w : Nat) : Nat := (s ^^^ w) * 1099511628211 % 18446744073709551616
@[irreducible] def start : Nat := 14695981039346656037
theorem start_val : Value.int .u64 14695981039346656037 = .int .u64 ((start : Nat) : Int) := by unfold start; rfl
theorem start_lt : start < 18446744073709551616 := by unfold start; omega
def sum (l : List Nat) : Nat := l.foldl more start
theorem sum_nil : start = sum [] := by unfold sum; rw [List.foldl_nil]
theorem sum_snoc (l : List Nat) (x : Nat) : sum (l ++ [x]) = more (sum l) x := by unfold sum; rw [List.foldl_append, List.foldl_cons, List.foldl_nil]
theorem more_lt (s w : Nat) : more s w < 18446744073709551616 := by unfold more; exact Nat.mod_lt _ (by omega)
theorem run_lt : ∀ (l : List Nat) (s : Nat), s < 18446744073709551616 → l.foldl more s < 18446744073709551616 := by
  intro l
  induction l with
  | nil => intro s h; rw [List.foldl_nil]; exact h
  | cons a l ih => intro s h; rw [List.foldl_cons]; exact ih _ (more_lt s a)
theorem sum_lt (l : List Nat) : sum l < 18446744073709551616 := by
  unfold sum
  exact run_lt l _ start_lt
theorem mul_inj {x y : Nat} (hx : x < 18446744073709551616) (hy : y < 18446744073709551616) (h : x * 1099511628211 % 18446744073709551616 = y * 1099511628211 % 18446744073709551616) : x = y := by
  have inv : ∀ z, z < 18446744073709551616 → z * 1099511628211 % 18446744073709551616 * 14886173955864302971 % 18446744073709551616 = z := by
    intro z hz
    rw [Nat.mod_mul_mod, Nat.mul_assoc]
    have e : 1099511628211 * 14886173955864302971 = 18446744073709551616 * 887285111055 + 1 := by omega
    rw [e, Nat.mul_add, ← Nat.mul_assoc, Nat.mul_comm z 18446744073709551616, Nat.mul_assoc, Nat.mul_one, Nat.mul_add_mod, Nat.mod_eq_of_lt hz]
  rw [← inv x hx, h, inv y hy]
theorem xor_lt {x y : Nat} (hx : x < 18446744073709551616) (hy : y < 18446744073709551616) : x ^^^ y < 18446744073709551616 := Nat.xor_lt_two_pow (n := 64) hx hy
theorem more_left {s t w : Nat} (hs : s < 18446744073709551616) (ht : t < 18446744073709551616) (hw : w < 18446744073709551616) (h : more s w = more t w) : s = t := by
  unfold more at h
  have := mul_inj (xor_lt hs hw) (xor_lt ht hw) h
  have e := congrArg (· ^^^ w) this
  simpa [Nat.xor_assoc] using e
theorem more_right {s v w : Nat} (hs : s < 18446744073709551616) (hv : v < 18446744073709551616) (hw : w < 18446744073709551616) (h : more s v = more s w) : v = w := by
  unfold more at h
  have := mul_inj (xor_lt hs hv) (xor_lt hs hw) h
  have e := congrArg (s ^^^ ·) this
  simpa [← Nat.xor_assoc] using e
theorem run_left {l : List Nat} (hl : Small l) : ∀ {s t : Nat}, s < 18446744073709551616 → t < 18446744073709551616 → l.foldl more s = l.foldl more t → s = t := by
  induction l with
  | nil => intro s t _ _ h; exact h
  | cons a l ih =>
    intro s t hs ht h
    have := ih (fun x hx => hl x (by simp [hx])) (more_lt s a) (more_lt t a) h
    exact more_left hs ht (hl a (by simp)) this
/-- a word that is another one gives another sum -/
theorem sum_set {l : List Nat} {i v w : Nat} (hl : Small l) (hv : l[i]? = some v) (hw : w < 18446744073709551616) (hne : v ≠ w) : sum (l.set i w) ≠ sum l := by
  intro h
  have hlt := (List.getElem?_eq_some_iff.1 hv).1
  have e1 : l = l.take i ++ v :: l.drop (i + 1) := by
    have := (List.getElem?_eq_some_iff.1 hv).2
    rw [← this, List.getElem_cons_drop, List.take_append_drop]
  have e2 : l.set i w = l.take i ++ w :: l.drop (i + 1) := by
    rw [List.set_eq_take_append_cons_drop, if_pos hlt]
  rw [e2] at h
  conv at h => rhs; rw [e1]
  unfold sum at h
  rw [List.foldl_append, List.foldl_append, List.foldl_cons, List.foldl_cons] at h
  have hs : (l.take i).foldl more start < 18446744073709551616 := run_lt _ _ start_lt
  have := run_left (hl.drop (i + 1)) (more_lt _ _) (more_lt _ _) h
  exact hne (more_right hs hw (hl.at hv) this).symm
end U

namespace U
/-- the word of some bytes, the first one lowest -/
def val : List Nat → Nat
  | [] => 0
  | x :: t => x + 256 * val t
def Bytes (b : List Nat) : Prop := ∀ x ∈ b, x < 256
theorem Bytes.at {l : List Nat} (h : Bytes l) {j x : Nat} (hx : l[j]? = some x) : x < 256 := h x (List.mem_of_getElem? hx)
theorem Bytes.take {l : List Nat} (h : Bytes l) (n : Nat) : Bytes (l.take n) := fun x hx => h x (List.mem_of_mem_take hx)
theorem Bytes.drop {l : List Nat} (h : Bytes l) (n : Nat) : Bytes (l.drop n) := fun x hx => h x (List.mem_of_mem_drop hx)
def chunk (b : List Nat) (i : Nat) : List Nat := (b.drop (8 * i)).take 8
def need (n : Nat) : Nat := (n + 7) / 8
def pk (b : List Nat) : List Nat := (List.range (need b.length)).map (fun i => val (chunk b i))
theorem pk_len (b : List Nat) : (pk b).length = need b.length := by unfold pk; simp
theorem pk_get (b : List Nat) (i : Nat) : (pk b)[i]? = if i < need b.length then some (val (chunk b i)) else none := by
  unfold pk
  rw [List.getElem?_map]
  by_cases h : i < need b.length
  · rw [if_pos h, List.getElem?_range h]; rfl
  · rw [if_neg h, List.getElem?_eq_none (by simp; omega)]; rfl
theorem val_snoc (c : List Nat) (x : Nat) : val (c ++ [x]) = val c + 256 ^ c.length * x := by
  induction c with
  | nil => simp [val]
  | cons a c ih =>
    simp only [List.cons_append, val, ih, List.length_cons, Nat.pow_succ]
    rw [Nat.mul_add, ← Nat.mul_assoc, Nat.mul_comm 256 (256 ^ c.length)]
    omega
theorem val_lt {c : List Nat} (h : Bytes c) : val c < 256 ^ c.length := by
  induction c with
  | nil => simp [val]
  | cons a c ih =>
    have h1 := ih (fun x hx => h x (by simp [hx]))
    have h2 := h a (by simp)
    simp only [val, List.length_cons, Nat.pow_succ]
    omega
theorem chunk_len (b : List Nat) (i : Nat) : (chunk b i).length = min 8 (b.length - 8 * i) := by unfold chunk; simp
theorem chunk_old {b : List Nat} {i : Nat} (x : Nat) (h : i < b.length / 8) : chunk (b ++ [x]) i = chunk b i := by
  unfold chunk
  rw [List.drop_append_of_le_length (by omega), List.take_append_of_le_length (by rw [List.length_drop]; omega)]
theorem chunk_new {b : List Nat} (x : Nat) : chunk (b ++ [x]) (b.length / 8) = chunk b (b.length / 8) ++ [x] := by
  unfold chunk
  rw [List.drop_append_of_le_length (by omega), List.take_of_length_le (by rw [List.length_append, List.length_drop]; simp; omega), List.take_of_length_le (by rw [List.length_drop]; omega)]
theorem pow_le {k : Nat} (h : k < 8) : 256 ^ k ≤ 72057594037927936 := by
  have : 256 ^ k ≤ 256 ^ 7 := Nat.pow_le_pow_right (by omega) (by omega)
  simpa using this
theorem pk_small {b : List Nat} (hb : Bytes b) : Small (pk b) := by
  intro y hy
  obtain ⟨i, hi, rfl⟩ := List.mem_map.1 hy
  have h1 := val_lt ((hb.drop (8 * i)).take 8)
  have h2 : ((b.drop (8 * i)).take 8).length ≤ 8 := by simp; omega
  have h3 : 256 ^ ((b.drop (8 * i)).take 8).length ≤ 256 ^ 8 := Nat.pow_le_pow_right (by omega) h2
  show val ((b.drop (8 * i)).take 8) < _
  simp only [show (256 : Nat) ^ 8 = 18446744073709551616 from by decide] at h3
  omega

/-- the bytes that words stand for -/
def bytesOf (l : List Nat) (n : Nat) : List Nat := (List.range n).map (fun i => (l[i / 8]?.getD 0) / 256 ^ (i % 8) % 256)
theorem bytesOf_len (l : List Nat) (n : Nat) : (bytesOf l n).length = n := by unfold bytesOf; simp
theorem bytesOf_bytes (l : List Nat) (n : Nat) : Bytes (bytesOf l n) := by
  intro y hy
  obtain ⟨i, _, rfl⟩ := List.mem_map.1 hy
  exact Nat.mod_lt _ (by omega)
theorem bytesOf_snoc (l : List Nat) (n : Nat) : bytesOf l (n + 1) = bytesOf l n ++ [(l[n / 8]?.getD 0) / 256 ^ (n % 8) % 256] := by
  unfold bytesOf
  rw [List.range_succ, List.map_append]; rfl
/-- whether words are the Pack of so many bytes -/
def mayU (l : List Nat) (n : Int) : Bool := decide (0 ≤ n) && decide (need n.toNat = l.length) && decide (pk (bytesOf l n.toNat) = l)
end U

namespace U
/-! words whose room is there ahead, laid byte by byte -/
def padW (b : List Nat) (k : Nat) : List Nat := (List.range (need b.length)).map (fun j => val (chunk (b.take k) j))
theorem padW_len (b : List Nat) (k : Nat) : (padW b k).length = need b.length := by unfold padW; simp
theorem padW_get (b : List Nat) (k j : Nat) : (padW b k)[j]? = if j < need b.length then some (val (chunk (b.take k) j)) else none := by
  unfold padW
  rw [List.getElem?_map]
  by_cases h : j < need b.length
  · rw [if_pos h, List.getElem?_range h]; rfl
  · rw [if_neg h, List.getElem?_eq_none (by simp; omega)]; rfl
theorem chunk_far {b : List Nat} {j : Nat} (h : b.length ≤ 8 * j) : chunk b j = [] := by unfold chunk; rw [List.drop_eq_nil_of_le h]; rfl
theorem padW_zero (b : List Nat) : padW b 0 = List.replicate (need b.length) 0 := by
  apply List.ext_getElem?
  intro j
  rw [padW_get, List.getElem?_replicate, List.take_zero, chunk_far (by simp)]
  rfl
theorem padW_all (b : List Nat) : padW b b.length = pk b := by
  apply List.ext_getElem?
  intro j
  rw [padW_get, pk_get, List.take_length]
theorem padW_step {b : List Nat} (hb : Bytes b) {k x : Nat} (hx : b[k]? = some x) :
    ∃ v, (padW b k)[k / 8]? = some v ∧ v < 256 ^ (k % 8) ∧ v + x * 256 ^ (k % 8) < 18446744073709551616 ∧ padW b (k + 1) = (padW b k).set (k / 8) (v + x * 256 ^ (k % 8)) := by
  have hk : k < b.length := (List.getElem?_eq_some_iff.1 hx).1
  have hxb := hb.at hx
  have hl : (b.take k).length = k := by rw [List.length_take]; omega
  have ht : b.take (k + 1) = b.take k ++ [x] := by rw [List.take_add_one, hx]; rfl
  have hcl : (chunk (b.take k) (k / 8)).length = k % 8 := by rw [chunk_len, hl]; omega
  have hv : val (chunk (b.take k) (k / 8)) < 256 ^ (k % 8) := by
    have := val_lt (c := chunk (b.take k) (k / 8)) (((hb.take k).drop _).take _)
    rw [hcl] at this
    exact this
  have hn : k / 8 < need b.length := by unfold need; omega
  have hpl := pow_le (k := k % 8) (by omega)
  refine ⟨_, by rw [padW_get, if_pos hn], hv, ?_, ?_⟩
  · have h1 : x * 256 ^ (k % 8) ≤ 255 * 256 ^ (k % 8) := Nat.mul_le_mul_right _ (by omega)
    omega
  · apply List.ext_getElem?
    intro j
    rw [padW_get, List.getElem?_set, padW_len, padW_get]
    by_cases hj : k / 8 = j
    · subst hj
      rw [if_pos hn, if_pos rfl, if_pos hn, ht]
      have := chunk_new (b := b.take k) x
      rw [hl] at this
      rw [this, val_snoc, hcl, Nat.mul_comm]
    · rw [if_neg hj]
      by_cases hjn : j < need b.length
      · rw [if_pos hjn, if_pos hjn]
        by_cases hj2 : j < k / 8
        · rw [ht, chunk_old x (by rw [hl]; exact hj2)]
        · rw [chunk_far (b := b.take (k + 1)) (by rw [List.length_take]; omega), chunk_far (b := b.take k) (by rw [List.length_take]; omega)]
      · rw [if_neg hjn, if_neg hjn]
theorem or_mul' (a b i : Nat) (h : a < 2 ^ i) : a ||| (b * 2 ^ i) = a + b * 2 ^ i := by
  rw [Nat.or_comm, ← Nat.shiftLeft_eq, ← Nat.shiftLeft_add_eq_or_of_lt h, Nat.add_comm]
theorem pow_two (r : Nat) : 2 ^ (r * 8) = 256 ^ r := by rw [Nat.mul_comm, Nat.pow_mul]
/-- the bytes of packed words -/
theorem bytes_pk {b : List Nat} (hb : Bytes b) : bytesOf (pk b) b.length = b := by
  apply List.ext_getElem?
  intro j
  unfold bytesOf
  rw [List.getElem?_map]
  by_cases hj : j < b.length
  · rw [List.getElem?_range hj]
    have hn : j / 8 < need b.length := by unfold need; omega
    show some (((pk b)[j / 8]?.getD 0) / 256 ^ (j % 8) % 256) = b[j]?
    rw [pk_get, if_pos hn, Option.getD_some]
    have hc : (chunk b (j / 8))[j % 8]? = b[j]? := by
      unfold chunk
      rw [List.getElem?_take_of_lt (by omega), List.getElem?_drop]
      congr 1
      omega
    rw [← hc]
    have hbc : Bytes (chunk b (j / 8)) := (hb.drop _).take _
    have hlt : j % 8 < (chunk b (j / 8)).length := by rw [chunk_len]; omega
    rw [List.getElem?_eq_getElem hlt]
    congr 1
    generalize chunk b (j / 8) = c at hbc hlt
    generalize j % 8 = i at hlt
    clear hc hn hj
    induction c generalizing i with
    | nil => simp at hlt
    | cons y c ih =>
      have hy : y < 256 := hbc y (by simp)
      cases i with
      | zero => show (y + 256 * val c) / 256 ^ 0 % 256 = y; rw [Nat.pow_zero, Nat.div_one]; omega
      | succ i =>
        have hlt' : i < c.length := by simpa using hlt
        have := ih (fun z hz => hbc z (by simp [hz])) i hlt'
        show (y + 256 * val c) / 256 ^ (i + 1) % 256 = c[i]
        rw [Nat.pow_succ, Nat.mul_comm (256 ^ i) 256, ← Nat.div_div_eq_div_mul, show (y + 256 * val c) / 256 = val c by omega]
        exact this
  · rw [List.getElem?_eq_none (by simp; omega), List.getElem?_eq_none (by omega)]; rfl
theorem mayU_pk {b : List Nat} (hb : Bytes b) : mayU (pk b) b.length = true := by
  unfold mayU
  rw [Int.toNat_natCast, bytes_pk hb, pk_len]
  simp
end U

namespace Wd
open Go Go.RowKit
variable {w : World} {base n : Nat} {e : TypeId} {v : Value} {xs : List Value}

/-- a row that is owned, and holds something, opened -/
theorem own_open (h : w.ownsRow base e 1 v n xs) (hn : 0 < n) : ∃ g cap, v = .slice (some ⟨g, 0, none⟩) n cap ∧ base ≤ g ∧ n ≤ cap ∧ cap ≤ maxLen ∧ g < w.heap.size := by
  rcases h.2 with ⟨_, h0⟩ | ⟨g, cap, cur, rfl, hb, hh, h1, h2, _, _⟩
  · omega
  · exact ⟨g, cap, rfl, hb, h1, h2, lt_of_block hh⟩
theorem own_cell {g cap : Nat} (h : w.ownsRow base e 1 (.slice (some ⟨g, 0, none⟩) n cap) n xs) {k : Nat} {u : Value} (hk : xs[k]? = some u) : w.cell? ⟨g, k, none⟩ = some u ∧ w.frozen? ⟨g, k, none⟩ = false := by
  have hl := h.1
  rw [Nat.mul_one] at hl
  rcases h.2 with ⟨h0, _⟩ | ⟨g', cap', cur, hv, hb, hh, h1, h2, hs, ht⟩
  · cases h0
  · injection hv with hv _ hc
    injection hv with hv
    injection hv with hv
    subst hv hc
    rw [Nat.mul_one] at ht
    have hkn : k < n := by have := (List.getElem?_eq_some_iff.1 hk).1; omega
    have hc : Cells w g e cur := hh
    refine ⟨?_, hc.free k⟩
    rw [hc.cell k]
    rw [← ht, List.getElem?_take_of_lt hkn] at hk
    simpa using hk
theorem own_set {g cap : Nat} (h : w.ownsRow base e 1 (.slice (some ⟨g, 0, none⟩) n cap) n xs) (k : Nat) (u : Value) : (w.setCell ⟨g, k, none⟩ u).ownsRow base e 1 (.slice (some ⟨g, 0, none⟩) n cap) n (xs.set k u) := by
  rcases h with ⟨hl, h⟩
  refine ⟨by rw [List.length_set]; exact hl, ?_⟩
  rcases h with ⟨h0, _⟩ | ⟨g', cap', cur, hv, hb, hh, h1, h2, hs, ht⟩
  · cases h0
  · injection hv with hv _ hc
    injection hv with hv
    injection hv with hv
    subst hv hc
    refine .inr ⟨g, cap, cur.setIfInBounds k u, rfl, hb, Cells.set hh k u, h1, h2, by simp [hs], ?_⟩
    rw [Array.toList_setIfInBounds, List.take_set, ht]
end Wd

namespace Wd
open Go Go.RowKit

section
variable {P : Program} (w : World)

/-- append(row of the call's own, a slice that reads as a row): the whole of it, whether it is nil, empty or not -/
theorem run_append_row (base : Nat) (t ty e : TypeId) (z : Value) (bytes : Nat) (ht : P.underlying t = some (.slice e)) (hi : (P.info? e).map (fun i => (i.zero, i.size, i.bytes)) = some (some z, 1, bytes)) (hz : z.cells.size = 1)
    (v : Value) (n : Nat) (xs : List Value) (hown : w.ownsRow base e 1 v n xs) (B : Nat) (A : Option Addr) (m c : Nat) (news : List Value) (hr : Row w B A m news) (h1 : ∀ u ∈ news, u.oneCell' = true)
    (h63 : n + m ≤ maxLen) (hbytes : (n + m) * bytes ≤ 140737488355328) (hbase : base ≤ w.heap.size) :
    ∃ v' w', (Builtin.append_ #[t, t] ty #[v, .slice A m c]).run P w = .ok v' w' ∧ w'.ownsRow base e 1 v' (n + m) (xs ++ news) ∧ w.grownBy w' v.ownBlock ∧ (v'.ownBlock = v.ownBlock ∨ v'.ownBlock = some w.heap.size) := by
  obtain ⟨i, i1, i2, i3, i4⟩ := info_parts hi
  by_cases hm : m = 0
  · subst hm
    have hn : news = [] := List.eq_nil_of_length_eq_zero hr.1
    subst hn
    cases A with
    | none =>
      refine ⟨v, w, ?_, by simpa using hown, World.grownBy.refl w _, .inl rfl⟩
      rcases hown.2 with ⟨rfl, rfl⟩ | ⟨g, cap, cur, rfl, _, _, hnc, _⟩
      · simp [Builtin.append_, run_underlying ht, Go.sizeOf, typeInfo, i1, Builtin.lenOf, Builtin.firstCells]
      · simp [Builtin.append_, run_underlying ht, Go.sizeOf, typeInfo, i1, Builtin.lenOf, Builtin.firstCells, hnc, storeCells]
    | some ad =>
      obtain ⟨v', w', h2, h3, h4, _, h5⟩ := run_append_own_at (P := P) w base t ty e i z 1 bytes ht i1 i2 i3 i4 hz (by decide) v n xs hown ad 0 c [] rfl (by simp) (by simp) h63 hbytes hbase
      exact ⟨v', w', h2, h3, h4, h5⟩
  · obtain ⟨b, off, rfl, _, hc⟩ := hr.2 (by omega)
    obtain ⟨v', w', h2, h3, h4, _, h5⟩ := run_append_own_at (P := P) w base t ty e i z 1 bytes ht i1 i2 i3 i4 hz (by decide) v n xs hown ⟨b, off, none⟩ m c news (by rw [Nat.mul_one]; exact hr.1) (fun j u hu => by
      obtain ⟨hj, rfl⟩ := List.getElem?_eq_some_iff.1 hu
      have e : (⟨b, off, none⟩ : Addr).add j = ⟨b, off + j, none⟩ := by unfold Addr.add; split <;> simp_all
      rw [e]; exact hc j hj) h1 h63 hbytes hbase
    exact ⟨v', w', h2, h3, h4, h5⟩

theorem wp_append_row {o : Oper} {a : Act} {K : Act → World → Prop} {Q : Exit → Act → World → Prop} (s x : Operand) (t : TypeId)
    (ho : o.op = .call { callee := .builtin .append, args := #[s, x], argTypes := #[t, t] })
    (base : Nat) (e : TypeId) (z : Value) (bytes : Nat) (ht : P.underlying t = some (.slice e)) (hi : (P.info? e).map (fun i => (i.zero, i.size, i.bytes)) = some (some z, 1, bytes)) (hz : z.cells.size = 1)
    (v : Value) (n : Nat) (xs : List Value) (hs : a.eval s = v) (hown : w.ownsRow base e 1 v n xs)
    (B : Nat) (A : Option Addr) (m c : Nat) (news : List Value) (hx : a.eval x = .slice A m c) (hr : Row w B A m news) (h1 : ∀ u ∈ news, u.oneCell' = true)
    (h63 : n + m ≤ maxLen) (hbytes : (n + m) * bytes ≤ 140737488355328) (hbase : base ≤ w.heap.size)
    (h : ∀ v' w', w'.ownsRow base e 1 v' (n + m) (xs ++ news) → w.grownBy w' v.ownBlock → (v'.ownBlock = v.ownBlock ∨ v'.ownBlock = some w.heap.size) → K (a.put o.dst v') w') : o.wp P a w K Q := by
  obtain ⟨v', w', hrun, h2, h3, h4⟩ := run_append_row (P := P) w base t o.type e z bytes ht hi hz v n xs hown B A m c news hr h1 h63 hbytes hbase
  unfold Oper.wp execOp
  simp only [ho, resolve, invoke, builtin, Sem.run_bind, Sem.run_pure, Result.andThen_ok, List.map_toArray, List.map_cons, List.map_nil, hs, hx, hrun]
  exact h v' w' h2 h3 h4

theorem wpList_append_row {ops : Array Oper} {rest : List Oper} {o : Oper} {a : Act} {Q : Exit → Act → World → Prop} (hgd : o.guard = none) (s x : Operand) (t : TypeId)
    (ho : o.op = .call { callee := .builtin .append, args := #[s, x], argTypes := #[t, t] })
    (base : Nat) (e : TypeId) (z : Value) (bytes : Nat) (ht : P.underlying t = some (.slice e)) (hi : (P.info? e).map (fun i => (i.zero, i.size, i.bytes)) = some (some z, 1, bytes)) (hz : z.cells.size = 1)
    (v : Value) (n : Nat) (xs : List Value) (hs : a.eval s = v) (hown : w.ownsRow base e 1 v n xs)
    (B : Nat) (A : Option Addr) (m c : Nat) (news : List Value) (hx : a.eval x = .slice A m c) (hr : Row w B A m news) (h1 : ∀ u ∈ news, u.oneCell' = true)
    (h63 : n + m ≤ maxLen) (hbytes : (n + m) * bytes ≤ 140737488355328) (hbase : base ≤ w.heap.size)
    (h : ∀ v' w', w'.ownsRow base e 1 v' (n + m) (xs ++ news) → w.grownBy w' v.ownBlock → (v'.ownBlock = v.ownBlock ∨ v'.ownBlock = some w.heap.size) → wpList P ops Q rest (a.put o.dst v') w') : wpList P ops Q (o :: rest) a w :=
  wpList_plain hgd fun _ hK => wp_append_row w s x t ho base e z bytes ht hi hz v n xs hs hown B A m c news hx hr h1 h63 hbytes hbase fun v' w' h2 h3 h4 => hK _ _ (h v' w' h2 h3 h4)

end

theorem step_shape {P : Program} {w : World} {ops : Array Oper} {o : Oper} {a : Act} {K : Act → World → Prop} {Q : Exit → Act → World → Prop} {E : Prop} (hgd : o.guard = none) (h : Oper.wp P o a w K Q) :
    if Region.wanted o (yielded ops a.tmps) = true then Oper.wp P o a w K Q else E := by
  have hw : Region.wanted o (yielded ops a.tmps) = true := by simp [Region.wanted, hgd]
  rw [if_pos hw]; exact h

theorem own_nil (w : World) (base : Nat) (e : TypeId) : w.ownsRow base e 1 (.slice none 0 0) 0 [] := ⟨rfl, .inl ⟨rfl, rfl⟩⟩
end Wd

namespace Go.Proofs.YtbejbiogabpmfaaGreat
open Wd Go.RowKit
set_option linter.unusedVariables false

def bt (n : Nat) : Value := .int .u8 (n : Int)
/-- bytes as a text -/
def strOf (bs : List Nat) : ByteArray := (bs.map (fun x : Nat => (x : Int))).foldl (fun r n => r.push (UInt8.ofNat n.toNat)) ByteArray.empty
theorem run_bytes_row (w : World) (A : Option Addr) (n c B : Nat) (bs : List Nat) (hL : bs.length = n) (hr : Row w B A n (bs.map bt)) :
    (convert 62 9 (.slice A n c)).run Tryz.prog w = .ok (.string (strOf bs)) w := by
  rw [run_convert_bytes_string w 62 9 5 A n c Tryz.underlying62 Tryz.underlying5 Tryz.underlying9]
  cases A with
  | none =>
    have h0 : n = 0 := by
      apply Classical.byContradiction
      intro h
      obtain ⟨b, off, e, _⟩ := hr.2 (by omega)
      cases e
    subst h0
    obtain rfl : bs = [] := List.eq_nil_of_length_eq_zero hL
    simp [Conv.bytesToString, Sem.run_pure, strOf]
  | some a =>
    have hcells : ∀ j v, (bs.map bt)[j]? = some v → w.cell? (a.add j) = some v := by
      intro j v hv
      obtain ⟨hj, rfl⟩ := List.getElem?_eq_some_iff.1 hv
      obtain ⟨b, off, e, _, hc⟩ := hr.2 (by simp at hj; omega)
      cases e
      have e : (⟨b, off, none⟩ : Addr).add j = ⟨b, off + j, none⟩ := by unfold Addr.add; split <;> simp_all
      rw [e]
      exact hc j hj
    have hld := run_loadCells_list (P := Tryz.prog) w a (bs.map bt) hcells
    rw [List.length_map, hL] at hld
    have e : bs.map bt = (bs.map (fun x : Nat => (x : Int))).map (Value.int .u8) := by rw [List.map_map]; rfl
    rw [e] at hld
    exact run_bytesToString w a n c _ hld

end Go.Proofs.YtbejbiogabpmfaaGreat

namespace Go.Proofs.YtbejbiogabpmfaaGreat
open Wd U Go.ChangeShapes Go.WideShapes Go.RowKit Go.Sort
set_option linter.unusedVariables false

theorem infoU64' : (Tryz.prog.info? 59).map (fun i => (i.zero, i.size, i.bytes)) = some (some (.int .u64 0), 1, 8) := by kernel_rfl
theorem infoU8 : (Tryz.prog.info? 5).map (fun i => (i.zero, i.size, i.bytes)) = some (some (.int .u8 0), 1, 1) := by kernel_rfl

def PackRel (b : List Nat) (W : World) (i o : Value) (w : World) : Prop :=
  ∃ k : Nat, k ≤ b.length ∧ i = .int .i64 k ∧ w.ownsRow W.heap.size 59 1 o (pk (b.take k)).length ((pk (b.take k)).map wd) ∧ Below W.heap.size W w
def ShiftRel (x m : Nat) (W : World) (v j : Value) (w : World) : Prop := ∃ q : Nat, q ≤ m ∧ j = .int .i64 q ∧ v = .int .u64 ((256 ^ q * x : Nat) : Int) ∧ w = W

def Packed (b : List Nat) (W : World) (e : Ending) (w : World) : Prop := ∃ v, e = .returned v ∧ w.ownsRow W.heap.size 59 1 v (pk b).length ((pk b).map wd) ∧ Below W.heap.size W w

end Go.Proofs.YtbejbiogabpmfaaGreat

namespace Go.Proofs.YtbejbiogabpmfaaGreat
open Wd U Go.ChangeShapes Go.WideShapes Go.RowKit Go.Sort
set_option linter.unusedVariables false

theorem more_wrap (s w : Nat) : IntKind.u64.wrap (((s ^^^ w : Nat) : Int) * 1099511628211) = ((more s w : Nat) : Int) := by
  have e : (more s w : Nat) = (s ^^^ w) * 1099511628211 % 18446744073709551616 := by unfold more; rfl
  rw [IntKind.wrap_u64, e, Int.natCast_emod, Int.natCast_mul]
  congr 1
def SumRel' (l : List Nat) (W : World) (i s : Value) (w : World) : Prop := ∃ k : Nat, k ≤ l.length ∧ i = .int .i64 k ∧ s = .int .u64 ((sum (l.take k) : Nat) : Int) ∧ w = W

def EqRel (n : Nat) (W : World) (i : Value) (w : World) : Prop := ∃ k d : Nat, k ≤ n ∧ i = .int .i64 k ∧ w = W.drewN d

end Go.Proofs.YtbejbiogabpmfaaGreat
