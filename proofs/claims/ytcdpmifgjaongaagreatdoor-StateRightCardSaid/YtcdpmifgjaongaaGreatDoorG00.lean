import Derived.Below
import Derived.OneCell
import Derived.Deep.Draws
import Derived.Laws.Rows
import Derived.Laws.MakeOwn
import Derived.Lib.Hide
import Derived.OwnWalk
import Derived.Laws.Entries
import Derived.Test.YtcdpmifgjaongaaGreatDoorChecked
import Derived.WalkKit
import Derived.WalkLawsBesides
import Derived.Deep.QuietTactic
import Derived.BigQuiet
import Derived.KernelRfl
import Derived.Outline
import Derived.Laws.Cover2
import Derived.Shelf.SlSortCmp.QuietGrown
import Derived.IntWalk
import Derived.Laws.Strings
import Derived.Maps.AppendAt
import Derived.Deep.AppendLies
import Derived.Deep.RegionLaw

namespace Wd
open Go Go.RowKit

/-- block g holds just these cells, none of them frozen -/
def Cells (w : World) (g : Nat) (t : TypeId) (cs : Array Value) : Prop := w.heap[g]? = some (.cells cs t (0, 0))

section
variable {w w' : World} {g : Nat} {t : TypeId} {cs : Array Value}
theorem Cells.lt (h : Cells w g t cs) : g < w.heap.size := lt_of_block h
theorem Cells.cell (h : Cells w g t cs) (i : Nat) : w.cell? ⟨g, i, none⟩ = cs[i]? := cell_of_row w g i cs t (0, 0) h
theorem Cells.free (h : Cells w g t cs) (i : Nat) : w.frozen? ⟨g, i, none⟩ = false := by
  unfold Cells at h; simp [World.frozen?, h]
theorem Cells.new (w : World) (t : TypeId) (cs : Array Value) : Cells (w.alloc (.cells cs t)) w.heap.size t cs := heap_alloc_new w _
theorem Cells.drewN (h : Cells w g t cs) (n : Nat) : Cells (w.drewN n) g t cs := h
theorem Cells.alloc (h : Cells w g t cs) (o : Obj) : Cells (w.alloc o) g t cs := (Below.heap_alloc w o g h.lt).trans h
theorem Cells.set (h : Cells w g t cs) (i : Nat) (u : Value) : Cells (w.setCell ⟨g, i, none⟩ u) g t (cs.setIfInBounds i u) := by
  unfold Cells at *; simp [World.setCell, Array.getElem?_modify, h]
theorem Cells.far (h : Cells w g t cs) {p : Addr} (hp : g ≠ p.block) (u : Value) : Cells (w.setCell p u) g t cs := (Below.heap_setCell w p u g hp).trans h
theorem Cells.below {B : Nat} (h : Cells w g t cs) (hb : Below B w w') (hg : g < B) : Cells w' g t cs := (hb.block g hg).trans h
theorem Cells.below' (h : Cells w g t cs) (hb : Below w.heap.size w w') : Cells w' g t cs := h.below hb h.lt
theorem Cells.grown {row : Option Nat} (h : Cells w g t cs) (hb : w.grownBy w' row) (hg : some g ≠ row) : Cells w' g t cs := (hb.block g h.lt hg).trans h
theorem Cells.ne {g' : Nat} {t' : TypeId} {cs' : Array Value} (h : Cells w g t cs) (h' : Cells w g' t' cs') (hne : t ≠ t') : g ≠ g' := by
  rintro rfl
  unfold Cells at h h'
  rw [h] at h'
  injection h' with h'; injection h' with _ ht
  exact hne ht
end

@[go_sem] theorem run_store_f (P : Program) (w : World) (a : Addr) (m : Mode) (k : FloatKind) (b : Nat) : (store a (.float k b) m).run P w = stored P w a (.float k b) m := run_store P w a _ m rfl

theorem below_drewN {B : Nat} {a w : World} (h : Below B a w) (n : Nat) : Below B a (w.drewN n) := ⟨h.os, h.tape, h.output, h.size, h.block⟩
theorem undrewN {B : Nat} {a w : World} {n : Nat} (h : Below B (a.drewN n) w) : Below B a w := ⟨h.os, h.tape, h.output, h.size, h.block⟩
theorem undrew {B : Nat} {a w : World} (h : Below B a.drew w) : Below B a w := ⟨h.os, h.tape, h.output, h.size, h.block⟩
theorem grown_of_below {a w : World} (h : Below a.heap.size a w) (row : Option Nat) : a.grownBy w row := ⟨h.os, h.tape, h.output, h.size, fun k hk _ => h.block k hk⟩
theorem below_of_grown {a w : World} (h : a.grownBy w none) : Below a.heap.size a w := ⟨h.os, h.tape, h.output, h.size, fun k hk => h.block k hk (by simp)⟩
theorem below_of_grown_d {a w : World} (h : a.drew.grownBy w none) : Below a.heap.size a w := ⟨h.os, h.tape, h.output, h.size, fun k hk => h.block k hk (by simp)⟩
theorem oneB (l : List Bool) : ∀ u ∈ l.map Value.bool, u.oneCell' = true := by
  intro u hu
  obtain ⟨b, _, rfl⟩ := List.mem_map.1 hu
  rfl
theorem oneF (l : List Nat) : ∀ u ∈ l.map (Value.float .f64), u.oneCell' = true := by
  intro u hu
  obtain ⟨b, _, rfl⟩ := List.mem_map.1 hu
  rfl
theorem base_of {v : Value} {h : Nat} (hat : v.ownBlock = none ∨ v.ownBlock = some h) : ∀ k, v.ownBlock = some k → h ≤ k := by
  intro k hk
  rcases hat with e | e <;> rw [e] at hk
  · cases hk
  · have := Option.some.inj hk; omega
theorem base_of2 {v : Value} {h g : Nat} (hat : v.ownBlock = none ∨ v.ownBlock = some h) (hg : g ≤ h) : ∀ k, v.ownBlock = some k → g ≤ k := fun k hk => by have := base_of hat k hk; omega
theorem base_of' {v : Value} {h : Nat} (hat : v.ownBlock = none ∨ v.ownBlock = some (h + 1)) : ∀ k, v.ownBlock = some k → h ≤ k := fun k hk => by have := base_of hat k hk; omega
theorem grown_set {a w : World} {g : Nat} (h : a.grownBy w (some g)) (i : Nat) (u : Value) : a.grownBy (w.setCell ⟨g, i, none⟩ u) (some g) :=
  ⟨h.os, h.tape, h.output, by simpa [World.setCell] using h.size, fun k hk hne => (Below.heap_setCell w ⟨g, i, none⟩ u k (fun e => hne (by rw [e]))).trans (h.block k hk hne)⟩
theorem grown_drew {a w : World} {row : Option Nat} (h : a.grownBy w row) : a.grownBy w.drew row := ⟨h.os, h.tape, h.output, h.size, h.block⟩
theorem grown_drewN {a w : World} {row : Option Nat} (h : a.grownBy w row) (n : Nat) : a.grownBy (w.drewN n) row := ⟨h.os, h.tape, h.output, h.size, h.block⟩
theorem grown_trans {a b c : World} {row : Option Nat} (h : a.grownBy b row) (k : b.grownBy c row) : a.grownBy c row :=
  ⟨k.os.trans h.os, k.tape.trans h.tape, k.output.trans h.output, Nat.le_trans h.size k.size, fun i hi hne => (k.block i (Nat.lt_of_lt_of_le hi h.size) hne).trans (h.block i hi hne)⟩

/-- every cell of an old block reads as it did -/
theorem Below.old {W w1 : World} (hb : Below W.heap.size W w1) : ∀ b o, b < W.heap.size → w1.cell? ⟨b, o, none⟩ = W.cell? ⟨b, o, none⟩ :=
  fun b o h => hb.cell (p := ⟨b, o, none⟩) h

/-- make([]T, n): n zero values in a new block -/
theorem make_row {P : Program} (t e : TypeId) (z : Value) (by_ : Nat) (ht : P.underlying t = some (.slice e)) (hi : (P.info? e).map (fun i => (i.zero, i.size, i.bytes)) = some (some z, 1, by_))
    (hz : z.cells = #[z]) (n : Nat) (hb : by_ * n ≤ 281474976710656) (h63 : n ≤ 9223372036854775807) (w : World) :
    (Instr.makeSlice t (.int .i64 (n : Int)) (.int .i64 (n : Int))).run P w = .ok (.slice (some ⟨w.heap.size, 0, none⟩) n n) (w.alloc (.cells (List.replicate n z).toArray e)) := by
  obtain ⟨i, h1, h2, h3, h4⟩ := info_parts hi
  have hb' : (i.bytes : Int) * (n : Int) ≤ 281474976710656 := by
    have h : ((i.bytes * n : Nat) : Int) ≤ 281474976710656 := by rw [h4]; omega
    rwa [Int.natCast_mul] at h
  have hr := run_make (P := P) w t e i z ht h1 h2 .i64 .i64 n n (by omega) (by omega) hb' (by omega)
  simp only [Int.toNat_natCast] at hr
  have e1 : madeCells z.cells (n * i.size) = (List.replicate n z).toArray := by
    rw [h3, Nat.mul_one, hz]
    have := toList_madeCells_one z n
    rw [← this]
  rw [e1] at hr
  exact hr

/-- the slice .slice A n c reads as the row xs of one-cell elements, below block B -/
def Row (w : World) (B : Nat) (A : Option Addr) (n : Nat) (xs : List Value) : Prop :=
  xs.length = n ∧ (0 < n → ∃ b off, A = some ⟨b, off, none⟩ ∧ b < B ∧ ∀ j, (h : j < xs.length) → w.cell? ⟨b, off + j, none⟩ = some xs[j])

section
variable {w w' : World} {B B' n : Nat} {A : Option Addr} {xs : List Value}
theorem Row.nil : Row w B A 0 [] := ⟨rfl, fun h => absurd h (by omega)⟩
theorem Row.at (h : Row w B A n xs) {k : Nat} (hk : k < n) : ∃ b off, A = some ⟨b, off, none⟩ ∧ b < B ∧ w.cell? ⟨b, off + k, none⟩ = some (xs[k]'(by rw [h.1]; exact hk)) := by
  obtain ⟨b, off, e, hb, hc⟩ := h.2 (by omega)
  exact ⟨b, off, e, hb, hc k (by rw [h.1]; exact hk)⟩
theorem Row.get {α : Type} {f : α → Value} {l : List α} (h : Row w B A n (l.map f)) {k : Nat} (hk : k < n) : ∃ b off x, A = some ⟨b, off, none⟩ ∧ b < B ∧ l[k]? = some x ∧ w.cell? ⟨b, off + k, none⟩ = some (f x) := by
  have hl : k < l.length := by have := h.1; simp at this; omega
  obtain ⟨b, off, e, hb, hc⟩ := h.at hk
  exact ⟨b, off, l[k], e, hb, List.getElem?_eq_getElem hl, by rw [hc, List.getElem_map]⟩
theorem Row.keep (h : Row w B A n xs) (hk : ∀ b o, b < B → w'.cell? ⟨b, o, none⟩ = w.cell? ⟨b, o, none⟩) : Row w' B A n xs :=
  ⟨h.1, fun hn => by
    obtain ⟨b, off, e, hb, hc⟩ := h.2 hn
    exact ⟨b, off, e, hb, fun j hj => (hk b _ hb).trans (hc j hj)⟩⟩
theorem Row.more (h : Row w B A n xs) (hB : B ≤ B') : Row w B' A n xs :=
  ⟨h.1, fun hn => by
    obtain ⟨b, off, e, hb, hc⟩ := h.2 hn
    exact ⟨b, off, e, by omega, hc⟩⟩
theorem Row.below (h : Row w B A n xs) (hb : Below B w w') : Row w' B A n xs := h.keep fun b o hp => hb.cell (p := ⟨b, o, none⟩) hp
theorem Row.of_cells {g : Nat} {t : TypeId} {cs : Array Value} (h : Cells w g t cs) (hg : g < B) : Row w B (some ⟨g, 0, none⟩) cs.size cs.toList :=
  ⟨by simp, fun _ => ⟨g, 0, rfl, hg, fun j hj => by rw [Nat.zero_add, h.cell j]; simp at hj ⊢⟩⟩
theorem Row.fresh (w : World) (n : Nat) (v : Value) (t : TypeId) : Row (w.alloc (.cells (Array.replicate n v) t)) (w.alloc (.cells (Array.replicate n v) t)).heap.size (some ⟨w.heap.size, 0, none⟩) n (List.replicate n v) := by
  have := Row.of_cells (B := (w.alloc (.cells (Array.replicate n v) t)).heap.size) (Cells.new w t (Array.replicate n v)) (by simp)
  simpa using this
theorem row_eq {w : World} {B n m p : Nat} {A : Option Addr} {xs ys : List Value} (h : Row w B A (n + p) xs) (e : n = m) (e' : xs = ys := by rfl) : Row w B A (m + p) ys := by subst e e'; exact h
theorem Row.one (w : World) (v : Value) (t : TypeId) : Row (w.alloc (.cells #[v] t)) (w.alloc (.cells #[v] t)).heap.size (some ⟨w.heap.size, 0, none⟩) 1 [v] :=
  Row.of_cells (Cells.new w t #[v]) (by simp)
theorem Row.drewN (h : Row w B A n xs) (k : Nat) : Row (w.drewN k) B A n xs := h
end

theorem own_drewN {w : World} {base : Nat} {e : TypeId} {size n : Nat} {v : Value} {xs : List Value} (h : w.ownsRow base e size v n xs) (k : Nat) : (w.drewN k).ownsRow base e size v n xs := h
theorem own_base {w : World} {base : Nat} {e : TypeId} {size n : Nat} {v : Value} {xs : List Value} (h : w.ownsRow base e size v n xs) : ∀ q, v.ownBlock = some q → base ≤ q := by
  intro q hq
  rcases h.2 with ⟨rfl, _⟩ | ⟨g, cap, cur, rfl, hb, _⟩
  · cases hq
  · have : g = q := by simpa [Value.ownBlock] using hq
    omega
theorem own_ne {v : Value} {g h : Nat} (hat : v.ownBlock = none ∨ v.ownBlock = some h) (hlt : g < h) : some g ≠ v.ownBlock := by
  rcases hat with e | e <;> rw [e]
  · simp
  · intro e; have := Option.some.inj e; omega
theorem own_ne' {v : Value} {g h : Nat} (hat : v.ownBlock = none ∨ v.ownBlock = some h) (hlt : g < h) : ∀ b, b ≤ g → some b ≠ v.ownBlock := fun b hb => own_ne hat (by omega)
theorem one_new (w : World) (n : Nat) (v : Value) (t : TypeId) : ∀ j u, [v][j]? = some u → ((w.drewN n).alloc (.cells #[v] t)).cell? ((⟨w.heap.size, 0, none⟩ : Addr).add j) = some u := by
  intro j u h
  match j, h with
  | 0, h =>
    have := (Cells.new (w.drewN n) t #[v]).cell 0
    simp at h this
    rw [← h]
    simpa [Addr.add] using this
theorem Row.of_own {w : World} {base : Nat} {e : TypeId} {n : Nat} {v : Value} {xs : List Value} (h : w.ownsRow base e 1 v n xs) : ∃ A c, v = .slice A n c ∧ Row w w.heap.size A n xs := by
  obtain ⟨h1, h2⟩ := h
  rw [Nat.mul_one] at h1
  rcases h2 with ⟨rfl, rfl⟩ | ⟨g, cap, cur, rfl, _, hh, hnc, _, hcs, ht⟩
  · exact ⟨none, 0, rfl, h1, fun hn => absurd hn (by omega)⟩
  · refine ⟨_, _, rfl, h1, fun _ => ⟨g, 0, rfl, lt_of_block hh, fun j hj => ?_⟩⟩
    rw [Nat.zero_add, Cells.cell hh j]
    rw [Nat.mul_one] at ht
    have : (cur.toList.take n)[j]? = some xs[j] := by rw [ht, List.getElem?_eq_getElem hj]
    rw [List.getElem?_take_of_lt (by omega)] at this
    simpa using this

/-- a callee that leaves the world alone, in a region that draws -/
theorem quiet_eq {P : Program} {f : FuncId} {args : Array Value} {w : World} {n : Nat} {v : Value} (h : Calls P f args (w.drewN n) fun e w' => e = .returned v ∧ w.drewN n = w') :
    Calls P f args (w.drewN n) fun e w'' => e = .returned v ∧ ∃ m, w'' = w.drewN m :=
  h.mono fun _ _ ⟨he, hm⟩ => ⟨he, n, hm.symm⟩
theorem quiet_eq2 {P : Program} {f : FuncId} {args : Array Value} {w : World} {a n : Nat} {v : Value} (h : Calls P f args (w.drewN (a + n)) fun e w' => e = .returned v ∧ w.drewN (a + n) = w') :
    Calls P f args (w.drewN (a + n)) fun e w'' => e = .returned v ∧ ∃ m, w'' = w.drewN (a + m) :=
  h.mono fun _ _ ⟨he, hm⟩ => ⟨he, n, hm.symm⟩
end Wd

namespace Go.Proofs.YtcdpmifgjaongaaGreatDoor
open Wd Go.ChangeShapes Go.WideShapes Go.RowKit Go.Sort
set_option linter.unusedVariables false

/-- it returns v; the world has drawn some, and has some blocks more -/
def Grows (v : Value) (w : World) (e : Ending) (w' : World) : Prop := e = .returned v ∧ ∃ q os, w' = grow (w.drewN q) os
theorem below_grow' (w : World) (n : Nat) (os : Array Obj) : Below w.heap.size w (grow (w.drewN n) os) :=
  ⟨rfl, rfl, rfl, by simp, fun k hk => heap_grow_old (w.drewN n) os hk⟩
theorem Grows.below {v : Value} {w w' : World} {e : Ending} (h : Grows v w e w') : e = .returned v ∧ Below w.heap.size w w' := by
  obtain ⟨rfl, q, os, rfl⟩ := h
  exact ⟨rfl, below_grow' _ _ _⟩
theorem grow_none (w : World) : ∃ q os, w = grow (w.drewN q) os := ⟨0, #[], by rw [grow_empty]; rfl⟩
theorem grow_one (w : World) (o : Obj) : ∃ q os, w.alloc o = grow (w.drewN q) os := ⟨0, #[o], rfl⟩
theorem grow_trans {w w1 w2 : World} (h : ∃ q os, w1 = grow (w.drewN q) os) (k : ∃ q os, w2 = grow (w1.drewN q) os) : ∃ q os, w2 = grow (w.drewN q) os := by
  obtain ⟨q, os, rfl⟩ := h
  obtain ⟨q', os', rfl⟩ := k
  exact ⟨q + q', os ++ os', by show grow (grow ((w.drewN q).drewN q') os) os' = _; rw [grow_grow, World.drewN_drewN]⟩
theorem grow_alloc {w w1 : World} (h : ∃ q os, w1 = grow (w.drewN q) os) (o : Obj) : ∃ q os, w1.alloc o = grow (w.drewN q) os := grow_trans h (grow_one w1 o)
theorem grow_drewN {w w1 : World} (h : ∃ q os, w1 = grow (w.drewN q) os) (n : Nat) : ∃ q os, w1.drewN n = grow (w.drewN q) os := grow_trans h ⟨n, #[], by rw [grow_empty]⟩
/-- met in a region that draws -/
theorem Grows.in {P : Program} {f : FuncId} {args : Array Value} {v : Value} (h : ∀ w, Calls P f args w (Grows v w)) (w : World) (n : Nat) (os : Array Obj) :
    Calls P f args (grow (w.drewN n) os) fun e w'' => e = .returned v ∧ ∃ p : GrownBy, w'' = grow (w.drewN p.n) p.os :=
  Calls.grown_of (h _)
theorem Grows.inAt {P : Program} {f : FuncId} {args : Array Value} {v : Value} {w : World} (h : ∀ n os, Calls P f args (grow (w.drewN n) os) (Grows v (grow (w.drewN n) os))) (n : Nat) (os : Array Obj) :
    Calls P f args (grow (w.drewN n) os) fun e w'' => e = .returned v ∧ ∃ p : GrownBy, w'' = grow (w.drewN p.n) p.os := Calls.grown_of (h n os)
end Go.Proofs.YtcdpmifgjaongaaGreatDoor

namespace Go.Proofs.YtcdpmifgjaongaaGreatDoor
open Wd Go.ChangeShapes Go.WideShapes Go.RowKit Go.Sort
set_option linter.unusedVariables false

/-- a byte that no name has -/
def badC (c : UInt8) : Bool := c == 47 || c == 0
/-- the error's number of a name -/
def plainN (l : List UInt8) : Int := if l.any badC then 22 else if 24 < l.length then 36 else 0
def nameN (l : List UInt8) : Int := if l = [] ∨ l = [46] ∨ l = [46, 46] then 22 else plainN l
def IntIs (v : Int) (w : World) (e : Ending) (w' : World) : Prop := e = .returned (.int .i64 v) ∧ w = w'

theorem size_list (s : ByteArray) : s.toList.length = s.size := by
  rw [ByteArray.toList_eq]; simp

def NameRel (s : ByteArray) (W : World) (i : Value) (w : World) : Prop := ∃ k : Nat, k ≤ s.size ∧ i = .int .i64 k ∧ (∀ c ∈ s.toList.take k, badC c = false) ∧ w = W

theorem name_odd (s : ByteArray) (w : World) (h : s.toList = [] ∨ s.toList = [46] ∨ s.toList = [46, 46]) : Calls Tryz.prog 65 #[.string s] w (IntIs 22 w) := by
  rcases h with h | h | h
  · have h1 : s.toList.isEmpty = true := by rw [h]; rfl
    go_enter Tryz.func65, Tryz.ntmps65
    go_wp2
    go_ret
    exact ⟨rfl, rfl⟩
  · have h1 : s.toList.isEmpty = false := by rw [h]; rfl
    have h2 : (s.toList == [46]) = true := by rw [h]; rfl
    clear h
    go_enter Tryz.func65, Tryz.ntmps65
    go_wp2
    go_ret
    exact ⟨rfl, rfl⟩
  · have h1 : s.toList.isEmpty = false := by rw [h]; rfl
    have h2 : (s.toList == [46]) = false := by rw [h]; rfl
    have h3 : (s.toList == [46, 46]) = true := by rw [h]; rfl
    clear h
    go_enter Tryz.func65, Tryz.ntmps65
    go_wp2
    go_ret
    exact ⟨rfl, rfl⟩

set_option maxHeartbeats 1000000 in
theorem name_plain (s : ByteArray) (w : World) (hs : s.size ≤ 1000) (h1 : s.toList.isEmpty = false) (h2 : (s.toList == [46]) = false) (h3 : (s.toList == [46, 46]) = false) : Calls Tryz.prog 65 #[.string s] w (IntIs (plainN s.toList) w) := by
  have hn : s.toList ≠ [] := by intro h; rw [h] at h1; cases h1
  go_enter Tryz.func65, Tryz.ntmps65
  go_wp2
  go_loopw [3] (fun i wr => NameRel s w i wr) (fun i _ => s.size - (intOf i).toNat)
  case atStart => exact ⟨0, Nat.zero_le _, rfl, by simp, rfl⟩
  case round =>
    obtain ⟨k, hk, rfl, hg, rfl⟩ := hrel
    have HG := Lib.hid hg
    clear hg
    by_cases hlt : k < s.size
    · have hl : k < s.toList.length := by rw [size_list]; exact hlt
      have hget : s.toList[k]? = some s[k] := by
        rw [List.getElem?_eq_getElem hl]
        congr 1
        simp [ByteArray.toList_eq]
        rfl
      have hmem : s[k] ∈ s.toList := List.mem_of_getElem? hget
      have ht : s.toList.take (k + 1) = s.toList.take k ++ [s[k]] := by rw [List.take_add_one, hget]; rfl
      by_cases hb : badC s[k] = true
      · have hany : s.toList.any badC = true := List.any_eq_true.2 ⟨_, hmem, hb⟩
        have HANY := Lib.hid (show plainN s.toList = 22 by unfold plainN; rw [if_pos hany])
        have hc : (s[k].toNat : Int) = 47 ∨ (s[k].toNat : Int) ≠ 47 ∧ (s[k].toNat : Int) = 0 := by
          unfold badC at hb
          simp only [Bool.or_eq_true, beq_iff_eq] at hb
          rcases hb with h | h
          · left; rw [h]; rfl
          · right; rw [h]; exact ⟨by decide, rfl⟩
        have HC := Lib.hid hc
        clear hany hb hget hmem ht hl hc
        rcases HC.out with hc | ⟨hc1, hc2⟩
        · have q1 : ((s[k].toNat : Int) == 47) = true := by simpa using hc
          clear hc
          go_wp2
          go_ret
          exact ⟨by rw [HANY.out]; rfl, rfl⟩
        · have q1 : ((s[k].toNat : Int) == 47) = false := by simpa using hc1
          have q2 : ((s[k].toNat : Int) == 0) = true := by simpa using hc2
          clear hc1 hc2
          go_wp2
          go_ret
          exact ⟨by rw [HANY.out]; rfl, rfl⟩
      · have hb' : badC s[k] = false := by simpa using hb
        have hq : ((s[k].toNat : Int) == 47) = false ∧ ((s[k].toNat : Int) == 0) = false := by
          unfold badC at hb'
          rw [Bool.or_eq_false_iff] at hb'
          refine ⟨?_, ?_⟩
          · rw [beq_eq_false_iff_ne]
            intro h
            have h47 : s[k].toNat = 47 := by omega
            have : s[k] = 47 := UInt8.toNat_inj.1 h47
            rw [this] at hb'
            exact absurd hb'.1 (by decide)
          · rw [beq_eq_false_iff_ne]
            intro h
            have h00 : s[k].toNat = 0 := by omega
            have : s[k] = 0 := UInt8.toNat_inj.1 h00
            rw [this] at hb'
            exact absurd hb'.2 (by decide)
        obtain ⟨q1, q2⟩ := hq
        have HT := Lib.hid ht; have HBB := Lib.hid hb'
        clear hb hb' hget hmem ht hl
        go_wp2
        go_roundw
        case rel =>
          refine ⟨k + 1, by omega, by go_num, ?_, rfl⟩
          rw [HT.out]
          intro c hc
          rcases List.mem_append.1 hc with h | h
          · exact HG.out c h
          · rw [List.mem_singleton.1 h]; exact HBB.out
        case measure => simp [intOf]; omega
    · obtain rfl : k = s.size := by omega
      have hany : ¬ s.toList.any badC = true := by
        intro h
        obtain ⟨c, hc, hb⟩ := List.any_eq_true.1 h
        have := HG.out c (by rw [List.take_of_length_le (by rw [size_list]; exact Nat.le_refl _)]; exact hc)
        rw [this] at hb; cases hb
      have hv : plainN s.toList = if 24 < s.size then 36 else 0 := by unfold plainN; rw [if_neg hany, size_list]
      have HV := Lib.hid hv
      clear hany hv
      by_cases h24 : 24 < s.size
      · go_wp2
        go_ret
        exact ⟨by rw [HV.out, if_pos h24]; rfl, rfl⟩
      · go_wp2
        go_ret
        exact ⟨by rw [HV.out, if_neg h24]; rfl, rfl⟩

theorem refName_any (s : ByteArray) (hs : s.size ≤ 1000) (w : World) : Calls Tryz.prog 65 #[.string s] w (IntIs (nameN s.toList) w) := by
  by_cases h : s.toList = [] ∨ s.toList = [46] ∨ s.toList = [46, 46]
  · have := name_odd s w h
    rwa [show nameN s.toList = 22 by unfold nameN; rw [if_pos h]]
  · have e : nameN s.toList = plainN s.toList := by unfold nameN; rw [if_neg h]
    rw [e]
    refine name_plain s w hs ?_ ?_ ?_
    · cases hl : s.toList with
      | nil => exact absurd (.inl hl) h
      | cons a t => rfl
    · rw [beq_eq_false_iff_ne]; exact fun h' => h (.inr (.inl h'))
    · rw [beq_eq_false_iff_ne]; exact fun h' => h (.inr (.inr h'))
end Go.Proofs.YtcdpmifgjaongaaGreatDoor

namespace Go.Proofs.YtcdpmifgjaongaaGreatDoor
set_option linter.unusedVariables false

/-- what stands between slashes -/
def cutS : List UInt8 → List UInt8 → List (List UInt8)
  | [], acc => [acc]
  | c :: t, acc => if c = 47 then acc :: cutS t [] else cutS t (acc ++ [c])
def keepS (ps : List (List UInt8)) : List (List UInt8) := ps.filter (fun p => !p.isEmpty)
def pieces (l : List UInt8) : List (List UInt8) := keepS (cutS l [])
def errOf : List (List UInt8) → Int
  | [] => 0
  | p :: ps => if nameN p = 0 then errOf ps else nameN p
/-- the error's number of a path -/
def pathE (l : List UInt8) : Int := if 120 < l.length then 36 else if l.head? = some 47 then errOf (pieces (l.drop 1)) else 22
/-- its names, if it has no error -/
def pathL (l : List UInt8) : List (List UInt8) := if pathE l = 0 then pieces (l.drop 1) else []

theorem errOf_zero {ps : List (List UInt8)} (h : ∀ p ∈ ps, nameN p = 0) : errOf ps = 0 := by
  induction ps with
  | nil => rfl
  | cons p ps ih =>
    show (if nameN p = 0 then errOf ps else nameN p) = 0
    rw [if_pos (h p (by simp))]
    exact ih (fun q hq => h q (by simp [hq]))
theorem errOf_first {ps qs : List (List UInt8)} {p : List UInt8} (h : ∀ p ∈ ps, nameN p = 0) (hp : nameN p ≠ 0) : errOf (ps ++ p :: qs) = nameN p := by
  induction ps with
  | nil => show (if nameN p = 0 then _ else nameN p) = _; rw [if_neg hp]
  | cons q ps ih =>
    show (if nameN q = 0 then errOf (ps ++ p :: qs) else nameN q) = _
    rw [if_pos (h q (by simp))]
    exact ih (fun r hr => h r (by simp [hr]))

/-- the part from f up to i -/
def seg (l : List UInt8) (f i : Nat) : List UInt8 := (l.drop f).take (i - f)
/-- how far it has been gone through -/
structure Gone (l : List UInt8) (f i : Nat) (out : List (List UInt8)) : Prop where
  fi : f ≤ i
  il : i ≤ l.length
  eq : out ++ keepS (cutS (l.drop i) (seg l f i)) = pieces (l.drop 1)
  good : ∀ p ∈ out, nameN p = 0
theorem Gone.start {l : List UInt8} (h : 1 ≤ l.length) : Gone l 1 1 [] :=
  ⟨Nat.le_refl _, h, by show [] ++ keepS (cutS (l.drop 1) (seg l 1 1)) = _; rw [show seg l 1 1 = [] by unfold seg; simp]; rfl, fun p hp => by cases hp⟩
theorem seg_snoc {l : List UInt8} {f i : Nat} {c : UInt8} (hf : f ≤ i) (hc : l[i]? = some c) : seg l f (i + 1) = seg l f i ++ [c] := by
  unfold seg
  rw [show i + 1 - f = (i - f) + 1 by omega, List.take_add_one, List.getElem?_drop, show f + (i - f) = i by omega, hc]; rfl
theorem drop_at {l : List UInt8} {i : Nat} {c : UInt8} (hc : l[i]? = some c) : l.drop i = c :: l.drop (i + 1) := by
  obtain ⟨h, rfl⟩ := List.getElem?_eq_some_iff.1 hc
  exact List.drop_eq_getElem_cons h
theorem seg_empty {l : List UInt8} {f i : Nat} (hi : i ≤ l.length) (hf : f ≤ i) : (seg l f i).isEmpty = decide (i ≤ f) := by
  have hlen : (seg l f i).length = i - f := by unfold seg; simp; omega
  by_cases h : i ≤ f
  · rw [decide_eq_true h, List.isEmpty_iff]
    exact List.eq_nil_of_length_eq_zero (by omega)
  · rw [decide_eq_false h]
    cases hs : seg l f i with
    | nil => rw [hs] at hlen; simp at hlen; omega
    | cons a t => rfl
theorem Gone.plain {l : List UInt8} {f i : Nat} {out : List (List UInt8)} {c : UInt8} (h : Gone l f i out) (hc : l[i]? = some c) (hne : c ≠ 47) : Gone l f (i + 1) out := by
  have hi := (List.getElem?_eq_some_iff.1 hc).1
  refine ⟨by have := h.fi; omega, hi, ?_, h.good⟩
  rw [← h.eq, drop_at hc, seg_snoc h.fi hc]
  conv => rhs; unfold cutS
  rw [if_neg hne]
theorem keep_cons (p : List UInt8) (ps : List (List UInt8)) : keepS (p :: ps) = if p.isEmpty then keepS ps else p :: keepS ps := by
  unfold keepS
  cases h : p.isEmpty
  · rw [List.filter_cons_of_pos (by rw [h]; rfl)]; rfl
  · rw [List.filter_cons_of_neg (by rw [h]; simp)]; rfl
/-- at a slash, with nothing ahead of it -/
theorem Gone.skip {l : List UInt8} {i : Nat} {out : List (List UInt8)} (h : Gone l i i out) (hc : l[i]? = some 47) : Gone l (i + 1) (i + 1) out := by
  have hi := (List.getElem?_eq_some_iff.1 hc).1
  refine ⟨Nat.le_refl _, hi, ?_, h.good⟩
  rw [← h.eq, drop_at hc, show seg l (i + 1) (i + 1) = [] by unfold seg; simp]
  conv => rhs; unfold cutS
  rw [if_pos rfl, keep_cons, seg_empty h.il h.fi, if_pos (by simp)]
theorem Gone.take {l : List UInt8} {f i : Nat} {out : List (List UInt8)} (h : Gone l f i out) (hf : f < i) (hc : l[i]? = some 47) (hn : nameN (seg l f i) = 0) : Gone l (i + 1) (i + 1) (out ++ [seg l f i]) := by
  have hi := (List.getElem?_eq_some_iff.1 hc).1
  refine ⟨Nat.le_refl _, hi, ?_, ?_⟩
  · rw [← h.eq, drop_at hc, show seg l (i + 1) (i + 1) = [] by unfold seg; simp]
    conv => rhs; unfold cutS
    rw [if_pos rfl, keep_cons, seg_empty h.il h.fi, if_neg (by simp; omega), List.append_assoc]; rfl
  · intro p hp
    rcases List.mem_append.1 hp with h1 | h1
    · exact h.good p h1
    · rw [List.mem_singleton.1 h1]; exact hn
theorem Gone.bad {l : List UInt8} {f i : Nat} {out : List (List UInt8)} (h : Gone l f i out) (hf : f < i) (hc : l[i]? = some 47 ∨ i = l.length) (hn : nameN (seg l f i) ≠ 0) : errOf (pieces (l.drop 1)) = nameN (seg l f i) := by
  rw [← h.eq]
  rcases hc with hc | rfl
  · rw [drop_at hc]
    unfold cutS
    rw [if_pos rfl, keep_cons, seg_empty h.il h.fi, if_neg (by simp; omega)]
    exact errOf_first h.good hn
  · rw [List.drop_length]
    unfold cutS
    rw [keep_cons, seg_empty h.il h.fi, if_neg (by simp; omega)]
    exact errOf_first h.good hn
theorem Gone.last {l : List UInt8} {f : Nat} {out : List (List UInt8)} (h : Gone l f l.length out) (hn : f < l.length → nameN (seg l f l.length) = 0) :
    (if f < l.length then out ++ [seg l f l.length] else out) = pieces (l.drop 1) ∧ errOf (pieces (l.drop 1)) = 0 := by
  have e : (if f < l.length then out ++ [seg l f l.length] else out) = pieces (l.drop 1) := by
    rw [← h.eq, List.drop_length]
    unfold cutS
    rw [keep_cons, seg_empty h.il h.fi]
    by_cases hf : f < l.length
    · rw [if_pos hf, if_neg (by simp; omega)]; rfl
    · rw [if_neg hf, if_pos (by simp; omega)]
      simp [keepS]
  refine ⟨e, ?_⟩
  rw [← e]
  apply errOf_zero
  intro p hp
  by_cases hf : f < l.length
  · rw [if_pos hf] at hp
    rcases List.mem_append.1 hp with h1 | h1
    · exact h.good p h1
    · rw [List.mem_singleton.1 h1]; exact hn hf
  · rw [if_neg hf] at hp
    exact h.good p hp
end Go.Proofs.YtcdpmifgjaongaaGreatDoor

namespace Wd
open Go Go.RowKit
variable {w : World} {base n : Nat} {e : TypeId} {v : Value} {xs : List Value}

/-- a row that is owned, and holds something, opened -/
theorem own_open (h : w.ownsRow base e 1 v n xs) (hn : 0 < n) : ∃ g cap, v = .slice (some ⟨g, 0, none⟩) n cap ∧ base ≤ g ∧ n ≤ cap ∧ cap ≤ maxLen ∧ g < w.heap.size := by
  rcases h.2 with ⟨_, h0⟩ | ⟨g, cap, cur, rfl, hb, hh, h1, h2, _, _⟩
  · omega
  · exact ⟨g, cap, rfl, hb, h1, h2, lt_of_block hh⟩
theorem own_cell {g cap : Nat} (h : w.ownsRow base e 1 (.slice (some ⟨g, 0, none⟩) n cap) n xs) {k : Nat} {u : Value} (hk : xs[k]? = some u) : w.cell? ⟨g, k, none⟩ = some u ∧ w.frozen? ⟨g, k, none⟩ = false := by
  have hl := h.1
  rw [Nat.mul_one] at hl
  rcases h.2 with ⟨h0, _⟩ | ⟨g', cap', cur, hv, hb, hh, h1, h2, hs, ht⟩
  · cases h0
  · injection hv with hv _ hc
    injection hv with hv
    injection hv with hv
    subst hv hc
    rw [Nat.mul_one] at ht
    have hkn : k < n := by have := (List.getElem?_eq_some_iff.1 hk).1; omega
    have hc : Cells w g e cur := hh
    refine ⟨?_, hc.free k⟩
    rw [hc.cell k]
    rw [← ht, List.getElem?_take_of_lt hkn] at hk
    simpa using hk
theorem own_set {g cap : Nat} (h : w.ownsRow base e 1 (.slice (some ⟨g, 0, none⟩) n cap) n xs) (k : Nat) (u : Value) : (w.setCell ⟨g, k, none⟩ u).ownsRow base e 1 (.slice (some ⟨g, 0, none⟩) n cap) n (xs.set k u) := by
  rcases h with ⟨hl, h⟩
  refine ⟨by rw [List.length_set]; exact hl, ?_⟩
  rcases h with ⟨h0, _⟩ | ⟨g', cap', cur, hv, hb, hh, h1, h2, hs, ht⟩
  · cases h0
  · injection hv with hv _ hc
    injection hv with hv
    injection hv with hv
    subst hv hc
    refine .inr ⟨g, cap, cur.setIfInBounds k u, rfl, hb, Cells.set hh k u, h1, h2, by simp [hs], ?_⟩
    rw [Array.toList_setIfInBounds, List.take_set, ht]
end Wd

namespace Wd
open Go Go.RowKit

section
variable {P : Program} (w : World)

/-- append(row of the call's own, a slice that reads as a row): the whole of it, whether it is nil, empty or not -/
theorem run_append_row (base : Nat) (t ty e : TypeId) (z : Value) (bytes : Nat) (ht : P.underlying t = some (.slice e)) (hi : (P.info? e).map (fun i => (i.zero, i.size, i.bytes)) = some (some z, 1, bytes)) (hz : z.cells.size = 1)
    (v : Value) (n : Nat) (xs : List Value) (hown : w.ownsRow base e 1 v n xs) (B : Nat) (A : Option Addr) (m c : Nat) (news : List Value) (hr : Row w B A m news) (h1 : ∀ u ∈ news, u.oneCell' = true)
    (h63 : n + m ≤ maxLen) (hbytes : (n + m) * bytes ≤ 140737488355328) (hbase : base ≤ w.heap.size) :
    ∃ v' w', (Builtin.append_ #[t, t] ty #[v, .slice A m c]).run P w = .ok v' w' ∧ w'.ownsRow base e 1 v' (n + m) (xs ++ news) ∧ w.grownBy w' v.ownBlock ∧ (v'.ownBlock = v.ownBlock ∨ v'.ownBlock = some w.heap.size) := by
  obtain ⟨i, i1, i2, i3, i4⟩ := info_parts hi
  by_cases hm : m = 0
  · subst hm
    have hn : news = [] := List.eq_nil_of_length_eq_zero hr.1
    subst hn
    cases A with
    | none =>
      refine ⟨v, w, ?_, by simpa using hown, World.grownBy.refl w _, .inl rfl⟩
      rcases hown.2 with ⟨rfl, rfl⟩ | ⟨g, cap, cur, rfl, _, _, hnc, _⟩
      · simp [Builtin.append_, run_underlying ht, Go.sizeOf, typeInfo, i1, Builtin.lenOf, Builtin.firstCells]
      · simp [Builtin.append_, run_underlying ht, Go.sizeOf, typeInfo, i1, Builtin.lenOf, Builtin.firstCells, hnc, storeCells]
    | some ad =>
      obtain ⟨v', w', h2, h3, h4, _, h5⟩ := run_append_own_at (P := P) w base t ty e i z 1 bytes ht i1 i2 i3 i4 hz (by decide) v n xs hown ad 0 c [] rfl (by simp) (by simp) h63 hbytes hbase
      exact ⟨v', w', h2, h3, h4, h5⟩
  · obtain ⟨b, off, rfl, _, hc⟩ := hr.2 (by omega)
    obtain ⟨v', w', h2, h3, h4, _, h5⟩ := run_append_own_at (P := P) w base t ty e i z 1 bytes ht i1 i2 i3 i4 hz (by decide) v n xs hown ⟨b, off, none⟩ m c news (by rw [Nat.mul_one]; exact hr.1) (fun j u hu => by
      obtain ⟨hj, rfl⟩ := List.getElem?_eq_some_iff.1 hu
      have e : (⟨b, off, none⟩ : Addr).add j = ⟨b, off + j, none⟩ := by unfold Addr.add; split <;> simp_all
      rw [e]; exact hc j hj) h1 h63 hbytes hbase
    exact ⟨v', w', h2, h3, h4, h5⟩

theorem wp_append_row {o : Oper} {a : Act} {K : Act → World → Prop} {Q : Exit → Act → World → Prop} (s x : Operand) (t : TypeId)
    (ho : o.op = .call { callee := .builtin .append, args := #[s, x], argTypes := #[t, t] })
    (base : Nat) (e : TypeId) (z : Value) (bytes : Nat) (ht : P.underlying t = some (.slice e)) (hi : (P.info? e).map (fun i => (i.zero, i.size, i.bytes)) = some (some z, 1, bytes)) (hz : z.cells.size = 1)
    (v : Value) (n : Nat) (xs : List Value) (hs : a.eval s = v) (hown : w.ownsRow base e 1 v n xs)
    (B : Nat) (A : Option Addr) (m c : Nat) (news : List Value) (hx : a.eval x = .slice A m c) (hr : Row w B A m news) (h1 : ∀ u ∈ news, u.oneCell' = true)
    (h63 : n + m ≤ maxLen) (hbytes : (n + m) * bytes ≤ 140737488355328) (hbase : base ≤ w.heap.size)
    (h : ∀ v' w', w'.ownsRow base e 1 v' (n + m) (xs ++ news) → w.grownBy w' v.ownBlock → (v'.ownBlock = v.ownBlock ∨ v'.ownBlock = some w.heap.size) → K (a.put o.dst v') w') : o.wp P a w K Q := by
  obtain ⟨v', w', hrun, h2, h3, h4⟩ := run_append_row (P := P) w base t o.type e z bytes ht hi hz v n xs hown B A m c news hr h1 h63 hbytes hbase
  unfold Oper.wp execOp
  simp only [ho, resolve, invoke, builtin, Sem.run_bind, Sem.run_pure, Result.andThen_ok, List.map_toArray, List.map_cons, List.map_nil, hs, hx, hrun]
  exact h v' w' h2 h3 h4

theorem wpList_append_row {ops : Array Oper} {rest : List Oper} {o : Oper} {a : Act} {Q : Exit → Act → World → Prop} (hgd : o.guard = none) (s x : Operand) (t : TypeId)
    (ho : o.op = .call { callee := .builtin .append, args := #[s, x], argTypes := #[t, t] })
    (base : Nat) (e : TypeId) (z : Value) (bytes : Nat) (ht : P.underlying t = some (.slice e)) (hi : (P.info? e).map (fun i => (i.zero, i.size, i.bytes)) = some (some z, 1, bytes)) (hz : z.cells.size = 1)
    (v : Value) (n : Nat) (xs : List Value) (hs : a.eval s = v) (hown : w.ownsRow base e 1 v n xs)
    (B : Nat) (A : Option Addr) (m c : Nat) (news : List Value) (hx : a.eval x = .slice A m c) (hr : Row w B A m news) (h1 : ∀ u ∈ news, u.oneCell' = true)
    (h63 : n + m ≤ maxLen) (hbytes : (n + m) * bytes ≤ 140737488355328) (hbase : base ≤ w.heap.size)
    (h : ∀ v' w', w'.ownsRow base e 1 v' (n + m) (xs ++ news) → w.grownBy w' v.ownBlock → (v'.ownBlock = v.ownBlock ∨ v'.ownBlock = some w.heap.size) → wpList P ops Q rest (a.put o.dst v') w') : wpList P ops Q (o :: rest) a w :=
  wpList_plain hgd fun _ hK => wp_append_row w s x t ho base e z bytes ht hi hz v n xs hs hown B A m c news hx hr h1 h63 hbytes hbase fun v' w' h2 h3 h4 => hK _ _ (h v' w' h2 h3 h4)

theorem step_append_row {ops : Array Oper} {o : Oper} {a : Act} {K : Act → World → Prop} {Q : Exit → Act → World → Prop} {E : Prop} (hgd : o.guard = none) (s x : Operand) (t : TypeId)
    (ho : o.op = .call { callee := .builtin .append, args := #[s, x], argTypes := #[t, t] })
    (base : Nat) (e : TypeId) (z : Value) (bytes : Nat) (ht : P.underlying t = some (.slice e)) (hi : (P.info? e).map (fun i => (i.zero, i.size, i.bytes)) = some (some z, 1, bytes)) (hz : z.cells.size = 1)
    (v : Value) (n : Nat) (xs : List Value) (hs : a.eval s = v) (hown : w.ownsRow base e 1 v n xs)
    (B : Nat) (A : Option Addr) (m c : Nat) (news : List Value) (hx : a.eval x = .slice A m c) (hr : Row w B A m news) (h1 : ∀ u ∈ news, u.oneCell' = true)
    (h63 : n + m ≤ maxLen) (hbytes : (n + m) * bytes ≤ 140737488355328) (hbase : base ≤ w.heap.size)
    (h : ∀ v' w', w'.ownsRow base e 1 v' (n + m) (xs ++ news) → w.grownBy w' v.ownBlock → (v'.ownBlock = v.ownBlock ∨ v'.ownBlock = some w.heap.size) → K (a.put o.dst v') w') :
    if Region.wanted o (yielded ops a.tmps) = true then Oper.wp P o a w K Q else E := by
  have hw : Region.wanted o (yielded ops a.tmps) = true := by simp [Region.wanted, hgd]
  rw [if_pos hw]
  exact wp_append_row w s x t ho base e z bytes ht hi hz v n xs hs hown B A m c news hx hr h1 h63 hbytes hbase h
end

theorem step_shape {P : Program} {w : World} {ops : Array Oper} {o : Oper} {a : Act} {K : Act → World → Prop} {Q : Exit → Act → World → Prop} {E : Prop} (hgd : o.guard = none) (h : Oper.wp P o a w K Q) :
    if Region.wanted o (yielded ops a.tmps) = true then Oper.wp P o a w K Q else E := by
  have hw : Region.wanted o (yielded ops a.tmps) = true := by simp [Region.wanted, hgd]
  rw [if_pos hw]; exact h

theorem own_nil (w : World) (base : Nat) (e : TypeId) : w.ownsRow base e 1 (.slice none 0 0) 0 [] := ⟨rfl, .inl ⟨rfl, rfl⟩⟩
end Wd
