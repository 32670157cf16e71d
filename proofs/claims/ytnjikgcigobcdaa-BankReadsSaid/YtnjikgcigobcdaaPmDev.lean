import Derived.Test.YtnjikgcigobcdaaPmMap
import Derived.Test.YtnjikgcigobcdaaShelf
import Derived.Test.YtnjikgcigobcdaaChecked
import Derived.WalkKit
import Derived.WalkLawsBesides
import Derived.WalkSpells
import Derived.Deep.QuietTactic
import Derived.BigQuiet
import Derived.KernelRfl
import Derived.Outline
import Derived.Laws.Pointers
import Derived.Lib.Hide
namespace Go.Proofs.Ytnjikgcigobcdaa
open Wd Pm Go.Maps Go.RowKit
set_option linter.unusedVariables false

/-- a device, plainly: how many words, what they stay as, what dirty ones hold, what is on its way, how many events, when power fails, and whether it did -/
structure St where
  n : Nat
  st : Int → Int
  hd : IFn
  sn : IFn
  ev : Int
  ar : Int
  dead : Bool
/-- the blocks that a device lies in; its words' room, and what lies behind them -/
structure Fp where
  p : Nat
  bs : Nat
  bh : Nat
  bn : Nat
  c : Nat
  ex : Array Value
def Fp.blocks (f : Fp) : List Nat := [f.p, f.bs, f.bh, f.bn]
def Fp.ptr (f : Fp) : Value := .pointer (some ⟨f.p, 0, none⟩)
def St.row (σ : St) : Array Value := ((List.range σ.n).map fun (i : Nat) => Value.int .u64 (σ.st (i : Int))).toArray

def U64 (c : Int) : Prop := (Lit.int .u64 c).wf = true
structure Good (σ : St) : Prop where
  nle : σ.n ≤ 33554432
  st : ∀ x : Int, 0 ≤ x → x < σ.n → U64 (σ.st x)
  hd : ∀ x c, σ.hd x = some c → 0 ≤ x ∧ x < σ.n ∧ U64 c
  sn : ∀ x c, σ.sn x = some c → 0 ≤ x ∧ x < σ.n ∧ U64 c
  ev : 0 ≤ σ.ev ∧ σ.ev ≤ 4611686018427387904
  ar : 0 ≤ σ.ar ∧ σ.ar ≤ 9223372036854775807

def Dev (w : World) (f : Fp) (σ : St) : Prop :=
  Cells w f.p 73 #[.slice (some ⟨f.bs, 0, none⟩) σ.n f.c, .map (some f.bh), .map (some f.bn), .int .i64 σ.ev, .int .i64 σ.ar, .bool σ.dead] ∧ Cells w f.bs 49 (σ.row ++ f.ex) ∧
  Mp Try.prog 3 49 w f.bh σ.n σ.hd ∧ Mp Try.prog 3 49 w f.bn σ.n σ.sn ∧ f.bh ≠ f.bn ∧ Good σ

/-- nothing has turned but blocks of S, and new ones -/
structure Turn (w w' : World) (S : List Nat) : Prop where
  os : w'.os = w.os
  tape : w'.tape = w.tape
  output : w'.output = w.output
  size : w.heap.size ≤ w'.heap.size
  block : ∀ k, k < w.heap.size → k ∉ S → w'.heap[k]? = w.heap[k]?

/-- the device goes on as σ', and nothing else has turned -/
def Goes (w : World) (f : Fp) (σ' : St) (w' : World) : Prop := ∃ f', Dev w' f' σ' ∧ f'.p = f.p ∧ (∀ k ∈ f'.blocks, k ∈ f.blocks ∨ w.heap.size ≤ k) ∧ Turn w w' f.blocks

theorem Turn.refl (w : World) (S : List Nat) : Turn w w S := ⟨rfl, rfl, rfl, Nat.le_refl _, fun _ _ _ => rfl⟩
theorem Turn.trans {a b c : World} {S S' : List Nat} (h : Turn a b S) (k : Turn b c S') (hS : ∀ x ∈ S', x ∈ S ∨ a.heap.size ≤ x) : Turn a c S :=
  ⟨k.os.trans h.os, k.tape.trans h.tape, k.output.trans h.output, Nat.le_trans h.size k.size, fun i hi hn => (k.block i (Nat.lt_of_lt_of_le hi h.size) (fun hm => by rcases hS i hm with h1 | h1; exact hn h1; omega)).trans (h.block i hi hn)⟩
theorem Turn.more {a b : World} {S S' : List Nat} (h : Turn a b S) (hS : ∀ x ∈ S, x ∈ S') : Turn a b S' := ⟨h.os, h.tape, h.output, h.size, fun k hk hn => h.block k hk fun hm => hn (hS k hm)⟩
theorem Turn.grown {a b : World} {g : Nat} {S : List Nat} (h : a.grownBy b (some g)) (hg : g ∈ S) : Turn a b S := ⟨h.os, h.tape, h.output, h.size, fun k hk hn => h.block k hk fun e => hn (by have := Option.some.inj e; subst this; exact hg)⟩
theorem Turn.none {a b : World} {S : List Nat} (h : a.grownBy b none) : Turn a b S := ⟨h.os, h.tape, h.output, h.size, fun k hk hn => h.block k hk (by simp)⟩
theorem Turn.set (a : World) {p : Addr} {S : List Nat} (hp : p.block ∈ S) (u : Value) : Turn a (a.setCell p u) S := ⟨rfl, rfl, rfl, by simp, fun k hk hn => Below.heap_setCell a p u k (fun e => hn (by rw [e]; exact hp))⟩
theorem Turn.below {a b : World} {S : List Nat} {B : Nat} (h : Turn a b S) (hb : a.heap.size = B ∨ B ≤ a.heap.size) (hS : ∀ x ∈ S, B ≤ x) : Below B a b := ⟨h.os, h.tape, h.output, h.size, fun k hk => h.block k (by omega) fun hm => by have := hS k hm; omega⟩
theorem Turn.ofBelow {a b : World} {S : List Nat} (h : Below a.heap.size a b) : Turn a b S := ⟨h.os, h.tape, h.output, h.size, fun k hk _ => h.block k hk⟩
theorem Goes.refl {w : World} {f : Fp} {σ : St} (h : Dev w f σ) : Goes w f σ w := ⟨f, h, rfl, fun k hk => .inl hk, Turn.refl _ _⟩

section
variable {w w' : World} {f : Fp} {σ : St}
theorem Dev.good (h : Dev w f σ) : Good σ := h.2.2.2.2.2
theorem Dev.lt (h : Dev w f σ) : f.p < w.heap.size ∧ f.bs < w.heap.size ∧ f.bh < w.heap.size ∧ f.bn < w.heap.size := ⟨h.1.lt, h.2.1.lt, h.2.2.1.lt, h.2.2.2.1.lt⟩
theorem Dev.ne (h : Dev w f σ) : f.p ≠ f.bs ∧ f.bh ≠ f.p ∧ f.bn ≠ f.p ∧ f.bh ≠ f.bs ∧ f.bn ≠ f.bs ∧ f.bh ≠ f.bn :=
  ⟨h.1.ne h.2.1 (by decide), h.2.2.1.cells h.1, h.2.2.2.1.cells h.1, h.2.2.1.cells h.2.1, h.2.2.2.1.cells h.2.1, h.2.2.2.2.1⟩
theorem Dev.keep (h : Dev w f σ) (hb : ∀ k ∈ f.blocks, w'.heap[k]? = w.heap[k]?) : Dev w' f σ := by
  obtain ⟨h1, h2, h3, h4, h5, h6⟩ := h
  exact ⟨(hb _ (by simp [Fp.blocks])).trans h1, (hb _ (by simp [Fp.blocks])).trans h2, h3.same (hb _ (by simp [Fp.blocks])), h4.same (hb _ (by simp [Fp.blocks])), h5, h6⟩
theorem Dev.below (h : Dev w f σ) (hb : Below w.heap.size w w') : Dev w' f σ := h.keep fun k hk => hb.block k (by have := h.lt; simp [Fp.blocks] at hk; omega)
theorem Dev.alloc (h : Dev w f σ) (o : Obj) : Dev (w.alloc o) f σ := h.below ((Below.refl _ _).alloc (Nat.le_refl _) _)
theorem Dev.far (h : Dev w f σ) {p : Addr} (hp : p.block ∉ f.blocks) (u : Value) : Dev (w.setCell p u) f σ := h.keep fun k hk => Below.heap_setCell w p u k (fun e => hp (by rw [← e]; exact hk))
theorem Dev.cell (h : Dev w f σ) (i : Nat) : w.cell? ⟨f.p, i, none⟩ = (#[.slice (some ⟨f.bs, 0, none⟩) σ.n f.c, .map (some f.bh), .map (some f.bn), .int .i64 σ.ev, .int .i64 σ.ar, .bool σ.dead] : Array Value)[i]? := h.1.cell i
theorem Dev.free (h : Dev w f σ) (i : Nat) : w.frozen? ⟨f.p, i, none⟩ = false := h.1.free i
theorem St.row_at (σ : St) (i : Nat) (hi : i < σ.n) : σ.row[i]? = some (.int .u64 (σ.st i)) := by simp [St.row, hi]
theorem Dev.word (h : Dev w f σ) (i : Nat) (hi : i < σ.n) : w.cell? ⟨f.bs, i, none⟩ = some (.int .u64 (σ.st i)) := by rw [h.2.1.cell i, Array.getElem?_append_left (by simpa [St.row] using hi), σ.row_at i hi]

/-- from a device to a device -/
theorem Goes.trans {w1 w2 : World} {σ1 σ2 : St} (h : Goes w f σ1 w1) (k : ∀ f1, f1.p = f.p → Dev w1 f1 σ1 → Goes w1 f1 σ2 w2) : Goes w f σ2 w2 := by
  obtain ⟨f1, d1, e1, n1, t1⟩ := h
  obtain ⟨f2, d2, e2, n2, t2⟩ := k f1 e1 d1
  exact ⟨f2, d2, e2.trans e1, fun x hx => by
    rcases n2 x hx with h | h
    · exact n1 x h
    · exact .inr (Nat.le_trans t1.size h), t1.trans t2 n1⟩
/-- a block of another type stays -/
theorem _root_.Wd.Cells.turn {g : Nat} {T : TypeId} {cs : Array Value} (h : Cells w g T cs) (d : Dev w f σ) (h1 : T ≠ 73) (h2 : T ≠ 49) (t : Turn w w' f.blocks) : Cells w' g T cs := by
  refine (t.block g h.lt ?_).trans h
  intro hm
  simp only [Fp.blocks, List.mem_cons, List.not_mem_nil, or_false] at hm
  rcases hm with rfl | rfl | rfl | rfl
  · exact h.ne d.1 h1 rfl
  · exact h.ne d.2.1 h2 rfl
  · exact d.2.2.1.cells h rfl
  · exact d.2.2.2.1.cells h rfl
end

theorem keyedInt : Keyed Try.prog 3 := int_keyed Try.underlying3
theorem zeroU (w : World) : (zeroValue 49).run Try.prog w = .ok (.int .u64 0) w := by kernel_rfl
theorem wf_i {x : Int} (h : -9223372036854775808 ≤ x) (h' : x ≤ 9223372036854775807) : (Lit.int .i64 x).wf = true := WalkArith.wf_i64 (by omega)
end Go.Proofs.Ytnjikgcigobcdaa
