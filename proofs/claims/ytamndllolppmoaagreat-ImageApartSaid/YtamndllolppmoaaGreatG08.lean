import Derived.Test.YtamndllolppmoaaGreatG05
import Derived.Test.YtamndllolppmoaaGreatG06
import Derived.Test.YtamndllolppmoaaGreatG07
import Derived.Test.YtamndllolppmoaaGreatG04
import Derived.Test.YtamndllolppmoaaGreatG03
import Derived.Laws.CopyRow
import Derived.Laws.Tables

/-! A state in memory: the project's (a map of nodes) and the document's (a row of nodes). -/
namespace Go.Proofs.YtamndllolppmoaaGreat
open Wd Ino Sm Go.RowKit Go.ChangeShapes Go.WideShapes Go.Sort
set_option linter.unusedVariables false
set_option maxRecDepth 100000
theorem keyedN : Go.Maps.Keyed Tryz.prog 3 := Go.Maps.int_keyed Tryz.underlying3
theorem zeroNd (w : World) : (zeroValue 55).run Tryz.prog w = .ok (nv 0 0 0 0 0 (.slice none 0 0) (.slice none 0 0)) w := by kernel_rfl
theorem wfI {x : Int} (h : i64R x) : (Lit.int .i64 x).wf = true := WalkArith.wf_i64 (by unfold i64R at h; omega)

@[go_sem] theorem fieldN0 (a0 a1 a2 a3 a4 a5 a6 : Value) (w : World) : (Instr.field 55 (.agg #[a0, a1, a2, a3, a4, a5, a6]) 0).run Tryz.prog w = .ok a0 w := by
  simp [Instr.field, run_underlying Tryz.underlying55, asAgg, Result.andThen, go_sem]
@[go_sem] theorem fieldN1 (a0 a1 a2 a3 a4 a5 a6 : Value) (w : World) : (Instr.field 55 (.agg #[a0, a1, a2, a3, a4, a5, a6]) 1).run Tryz.prog w = .ok a1 w := by
  simp [Instr.field, run_underlying Tryz.underlying55, asAgg, Result.andThen, go_sem]
@[go_sem] theorem fieldN2 (a0 a1 a2 a3 a4 a5 a6 : Value) (w : World) : (Instr.field 55 (.agg #[a0, a1, a2, a3, a4, a5, a6]) 2).run Tryz.prog w = .ok a2 w := by
  simp [Instr.field, run_underlying Tryz.underlying55, asAgg, Result.andThen, go_sem]
@[go_sem] theorem fieldN3 (a0 a1 a2 a3 a4 a5 a6 : Value) (w : World) : (Instr.field 55 (.agg #[a0, a1, a2, a3, a4, a5, a6]) 3).run Tryz.prog w = .ok a3 w := by
  simp [Instr.field, run_underlying Tryz.underlying55, asAgg, Result.andThen, go_sem]
@[go_sem] theorem fieldN4 (a0 a1 a2 a3 a4 a5 a6 : Value) (w : World) : (Instr.field 55 (.agg #[a0, a1, a2, a3, a4, a5, a6]) 4).run Tryz.prog w = .ok a4 w := by
  simp [Instr.field, run_underlying Tryz.underlying55, asAgg, Result.andThen, go_sem]
@[go_sem] theorem fieldN5 (a0 a1 a2 a3 a4 a5 a6 : Value) (w : World) : (Instr.field 55 (.agg #[a0, a1, a2, a3, a4, a5, a6]) 5).run Tryz.prog w = .ok a5 w := by
  simp [Instr.field, run_underlying Tryz.underlying55, asAgg, Result.andThen, go_sem]
@[go_sem] theorem fieldN6 (a0 a1 a2 a3 a4 a5 a6 : Value) (w : World) : (Instr.field 55 (.agg #[a0, a1, a2, a3, a4, a5, a6]) 6).run Tryz.prog w = .ok a6 w := by
  simp [Instr.field, run_underlying Tryz.underlying55, asAgg, Result.andThen, go_sem]
/-- blocks but those of S are as they were -/
structure Trn (w w' : World) (S : List Nat) : Prop where
  os : w'.os = w.os
  tape : w'.tape = w.tape
  output : w'.output = w.output
  size : w.heap.size ≤ w'.heap.size
  block : ∀ k, k < w.heap.size → k ∉ S → w'.heap[k]? = w.heap[k]?
theorem Trn.refl (w : World) (S : List Nat) : Trn w w S := ⟨rfl, rfl, rfl, Nat.le_refl _, fun _ _ _ => rfl⟩
theorem Trn.trans {a b c : World} {S : List Nat} (h : Trn a b S) (k : Trn b c S) : Trn a c S :=
  ⟨k.os.trans h.os, k.tape.trans h.tape, k.output.trans h.output, Nat.le_trans h.size k.size, fun i hi hn => (k.block i (Nat.lt_of_lt_of_le hi h.size) hn).trans (h.block i hi hn)⟩
theorem Trn.of {a b : World} {S : List Nat} (h : Below a.heap.size a b) : Trn a b S := ⟨h.os, h.tape, h.output, h.size, fun k hk _ => h.block k hk⟩
theorem Trn.more {a b : World} {S S' : List Nat} (h : Trn a b S) (hS : ∀ x ∈ S, x ∈ S') : Trn a b S' := ⟨h.os, h.tape, h.output, h.size, fun k hk hn => h.block k hk fun e => hn (hS k e)⟩
theorem Trn.set (w : World) {p : Addr} {S : List Nat} (hp : p.block ∈ S) (u : Value) : Trn w (w.setCell p u) S :=
  ⟨rfl, rfl, rfl, by simp [World.setCell], fun k hk hn => Below.heap_setCell w p u k fun e => hn (e ▸ hp)⟩
theorem Trn.map {w w' : World} {b : Nat} {S : List Nat} (h : w.mapTurned w' b) (hb : b ∈ S) : Trn w w' S := by
  have hs := turned_size h
  have hk := fun q hq => turned_block h (q := q) hq
  obtain ⟨es, clock, es', clock', hb', rfl⟩ := h
  exact ⟨rfl, rfl, rfl, by rw [hs]; exact Nat.le_refl _, fun k _ hn => hk k fun e => hn (e ▸ hb)⟩
theorem Trn.below {a b : World} {S : List Nat} (h : Trn a b S) {B : Nat} (hB : B ≤ a.heap.size) (hS : ∀ x ∈ S, B ≤ x) : Below B a b :=
  ⟨h.os, h.tape, h.output, h.size, fun k hk => h.block k (by omega) fun hm => by have := hS k hm; omega⟩
theorem Trn.after {a b c : World} {S : List Nat} {B : Nat} (h : Below B a b) (k : Trn b c S) (hB : B ≤ b.heap.size) (hS : ∀ x ∈ S, B ≤ x) : Below B a c := h.trans (k.below hB hS)
theorem Trn.drew {a b : World} {S : List Nat} (h : Trn a b S) : Trn a b.drew S := ⟨h.os, h.tape, h.output, h.size, h.block⟩
theorem Trn.drewN {a b : World} {S : List Nat} (h : Trn a b S) (n : Nat) : Trn a (b.drewN n) S := ⟨h.os, h.tape, h.output, h.size, h.block⟩
theorem Trn.alloc {a b : World} {S : List Nat} (h : Trn a b S) (o : Obj) : Trn a (b.alloc o) S := h.trans (Trn.of (below_of_grown (World.grownBy_alloc b o none)))
theorem Trn.grow {a b c : World} {S : List Nat} (h : Trn a b S) (k : ∃ q os, c = grow (b.drewN q) os) : Trn a c S := h.trans (Trn.of (grown_b k))

/-- cells of all kinds but those of Ts are as they were -/
def KeepC (Ts : List TypeId) (w w' : World) : Prop := ∀ b t cs, t ∉ Ts → Cells w b t cs → Cells w' b t cs
theorem KeepC.of {w w' : World} {Ts : List TypeId} (h : Below w.heap.size w w') : KeepC Ts w w' := fun b t cs _ hc => hc.below' h
theorem KeepC.trans {a b c : World} {Ts : List TypeId} (h : KeepC Ts a b) (k : KeepC Ts b c) : KeepC Ts a c := fun q t cs ht hc => k q t cs ht (h q t cs ht hc)
theorem KeepC.more {a b : World} {Ts Us : List TypeId} (h : KeepC Ts a b) (hs : ∀ x ∈ Ts, x ∈ Us) : KeepC Us a b := fun q t cs ht hc => h q t cs (fun e => ht (hs t e)) hc
theorem KeepC.own {w w' : World} {Ts : List TypeId} (h : KeepC Ts w w') {base n sz : Nat} {e : TypeId} {v : Value} {xs : List Value} (he : e ∉ Ts) (ho : w.ownsRow base e sz v n xs) : w'.ownsRow base e sz v n xs := by
  rcases ho with ⟨hl, ho⟩
  refine ⟨hl, ?_⟩
  rcases ho with ho | ⟨g, cap, cur, hv, hg, hh, h1⟩
  · exact .inl ho
  · exact .inr ⟨g, cap, cur, hv, hg, h g e cur he hh, h1⟩

def Nd.plain (n : Nd) : Nod := ⟨n.ino, n.kind, n.links, n.size, n.up, n.pages, n.names⟩
def OwnNd (w : World) (base : Nat) (n : Nd) : Prop := OwnI w base (.slice n.A n.pages.length n.ac) n.pages ∧ OwnE w base (.slice n.B n.names.length n.bc) n.names
def zeroNdd : Nd := ⟨0, 0, 0, 0, 0, none, 0, [], none, 0, []⟩
theorem OwnNd.zero (w : World) (base : Nat) : OwnNd w base zeroNdd := ⟨OwnI.nil _ _, own_nilE _ _⟩
theorem OwnNd.keep {w w' : World} {base : Nat} {n : Nd} {Ts : List TypeId} (h : OwnNd w base n) (hk : KeepC Ts w w') (h1 : 3 ∉ Ts) (h2 : 114 ∉ Ts) : OwnNd w' base n := ⟨hk.own h1 h.1, hk.own h2 h.2⟩
theorem OwnNd.below {w w' : World} {base : Nat} {n : Nd} (h : OwnNd w base n) (hb : Below w.heap.size w w') : OwnNd w' base n := h.keep (KeepC.of (Ts := []) hb) (by simp) (by simp)
theorem OwnNd.mono {w : World} {b1 b2 : Nat} {n : Nd} (h : OwnNd w b1 n) (hb : b2 ≤ b1) : OwnNd w b2 n := ⟨h.1.mono hb, h.2.mono hb⟩
theorem OwnNd.in_ {w : World} {base : Nat} {n : Nd} (h : OwnNd w base n) : n.In w := by
  refine ⟨?_, ?_⟩
  · obtain ⟨A, c, hv, hr⟩ := h.1.row
    injection hv with h1 h2 h3
    rw [h1]; exact hr
  · obtain ⟨A, c, hv, _, hr⟩ := h.2.form
    injection hv with h1 h2 h3
    rw [h1]; exact hr
theorem OwnN.nd {w : World} {base : Nat} {V : Value} {i k l s u : Int} {P : List Int} {N : List Ent} {A : Option Addr} {ac : Nat} {B : Option Addr} {bc : Nat} (h : OwnN w base V i k l s u P N A ac B bc) :
    V = (Nd.mk i k l s u A ac P B bc N).val ∧ OwnNd w base (Nd.mk i k l s u A ac P B bc N) := ⟨h.val_, h.pages, h.names⟩
/-- the names of a directory, replaced by others that lie anywhere -/
def Nd.withNames (n : Nd) (B : Option Addr) (bc : Nat) (l : List Ent) : Nd := { n with B := B, bc := bc, names := l }

/-! the project's -/
def mval (G : Int → Option Nd) : VFn := fun i => (G i).map Nd.val
def Mpn (w : World) (base m b : Nat) (l : List Nod) : Prop := ∃ G : Int → Option Nd, Mv Tryz.prog 3 w b m (mval G) ∧ (∀ i, (G i).map Nd.plain = atS l i) ∧ ∀ i n, G i = some n → OwnNd w base n
structure PSt (w : World) (base m g b : Nat) (S : Stt) : Prop where
  lo : base ≤ g
  lob : base ≤ b
  cells : Cells w g 89 #[.map (some b), .int .i64 S.last]
  mp : Mpn w base m b S.l
theorem Mpn.keep {w w' : World} {base m b : Nat} {l : List Nod} (h : Mpn w base m b l) {Ts : List TypeId} (hk : KeepC Ts w w') (h1 : 3 ∉ Ts) (h2 : 114 ∉ Ts) (hb : w'.heap[b]? = w.heap[b]?) : Mpn w' base m b l := by
  obtain ⟨G, hG, hl, ho⟩ := h
  exact ⟨G, hG.same hb, hl, fun i n hi => (ho i n hi).keep hk h1 h2⟩
theorem Mpn.more {w : World} {base m m' b : Nat} {l : List Nod} (h : Mpn w base m b l) (hm : m ≤ m') : Mpn w base m' b l := by
  obtain ⟨G, hG, hl, ho⟩ := h
  exact ⟨G, hG.mono hm, hl, ho⟩
theorem PSt.more {w : World} {base m m' g b : Nat} {S : Stt} (h : PSt w base m g b S) (hm : m ≤ m') : PSt w base m' g b S := ⟨h.lo, h.lob, h.cells, h.mp.more hm⟩
theorem PSt.below {w w' : World} {base m g b : Nat} {S : Stt} (h : PSt w base m g b S) (hb : Below w.heap.size w w') : PSt w' base m g b S := by
  obtain ⟨G, hG, hl, ho⟩ := h.mp
  exact ⟨h.lo, h.lob, h.cells.below' hb, G, hG.same (hb.block b hG.lt), hl, fun i n hi => (ho i n hi).below hb⟩
theorem PSt.ne {w : World} {base m g b : Nat} {S : Stt} (h : PSt w base m g b S) : b ≠ g := by
  obtain ⟨G, hG, _⟩ := h.mp
  exact hG.cells h.cells
theorem PSt.blt {w : World} {base m g b : Nat} {S : Stt} (h : PSt w base m g b S) : b < w.heap.size := by
  obtain ⟨G, hG, _⟩ := h.mp
  exact hG.lt
/-- where only blocks of other kinds have turned -/
theorem PSt.keep {w w' : World} {base m g b : Nat} {S : Stt} (h : PSt w base m g b S) {Ts : List TypeId} (hk : KeepC Ts w w') (h1 : 3 ∉ Ts) (h2 : 114 ∉ Ts) (h3 : 89 ∉ Ts) (hb : w'.heap[b]? = w.heap[b]?) : PSt w' base m g b S :=
  ⟨h.lo, h.lob, hk _ _ _ h3 h.cells, h.mp.keep hk h1 h2 hb⟩
/-- what a State of its own does to other cells -/
theorem PSt.keepC {w w' : World} {base m g b : Nat} {S : Stt} (h : PSt w base m g b S) (t : Trn w w' [g, b]) : KeepC [89] w w' := by
  intro q t' cs ht hc
  refine (t.block q hc.lt ?_).trans hc
  intro hm
  rcases List.mem_cons.1 hm with rfl | hm
  · exact ht (by
      have : t' = 89 := Decidable.byContradiction fun hne => hc.ne h.cells hne rfl
      rw [this]; exact List.mem_singleton.2 rfl)
  · obtain ⟨G, hG, _⟩ := h.mp
    have := hG.cells hc
    exact this (List.mem_singleton.1 hm).symm
theorem PSt.look {w : World} {base m g b : Nat} {S : Stt} (h : PSt w base m g b S) {x : Int} (hx : i64R x) :
    ∃ n : Nd, n.plain = getS S.l x ∧ OwnNd w base n ∧ ∀ w', w'.heap[b]? = w.heap[b]? → (Instr.lookup 87 (.map (some b)) (.int .i64 x) false).run Tryz.prog w' = .ok n.val w' := by
  obtain ⟨G, hG, hl, ho⟩ := h.mp
  have key : ∀ w', w'.heap[b]? = w.heap[b]? → (Instr.lookup 87 (.map (some b)) (.int .i64 x) false).run Tryz.prog w' = .ok ((mval G x).getD zeroNdd.val) w' := fun w' hb =>
    (hG.same hb).look keyedN Tryz.underlying87 Tryz.underlying3 (zeroNd w') x (wfI hx)
  have hlx := hl x
  cases hg : G x with
  | none =>
    refine ⟨zeroNdd, ?_, OwnNd.zero _ _, fun w' hb => ?_⟩
    · unfold getS; rw [← hlx, hg]; rfl
    · rw [key w' hb]; unfold mval; rw [hg]; rfl
  | some n =>
    refine ⟨n, ?_, ho x n hg, fun w' hb => ?_⟩
    · unfold getS; rw [← hlx, hg]; rfl
    · rw [key w' hb]; unfold mval; rw [hg]; rfl
theorem PSt.look_ok {w : World} {base m g b : Nat} {S : Stt} (h : PSt w base m g b S) {x : Int} (hx : i64R x) :
    ∃ n : Nd, n.plain = getS S.l x ∧ OwnNd w base n ∧ ∀ w', w'.heap[b]? = w.heap[b]? → (Instr.lookup 87 (.map (some b)) (.int .i64 x) true).run Tryz.prog w' = .ok (.tuple #[n.val, .bool (atS S.l x).isSome]) w' := by
  obtain ⟨G, hG, hl, ho⟩ := h.mp
  have key : ∀ w', w'.heap[b]? = w.heap[b]? → (Instr.lookup 87 (.map (some b)) (.int .i64 x) true).run Tryz.prog w' = .ok (.tuple #[(mval G x).getD zeroNdd.val, .bool (mval G x).isSome]) w' := fun w' hb =>
    (hG.same hb).look_ok keyedN Tryz.underlying87 Tryz.underlying3 (zeroNd w') x (wfI hx)
  have hlx := hl x
  cases hg : G x with
  | none =>
    refine ⟨zeroNdd, ?_, OwnNd.zero _ _, fun w' hb => ?_⟩
    · unfold getS; rw [← hlx, hg]; rfl
    · rw [key w' hb, ← hlx]; unfold mval; rw [hg]; rfl
  | some n =>
    refine ⟨n, ?_, ho x n hg, fun w' hb => ?_⟩
    · unfold getS; rw [← hlx, hg]; rfl
    · rw [key w' hb, ← hlx]; unfold mval; rw [hg]; rfl
theorem PSt.store {w : World} {base m g b : Nat} {S : Stt} (h : PSt w base m g b S) (hm : m < 1000000) {x : Int} (hx : i64R x) {n : Nd} (hn : OwnNd w base n) {l' : List Nod} (hl' : ∀ i, atS l' i = if i = x then some n.plain else atS S.l i) :
    ∃ w', (Instr.mapUpdate 87 (.map (some b)) (.int .i64 x) n.val).run Tryz.prog w = .ok () w' ∧ PSt w' base (m + 1) g b ⟨l', S.last⟩ ∧ w.mapTurned w' b := by
  have hne := h.ne
  obtain ⟨G, hG, hl, ho⟩ := h.mp
  obtain ⟨w', h1, h2, h3⟩ := hG.store keyedN Tryz.underlying87 Tryz.underlying3 (by unfold maxLen; omega) x n.val (wfI hx)
  have hk : KeepC [] w w' := fun q t cs _ hc => by
    have : q ≠ b := fun e => hG.cells hc e.symm
    exact (turned_block h3 this).trans hc
  refine ⟨w', h1, ⟨h.lo, h.lob, hk _ _ _ (by simp) h.cells, fun i => if i = x then some n else G i, h2.congr fun y => ?_, fun i => ?_, fun i k hi => ?_⟩, h3⟩
  · unfold mval; by_cases e : y = x <;> simp [e]
  · rw [hl', ← hl]; by_cases e : i = x <;> simp [e]
  · by_cases e : i = x
    · simp only [if_pos e] at hi
      obtain rfl := Option.some.inj hi
      exact hn.keep hk (by simp) (by simp)
    · simp only [if_neg e] at hi
      exact (ho i k hi).keep hk (by simp) (by simp)
theorem PSt.drop {w : World} {base m g b : Nat} {S : Stt} (h : PSt w base m g b S) {x : Int} (hx : i64R x) {l' : List Nod} (hl' : ∀ i, atS l' i = if i = x then none else atS S.l i) (ty : TypeId) :
    ∃ w', (Builtin.delete_ #[87, 3] ty #[.map (some b), .int .i64 x]).run Tryz.prog w = .ok (.tuple #[]) w' ∧ PSt w' base m g b ⟨l', S.last⟩ ∧ w.mapTurned w' b := by
  obtain ⟨G, hG, hl, ho⟩ := h.mp
  obtain ⟨w', h1, h2, h3⟩ := hG.drop keyedN Tryz.underlying87 Tryz.underlying3 x (wfI hx) ty
  have hk : KeepC [] w w' := fun q t cs _ hc => by
    have : q ≠ b := fun e => hG.cells hc e.symm
    exact (turned_block h3 this).trans hc
  refine ⟨w', h1, ⟨h.lo, h.lob, hk _ _ _ (by simp) h.cells, fun i => if i = x then none else G i, h2.congr fun y => ?_, fun i => ?_, fun i k hi => ?_⟩, h3⟩
  · unfold mval; by_cases e : y = x <;> simp [e]
  · rw [hl', ← hl]; by_cases e : i = x <;> simp [e]
  · by_cases e : i = x
    · simp only [if_pos e] at hi; cases hi
    · simp only [if_neg e] at hi
      exact (ho i k hi).keep hk (by simp) (by simp)

/-! the document's -/
def Nd.cells (n : Nd) : List Value := [.int .i64 n.ino, .int .i64 n.kind, .int .i64 n.links, .int .i64 n.size, .int .i64 n.up, .slice n.A n.pages.length n.ac, .slice n.B n.names.length n.bc]
def ndvals (l : List Nd) : List Value := l.flatMap Nd.cells
structure DSt (w : World) (base g : Nat) (Ls : List Nd) (v : Value) (S : Stt) : Prop where
  lo : base ≤ g
  cells : Cells w g 80 #[v, .int .i64 S.last]
  row : w.ownsRow base 55 7 v Ls.length (ndvals Ls)
  own : ∀ n ∈ Ls, OwnNd w base n
  eq : Ls.map Nd.plain = S.l
end Go.Proofs.YtamndllolppmoaaGreat

namespace Go.Proofs.YtamndllolppmoaaGreat
open Wd Ino Go.RowKit Go.ChangeShapes Go.WideShapes Go.Sort
set_option linter.unusedVariables false
set_option maxRecDepth 100000

/-! where a name stands, or would stand -/
theorem nLessD (a b : ByteArray) (w : World) : Calls Tryz.prog 192 #[.string a, .string b] w (Grows (.bool (lessN a b)) w) := by
  go_enter Tryz.func192, Tryz.ntmps192
  go_wp2
  go_ret
  exact ⟨rfl, grow_none _⟩
/-- an entry's block: its two cells -/
def ecells (e : Ent) : Array Value := #[.string e.s, .int .i64 e.n]
theorem ecells2 {w : World} {g : Nat} {t : TypeId} {e : Ent} (h : Cells w g t (ecells e)) : w.cell? ⟨g, 0, none⟩ = some (.string e.s) ∧ w.cell? ⟨g, 1, none⟩ = some (.int .i64 e.n) := ⟨h.cell 0, h.cell 1⟩
def LookRel (s : ByteArray) (l : List Ent) (w : World) (v b i : Value) (wr : World) : Prop := ∃ (k m : Nat), k ≤ l.length ∧ b = .bool false ∧ i = .int .i64 k ∧ v = .int .i64 m ∧ (∀ x ∈ l.take k, nameIs s x = false) ∧
  ((m = l.length ∧ ∀ x ∈ l.take k, foreE s x = false) ∨ (m < k ∧ l.findIdx (foreE s) = m)) ∧ ∃ q os, wr = grow (w.drewN q) os
set_option maxHeartbeats 4000000 in
theorem dLook {w : World} {hi : Nat} {A : Option Addr} {c : Nat} {l : List Ent} (h : Ens w hi A l) (hh : hi ≤ w.heap.size) (hm : l.length ≤ 1000) (s : ByteArray) : Calls Tryz.prog 167 #[.slice A l.length c, .string s] w (Grows (.tuple #[.int .i64 (lookN s l), .bool (hasN s l)]) w) := by
  have H := Lib.hid h
  clear h
  go_enter Tryz.func167, Tryz.ntmps167
  go_wp2
  go_step3
  go_wp2
  go_step3
  go_wp2
  go_loopw [6, 7, 14] (fun v b i wr => LookRel s l w v b i wr) (fun _ _ i _ => l.length - (intOf i).toNat)
  case atStart => exact ⟨0, l.length, Nat.zero_le _, rfl, rfl, rfl, by simp, .inl ⟨rfl, by simp⟩, grow_none _⟩
  case round =>
    obtain ⟨k, m, hk, rfl, rfl, rfl, hno, hat, hgr⟩ := hrel
    have HNO := Lib.hid hno; have HAT := Lib.hid hat; have HG := Lib.hid hgr
    have hb := (Grows.below (e := .returned (.bool true)) ⟨rfl, hgr⟩).2
    have HB := Lib.hid hb
    clear hno hat hgr hb
    by_cases hlt : k < l.length
    · obtain ⟨e, he⟩ : ∃ e, l[k]? = some e := ⟨_, List.getElem?_eq_getElem hlt⟩
      obtain ⟨bl, off, rfl, hbB, x0, x1⟩ := ens_cells (H.out.below (HB.out.mono hh)) he
      have hlt2 : (k : Int) < (l.length : Int) := Int.ofNat_lt.2 hlt
      have HE := Lib.hid he
      clear he
      cases hn : nameIs s e with
      | true =>
        have q0 : (e.s.toList == s.toList) = true := hn
        have HR := Lib.hid (look_yes HNO.out HE.out hn)
        clear hn
        go_wp2_with fail
        rw [Exit.noGoto_ret]
        go_ret2
        exact ⟨by rw [HR.out.1, HR.out.2.1]; rfl, grow_alloc HG.out _⟩
      | false =>
        have q0 : (e.s.toList == s.toList) = false := hn
        have HN := Lib.hid (none_snoc HE.out HNO.out hn)
        clear hn
        by_cases hm2 : m < l.length
        · have hm3 : (m : Int) < (l.length : Int) := Int.ofNat_lt.2 hm2
          go_wp2_with fail
          go_roundw
          case rel => exact ⟨k + 1, m, by omega, rfl, by go_num, rfl, HN.out, by rcases HAT.out with h | h; omega; exact .inr ⟨by omega, h.2⟩, grow_alloc HG.out _⟩
          case measure => simp [intOf]; omega
        · have hm4 : m = l.length ∧ ∀ x ∈ l.take k, foreE s x = false := by rcases HAT.out with h | h; exact h; omega
          obtain ⟨rfl, hf⟩ := hm4
          have HF := Lib.hid hf
          clear hf hm2
          have K := Lib.hid (fun w => nLessD s e.s w)
          cases hl : foreE s e with
          | true =>
            have hl2 : lessN s e.s = true := hl
            rw [hl2] at K
            have HL := Lib.hid (findIdx_at HF.out HE.out hl)
            clear hl hl2
            go_wp2_with fail
            refine (K.out _).mono ?_
            rintro e1 w2 ⟨rfl, hw2⟩
            have HW2 := Lib.hid hw2
            clear hw2
            go_wp2_with fail
            go_roundw
            case rel => exact ⟨k + 1, k, by omega, rfl, by go_num, rfl, HN.out, .inr ⟨by omega, HL.out⟩, grow_trans (grow_alloc HG.out _) HW2.out⟩
            case measure => simp [intOf]; omega
          | false =>
            have hl2 : lessN s e.s = false := hl
            rw [hl2] at K
            have HL := Lib.hid (none_snoc HE.out HF.out hl)
            clear hl hl2
            go_wp2_with fail
            refine (K.out _).mono ?_
            rintro e1 w2 ⟨rfl, hw2⟩
            have HW2 := Lib.hid hw2
            clear hw2
            go_wp2_with fail
            go_roundw
            case rel => exact ⟨k + 1, l.length, by omega, rfl, by go_num, rfl, HN.out, .inl ⟨rfl, HL.out⟩, grow_trans (grow_alloc HG.out _) HW2.out⟩
            case measure => simp [intOf]; omega
    · obtain rfl : k = l.length := by omega
      have hno := HNO.out
      rw [List.take_length] at hno
      have hm4 : l.findIdx (foreE s) = m := by
        rcases HAT.out with h | h
        · rw [List.take_length] at h; rw [h.1]; exact findIdx_all h.2
        · exact h.2
      have HR := Lib.hid (look_no hno)
      have HM := Lib.hid hm4
      clear hno hm4
      go_wp2_with fail
      rw [Exit.noGoto_ret]
      go_ret2
      exact ⟨by rw [HR.out.1, HR.out.2.1, HM.out]; rfl, HG.out⟩
end Go.Proofs.YtamndllolppmoaaGreat

namespace Go.Proofs.YtamndllolppmoaaGreat
open Wd Ino Go.RowKit Go.ChangeShapes Go.WideShapes Go.ChangeAt Go.Deep Go.Sort
set_option linter.unusedVariables false
set_option maxRecDepth 100000

/-! a row of names that the call made: its block, and what is stored into it -/
theorem evals_take (l : List Ent) (k : Nat) : evals (l.take k) = (evals l).take (k * 2) := by
  induction l generalizing k with
  | nil => simp [evals]
  | cons e l ih =>
    cases k with
    | zero => simp [evals]
    | succ k =>
      rw [List.take_succ_cons, evals_cons, evals_cons, ih, show (k + 1) * 2 = k * 2 + 1 + 1 by omega]
      rfl
theorem evals_drop (l : List Ent) (k : Nat) : evals (l.drop k) = (evals l).drop (k * 2) := by
  induction l generalizing k with
  | nil => simp [evals]
  | cons e l ih =>
    cases k with
    | zero => rfl
    | succ k =>
      rw [List.drop_succ_cons, ih, evals_cons, show (k + 1) * 2 = k * 2 + 1 + 1 by omega]
      rfl
theorem evals_set {l : List Ent} {k : Nat} {e : Ent} (x : Ent) (he : l[k]? = some e) : ((evals l).set (k * 2) (.string x.s)).set (k * 2 + 1) (.int .i64 x.n) = evals (l.set k x) := by
  induction l generalizing k with
  | nil => simp at he
  | cons d l ih =>
    cases k with
    | zero => rfl
    | succ k =>
      rw [List.set_cons_succ, evals_cons, evals_cons, ← ih (by simpa using he), show (k + 1) * 2 = k * 2 + 1 + 1 by omega]
      rfl
theorem evals_setS {l : List Ent} {k : Nat} {e : Ent} (he : l[k]? = some e) : (evals l).set (k * 2) (.string e.s) = evals l := by
  induction l generalizing k with
  | nil => simp at he
  | cons d l ih =>
    cases k with
    | zero =>
      simp only [List.getElem?_cons_zero, Option.some.injEq] at he
      subst he
      rfl
    | succ k =>
      have := ih (k := k) (by simpa using he)
      rw [evals_cons, show (k + 1) * 2 = k * 2 + 1 + 1 by omega]
      show Value.string d.s :: Value.int .i64 d.n :: (evals l).set (k * 2) (.string e.s) = _
      rw [this]; rfl
/-- its block, if it has one -/
theorem OwnE.block {w : World} {base : Nat} {v : Value} {l : List Ent} (h : OwnE w base v l) (hn : 0 < l.length) : ∃ g cap cur, v = .slice (some ⟨g, 0, none⟩) l.length cap ∧ base ≤ g ∧ Cells w g 114 cur ∧ l.length ≤ cap ∧ cap ≤ maxLen ∧ cur.size = cap * 2 ∧ cur.toList.take (l.length * 2) = evals l := by
  rcases h.2 with ⟨rfl, h0⟩ | ⟨g, cap, cur, rfl, hb, hh, hc, hm, hs, ht⟩
  · omega
  · exact ⟨g, cap, cur, rfl, hb, hh, hc, hm, hs, ht⟩
theorem OwnE.of {w : World} {base g cap : Nat} {cur : Array Value} {l : List Ent} {n : Nat} (hn : l.length = n) (hb : base ≤ g) (hc : Cells w g 114 cur) (h1 : n ≤ cap) (h2 : cap ≤ maxLen) (hs : cur.size = cap * 2) (ht : cur.toList.take (n * 2) = evals l) : OwnE w base (.slice (some ⟨g, 0, none⟩) n cap) l := by
  subst hn
  exact ⟨evals_len l, .inr ⟨g, cap, cur, rfl, hb, hc, h1, h2, hs, ht⟩⟩
theorem OwnE.get {w : World} {base : Nat} {v : Value} {l : List Ent} (h : OwnE w base v l) {k : Nat} {e : Ent} (he : l[k]? = some e) : ∃ g cap, v = .slice (some ⟨g, 0, none⟩) l.length cap ∧ base ≤ g ∧ g < w.heap.size ∧ l.length ≤ cap ∧
    w.cell? ⟨g, k * 2, none⟩ = some (.string e.s) ∧ w.cell? ⟨g, k * 2 + 1, none⟩ = some (.int .i64 e.n) ∧ w.frozen? ⟨g, k * 2, none⟩ = false ∧ w.frozen? ⟨g, k * 2 + 1, none⟩ = false := by
  have hk := (List.getElem?_eq_some_iff.1 he).1
  obtain ⟨g, cap, cur, rfl, hb, hc, h1, h2, hs, ht⟩ := h.block (by omega)
  have at_ : ∀ j u, (ev e)[j]? = some u → w.cell? ⟨g, k * 2 + j, none⟩ = some u := fun j u hu => by
    have hx := evals_at l k j e u he hu
    rw [← ht, List.getElem?_take] at hx
    rw [hc.cell, ← Array.getElem?_toList]
    split at hx
    · exact hx
    · cases hx
  exact ⟨g, cap, rfl, hb, hc.lt, h1, at_ 0 _ rfl, at_ 1 _ rfl, hc.free _, hc.free _⟩
/-- one cell stored -/
theorem OwnE.setS {w : World} {base g cap n : Nat} {l : List Ent} (h : OwnE w base (.slice (some ⟨g, 0, none⟩) n cap) l) {k : Nat} {e : Ent} (he : l[k]? = some e) : OwnE (w.setCell ⟨g, k * 2, none⟩ (.string e.s)) base (.slice (some ⟨g, 0, none⟩) n cap) l := by
  have hk := (List.getElem?_eq_some_iff.1 he).1
  obtain ⟨g', cap', cur, hv, hb, hc, h1, h2, hs, ht⟩ := h.block (by omega)
  injection hv with hv hn hcc
  injection hv with hv
  injection hv with hv _ _
  subst hv hn hcc
  refine OwnE.of rfl hb (hc.set _ _) h1 h2 (by simp [hs]) ?_
  rw [Array.toList_setIfInBounds, List.take_set, ht, evals_setS he]
/-- one name stored -/
theorem OwnE.set {w : World} {base g cap n : Nat} {l : List Ent} (h : OwnE w base (.slice (some ⟨g, 0, none⟩) n cap) l) {k : Nat} {e : Ent} (x : Ent) (he : l[k]? = some e) : OwnE ((w.setCell ⟨g, k * 2, none⟩ (.string x.s)).setCell ⟨g, k * 2 + 1, none⟩ (.int .i64 x.n)) base (.slice (some ⟨g, 0, none⟩) n cap) (l.set k x) := by
  have hk := (List.getElem?_eq_some_iff.1 he).1
  obtain ⟨g', cap', cur, hv, hb, hc, h1, h2, hs, ht⟩ := h.block (by omega)
  injection hv with hv hn hcc
  injection hv with hv
  injection hv with hv _ _
  subst hv hn hcc
  refine OwnE.of (by simp) hb ((hc.set _ _).set _ _) h1 h2 (by simp [hs]) ?_
  rw [Array.toList_setIfInBounds, Array.toList_setIfInBounds, List.take_set, List.take_set, ht, evals_set x he]
/-- the first names of it -/
theorem OwnE.first {w : World} {base g cap n : Nat} {l : List Ent} (h : OwnE w base (.slice (some ⟨g, 0, none⟩) n cap) l) (k : Nat) (hk : k ≤ n) (h0 : 0 < n) : OwnE w base (.slice (some ⟨g, 0, none⟩) k cap) (l.take k) := by
  have hl : 0 < l.length := by
    rcases h.2 with ⟨h1, _⟩ | ⟨_, _, _, h1, _⟩
    · cases h1
    · injection h1 with _ h1 _; omega
  obtain ⟨g', cap', cur, hv, hb, hc, h1, h2, hs, ht⟩ := h.block hl
  injection hv with hv hn hcc
  injection hv with hv
  injection hv with hv _ _
  subst hv hn hcc
  refine OwnE.of (by rw [List.length_take]; omega) hb hc (by omega) h2 hs ?_
  rw [evals_take, ← ht, List.take_take]
  congr 1; omega
end Go.Proofs.YtamndllolppmoaaGreat

namespace Go.Proofs.YtamndllolppmoaaGreat
open Wd Ino Go.RowKit Go.ChangeShapes Go.WideShapes Go.Sort
set_option linter.unusedVariables false
set_option maxRecDepth 100000

/-! a copy of a row of names, with texts of its own -/
theorem grown_below {w w1 w2 : World} (h : Below w.heap.size w w1) (k : ∃ q os, w2 = grow (w1.drewN q) os) : Below w.heap.size w w2 := by
  obtain ⟨q, os, rfl⟩ := k
  exact h.trans ((below_grow' w1 q os).mono h.size)
theorem grown_self {w w1 : World} (k : ∃ q os, w1 = grow (w.drewN q) os) : Below w.heap.size w w1 := by
  obtain ⟨q, os, rfl⟩ := k
  exact below_grow' w q os
def CopyRel (l : List Ent) (v : Value) (w : World) (i : Value) (wr : World) : Prop := ∃ k : Nat, k ≤ l.length ∧ i = .int .i64 k ∧ OwnE wr w.heap.size v l ∧ Below w.heap.size w wr
set_option maxHeartbeats 4000000 in
theorem dOwn {w : World} {hi : Nat} {A : Option Addr} {c : Nat} {l : List Ent} (h : Ens w hi A l) (hh : hi ≤ w.heap.size) (hm : l.length ≤ 1000) (hs : ∀ e ∈ l, e.s.size ≤ 1000) : Calls Tryz.prog 190 #[.slice A l.length c] w (MadeE l w) := by
  have HS := Lib.hid hs
  have K := Lib.hid (cloneE (c := c) rfl h hh (by omega))
  clear h hs
  go_enter Tryz.func190, Tryz.ntmps190
  go_wp2_with fail
  refine K.out.mono ?_
  rintro e1 w1 ⟨v, rfl, ho, hb⟩
  obtain ⟨A1, c1, rfl, _, _⟩ := ho.form
  have HO := Lib.hid ho; have HB := Lib.hid hb
  clear ho hb K
  go_wp2
  go_loopw [9] (fun i wr => CopyRel l (.slice A1 l.length c1) w i wr) (fun i _ => l.length - (intOf i).toNat)
  case atStart => exact ⟨0, Nat.zero_le _, rfl, HO.out, HB.out⟩
  case round =>
    obtain ⟨k, hk, rfl, hown, hb1⟩ := hrel
    have HO1 := Lib.hid hown; have HB1 := Lib.hid hb1
    clear hown hb1
    by_cases hlt : k < l.length
    · obtain ⟨e, he⟩ : ∃ e, l[k]? = some e := ⟨_, List.getElem?_eq_getElem hlt⟩
      obtain ⟨g, cap, hv, hbg, hgw, _, x0, x1, f0, f1⟩ := HO1.out.get he
      injection hv with hv1 _ hv3
      subst hv1 hv3
      have hlt2 : (k : Int) < (l.length : Int) := Int.ofNat_lt.2 hlt
      have KC := Lib.hid (cloneG e.s (by have := HS.out e (List.mem_of_getElem? he); omega))
      have HE := Lib.hid he
      have HG := Lib.hid hbg
      clear he hbg
      go_wp2_with fail
      refine (KC.out _).mono ?_
      rintro e1 w2 ⟨rfl, hw2⟩
      have HB0 := Lib.hid (grown_below ((Below.refl _ wr).alloc (Nat.le_refl _) (.cells (ecells e) 114)) hw2)
      have y0 : w2.cell? ⟨g, k * 2, none⟩ = some (.string e.s) := by rw [HB0.out.cell (p := ⟨g, k * 2, none⟩) hgw]; exact x0
      have z0 : w2.frozen? ⟨g, k * 2, none⟩ = false := by rw [HB0.out.frozen (p := ⟨g, k * 2, none⟩) hgw]; exact f0
      clear hw2 x0 x1 f0 f1
      go_wp2
      go_roundw
      case rel => exact ⟨k + 1, by omega, by go_num, (HO1.out.below HB0.out).setS HE.out, (HB1.out.trans (HB0.out.mono HB1.out.size)).setCell HG.out _⟩
      case measure => simp [intOf]; omega
    · obtain rfl : k = l.length := by omega
      go_wp2
      go_ret
      exact ⟨_, rfl, HO1.out, HB1.out⟩
end Go.Proofs.YtamndllolppmoaaGreat

namespace Go.Proofs.YtamndllolppmoaaGreat
open Wd Ino Go.RowKit Go.ChangeShapes Go.WideShapes Go.Sort
set_option linter.unusedVariables false
set_option maxRecDepth 100000

/-! the document's Find, PutEntry and DropEntry -/
/-- a row of names and a bool -/
def GivesE (l : List Ent) (b : Bool) (w : World) (e : Ending) (w' : World) : Prop := ∃ A c, e = .returned (.tuple #[.slice A l.length c, .bool b]) ∧ l.length ≤ c ∧ Ens w' w'.heap.size A l ∧ Below w.heap.size w w'
/-- .. and the row is its own -/
def GivesO (l : List Ent) (b : Bool) (w : World) (e : Ending) (w' : World) : Prop := ∃ A c, e = .returned (.tuple #[.slice A l.length c, .bool b]) ∧ l.length ≤ c ∧ OwnE w' w.heap.size (.slice A l.length c) l ∧ Below w.heap.size w w'
theorem GivesO.ens {l : List Ent} {b : Bool} {w w' : World} {e : Ending} (h : GivesO l b w e w') : GivesE l b w e w' := by
  obtain ⟨A, c, he, hc, ho, hb⟩ := h
  obtain ⟨A', c', hv, _, hx⟩ := ho.form
  injection hv with h1 h2 h3
  subst h1
  exact ⟨A, c, he, hc, hx, hb⟩
theorem ens_one {w : World} {g hi : Nat} {t : TypeId} {x : Ent} (h : Cells w g t (ecells x)) (hg : g < hi) : Ens w hi (some ⟨g, 0, none⟩) [x] := fun _ => by
  refine ⟨g, 0, rfl, hg, fun j e hj k y hk => ?_⟩
  have hj0 : j = 0 := by have := (List.getElem?_eq_some_iff.1 hj).1; simp at this; omega
  subst hj0
  cases hj
  rw [show 0 + (0 * 2 + k) = k by omega, h.cell k]
  match k, hk with
  | 0, hk => exact hk
  | 1, hk => exact hk
  | k + 2, hk => simp [ev] at hk
theorem below_two (w : World) (a b : Obj) : Below w.heap.size w ((w.alloc a).alloc b) := ((Below.refl _ w).alloc (Nat.le_refl _) a).alloc (by simp) b
theorem two_new (w : World) (o : Obj) (x : Ent) : Ens ((w.alloc o).alloc (.cells #[.string x.s, .int .i64 x.n] 114)) (w.heap.size + 2) (some ⟨w.heap.size + 1, 0, none⟩) [x] := by
  have h := ens_one (x := x) (hi := w.heap.size + 2) (Cells.new (w.alloc o) 114 (ecells x)) (by simp)
  simpa [ecells] using h
def FindRel (s : ByteArray) (l : List Ent) (w : World) (i : Value) (wr : World) : Prop := ∃ k : Nat, k ≤ l.length ∧ i = .int .i64 k ∧ (∀ x ∈ l.take k, nameIs s x = false) ∧ ∃ q os, wr = grow (w.drewN q) os
set_option maxHeartbeats 4000000 in
theorem rFind {w : World} {hi : Nat} {A : Option Addr} {c : Nat} {l : List Ent} (h : Ens w hi A l) (hh : hi ≤ w.heap.size) (hm : l.length ≤ 1000) (s : ByteArray) : Calls Tryz.prog 148 #[.slice A l.length c, .string s] w (Grows (.tuple #[.int .i64 (inoN s l), .bool (hasN s l)]) w) := by
  have H := Lib.hid h
  clear h
  go_enter Tryz.func148, Tryz.ntmps148
  go_wp2
  go_loopw [10] (fun i wr => FindRel s l w i wr) (fun i _ => l.length - (intOf i).toNat)
  case atStart => exact ⟨0, Nat.zero_le _, rfl, by simp, grow_none _⟩
  case round =>
    obtain ⟨k, hk, rfl, hno, hgr⟩ := hrel
    have HNO := Lib.hid hno; have HG := Lib.hid hgr
    have hb := (Grows.below (e := .returned (.bool true)) ⟨rfl, hgr⟩).2
    have HB := Lib.hid hb
    clear hno hgr hb
    by_cases hlt : k < l.length
    · obtain ⟨e, he⟩ : ∃ e, l[k]? = some e := ⟨_, List.getElem?_eq_getElem hlt⟩
      obtain ⟨bl, off, rfl, hbB, x0, x1⟩ := ens_cells (H.out.below (HB.out.mono hh)) he
      have hlt2 : (k : Int) < (l.length : Int) := Int.ofNat_lt.2 hlt
      have HE := Lib.hid he
      clear he
      cases hn : nameIs s e with
      | true =>
        have q0 : (e.s.toList == s.toList) = true := hn
        have HR := Lib.hid (look_yes HNO.out HE.out hn)
        clear hn
        go_wp2
        go_ret2
        exact ⟨by rw [HR.out.1, HR.out.2.2]; rfl, grow_alloc HG.out _⟩
      | false =>
        have q0 : (e.s.toList == s.toList) = false := hn
        have HN := Lib.hid (none_snoc HE.out HNO.out hn)
        clear hn
        go_wp2
        go_roundw
        case rel => exact ⟨k + 1, by omega, by go_num, HN.out, grow_alloc HG.out _⟩
        case measure => simp [intOf]; omega
    · obtain rfl : k = l.length := by omega
      have hno := HNO.out
      rw [List.take_length] at hno
      have HR := Lib.hid (look_no hno)
      clear hno
      go_wp2
      go_ret2
      exact ⟨by rw [HR.out.1, HR.out.2.2]; rfl, HG.out⟩

def DropRel (s : ByteArray) (l : List Ent) (w : World) (v i : Value) (wr : World) : Prop := ∃ k : Nat, k ≤ l.length ∧ i = .int .i64 k ∧ OwnE wr w.heap.size v (dropN s (l.take k)) ∧ Below w.heap.size w wr
theorem dropN_snoc {s : ByteArray} {l : List Ent} {k : Nat} {e : Ent} (he : l[k]? = some e) : dropN s (l.take (k + 1)) = dropN s (l.take k) ++ (if nameIs s e then [] else [e]) := by
  rw [take_snoc he]
  unfold dropN
  rw [List.filter_append, List.filter_cons]
  cases nameIs s e <;> rfl
set_option maxHeartbeats 4000000 in
theorem rDropO {w : World} {hi : Nat} {A : Option Addr} {c : Nat} {l : List Ent} (h : Ens w hi A l) (hh : hi ≤ w.heap.size) (hm : l.length ≤ 1000) (s : ByteArray) : Calls Tryz.prog 182 #[.slice A l.length c, .string s] w (GivesO (dropN s l) (hasN s l) w) := by
  have H := Lib.hid h
  clear h
  go_enter Tryz.func182, Tryz.ntmps182
  go_wp2
  go_loopw [6, 11] (fun v i wr => DropRel s l w v i wr) (fun _ i _ => l.length - (intOf i).toNat)
  case atStart => exact ⟨0, Nat.zero_le _, rfl, by rw [List.take_zero]; exact own_nilE _ _, Below.refl _ _⟩
  case round =>
    obtain ⟨k, hk, rfl, ho, hb⟩ := hrel
    have HO := Lib.hid ho; have HB := Lib.hid hb
    clear ho hb
    by_cases hlt : k < l.length
    · obtain ⟨e, he⟩ : ∃ e, l[k]? = some e := ⟨_, List.getElem?_eq_getElem hlt⟩
      obtain ⟨bl, off, rfl, hbB, x0, x1⟩ := ens_cells (H.out.below (HB.out.mono hh)) he
      have hlt2 : (k : Int) < (l.length : Int) := Int.ofNat_lt.2 hlt
      have HE := Lib.hid he
      clear he
      cases hn : nameIs s e with
      | true =>
        have q0 : (e.s.toList == s.toList) = true := hn
        have HN := Lib.hid (show dropN s (l.take (k + 1)) = dropN s (l.take k) by rw [dropN_snoc HE.out, hn]; simp)
        clear hn
        go_wp2
        go_roundw
        case rel => exact ⟨k + 1, by omega, by go_num, by rw [HN.out]; exact HO.out.below ((Below.refl _ _).alloc (Nat.le_refl _) _), HB.out.alloc HB.out.size _⟩
        case measure => simp [intOf]; omega
      | false =>
        have q0 : (e.s.toList == s.toList) = false := hn
        have HN := Lib.hid (show dropN s (l.take (k + 1)) = dropN s (l.take k) ++ [e] by rw [dropN_snoc HE.out, hn]; simp)
        have HL := Lib.hid (show (dropN s (l.take k)).length + [e].length ≤ 100000 by have := dropN_len s (l.take k); rw [List.length_take] at this; simp; omega)
        have hb2 := below_two wr (.cells (ecells e) 114) (.cells (ecells e) 114)
        have ho2 := HO.out.below hb2
        have hz := Nat.le_trans HB.out.size hb2.size
        have HX := Lib.hid (two_new wr (.cells (ecells e) 114) e)
        unfold ecells at hb2 ho2 hz HX
        have HB2 := Lib.hid hb2; have HO2 := Lib.hid ho2; have HZ := Lib.hid hz
        clear hn hb2 ho2 hz
        go_wp2_with (at_builtin; refine wpList_append_ens (m := [e]) rfl (.tmp 19) (.tmp 21) rfl rfl rfl HO2.out HX.out HL.out HZ.out ?_; intro v5 w5 hown5 hgr5 hat5; have HO5 := Lib.hid hown5; have HG5 := Lib.hid hgr5; clear hown5 hgr5 hat5)
        go_roundw
        case rel => exact ⟨k + 1, by omega, by go_num, by rw [HN.out]; exact HO5.out, (HB.out.trans (HB2.out.mono HB.out.size)).grown HG5.out HZ.out (ownE_base HO2.out)⟩
        case measure => simp [intOf]; omega
    · obtain rfl : k = l.length := by omega
      have ho := HO.out
      rw [List.take_length] at ho
      obtain ⟨A1, c1, rfl, hc, hx⟩ := ho.form
      have HX := Lib.hid ho
      have HD := Lib.hid (drop_less s l)
      have HQ := Lib.hid (show decide (((dropN s l).length : Int) < (l.length : Int)) = decide ((dropN s l).length < l.length) by simp)
      obtain ⟨d, hd⟩ : ∃ d, (dropN s l).length = d := ⟨_, rfl⟩
      have HDN := Lib.hid hd
      rw [hd] at HD HQ
      rw [hd]
      clear ho hx hd HO
      go_wp2
      go_ret2
      exact ⟨A1, c1, by rw [HDN.out, ← HD.out]; rfl, hc, HX.out, HB.out⟩
theorem rDrop {w : World} {hi : Nat} {A : Option Addr} {c : Nat} {l : List Ent} (h : Ens w hi A l) (hh : hi ≤ w.heap.size) (hm : l.length ≤ 1000) (s : ByteArray) : Calls Tryz.prog 182 #[.slice A l.length c, .string s] w (GivesE (dropN s l) (hasN s l) w) := (rDropO h hh hm s).mono fun _ _ k => k.ens
end Go.Proofs.YtamndllolppmoaaGreat
