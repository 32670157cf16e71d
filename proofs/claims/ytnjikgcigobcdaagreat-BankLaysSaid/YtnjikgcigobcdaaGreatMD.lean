import Derived.ProofKit
import Derived.OpenShut
import Derived.Carry
import Derived.SizedLaws
import Derived.Deep.Slices
import Derived.Deep.Grids
import Derived.Lib.SmallJoins
import Derived.Laws.Cover2
import Derived.Test.YtnjikgcigobcdaaGreatMA
import Derived.Deep.Fields
import Derived.ChangeSame
import Derived.Test.YtnjikgcigobcdaaGreatMC
import Derived.Deep.RegionHeld3

namespace Wd
open Go Go.RowKit Go.ChangeShapes Go.WideShapes Go.ChangeAt

section
variable {H : Type} {enc : TypeId × Value → H} {P : Program}

/-- every argument reads in a world that has grown as it did -/
theorem trodAll_below (hl : laidOutB P = true) {W W' : World} (hb : Below W.heap.size W W') : ∀ {ts : List TypeId} {vs : List Value} {ds : List (DataW H)} {ps : List MemPlace},
    (∀ t ∈ ts, P.readableRec t = true ∧ t < P.types.size) → DataW.TrodAll enc P W 0 (fun _ => true) true ts vs ds ps → (∀ x ∈ ps, x.block < W.heap.size) →
    DataW.TrodAll enc P W' 0 (fun b => decide (b < W.heap.size)) true ts vs ds ps := by
  intro ts
  induction ts with
  | nil =>
    intro vs ds ps _ h _
    cases vs <;> cases ds <;> simp [DataW.TrodAll] at h ⊢
    exact h
  | cons t ts ih =>
    intro vs ds ps hr h hlt
    obtain ⟨v, vs', d, ds', p, q, rfl, rfl, rfl, hd, hrest⟩ := trodAll_cons h
    have h1 := hr t (by simp)
    exact trodAll_cons_mk (Below.trod hl h1.1 h1.2 hd hb (fun x hx => hlt x (by simp [hx]))) (ih (fun t' ht => hr t' (by simp [ht])) hrest (fun x hx => hlt x (by simp [hx])))

/-- a law's post: it answers true, and nothing that was there has turned -/
theorem law_post {f : Func} {s : ChangeSpec} {W W' : World} {args : Array Value} {ds gs : List (DataW H)} {before : List MemPlace} {tb : TypeId}
    (hl : laidOutB P = true) (hr : ∀ t ∈ f.params.toList, P.readableRec t = true ∧ t < P.types.size) (ht : f.resultTypes = #[tb]) (hu : P.underlying tb = some .bool) (hv : s.vars = [])
    (e1 : (s.fn H (ds ++ gs)).results = [.lit (.bool true)]) (e2 : (s.fn H (ds ++ gs)).args = ds) (e3 : (s.fn H (ds ++ gs)).vars = [])
    (hW : DataW.Whole enc P f.params.toList s.vars false W args.toList ds gs before) (hb : Below W.heap.size W W') :
    s.post enc P f false true false false W args (.bool true) W' := by
  have hlt : ∀ p ∈ before, p.block < W.heap.size := fun p hp => hW.lt p hp
  have hW' := hW
  obtain ⟨p, q, hA, hV, rfl, _, _⟩ := hW'
  rw [hv] at hV
  obtain ⟨_, rfl⟩ := trodVars_none hV
  refine ⟨ds, gs, _, [], p, [], hW, ?_, ?_, ?_, hb.frame _, fun h => by cases h⟩
  · rw [e1, ht]
    exact trodAll_cons_mk (shut_bool hu _) trodAll_mk0
  · rw [e2]
    exact trodAll_below hl hb hr hA (fun x hx => hlt x (by simp [hx]))
  · rw [e3, hv]
    rfl
variable {w : World} {base : Nat} {spare : Nat → Bool} {held : Bool}

theorem trod_float {t : TypeId} {k : FloatKind} {fuel : Nat} {cs : List Value} {x : DataW H × List MemPlace} (ht : P.underlying t = some (.float k)) (h : DataW.trod enc P w base spare held fuel t cs = some x) :
    ∃ b, cs = [.float k b] ∧ x = (.lit (.float k b), []) ∧ (Lit.float k b).wf = true := by
  cases fuel with
  | zero => simp [DataW.trod] at h
  | succ n =>
    unfold DataW.trod at h
    simp only [ht] at h
    split at h <;> simp_all

/-- a slice of one-cell elements, opened as a row -/
theorem open_row {α : Type} [Inhabited α] {f : α → Value} {ok : α → Prop} {r : Reach} {b0 : Nat} {t e : TypeId} {v : Value} {d : DataW H} {p : List MemPlace} (ht : P.underlying t = some (.slice e)) (hc : P.cellsOf e = 1)
    (hel : ∀ n v x, DataW.trod enc P w base spare held n e [v] = some x → ∃ y, v = f y ∧ ok y)
    (hv : Value.okWide P w r b0 t v) (h : DataW.Trod enc P w base spare held t v d p) :
    ∃ (A : Option Addr) (c : Nat) (l : List α), v = .slice A l.length c ∧ Row w w.heap.size A l.length (l.map f) ∧ (∀ y ∈ l, ok y) ∧ l.length ≤ maxLen := by
  obtain ⟨a0, len, cap, rfl⟩ := okWide_slice ht hv
  obtain ⟨fuel, hf⟩ := h
  rcases Go.Deep.open_slice1 ht hc hf with ⟨hcs, _⟩ | ⟨a, len', cap', m, n, V, D, Pl, hcs, _, hl, hm, hmm, _, hx⟩
  · simp [Value.cells] at hcs
    obtain ⟨rfl, rfl, rfl⟩ := hcs
    exact ⟨none, 0, [], rfl, Row.nil, (by simp), by simp⟩
  · simp [Value.cells] at hcs
    obtain ⟨rfl, rfl, rfl⟩ := hcs
    have hle : len ≤ m := by rw [hmm]; split <;> omega
    have each : ∀ i, i < len → ∃ y, V i = f y ∧ ok y := fun i hi => hel _ _ _ (hx i (by omega)).2
    obtain ⟨Y, hY⟩ := Go.Deep.choose_lt (n := len) (p := fun i y => V i = f y ∧ ok y) each
    refine ⟨some a, cap, (List.range len).map Y, by simp, ⟨by simp, fun hn => ?_⟩, ?_, by simp; omega⟩
    · simp only [List.length_map, List.length_range] at hn
      obtain ⟨b, off, spot⟩ := a
      have hc0 := (hx 0 (by omega)).1
      have hs : spot = none := by simpa [Addr.add] using World.cell?_spot hc0
      subst hs
      refine ⟨b, off, rfl, ?_, fun j hj => ?_⟩
      · simpa [Addr.add] using World.block_lt_of_cell? _ _ hc0
      · simp at hj
        have := (hx j (by omega)).1
        rw [(hY j hj).1] at this
        have e : (⟨b, off, none⟩ : Addr).add j = ⟨b, off + j, none⟩ := by unfold Addr.add; split <;> simp_all
        rw [e] at this
        simpa using this
    · intro y hy
      obtain ⟨i, hi, rfl⟩ := List.mem_map.1 hy
      exact (hY i (List.mem_range.1 hi)).2
end
end Wd

namespace Wd
open Go Go.RowKit Go.ChangeShapes Go.WideShapes Go.ChangeAt Go.Deep

section
variable {H : Type} {enc : TypeId × Value → H} {P : Program} {w : World} {base : Nat} {spare : Nat → Bool} {held : Bool}

theorem add_at {b off k : Nat} {spot : Option Nat} (hs : spot = none) : (⟨b, off, spot⟩ : Addr).add k = ⟨b, off + k, none⟩ := by
  subst hs; unfold Addr.add; split <;> simp_all

/-- a field's value, read as a slice of one-cell elements: a row -/
theorem row_of_trod {α : Type} [Inhabited α] {f : α → Value} {ok : α → Prop} {t e : TypeId} {v : Value} {m : Nat} {x : DataW H × List MemPlace} (ht : P.underlying t = some (.slice e)) (hc : P.cellsOf e = 1)
    (hel : ∀ n v x, DataW.trod enc P w base spare held n e [v] = some x → ∃ y, v = f y ∧ ok y) (h : DataW.trod enc P w base spare held m t [v] = some x) :
    ∃ (A : Option Addr) (c : Nat) (l : List α), v = .slice A l.length c ∧ Row w w.heap.size A l.length (l.map f) ∧ (∀ y ∈ l, ok y) ∧ l.length ≤ c ∧ c ≤ maxLen := by
  rcases open_slice1 ht hc h with ⟨hcs, _⟩ | ⟨a, len, cap, m', n, V, D, Pl, hcs, _, hl, hm, hmm, _, hx⟩
  · obtain rfl := (List.cons.inj hcs).1
    exact ⟨none, 0, [], rfl, Row.nil, by simp, by simp, by simp⟩
  · obtain rfl := (List.cons.inj hcs).1
    have hle : len ≤ m' := by rw [hmm]; split <;> omega
    obtain ⟨Y, hY⟩ := choose_lt (n := len) (p := fun i y => V i = f y ∧ ok y) (fun i hi => hel _ _ _ (hx i (by omega)).2)
    refine ⟨some a, cap, (List.range len).map Y, by simp, ⟨by simp, fun hn => ?_⟩, ?_, by simp; omega, hm⟩
    · simp only [List.length_map, List.length_range] at hn
      obtain ⟨b, off, spot⟩ := a
      have hc0 := (hx 0 (by omega)).1
      have hs : spot = none := by simpa [Addr.add] using World.cell?_spot hc0
      refine ⟨b, off, by rw [hs], ?_, fun j hj => ?_⟩
      · simpa [Addr.add] using World.block_lt_of_cell? _ _ hc0
      · simp at hj
        have := (hx j (by omega)).1
        rw [(hY j hj).1, add_at hs] at this
        simpa using this
    · intro y hy
      obtain ⟨i, hi, rfl⟩ := List.mem_map.1 hy
      exact (hY i (List.mem_range.1 hi)).2

/-- a slice of structs of one-cell fields: each field of each element -/
theorem open_structs {r : Reach} {b0 : Nat} {t e : TypeId} {fs : Array Field} {v : Value} {d : DataW H} {p : List MemPlace} (ht : P.underlying t = some (.slice e)) (he : P.underlying e = some (.struct fs)) (hone : oneCellFields P fs = true) (hC : P.cellsOf e = fs.size) (hpos : 0 < fs.size)
    (hv : Value.okWide P w r b0 t v) (h : DataW.Trod enc P w base spare held t v d p) :
    ∃ (A : Option Addr) (len cap : Nat), v = .slice A len cap ∧ len ≤ cap ∧ cap ≤ maxLen ∧ (0 < len → ∃ b off, A = some ⟨b, off, none⟩ ∧ b < w.heap.size ∧
      ∀ i, i < len → ∃ n, ∀ (j : Nat) (f : Field), fs[j]? = some f → ∃ (u : Value) (y : DataW H × List MemPlace), w.cell? ⟨b, off + (i * fs.size + j), none⟩ = some u ∧ DataW.trod enc P w base spare held n f.type [u] = some y) := by
  obtain ⟨a0, len0, cap0, rfl⟩ := okWide_slice ht hv
  obtain ⟨fuel, hf⟩ := h
  rcases open_slice ht hf with ⟨hcs, _⟩ | ⟨a, len, cap, m, n, D, Pl, hcs, _, hl, hm, hmm, _, hi⟩
  · obtain ⟨rfl, rfl, rfl⟩ : a0 = _ ∧ len0 = _ ∧ cap0 = _ := by simpa [Value.cells] using hcs
    exact ⟨none, 0, 0, rfl, Nat.le_refl _, by simp, fun h => absurd h (by omega)⟩
  · obtain ⟨rfl, rfl, rfl⟩ : a0 = _ ∧ len0 = _ ∧ cap0 = _ := by simpa [Value.cells] using hcs
    have hle : len0 ≤ m := by rw [hmm]; split <;> omega
    have each : ∀ i, i < len0 → ∃ n, ∀ (j : Nat) (f : Field), fs[j]? = some f → ∃ (u : Value) (y : DataW H × List MemPlace), w.cell? (a.add (i * fs.size + j)) = some u ∧ DataW.trod enc P w base spare held n f.type [u] = some y := by
      intro i hil
      obtain ⟨cs', h1, h2⟩ := hi i (by omega)
      rw [hC] at h1
      obtain ⟨ys, n', _, _, hlen, hyl, hg⟩ := DataW.trod_struct he h2
      obtain ⟨_, hcl, hat⟩ := World.cells?_some h1
      refine ⟨n', fun j f hj => ?_⟩
      obtain ⟨ho, hk⟩ := hone_of hone j f hj
      have hjl : j < fs.size := (Array.getElem?_eq_some_iff.1 hj).1
      have h3 := hg j f hj
      rw [ho, hk, show (cs'.drop j).take 1 = [cs'[j]'(by omega)] from by rw [List.drop_eq_getElem_cons (by omega)]; rfl] at h3
      have hys : ys[j]? = some (ys[j]'(by omega)) := List.getElem?_eq_getElem (by omega)
      refine ⟨cs'[j]'(by omega), _, ?_, h3.trans hys⟩
      have := hat j hjl
      rw [add_add] at this
      rw [this, List.getElem?_eq_getElem (by omega)]
    refine ⟨some a, len0, cap0, rfl, hl, hm, fun hn => ?_⟩
    obtain ⟨b, off, spot⟩ := a
    obtain ⟨f0, hf0⟩ : ∃ f, fs[0]? = some f := ⟨_, Array.getElem?_eq_getElem hpos⟩
    obtain ⟨n0, hx⟩ := each 0 hn
    obtain ⟨u, y, hc0, _⟩ := hx 0 f0 hf0
    have hs : spot = none := by simpa [Addr.add] using World.cell?_spot hc0
    refine ⟨b, off, by rw [hs], by simpa [Addr.add] using World.block_lt_of_cell? _ _ hc0, fun i hil => ?_⟩
    obtain ⟨n1, hx⟩ := each i hil
    refine ⟨n1, fun j f hj => ?_⟩
    obtain ⟨u, y, h1, h2⟩ := hx j f hj
    rw [add_at hs] at h1
    exact ⟨u, y, h1, h2⟩
end
end Wd

namespace Go.Proofs.YtnjikgcigobcdaaGreat
open Wd Pm Go.Maps Go.RowKit Go.ChangeShapes Go.WideShapes Go.ChangeAt Go.Deep
set_option linter.unusedVariables false

/-- something that is done, as the statement's argument holds it -/
structure Deed where
  kind : Int
  i : Int
  v : Int
  A : Option Addr
  cp : Nat
  keep : List Bool
instance : Inhabited Deed := ⟨⟨0, 0, 0, none, 0, []⟩⟩
def Deed.vals (d : Deed) : Array Value := #[.int .i64 d.kind, .int .i64 d.i, .int .u64 d.v, .slice d.A d.keep.length d.cp]
structure Deed.Ok (d : Deed) (w : World) (B : Nat) : Prop where
  kind : (Lit.int .i64 d.kind).wf = true
  i : (Lit.int .i64 d.i).wf = true
  v : U64 d.v
  row : Row w B d.A d.keep.length (d.keep.map Value.bool)
  le : d.keep.length ≤ maxLen
/-- deeds in a row -/
structure Deeds (w : World) (B : Nat) (A : Option Addr) (l : List Deed) : Prop where
  at_ : 0 < l.length → ∃ b off, A = some ⟨b, off, none⟩ ∧ b < B ∧ ∀ (j : Nat) (d : Deed), l[j]? = some d → ∀ (k : Nat) (x : Value), d.vals[k]? = some x → w.cell? ⟨b, off + (j * 4 + k), none⟩ = some x
  ok : ∀ d ∈ l, d.Ok w B
theorem Deed.Ok.below {d : Deed} {w w' : World} {B : Nat} (h : d.Ok w B) (hb : Below B w w') : d.Ok w' B := ⟨h.kind, h.i, h.v, h.row.below hb, h.le⟩
theorem Deeds.below {w w' : World} {B : Nat} {A : Option Addr} {l : List Deed} (h : Deeds w B A l) (hb : Below B w w') : Deeds w' B A l :=
  ⟨fun hn => by
    obtain ⟨b, off, e, hB, hx⟩ := h.at_ hn
    exact ⟨b, off, e, hB, fun j d hj k x hk => (hb.cell (p := ⟨b, _, none⟩) hB).trans (hx j d hj k x hk)⟩, fun d hd => (h.ok d hd).below hb⟩

set_option maxRecDepth 100000 in
theorem open_deeds {H : Type} {enc : TypeId × Value → H} {w : World} {base : Nat} {spare : Nat → Bool} {held : Bool} {r : Reach} {b0 : Nat} {v : Value} {d : DataW H} {p : List MemPlace}
    (hv : Value.okWide Tryz.prog w r b0 22 v) (h : DataW.Trod enc Tryz.prog w base spare held 22 v d p) :
    ∃ (A : Option Addr) (c : Nat) (l : List Deed), v = .slice A l.length c ∧ Deeds w w.heap.size A l ∧ l.length ≤ maxLen := by
  obtain ⟨A, len, cap, rfl, h1, h2, h3⟩ := open_structs Tryz.underlying22 Tryz.underlying34 (by kernel_rfl) (by kernel_rfl) (by decide) hv h
  by_cases hn : 0 < len
  · obtain ⟨b, off, rfl, hb, hx⟩ := h3 hn
    have each : ∀ i, i < len → ∃ d : Deed, (∀ (k : Nat) (x : Value), d.vals[k]? = some x → w.cell? ⟨b, off + (i * 4 + k), none⟩ = some x) ∧ d.Ok w w.heap.size := by
      intro i hi
      obtain ⟨n, hy⟩ := hx i hi
      obtain ⟨u0, y0, c0, t0⟩ := hy 0 _ rfl
      obtain ⟨u1, y1, c1, t1⟩ := hy 1 _ rfl
      obtain ⟨u2, y2, c2, t2⟩ := hy 2 _ rfl
      obtain ⟨u3, y3, c3, t3⟩ := hy 3 _ rfl
      obtain ⟨a0, z0, _, w0⟩ := DataW.trod_int Tryz.underlying3 t0
      obtain ⟨a1, z1, _, w1⟩ := DataW.trod_int Tryz.underlying3 t1
      obtain ⟨a2, z2, _, w2⟩ := DataW.trod_int Tryz.underlying31 t2
      obtain rfl := (List.cons.inj z0).1
      obtain rfl := (List.cons.inj z1).1
      obtain rfl := (List.cons.inj z2).1
      obtain ⟨A3, cp3, l3, rfl, r3, _, q1, q2⟩ := row_of_trod (f := Value.bool) (ok := fun _ => True) Tryz.underlying32 (by kernel_rfl) (fun n v x h => by obtain ⟨b, hb, _⟩ := DataW.trod_bool Tryz.underlying4 h; exact ⟨b, (List.cons.inj hb).1, trivial⟩) t3
      refine ⟨⟨a0, a1, a2, A3, cp3, l3⟩, ?_, ⟨w0, w1, w2, r3, Nat.le_trans q1 q2⟩⟩
      intro k x hk
      match k, hk with
      | 0, hk => cases hk; exact c0
      | 1, hk => cases hk; exact c1
      | 2, hk => cases hk; exact c2
      | 3, hk => cases hk; exact c3
      | k + 4, hk => simp [Deed.vals] at hk
    obtain ⟨Y, hY⟩ := choose_lt (n := len) (p := fun i (d : Deed) => (∀ (k : Nat) (x : Value), d.vals[k]? = some x → w.cell? ⟨b, off + (i * 4 + k), none⟩ = some x) ∧ d.Ok w w.heap.size) each
    refine ⟨_, cap, (List.range len).map Y, by simp, ⟨fun _ => ⟨b, off, rfl, hb, fun j d hj k x hk => ?_⟩, fun d hd => ?_⟩, by simp; exact Nat.le_trans h1 h2⟩
    · obtain ⟨hj1, hj2⟩ := List.getElem?_eq_some_iff.1 hj
      simp at hj1 hj2
      subst hj2
      exact (hY j hj1).1 k x hk
    · obtain ⟨i, hi, rfl⟩ := List.mem_map.1 hd
      exact (hY i (List.mem_range.1 hi)).2
  · obtain rfl : len = 0 := by omega
    exact ⟨A, cap, [], rfl, ⟨fun h => absurd h (by simp), fun d hd => by cases hd⟩, by simp⟩

/-! whether deeds are few -/
def fewB (l : List Deed) : Bool := l.all (fun d => decide (d.keep.length ≤ 60)) && decide (l.length ≤ 60)
def FewRel (w : World) (l : List Deed) (i : Value) (wr : World) : Prop := ∃ k : Nat, k ≤ l.length ∧ i = .int .i64 k ∧ (∀ d ∈ l.take k, d.keep.length ≤ 60) ∧ Below w.heap.size w wr
def RetB (w : World) (b : Bool) (e : Ending) (w' : World) : Prop := e = .returned (.bool b) ∧ Below w.heap.size w w'

set_option maxRecDepth 100000 in
theorem few_any {w : World} {A : Option Addr} {c : Nat} {l : List Deed} (h : Deeds w w.heap.size A l) (hm : l.length ≤ maxLen) : Calls Tryz.prog 5 #[.slice A l.length c] w (RetB w (fewB l)) := by
  unfold maxLen at hm
  go_enter Tryz.func5, Tryz.ntmps5
  go_wp2
  go_loopw [7] (fun i wr => FewRel w l i wr) (fun i _ => l.length - (intOf i).toNat)
  case atStart => exact ⟨0, Nat.zero_le _, rfl, by simp, Below.refl _ _⟩
  case round =>
    obtain ⟨k, hk, rfl, hall, hb⟩ := hrel
    by_cases hlt : k < l.length
    · obtain ⟨d, hd⟩ : ∃ d, l[k]? = some d := ⟨_, List.getElem?_eq_getElem hlt⟩
      have hD := h.below hb
      obtain ⟨b, off, rfl, hbB, hx⟩ := hD.at_ (by omega)
      have ok := hD.ok d (List.mem_of_getElem? hd)
      have x0 : wr.cell? ⟨b, off + k * 4, none⟩ = some (.int .i64 d.kind) := hx k d hd 0 _ rfl
      have x1 : wr.cell? ⟨b, off + k * 4 + 1, none⟩ = some (.int .i64 d.i) := hx k d hd 1 _ rfl
      have x2 : wr.cell? ⟨b, off + k * 4 + 2, none⟩ = some (.int .u64 d.v) := hx k d hd 2 _ rfl
      have x3 : wr.cell? ⟨b, off + k * 4 + 3, none⟩ = some (.slice d.A d.keep.length d.cp) := hx k d hd 3 _ rfl
      have hle := ok.le
      unfold maxLen at hle
      have HB := Lib.hid hb
      have HA := Lib.hid hall
      have HD := Lib.hid hd
      clear hx hD hb hall hd ok
      by_cases h60 : d.keep.length ≤ 60
      · have hq : decide (60 < d.keep.length) = false := by simp; omega
        have hq' : decide ((d.keep.length : Int) > 60) = false := by simp; omega
        have H60 := Lib.hid h60
        clear h60
        go_wp2
        go_roundw
        case rel =>
          refine ⟨k + 1, by omega, by go_num, ?_, ?_⟩
          · rw [take_snoc' HD.out]
            intro x hx
            rcases List.mem_append.1 hx with h | h
            · exact HA.out x h
            · simp at h; subst h; exact H60.out
          · exact HB.out.alloc HB.out.size _
        case measure => simp [intOf]; omega
      · have hq' : decide ((d.keep.length : Int) > 60) = true := by simp; omega
        have e : fewB l = false := by
          unfold fewB
          rw [Bool.and_eq_false_iff]
          left
          rw [List.all_eq_false]
          exact ⟨d, List.mem_of_getElem? HD.out, by simpa using h60⟩
        have HE := Lib.hid e
        clear h60 e
        go_wp2
        go_ret
        exact ⟨by rw [HE.out]; rfl, HB.out.alloc HB.out.size _⟩
    · obtain rfl : k = l.length := by omega
      have e : fewB l = decide (l.length ≤ 60) := by
        unfold fewB
        rw [List.all_eq_true.2 (fun d hd => by simpa using hall d (by rw [List.take_of_length_le (Nat.le_refl _)]; exact hd)), Bool.true_and]
      have HE := Lib.hid e
      have HB := Lib.hid hb
      clear hb hall e h
      by_cases h60 : l.length ≤ 60
      · have hq : decide ((l.length : Int) ≤ 60) = true := by simp; omega
        have hq' : decide (l.length ≤ 60) = true := by simp; omega
        have HQ := Lib.hid hq'
        clear hq'
        go_wp2
        go_ret
        exact ⟨by rw [HE.out, HQ.out]; rfl, HB.out⟩
      · have hq : decide ((l.length : Int) ≤ 60) = false := by simp; omega
        have hq' : decide (l.length ≤ 60) = false := by simp; omega
        have HQ := Lib.hid hq'
        clear hq'
        go_wp2
        go_ret
        exact ⟨by rw [HE.out, HQ.out]; rfl, HB.out⟩
end Go.Proofs.YtnjikgcigobcdaaGreat

namespace Go.Proofs.YtnjikgcigobcdaaGreat
open Wd Pm Go.Maps Go.RowKit
set_option linter.unusedVariables false

/-! Do, whatever both devices do -/
abbrev Steps := World → World → Prop
/-- a deed's variable stays -/
def KeepsDeed (R : Steps) : Prop := ∀ (w w' : World) (g : Nat) (cs : Array Value), R w w' → Cells w g 34 cs → Cells w' g 34 cs
/-- both did it: one, then the other -/
def Did {α : Type} (R1 : Steps) (R2 : α → Steps) (w : World) (g : α → Bool) (e : Ending) (w' : World) : Prop := ∃ v w1 w2, e = .returned (.bool (g v)) ∧ Below w.heap.size w w1 ∧ R1 w1 w2 ∧ R2 v w2 w'
/-- it returns v -/
def Gives (v : Value) (R : Steps) (w : World) (e : Ending) (w' : World) : Prop := e = .returned v ∧ R w w'
def GivesSome {α : Type} (f : α → Value) (R : α → Steps) (w : World) (e : Ending) (w' : World) : Prop := ∃ v, e = .returned (f v) ∧ R v w w'

set_option maxRecDepth 100000 in
set_option maxHeartbeats 2000000 in
theorem do_flush {w : World} (i v : Int) (D X : Nat) (keep : Value) {R1 : Steps} {R2 : Int → Steps} {er : Int} (hk : KeepsDeed R1) (hk2 : ∀ v, KeepsDeed (R2 v))
    (h1 : ∀ w1, Below w.heap.size w w1 → Calls Tryz.prog 23 #[.pointer (some ⟨D, 0, none⟩), .int .i64 i] w1 (Gives (.int .i64 er) R1 w1))
    (h2 : ∀ w1 w2, Below w.heap.size w w1 → R1 w1 w2 → Calls Tryz.prog 24 #[.pointer (some ⟨X, 0, none⟩), .int .i64 i] w2 (GivesSome (α := Int) (.int .i64 ·) R2 w2)) :
    Calls Tryz.prog 9 #[.pointer (some ⟨D, 0, none⟩), .pointer (some ⟨X, 0, none⟩), .agg #[.int .i64 1, .int .i64 i, .int .u64 v, keep]] w (Did R1 R2 w (fun b => er == b)) := by
  have k0 := Cells.new w 34 #[.int .i64 1, .int .i64 i, .int .u64 v, keep]
  have c1 : (w.alloc (.cells #[.int .i64 1, .int .i64 i, .int .u64 v, keep] 34)).cell? ⟨w.heap.size, 1, none⟩ = some (.int .i64 i) := k0.cell 1
  have k0d : Cells (w.alloc (.cells #[.int .i64 1, .int .i64 i, .int .u64 v, keep] 34)).drew w.heap.size 34 #[.int .i64 1, .int .i64 i, .int .u64 v, keep] := k0
  have b0 : Below w.heap.size w (w.alloc (.cells #[.int .i64 1, .int .i64 i, .int .u64 v, keep] 34)).drew := below_drewN ((Below.refl _ _).alloc (Nat.le_refl _) _) 1
  have h1' := h1 _ b0
  have KD := Lib.hid k0d
  have HB := Lib.hid b0
  clear k0 k0d b0
  go_enter Tryz.func9, Tryz.ntmps9
  go_wp2
  have c1d : (w.alloc (.cells #[.int .i64 1, .int .i64 i, .int .u64 v, keep] 34)).drew.cell? ⟨w.heap.size, 1, none⟩ = some (.int .i64 i) := KD.out.cell 1
  go_region_held3 (fun w' => w'.cell? ⟨w.heap.size, 1, none⟩ = some (.int .i64 i))
    (first | exact c1d | exact c11 | exact c21)
    (first
      | (go_at_call 23; (with_reducible refine h1'.mono ?_); rintro e w1 ⟨rfl, r1⟩; have K1 := hk _ _ _ _ r1 KD.out; have c11 : w1.cell? ⟨w.heap.size, 1, none⟩ = some (.int .i64 i) := K1.cell 1)
      | (go_at_call 24; (with_reducible refine (h2 _ _ HB.out r1).mono ?_); rintro e w2 ⟨v2, rfl, r2⟩; have c21 : w2.cell? ⟨w.heap.size, 1, none⟩ = some (.int .i64 i) := (hk2 _ _ _ _ _ r2 K1).cell 1))
  all_goals
    go_wp2
    go_ret
    exact ⟨v2, _, w1, rfl, HB.out, r1, r2⟩
set_option maxRecDepth 100000 in
set_option maxHeartbeats 2000000 in
theorem do_evict {w : World} (i v : Int) (D X : Nat) (keep : Value) {R1 : Steps} {R2 : Bool → Steps} {er : Bool} (hk : KeepsDeed R1) (hk2 : ∀ v, KeepsDeed (R2 v))
    (h1 : ∀ w1, Below w.heap.size w w1 → Calls Tryz.prog 27 #[.pointer (some ⟨D, 0, none⟩), .int .i64 i] w1 (Gives (.bool er) R1 w1))
    (h2 : ∀ w1 w2, Below w.heap.size w w1 → R1 w1 w2 → Calls Tryz.prog 28 #[.pointer (some ⟨X, 0, none⟩), .int .i64 i] w2 (GivesSome (α := Bool) (.bool ·) R2 w2)) :
    Calls Tryz.prog 9 #[.pointer (some ⟨D, 0, none⟩), .pointer (some ⟨X, 0, none⟩), .agg #[.int .i64 3, .int .i64 i, .int .u64 v, keep]] w (Did R1 R2 w (fun b => er == b)) := by
  have k0 := Cells.new w 34 #[.int .i64 3, .int .i64 i, .int .u64 v, keep]
  have c1 : (w.alloc (.cells #[.int .i64 3, .int .i64 i, .int .u64 v, keep] 34)).cell? ⟨w.heap.size, 1, none⟩ = some (.int .i64 i) := k0.cell 1
  have k0d : Cells (w.alloc (.cells #[.int .i64 3, .int .i64 i, .int .u64 v, keep] 34)).drew w.heap.size 34 #[.int .i64 3, .int .i64 i, .int .u64 v, keep] := k0
  have b0 : Below w.heap.size w (w.alloc (.cells #[.int .i64 3, .int .i64 i, .int .u64 v, keep] 34)).drew := below_drewN ((Below.refl _ _).alloc (Nat.le_refl _) _) 1
  have h1' := h1 _ b0
  have KD := Lib.hid k0d
  have HB := Lib.hid b0
  clear k0 k0d b0
  go_enter Tryz.func9, Tryz.ntmps9
  go_wp2
  have c1d : (w.alloc (.cells #[.int .i64 3, .int .i64 i, .int .u64 v, keep] 34)).drew.cell? ⟨w.heap.size, 1, none⟩ = some (.int .i64 i) := KD.out.cell 1
  go_region_held3 (fun w' => w'.cell? ⟨w.heap.size, 1, none⟩ = some (.int .i64 i))
    (first | exact c1d | exact c11 | exact c21)
    (first
      | (go_at_call 27; (with_reducible refine h1'.mono ?_); rintro e w1 ⟨rfl, r1⟩; have K1 := hk _ _ _ _ r1 KD.out; have c11 : w1.cell? ⟨w.heap.size, 1, none⟩ = some (.int .i64 i) := K1.cell 1)
      | (go_at_call 28; (with_reducible refine (h2 _ _ HB.out r1).mono ?_); rintro e w2 ⟨v2, rfl, r2⟩; have c21 : w2.cell? ⟨w.heap.size, 1, none⟩ = some (.int .i64 i) := (hk2 _ _ _ _ _ r2 K1).cell 1))
  all_goals
    go_wp2
    go_ret
    exact ⟨v2, _, w1, rfl, HB.out, r1, r2⟩
end Go.Proofs.YtnjikgcigobcdaaGreat

namespace Go.Proofs.YtnjikgcigobcdaaGreat
open Wd Pm Go.Maps Go.RowKit
set_option linter.unusedVariables false

set_option maxRecDepth 100000 in
theorem do_fence {w : World} (i v : Int) (D X : Nat) (keep : Value) {R1 : Steps} {R2 : Int → Steps} {er : Int}
    (h1 : ∀ w1, Below w.heap.size w w1 → Calls Tryz.prog 25 #[.pointer (some ⟨D, 0, none⟩)] w1 (Gives (.int .i64 er) R1 w1))
    (h2 : ∀ w1 w2, Below w.heap.size w w1 → R1 w1 w2 → Calls Tryz.prog 26 #[.pointer (some ⟨X, 0, none⟩)] w2 (GivesSome (α := Int) (.int .i64 ·) R2 w2)) :
    Calls Tryz.prog 9 #[.pointer (some ⟨D, 0, none⟩), .pointer (some ⟨X, 0, none⟩), .agg #[.int .i64 2, .int .i64 i, .int .u64 v, keep]] w (Did R1 R2 w (fun b => er == b)) := by
  have b0 : Below w.heap.size w (w.alloc (.cells #[.int .i64 2, .int .i64 i, .int .u64 v, keep] 34)) := (Below.refl _ _).alloc (Nat.le_refl _) _
  have h1' := h1 _ b0
  have HB := Lib.hid b0
  clear b0
  go_enter Tryz.func9, Tryz.ntmps9
  go_wp2_with (first
    | (go_at_call 25; refine h1'.mono ?_; rintro e w1 ⟨rfl, r1⟩)
    | (go_at_call 26; refine (h2 _ _ HB.out r1).mono ?_; rintro e w2 ⟨v2, rfl, r2⟩))
  go_ret
  exact ⟨v2, _, w1, rfl, HB.out, r1, r2⟩

/-- both did it, and said nothing -/
def Both (R1 R2 : Steps) (w : World) (e : Ending) (w' : World) : Prop := ∃ w1 w2, e = .returned (.bool true) ∧ Below w.heap.size w w1 ∧ R1 w1 w2 ∧ R2 w2 w'
set_option maxRecDepth 100000 in
theorem do_arm {w : World} (i v : Int) (D X : Nat) (A : Option Addr) (kl kc : Nat) {R1 R2 : Steps} (hk : KeepsDeed R1) {keep : Value} (ek : keep = .slice A kl kc)
    (h1 : ∀ w1, Below w.heap.size w w1 → Calls Tryz.prog 10 #[.pointer (some ⟨D, 0, none⟩), .int .i64 i] w1 (Gives (.tuple #[]) R1 w1))
    (h2 : ∀ w1 w2, Below w.heap.size w w1 → R1 w1 w2 → Calls Tryz.prog 11 #[.pointer (some ⟨X, 0, none⟩), .int .i64 i] w2 (Gives (.tuple #[]) R2 w2)) :
    Calls Tryz.prog 9 #[.pointer (some ⟨D, 0, none⟩), .pointer (some ⟨X, 0, none⟩), .agg #[.int .i64 4, .int .i64 i, .int .u64 v, keep]] w (Both R1 R2 w) := by
  subst ek
  have k0 := Cells.new w 34 #[.int .i64 4, .int .i64 i, .int .u64 v, .slice A kl kc]
  have c1 : (w.alloc (.cells #[.int .i64 4, .int .i64 i, .int .u64 v, .slice A kl kc] 34)).cell? ⟨w.heap.size, 1, none⟩ = some (.int .i64 i) := k0.cell 1
  have c3 : (w.alloc (.cells #[.int .i64 4, .int .i64 i, .int .u64 v, .slice A kl kc] 34)).cell? ⟨w.heap.size, 3, none⟩ = some (.slice A kl kc) := k0.cell 3
  have b0 : Below w.heap.size w (w.alloc (.cells #[.int .i64 4, .int .i64 i, .int .u64 v, .slice A kl kc] 34)) := (Below.refl _ _).alloc (Nat.le_refl _) _
  have h1' := h1 _ b0
  have KD := Lib.hid k0
  have HB := Lib.hid b0
  clear b0 k0
  go_enter Tryz.func9, Tryz.ntmps9
  go_wp2_with (first
    | (go_at_call 10; refine h1'.mono ?_; rintro e w1 ⟨rfl, r1⟩; have c11 : w1.cell? ⟨w.heap.size, 1, none⟩ = some (.int .i64 i) := (hk _ _ _ _ r1 KD.out).cell 1; have c13 : w1.cell? ⟨w.heap.size, 3, none⟩ = some (.slice A kl kc) := (hk _ _ _ _ r1 KD.out).cell 3)
    | (go_at_call 11; refine (h2 _ _ HB.out r1).mono ?_; rintro e w2 ⟨rfl, r2⟩))
  go_ret
  exact ⟨_, w1, rfl, HB.out, r1, r2⟩
set_option maxRecDepth 100000 in
theorem do_crash {w : World} (i v : Int) (D X : Nat) (A : Option Addr) (kl kc : Nat) {R1 R2 : Steps} (hk : KeepsDeed R1) {keep : Value} (ek : keep = .slice A kl kc)
    (h1 : ∀ w1, Below w.heap.size w w1 → Calls Tryz.prog 29 #[.pointer (some ⟨D, 0, none⟩), keep] w1 (Gives (.tuple #[]) R1 w1))
    (h2 : ∀ w1 w2, Below w.heap.size w w1 → R1 w1 w2 → Calls Tryz.prog 30 #[.pointer (some ⟨X, 0, none⟩), keep] w2 (Gives (.tuple #[]) R2 w2)) :
    Calls Tryz.prog 9 #[.pointer (some ⟨D, 0, none⟩), .pointer (some ⟨X, 0, none⟩), .agg #[.int .i64 5, .int .i64 i, .int .u64 v, keep]] w (Both R1 R2 w) := by
  subst ek
  have k0 := Cells.new w 34 #[.int .i64 5, .int .i64 i, .int .u64 v, .slice A kl kc]
  have c1 : (w.alloc (.cells #[.int .i64 5, .int .i64 i, .int .u64 v, .slice A kl kc] 34)).cell? ⟨w.heap.size, 1, none⟩ = some (.int .i64 i) := k0.cell 1
  have c3 : (w.alloc (.cells #[.int .i64 5, .int .i64 i, .int .u64 v, .slice A kl kc] 34)).cell? ⟨w.heap.size, 3, none⟩ = some (.slice A kl kc) := k0.cell 3
  have b0 : Below w.heap.size w (w.alloc (.cells #[.int .i64 5, .int .i64 i, .int .u64 v, .slice A kl kc] 34)) := (Below.refl _ _).alloc (Nat.le_refl _) _
  have h1' := h1 _ b0
  have KD := Lib.hid k0
  have HB := Lib.hid b0
  clear b0 k0
  go_enter Tryz.func9, Tryz.ntmps9
  go_wp2_with (first
    | (go_at_call 29; refine h1'.mono ?_; rintro e w1 ⟨rfl, r1⟩; have c11 : w1.cell? ⟨w.heap.size, 1, none⟩ = some (.int .i64 i) := (hk _ _ _ _ r1 KD.out).cell 1; have c13 : w1.cell? ⟨w.heap.size, 3, none⟩ = some (.slice A kl kc) := (hk _ _ _ _ r1 KD.out).cell 3)
    | (go_at_call 30; refine (h2 _ _ HB.out r1).mono ?_; rintro e w2 ⟨rfl, r2⟩))
  go_ret
  exact ⟨_, w1, rfl, HB.out, r1, r2⟩

set_option maxRecDepth 100000 in
set_option maxHeartbeats 2000000 in
theorem do_store {w : World} (kd i v : Int) (D X : Nat) (keep : Value) {R1 : Steps} {R2 : Int → Steps} {er : Int} (hk : KeepsDeed R1) (hk2 : ∀ v, KeepsDeed (R2 v)) (n1 : kd ≠ 1) (n2 : kd ≠ 2) (n3 : kd ≠ 3) (n4 : kd ≠ 4) (n5 : kd ≠ 5)
    (h1 : ∀ w1, Below w.heap.size w w1 → Calls Tryz.prog 31 #[.pointer (some ⟨D, 0, none⟩), .int .i64 i, .int .u64 v] w1 (Gives (.int .i64 er) R1 w1))
    (h2 : ∀ w1 w2, Below w.heap.size w w1 → R1 w1 w2 → Calls Tryz.prog 32 #[.pointer (some ⟨X, 0, none⟩), .int .i64 i, .int .u64 v] w2 (GivesSome (α := Int) (.int .i64 ·) R2 w2)) :
    Calls Tryz.prog 9 #[.pointer (some ⟨D, 0, none⟩), .pointer (some ⟨X, 0, none⟩), .agg #[.int .i64 kd, .int .i64 i, .int .u64 v, keep]] w (Did R1 R2 w (fun b => er == b)) := by
  have k0 := Cells.new w 34 #[.int .i64 kd, .int .i64 i, .int .u64 v, keep]
  have k0d : Cells (w.alloc (.cells #[.int .i64 kd, .int .i64 i, .int .u64 v, keep] 34)).drew w.heap.size 34 #[.int .i64 kd, .int .i64 i, .int .u64 v, keep] := k0
  have c1 : (w.alloc (.cells #[.int .i64 kd, .int .i64 i, .int .u64 v, keep] 34)).drew.cell? ⟨w.heap.size, 1, none⟩ = some (.int .i64 i) := k0d.cell 1
  have c2 : (w.alloc (.cells #[.int .i64 kd, .int .i64 i, .int .u64 v, keep] 34)).drew.cell? ⟨w.heap.size, 2, none⟩ = some (.int .u64 v) := k0d.cell 2
  have c0 : (w.alloc (.cells #[.int .i64 kd, .int .i64 i, .int .u64 v, keep] 34)).cell? ⟨w.heap.size, 0, none⟩ = some (.int .i64 kd) := k0.cell 0
  have b0 : Below w.heap.size w (w.alloc (.cells #[.int .i64 kd, .int .i64 i, .int .u64 v, keep] 34)).drew := below_drewN ((Below.refl _ _).alloc (Nat.le_refl _) _) 1
  have h1' := h1 _ b0
  have KD := Lib.hid k0d
  have HB := Lib.hid b0
  have q1 : (kd == 1) = false := by simpa using n1
  have q2 : (kd == 2) = false := by simpa using n2
  have q3 : (kd == 3) = false := by simpa using n3
  have q4 : (kd == 4) = false := by simpa using n4
  have q5 : (kd == 5) = false := by simpa using n5
  clear k0 k0d b0 n1 n2 n3 n4 n5
  go_enter Tryz.func9, Tryz.ntmps9
  go_wp2
  go_region_held3 (fun w' => w'.cell? ⟨w.heap.size, 1, none⟩ = some (.int .i64 i) ∧ w'.cell? ⟨w.heap.size, 2, none⟩ = some (.int .u64 v))
    (first | exact ⟨c1, c2⟩ | exact ⟨c11, c12⟩ | exact ⟨c21, c22⟩)
    (first
      | (go_at_call 31; (with_reducible refine h1'.mono ?_); rintro e w1 ⟨rfl, r1⟩; have K1 := hk _ _ _ _ r1 KD.out; have c11 : w1.cell? ⟨w.heap.size, 1, none⟩ = some (.int .i64 i) := K1.cell 1; have c12 : w1.cell? ⟨w.heap.size, 2, none⟩ = some (.int .u64 v) := K1.cell 2)
      | (go_at_call 32; (with_reducible refine (h2 _ _ HB.out r1).mono ?_); rintro e w2 ⟨v2, rfl, r2⟩; have K2 := hk2 _ _ _ _ _ r2 K1; have c21 : w2.cell? ⟨w.heap.size, 1, none⟩ = some (.int .i64 i) := K2.cell 1; have c22 : w2.cell? ⟨w.heap.size, 2, none⟩ = some (.int .u64 v) := K2.cell 2))
  go_wp2
  go_ret
  exact ⟨v2, _, w1, rfl, HB.out, r1, r2⟩
end Go.Proofs.YtnjikgcigobcdaaGreat
