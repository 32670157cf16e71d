import Derived.Test.YtanjikflljdjcaaDoorI64
import Derived.Test.YtanjikflljdjcaaDoorStructs
import Derived.Test.YtanjikflljdjcaaDoorLaw
import Derived.Test.YtanjikflljdjcaaDoorByRow
import Derived.Test.YtanjikflljdjcaaDoorPk
namespace Go.Proofs.YtanjikflljdjcaaDoor
open Wd U Go.RowKit Go.ChangeShapes Go.WideShapes Go.ChangeAt Go.Deep Go.Sort
set_option linter.unusedVariables false

/-! one call, plainly -/
structure Cal where
  kind : Int
  fd : Int
  flags : Int
  n : Int
  off : Int
  path : ByteArray
  other : ByteArray
  A : Option Addr
  cp : Nat
  data : List Nat
instance : Inhabited Cal := ⟨⟨0, 0, 0, 0, 0, .empty, .empty, none, 0, []⟩⟩
def Cal.vals (e : Cal) : List Value := [.int .i64 e.kind, .int .i64 e.fd, .int .i64 e.flags, .int .i64 e.n, .int .i64 e.off, .string e.path, .string e.other, .slice e.A e.data.length e.cp]
def Cal.val (e : Cal) : Value := .agg #[.int .i64 e.kind, .int .i64 e.fd, .int .i64 e.flags, .int .i64 e.n, .int .i64 e.off, .string e.path, .string e.other, .slice e.A e.data.length e.cp]
structure Cal.Ok (e : Cal) (w : World) (B : Nat) : Prop where
  kind : i64R e.kind
  fd : i64R e.fd
  flags : i64R e.flags
  n : i64R e.n
  off : i64R e.off
  path : e.path.size ≤ maxLen
  other : e.other.size ≤ maxLen
  bytes : Bytes e.data
  row : Row w B e.A e.data.length (e.data.map bt)
  le : e.data.length ≤ maxLen
  cap : e.data.length ≤ e.cp
theorem Cal.Ok.below {e : Cal} {w w' : World} {B : Nat} (h : e.Ok w B) (hb : Below B w w') : e.Ok w' B := ⟨h.kind, h.fd, h.flags, h.n, h.off, h.path, h.other, h.bytes, h.row.below hb, h.le, h.cap⟩
theorem Cal.Ok.more {e : Cal} {w : World} {B B' : Nat} (h : e.Ok w B) (hB : B ≤ B') : e.Ok w B' := ⟨h.kind, h.fd, h.flags, h.n, h.off, h.path, h.other, h.bytes, h.row.more hB, h.le, h.cap⟩
theorem Cal.Ok.at_ {e : Cal} {w w' : World} (h : e.Ok w w.heap.size) (hb : Below w.heap.size w w') : e.Ok w' w'.heap.size := (h.below hb).more hb.size
theorem row_bytesC {w : World} {B : Nat} {A : Option Addr} {l : List Int} (h : Row w B A l.length (l.map (Value.int .u8))) (hok : ∀ y ∈ l, (Lit.int .u8 y).wf = true) :
    ∃ m : List Nat, m.length = l.length ∧ Bytes m ∧ Row w B A m.length (m.map bt) := by
  have hb : ∀ y ∈ l, 0 ≤ y ∧ y < 256 := by
    intro y hy
    have h : IntKind.u8.min ≤ y ∧ y ≤ IntKind.u8.max := by simpa [Lit.wf] using hok y hy
    have m1 : IntKind.u8.min = 0 := by decide
    have m2 : IntKind.u8.max = 255 := by decide
    omega
  refine ⟨l.map Int.toNat, by simp, ?_, ?_⟩
  · intro x hx
    obtain ⟨y, hy, rfl⟩ := List.mem_map.1 hx
    have := hb y hy; omega
  · have e : (l.map Int.toNat).map bt = l.map (Value.int .u8) := by
      rw [List.map_map]
      refine List.map_congr_left fun y hy => ?_
      have := hb y hy
      show Value.int .u8 ((y.toNat : Nat) : Int) = _
      rw [Int.toNat_of_nonneg this.1]
    rw [e, List.length_map]
    exact h
/-- the eight fields of a call, as they are trodden -/
theorem cal_of {H : Type} {enc : TypeId × Value → H} {w : World} {base : Nat} {spare : Nat → Bool} {held : Bool} {n : Nat} {u0 u1 u2 u3 u4 u5 u6 u7 : Value} {y0 y1 y2 y3 y4 y5 y6 y7 : DataW H × List MemPlace}
    (t0 : DataW.trod enc Tryd.prog w base spare held n 3 [u0] = some y0) (t1 : DataW.trod enc Tryd.prog w base spare held n 3 [u1] = some y1) (t2 : DataW.trod enc Tryd.prog w base spare held n 3 [u2] = some y2)
    (t3 : DataW.trod enc Tryd.prog w base spare held n 3 [u3] = some y3) (t4 : DataW.trod enc Tryd.prog w base spare held n 3 [u4] = some y4)
    (t5 : DataW.trod enc Tryd.prog w base spare held n 9 [u5] = some y5) (t6 : DataW.trod enc Tryd.prog w base spare held n 9 [u6] = some y6) (t7 : DataW.trod enc Tryd.prog w base spare held n 22 [u7] = some y7) :
    ∃ e : Cal, e.vals = [u0, u1, u2, u3, u4, u5, u6, u7] ∧ e.Ok w w.heap.size := by
  obtain ⟨a0, z0, _, w0⟩ := DataW.trod_int Tryd.underlying3 t0
  obtain ⟨a1, z1, _, w1⟩ := DataW.trod_int Tryd.underlying3 t1
  obtain ⟨a2, z2, _, w2⟩ := DataW.trod_int Tryd.underlying3 t2
  obtain ⟨a3, z3, _, w3⟩ := DataW.trod_int Tryd.underlying3 t3
  obtain ⟨a4, z4, _, w4⟩ := DataW.trod_int Tryd.underlying3 t4
  obtain ⟨s5, z5, _, w5⟩ := DataW.trod_string Tryd.underlying9 t5
  obtain ⟨s6, z6, _, w6⟩ := DataW.trod_string Tryd.underlying9 t6
  obtain rfl := (List.cons.inj z0).1
  obtain rfl := (List.cons.inj z1).1
  obtain rfl := (List.cons.inj z2).1
  obtain rfl := (List.cons.inj z3).1
  obtain rfl := (List.cons.inj z4).1
  obtain rfl := (List.cons.inj z5).1
  obtain rfl := (List.cons.inj z6).1
  obtain ⟨A, cp, l, rfl, r, ok, q1, q2⟩ := row_of_trod (f := Value.int .u8) (ok := fun y => (Lit.int .u8 y).wf = true) Tryd.underlying22 (by kernel_rfl) (fun n v x h => by obtain ⟨b, hb, _, hw⟩ := DataW.trod_int Tryd.underlying5 h; exact ⟨b, (List.cons.inj hb).1, hw⟩) t7
  obtain ⟨m, hm, hb, hr⟩ := row_bytesC r ok
  refine ⟨⟨a0, a1, a2, a3, a4, s5, s6, A, cp, m⟩, by unfold Cal.vals; rw [hm], ⟨i64R_of w0, i64R_of w1, i64R_of w2, i64R_of w3, i64R_of w4, w5, w6, hb, hr, by show m.length ≤ _; rw [hm]; exact Nat.le_trans q1 q2, by show m.length ≤ cp; rw [hm]; exact q1⟩⟩
set_option maxRecDepth 100000 in
theorem open_call {H : Type} {enc : TypeId × Value → H} {w : World} {base : Nat} {spare : Nat → Bool} {held : Bool} {r : Reach} {b0 : Nat} {v : Value} {d : DataW H} {p : List MemPlace}
    (hv : Value.okWide Tryd.prog w r b0 24 v) (h : DataW.Trod enc Tryd.prog w base spare held 24 v d p) : ∃ e : Cal, v = e.val ∧ e.Ok w w.heap.size := by
  obtain ⟨cs, rfl, hsz, n, hy⟩ := open_struct Tryd.underlying24 (by kernel_rfl) (by kernel_rfl) hv h
  obtain ⟨u0, y0, c0, t0⟩ := hy 0 _ rfl
  obtain ⟨u1, y1, c1, t1⟩ := hy 1 _ rfl
  obtain ⟨u2, y2, c2, t2⟩ := hy 2 _ rfl
  obtain ⟨u3, y3, c3, t3⟩ := hy 3 _ rfl
  obtain ⟨u4, y4, c4, t4⟩ := hy 4 _ rfl
  obtain ⟨u5, y5, c5, t5⟩ := hy 5 _ rfl
  obtain ⟨u6, y6, c6, t6⟩ := hy 6 _ rfl
  obtain ⟨u7, y7, c7, t7⟩ := hy 7 _ rfl
  obtain ⟨e, hvals, hok⟩ := cal_of t0 t1 t2 t3 t4 t5 t6 t7
  refine ⟨e, ?_, hok⟩
  have hcs : cs = #[u0, u1, u2, u3, u4, u5, u6, u7] := by
    apply Array.ext_getElem?
    intro j
    match j with
    | 0 => exact c0
    | 1 => exact c1
    | 2 => exact c2
    | 3 => exact c3
    | 4 => exact c4
    | 5 => exact c5
    | 6 => exact c6
    | 7 => exact c7
    | j + 8 =>
      have hs9 : cs.size = 8 := hsz
      rw [Array.getElem?_eq_none (by omega), Array.getElem?_eq_none (by simp)]
  rw [hcs, ← hvals]
  rfl
/-! the eight cells of a call -/
def calCells (e : Cal) : Array Value := #[.int .i64 e.kind, .int .i64 e.fd, .int .i64 e.flags, .int .i64 e.n, .int .i64 e.off, .string e.path, .string e.other, .slice e.A e.data.length e.cp]
theorem ccells {w : World} {g : Nat} {e : Cal} (h : Cells w g 24 (calCells e)) : w.cell? ⟨g, 0, none⟩ = some (.int .i64 e.kind) ∧ w.cell? ⟨g, 1, none⟩ = some (.int .i64 e.fd) ∧ w.cell? ⟨g, 2, none⟩ = some (.int .i64 e.flags) ∧ w.cell? ⟨g, 3, none⟩ = some (.int .i64 e.n) ∧ w.cell? ⟨g, 4, none⟩ = some (.int .i64 e.off) ∧
      w.cell? ⟨g, 5, none⟩ = some (.string e.path) ∧ w.cell? ⟨g, 6, none⟩ = some (.string e.other) ∧ w.cell? ⟨g, 7, none⟩ = some (.slice e.A e.data.length e.cp) :=
  ⟨h.cell 0, h.cell 1, h.cell 2, h.cell 3, h.cell 4, h.cell 5, h.cell 6, h.cell 7⟩
/-- a call's cells, in every world that has grown of w -/
def CalAt (w : World) (g : Nat) (e : Cal) : Prop := ∀ n os,
    (grow (w.drewN n) os).cell? ⟨g, 0, none⟩ = some (.int .i64 e.kind) ∧ (grow (w.drewN n) os).cell? ⟨g, 1, none⟩ = some (.int .i64 e.fd) ∧ (grow (w.drewN n) os).cell? ⟨g, 2, none⟩ = some (.int .i64 e.flags) ∧ (grow (w.drewN n) os).cell? ⟨g, 3, none⟩ = some (.int .i64 e.n) ∧ (grow (w.drewN n) os).cell? ⟨g, 4, none⟩ = some (.int .i64 e.off) ∧
      (grow (w.drewN n) os).cell? ⟨g, 5, none⟩ = some (.string e.path) ∧ (grow (w.drewN n) os).cell? ⟨g, 6, none⟩ = some (.string e.other) ∧ (grow (w.drewN n) os).cell? ⟨g, 7, none⟩ = some (.slice e.A e.data.length e.cp)
theorem calAt {w : World} {g : Nat} {e : Cal} (h : Cells w g 24 (calCells e)) : CalAt w g e := fun n os =>
  ⟨cell_grown (a := ⟨g, 0, none⟩) h.lt (h.cell 0) n os, cell_grown (a := ⟨g, 1, none⟩) h.lt (h.cell 1) n os, cell_grown (a := ⟨g, 2, none⟩) h.lt (h.cell 2) n os, cell_grown (a := ⟨g, 3, none⟩) h.lt (h.cell 3) n os, cell_grown (a := ⟨g, 4, none⟩) h.lt (h.cell 4) n os, cell_grown (a := ⟨g, 5, none⟩) h.lt (h.cell 5) n os, cell_grown (a := ⟨g, 6, none⟩) h.lt (h.cell 6) n os, cell_grown (a := ⟨g, 7, none⟩) h.lt (h.cell 7) n os⟩
end Go.Proofs.YtanjikflljdjcaaDoor
