import Derived.Test.YtnijffgdapfgpaaI64
import Derived.Test.YtnijffgdapfgpaaStructs
import Derived.Test.YtnijffgdapfgpaaLaw
import Derived.Test.YtnijffgdapfgpaaByRow
import Derived.Test.YtnijffgdapfgpaaPk
namespace Go.Proofs.Ytnijffgdapfgpaa
open Wd U Go.RowKit Go.ChangeShapes Go.WideShapes Go.ChangeAt Go.Deep
set_option linter.unusedVariables false

/-! one effect, plainly -/
structure Eff where
  kind : Int
  ino : Int
  dir : Int
  dst : Int
  page : Int
  size : Int
  name : ByteArray
  other : ByteArray
  A : Option Addr
  cp : Nat
  data : List Nat
instance : Inhabited Eff := ⟨⟨0, 0, 0, 0, 0, 0, .empty, .empty, none, 0, []⟩⟩
def Eff.vals (e : Eff) : List Value := [.int .i64 e.kind, .int .i64 e.ino, .int .i64 e.dir, .int .i64 e.dst, .int .i64 e.page, .int .i64 e.size, .string e.name, .string e.other, .slice e.A e.data.length e.cp]
def Eff.val (e : Eff) : Value := .agg #[.int .i64 e.kind, .int .i64 e.ino, .int .i64 e.dir, .int .i64 e.dst, .int .i64 e.page, .int .i64 e.size, .string e.name, .string e.other, .slice e.A e.data.length e.cp]
structure Eff.Ok (e : Eff) (w : World) (B : Nat) : Prop where
  kind : i64R e.kind
  ino : i64R e.ino
  dir : i64R e.dir
  dst : i64R e.dst
  page : i64R e.page
  size : i64R e.size
  name : e.name.size ≤ maxLen
  other : e.other.size ≤ maxLen
  bytes : Bytes e.data
  row : Row w B e.A e.data.length (e.data.map bt)
  le : e.data.length ≤ maxLen
  cap : e.data.length ≤ e.cp
theorem Eff.Ok.below {e : Eff} {w w' : World} {B : Nat} (h : e.Ok w B) (hb : Below B w w') : e.Ok w' B := ⟨h.kind, h.ino, h.dir, h.dst, h.page, h.size, h.name, h.other, h.bytes, h.row.below hb, h.le, h.cap⟩
theorem Eff.Ok.more {e : Eff} {w : World} {B B' : Nat} (h : e.Ok w B) (hB : B ≤ B') : e.Ok w B' := ⟨h.kind, h.ino, h.dir, h.dst, h.page, h.size, h.name, h.other, h.bytes, h.row.more hB, h.le, h.cap⟩
theorem row_bytes' {w : World} {B : Nat} {A : Option Addr} {l : List Int} (h : Row w B A l.length (l.map (Value.int .u8))) (hok : ∀ y ∈ l, (Lit.int .u8 y).wf = true) :
    ∃ m : List Nat, m.length = l.length ∧ Bytes m ∧ Row w B A m.length (m.map bt) := by
  have hb : ∀ y ∈ l, 0 ≤ y ∧ y < 256 := by
    intro y hy
    have h : IntKind.u8.min ≤ y ∧ y ≤ IntKind.u8.max := by simpa [Lit.wf] using hok y hy
    have m1 : IntKind.u8.min = 0 := by decide
    have m2 : IntKind.u8.max = 255 := by decide
    omega
  refine ⟨l.map Int.toNat, by simp, ?_, ?_⟩
  · intro x hx
    obtain ⟨y, hy, rfl⟩ := List.mem_map.1 hx
    have := hb y hy; omega
  · have e : (l.map Int.toNat).map bt = l.map (Value.int .u8) := by
      rw [List.map_map]
      refine List.map_congr_left fun y hy => ?_
      have := hb y hy
      show Value.int .u8 ((y.toNat : Nat) : Int) = _
      rw [Int.toNat_of_nonneg this.1]
    rw [e, List.length_map]
    exact h
/-- the nine fields of an effect, as they are trodden -/
theorem eff_of {H : Type} {enc : TypeId × Value → H} {w : World} {base : Nat} {spare : Nat → Bool} {held : Bool} {n : Nat} {u0 u1 u2 u3 u4 u5 u6 u7 u8 : Value} {y0 y1 y2 y3 y4 y5 y6 y7 y8 : DataW H × List MemPlace}
    (t0 : DataW.trod enc Try.prog w base spare held n 3 [u0] = some y0) (t1 : DataW.trod enc Try.prog w base spare held n 3 [u1] = some y1) (t2 : DataW.trod enc Try.prog w base spare held n 3 [u2] = some y2)
    (t3 : DataW.trod enc Try.prog w base spare held n 3 [u3] = some y3) (t4 : DataW.trod enc Try.prog w base spare held n 3 [u4] = some y4) (t5 : DataW.trod enc Try.prog w base spare held n 3 [u5] = some y5)
    (t6 : DataW.trod enc Try.prog w base spare held n 9 [u6] = some y6) (t7 : DataW.trod enc Try.prog w base spare held n 9 [u7] = some y7) (t8 : DataW.trod enc Try.prog w base spare held n 30 [u8] = some y8) :
    ∃ e : Eff, e.vals = [u0, u1, u2, u3, u4, u5, u6, u7, u8] ∧ e.Ok w w.heap.size := by
  obtain ⟨a0, z0, _, w0⟩ := DataW.trod_int Try.underlying3 t0
  obtain ⟨a1, z1, _, w1⟩ := DataW.trod_int Try.underlying3 t1
  obtain ⟨a2, z2, _, w2⟩ := DataW.trod_int Try.underlying3 t2
  obtain ⟨a3, z3, _, w3⟩ := DataW.trod_int Try.underlying3 t3
  obtain ⟨a4, z4, _, w4⟩ := DataW.trod_int Try.underlying3 t4
  obtain ⟨a5, z5, _, w5⟩ := DataW.trod_int Try.underlying3 t5
  obtain ⟨s6, z6, _, w6⟩ := DataW.trod_string Try.underlying9 t6
  obtain ⟨s7, z7, _, w7⟩ := DataW.trod_string Try.underlying9 t7
  obtain rfl := (List.cons.inj z0).1
  obtain rfl := (List.cons.inj z1).1
  obtain rfl := (List.cons.inj z2).1
  obtain rfl := (List.cons.inj z3).1
  obtain rfl := (List.cons.inj z4).1
  obtain rfl := (List.cons.inj z5).1
  obtain rfl := (List.cons.inj z6).1
  obtain rfl := (List.cons.inj z7).1
  obtain ⟨A, cp, l, rfl, r, ok, q1, q2⟩ := row_of_trod (f := Value.int .u8) (ok := fun y => (Lit.int .u8 y).wf = true) Try.underlying30 (by kernel_rfl) (fun n v x h => by obtain ⟨b, hb, _, hw⟩ := DataW.trod_int Try.underlying5 h; exact ⟨b, (List.cons.inj hb).1, hw⟩) t8
  obtain ⟨m, hm, hb, hr⟩ := row_bytes' r ok
  refine ⟨⟨a0, a1, a2, a3, a4, a5, s6, s7, A, cp, m⟩, by unfold Eff.vals; rw [hm], ⟨i64R_of w0, i64R_of w1, i64R_of w2, i64R_of w3, i64R_of w4, i64R_of w5, w6, w7, hb, hr, by show m.length ≤ _; rw [hm]; exact Nat.le_trans q1 q2, by show m.length ≤ cp; rw [hm]; exact q1⟩⟩
set_option maxRecDepth 100000 in
theorem open_effect {H : Type} {enc : TypeId × Value → H} {w : World} {base : Nat} {spare : Nat → Bool} {held : Bool} {r : Reach} {b0 : Nat} {v : Value} {d : DataW H} {p : List MemPlace}
    (hv : Value.okWide Try.prog w r b0 32 v) (h : DataW.Trod enc Try.prog w base spare held 32 v d p) : ∃ e : Eff, v = e.val ∧ e.Ok w w.heap.size := by
  obtain ⟨cs, rfl, hsz, n, hy⟩ := open_struct Try.underlying32 (by kernel_rfl) (by kernel_rfl) hv h
  obtain ⟨u0, y0, c0, t0⟩ := hy 0 _ rfl
  obtain ⟨u1, y1, c1, t1⟩ := hy 1 _ rfl
  obtain ⟨u2, y2, c2, t2⟩ := hy 2 _ rfl
  obtain ⟨u3, y3, c3, t3⟩ := hy 3 _ rfl
  obtain ⟨u4, y4, c4, t4⟩ := hy 4 _ rfl
  obtain ⟨u5, y5, c5, t5⟩ := hy 5 _ rfl
  obtain ⟨u6, y6, c6, t6⟩ := hy 6 _ rfl
  obtain ⟨u7, y7, c7, t7⟩ := hy 7 _ rfl
  obtain ⟨u8, y8, c8, t8⟩ := hy 8 _ rfl
  obtain ⟨e, hvals, hok⟩ := eff_of t0 t1 t2 t3 t4 t5 t6 t7 t8
  refine ⟨e, ?_, hok⟩
  have hcs : cs = #[u0, u1, u2, u3, u4, u5, u6, u7, u8] := by
    apply Array.ext_getElem?
    intro j
    match j with
    | 0 => exact c0
    | 1 => exact c1
    | 2 => exact c2
    | 3 => exact c3
    | 4 => exact c4
    | 5 => exact c5
    | 6 => exact c6
    | 7 => exact c7
    | 8 => exact c8
    | j + 9 =>
      have hs9 : cs.size = 9 := hsz
      rw [Array.getElem?_eq_none (by omega), Array.getElem?_eq_none (by simp)]
  rw [hcs, ← hvals]
  rfl
/-- effects in a row -/
structure Effs (w : World) (B : Nat) (A : Option Addr) (l : List Eff) : Prop where
  at_ : 0 < l.length → ∃ b off, A = some ⟨b, off, none⟩ ∧ b < B ∧ ∀ (j : Nat) (e : Eff), l[j]? = some e → ∀ (k : Nat) (x : Value), e.vals[k]? = some x → w.cell? ⟨b, off + (j * 9 + k), none⟩ = some x
  ok : ∀ e ∈ l, e.Ok w B
theorem Effs.below {w w' : World} {B : Nat} {A : Option Addr} {l : List Eff} (h : Effs w B A l) (hb : Below B w w') : Effs w' B A l :=
  ⟨fun hn => by
    obtain ⟨b, off, e, hB, hx⟩ := h.at_ hn
    exact ⟨b, off, e, hB, fun j d hj k x hk => (hb.cell (p := ⟨b, _, none⟩) hB).trans (hx j d hj k x hk)⟩, fun d hd => (h.ok d hd).below hb⟩
theorem Effs.more {w : World} {B B' : Nat} {A : Option Addr} {l : List Eff} (h : Effs w B A l) (hB : B ≤ B') : Effs w B' A l :=
  ⟨fun hn => by
    obtain ⟨b, off, e, hb, hx⟩ := h.at_ hn
    exact ⟨b, off, e, Nat.lt_of_lt_of_le hb hB, hx⟩, fun d hd => (h.ok d hd).more hB⟩
set_option maxRecDepth 100000 in
theorem open_effects {H : Type} {enc : TypeId × Value → H} {w : World} {base : Nat} {spare : Nat → Bool} {held : Bool} {r : Reach} {b0 : Nat} {v : Value} {d : DataW H} {p : List MemPlace}
    (hv : Value.okWide Try.prog w r b0 22 v) (h : DataW.Trod enc Try.prog w base spare held 22 v d p) :
    ∃ (A : Option Addr) (c : Nat) (l : List Eff), v = .slice A l.length c ∧ Effs w w.heap.size A l ∧ l.length ≤ c ∧ c ≤ maxLen := by
  obtain ⟨A, len, cap, rfl, h1, h2, h3⟩ := open_structs Try.underlying22 Try.underlying32 (by kernel_rfl) (by kernel_rfl) (by decide) hv h
  by_cases hn : 0 < len
  · obtain ⟨b, off, rfl, hb, hx⟩ := h3 hn
    have each : ∀ i, i < len → ∃ d : Eff, (∀ (k : Nat) (x : Value), d.vals[k]? = some x → w.cell? ⟨b, off + (i * 9 + k), none⟩ = some x) ∧ d.Ok w w.heap.size := by
      intro i hi
      obtain ⟨n, hy⟩ := hx i hi
      obtain ⟨u0, y0, c0, t0⟩ := hy 0 _ rfl
      obtain ⟨u1, y1, c1, t1⟩ := hy 1 _ rfl
      obtain ⟨u2, y2, c2, t2⟩ := hy 2 _ rfl
      obtain ⟨u3, y3, c3, t3⟩ := hy 3 _ rfl
      obtain ⟨u4, y4, c4, t4⟩ := hy 4 _ rfl
      obtain ⟨u5, y5, c5, t5⟩ := hy 5 _ rfl
      obtain ⟨u6, y6, c6, t6⟩ := hy 6 _ rfl
      obtain ⟨u7, y7, c7, t7⟩ := hy 7 _ rfl
      obtain ⟨u8, y8, c8, t8⟩ := hy 8 _ rfl
      obtain ⟨e, hvals, hok⟩ := eff_of t0 t1 t2 t3 t4 t5 t6 t7 t8
      refine ⟨e, ?_, hok⟩
      intro k x hk
      rw [hvals] at hk
      match k, hk with
      | 0, hk => cases hk; exact c0
      | 1, hk => cases hk; exact c1
      | 2, hk => cases hk; exact c2
      | 3, hk => cases hk; exact c3
      | 4, hk => cases hk; exact c4
      | 5, hk => cases hk; exact c5
      | 6, hk => cases hk; exact c6
      | 7, hk => cases hk; exact c7
      | 8, hk => cases hk; exact c8
      | k + 9, hk => simp at hk
    obtain ⟨Y, hY⟩ := choose_lt (n := len) (p := fun i (d : Eff) => (∀ (k : Nat) (x : Value), d.vals[k]? = some x → w.cell? ⟨b, off + (i * 9 + k), none⟩ = some x) ∧ d.Ok w w.heap.size) each
    refine ⟨_, cap, (List.range len).map Y, by simp, ⟨fun _ => ⟨b, off, rfl, hb, fun j d hj k x hk => ?_⟩, fun d hd => ?_⟩, by simp; exact h1, h2⟩
    · obtain ⟨hj1, hj2⟩ := List.getElem?_eq_some_iff.1 hj
      simp at hj1 hj2
      subst hj2
      exact (hY j hj1).1 k x hk
    · obtain ⟨i, hi, rfl⟩ := List.mem_map.1 hd
      exact (hY i (List.mem_range.1 hi)).2
  · obtain rfl : len = 0 := by omega
    exact ⟨A, cap, [], rfl, ⟨fun h => absurd h (by simp), fun d hd => by cases hd⟩, by simp, h2⟩
end Go.Proofs.Ytnijffgdapfgpaa
