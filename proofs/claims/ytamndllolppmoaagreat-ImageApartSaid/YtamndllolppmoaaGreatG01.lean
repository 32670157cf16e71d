import Derived.Test.YtamndllolppmoaaGreatG00
import Derived.WalkKit
import Derived.WalkMore
import Derived.SizedLaws

namespace U
/-- the word of some bytes, the first one lowest -/
def val : List Nat → Nat
  | [] => 0
  | x :: t => x + 256 * val t
def Bytes (b : List Nat) : Prop := ∀ x ∈ b, x < 256
theorem Bytes.at {l : List Nat} (h : Bytes l) {j x : Nat} (hx : l[j]? = some x) : x < 256 := h x (List.mem_of_getElem? hx)
theorem Bytes.take {l : List Nat} (h : Bytes l) (n : Nat) : Bytes (l.take n) := fun x hx => h x (List.mem_of_mem_take hx)
theorem Bytes.drop {l : List Nat} (h : Bytes l) (n : Nat) : Bytes (l.drop n) := fun x hx => h x (List.mem_of_mem_drop hx)
def chunk (b : List Nat) (i : Nat) : List Nat := (b.drop (8 * i)).take 8
def need (n : Nat) : Nat := (n + 7) / 8
def pk (b : List Nat) : List Nat := (List.range (need b.length)).map (fun i => val (chunk b i))
theorem pk_len (b : List Nat) : (pk b).length = need b.length := by unfold pk; simp
theorem pk_get (b : List Nat) (i : Nat) : (pk b)[i]? = if i < need b.length then some (val (chunk b i)) else none := by
  unfold pk
  rw [List.getElem?_map]
  by_cases h : i < need b.length
  · rw [if_pos h, List.getElem?_range h]; rfl
  · rw [if_neg h, List.getElem?_eq_none (by simp; omega)]; rfl
theorem val_snoc (c : List Nat) (x : Nat) : val (c ++ [x]) = val c + 256 ^ c.length * x := by
  induction c with
  | nil => simp [val]
  | cons a c ih =>
    simp only [List.cons_append, val, ih, List.length_cons, Nat.pow_succ]
    rw [Nat.mul_add, ← Nat.mul_assoc, Nat.mul_comm 256 (256 ^ c.length)]
    omega
theorem val_lt {c : List Nat} (h : Bytes c) : val c < 256 ^ c.length := by
  induction c with
  | nil => simp [val]
  | cons a c ih =>
    have h1 := ih (fun x hx => h x (by simp [hx]))
    have h2 := h a (by simp)
    simp only [val, List.length_cons, Nat.pow_succ]
    omega
theorem chunk_len (b : List Nat) (i : Nat) : (chunk b i).length = min 8 (b.length - 8 * i) := by unfold chunk; simp
theorem chunk_old {b : List Nat} {i : Nat} (x : Nat) (h : i < b.length / 8) : chunk (b ++ [x]) i = chunk b i := by
  unfold chunk
  rw [List.drop_append_of_le_length (by omega), List.take_append_of_le_length (by rw [List.length_drop]; omega)]
theorem chunk_new {b : List Nat} (x : Nat) : chunk (b ++ [x]) (b.length / 8) = chunk b (b.length / 8) ++ [x] := by
  unfold chunk
  rw [List.drop_append_of_le_length (by omega), List.take_of_length_le (by rw [List.length_append, List.length_drop]; simp; omega), List.take_of_length_le (by rw [List.length_drop]; omega)]
theorem pow_le {k : Nat} (h : k < 8) : 256 ^ k ≤ 72057594037927936 := by
  have : 256 ^ k ≤ 256 ^ 7 := Nat.pow_le_pow_right (by omega) (by omega)
  simpa using this
/-- one byte more -/
theorem pk_step {b : List Nat} (hb : Bytes b) {x : Nat} (hx : x < 256) : ∃ v, (if b.length % 8 = 0 then pk b ++ [0] else pk b)[b.length / 8]? = some v ∧ v + 256 ^ (b.length % 8) * x < 18446744073709551616 ∧
    pk (b ++ [x]) = (if b.length % 8 = 0 then pk b ++ [0] else pk b).set (b.length / 8) (v + 256 ^ (b.length % 8) * x) := by
  have hcl : (chunk b (b.length / 8)).length = b.length % 8 := by rw [chunk_len]; omega
  have hvl : val (chunk b (b.length / 8)) < 256 ^ (b.length % 8) := by
    rw [← hcl]; exact val_lt ((hb.drop _).take _)
  have hpl := pow_le (k := b.length % 8) (by omega)
  have hsum : val (chunk b (b.length / 8)) + 256 ^ (b.length % 8) * x < 18446744073709551616 := by
    have h1 : 256 ^ (b.length % 8) * x ≤ 256 ^ (b.length % 8) * 255 := Nat.mul_le_mul_left _ (by omega)
    omega
  by_cases h : b.length % 8 = 0
  · rw [if_pos h]
    have hv0 : val (chunk b (b.length / 8)) = 0 := by rw [h] at hvl; simpa using hvl
    have hn : need b.length = b.length / 8 := by unfold need; omega
    refine ⟨0, ?_, by omega, ?_⟩
    · rw [List.getElem?_append_right (by rw [pk_len]; omega), pk_len, hn]; simp
    · apply List.ext_getElem?
      intro j
      rw [pk_get, List.getElem?_set]
      have hn2 : need (b ++ [x]).length = b.length / 8 + 1 := by unfold need; simp; omega
      rw [hn2]
      by_cases hj : b.length / 8 = j
      · subst hj
        rw [if_pos (by omega), if_pos rfl, if_pos (by rw [List.length_append, pk_len, hn]; simp), chunk_new, val_snoc, hcl, hv0]
      · rw [if_neg hj]
        by_cases hj2 : j < b.length / 8
        · rw [if_pos (by omega), List.getElem?_append_left (by rw [pk_len]; omega), pk_get, if_pos (by omega), chunk_old x hj2]
        · rw [if_neg (by omega), List.getElem?_eq_none (by rw [List.length_append, pk_len, hn]; simp; omega)]
  · rw [if_neg h]
    have hn : need b.length = b.length / 8 + 1 := by unfold need; omega
    refine ⟨val (chunk b (b.length / 8)), ?_, hsum, ?_⟩
    · rw [pk_get, if_pos (by omega)]
    · apply List.ext_getElem?
      intro j
      rw [pk_get, List.getElem?_set]
      have hn2 : need (b ++ [x]).length = b.length / 8 + 1 := by unfold need; simp; omega
      rw [hn2]
      by_cases hj : b.length / 8 = j
      · subst hj
        rw [if_pos (by omega), if_pos rfl, if_pos (by rw [pk_len]; omega), chunk_new, val_snoc, hcl]
      · rw [if_neg hj]
        by_cases hj2 : j < b.length / 8
        · rw [if_pos (by omega), pk_get, if_pos (by omega), chunk_old x hj2]
        · rw [if_neg (by omega), pk_get, if_neg (by omega)]
theorem pk_small {b : List Nat} (hb : Bytes b) : Small (pk b) := by
  intro y hy
  obtain ⟨i, hi, rfl⟩ := List.mem_map.1 hy
  have h1 := val_lt ((hb.drop (8 * i)).take 8)
  have h2 : ((b.drop (8 * i)).take 8).length ≤ 8 := by simp; omega
  have h3 : 256 ^ ((b.drop (8 * i)).take 8).length ≤ 256 ^ 8 := Nat.pow_le_pow_right (by omega) h2
  show val ((b.drop (8 * i)).take 8) < _
  simp only [show (256 : Nat) ^ 8 = 18446744073709551616 from by decide] at h3
  omega

/-- the bytes that words stand for -/
def bytesOf (l : List Nat) (n : Nat) : List Nat := (List.range n).map (fun i => (l[i / 8]?.getD 0) / 256 ^ (i % 8) % 256)
theorem bytesOf_len (l : List Nat) (n : Nat) : (bytesOf l n).length = n := by unfold bytesOf; simp
theorem bytesOf_bytes (l : List Nat) (n : Nat) : Bytes (bytesOf l n) := by
  intro y hy
  obtain ⟨i, _, rfl⟩ := List.mem_map.1 hy
  exact Nat.mod_lt _ (by omega)
theorem bytesOf_snoc (l : List Nat) (n : Nat) : bytesOf l (n + 1) = bytesOf l n ++ [(l[n / 8]?.getD 0) / 256 ^ (n % 8) % 256] := by
  unfold bytesOf
  rw [List.range_succ, List.map_append]; rfl
/-- whether words are the Pack of so many bytes -/
def mayU (l : List Nat) (n : Int) : Bool := decide (0 ≤ n) && decide (need n.toNat = l.length) && decide (pk (bytesOf l n.toNat) = l)
end U

namespace Go.Proofs.YtamndllolppmoaaGreat
open Wd U Go.RowKit Go.ChangeShapes Go.WideShapes Go.ChangeAt Go.Deep
set_option linter.unusedVariables false

/-! one effect, plainly -/
structure Eff where
  kind : Int
  ino : Int
  dir : Int
  dst : Int
  page : Int
  size : Int
  name : ByteArray
  other : ByteArray
  A : Option Addr
  cp : Nat
  data : List Nat
instance : Inhabited Eff := ⟨⟨0, 0, 0, 0, 0, 0, .empty, .empty, none, 0, []⟩⟩
def Eff.vals (e : Eff) : List Value := [.int .i64 e.kind, .int .i64 e.ino, .int .i64 e.dir, .int .i64 e.dst, .int .i64 e.page, .int .i64 e.size, .string e.name, .string e.other, .slice e.A e.data.length e.cp]
def Eff.val (e : Eff) : Value := .agg #[.int .i64 e.kind, .int .i64 e.ino, .int .i64 e.dir, .int .i64 e.dst, .int .i64 e.page, .int .i64 e.size, .string e.name, .string e.other, .slice e.A e.data.length e.cp]
structure Eff.Ok (e : Eff) (w : World) (B : Nat) : Prop where
  kind : i64R e.kind
  ino : i64R e.ino
  dir : i64R e.dir
  dst : i64R e.dst
  page : i64R e.page
  size : i64R e.size
  name : e.name.size ≤ maxLen
  other : e.other.size ≤ maxLen
  bytes : Bytes e.data
  row : Row w B e.A e.data.length (e.data.map bt)
  le : e.data.length ≤ maxLen
  cap : e.data.length ≤ e.cp
theorem Eff.Ok.below {e : Eff} {w w' : World} {B : Nat} (h : e.Ok w B) (hb : Below B w w') : e.Ok w' B := ⟨h.kind, h.ino, h.dir, h.dst, h.page, h.size, h.name, h.other, h.bytes, h.row.below hb, h.le, h.cap⟩
theorem Eff.Ok.more {e : Eff} {w : World} {B B' : Nat} (h : e.Ok w B) (hB : B ≤ B') : e.Ok w B' := ⟨h.kind, h.ino, h.dir, h.dst, h.page, h.size, h.name, h.other, h.bytes, h.row.more hB, h.le, h.cap⟩
theorem row_bytes' {w : World} {B : Nat} {A : Option Addr} {l : List Int} (h : Row w B A l.length (l.map (Value.int .u8))) (hok : ∀ y ∈ l, (Lit.int .u8 y).wf = true) :
    ∃ m : List Nat, m.length = l.length ∧ Bytes m ∧ Row w B A m.length (m.map bt) := by
  have hb : ∀ y ∈ l, 0 ≤ y ∧ y < 256 := by
    intro y hy
    have h : IntKind.u8.min ≤ y ∧ y ≤ IntKind.u8.max := by simpa [Lit.wf] using hok y hy
    have m1 : IntKind.u8.min = 0 := by decide
    have m2 : IntKind.u8.max = 255 := by decide
    omega
  refine ⟨l.map Int.toNat, by simp, ?_, ?_⟩
  · intro x hx
    obtain ⟨y, hy, rfl⟩ := List.mem_map.1 hx
    have := hb y hy; omega
  · have e : (l.map Int.toNat).map bt = l.map (Value.int .u8) := by
      rw [List.map_map]
      refine List.map_congr_left fun y hy => ?_
      have := hb y hy
      show Value.int .u8 ((y.toNat : Nat) : Int) = _
      rw [Int.toNat_of_nonneg this.1]
    rw [e, List.length_map]
    exact h
/-- the nine fields of an effect, as they are trodden -/
theorem eff_of {H : Type} {enc : TypeId × Value → H} {w : World} {base : Nat} {spare : Nat → Bool} {held : Bool} {n : Nat} {u0 u1 u2 u3 u4 u5 u6 u7 u8 : Value} {y0 y1 y2 y3 y4 y5 y6 y7 y8 : DataW H × List MemPlace}
    (t0 : DataW.trod enc Tryz.prog w base spare held n 3 [u0] = some y0) (t1 : DataW.trod enc Tryz.prog w base spare held n 3 [u1] = some y1) (t2 : DataW.trod enc Tryz.prog w base spare held n 3 [u2] = some y2)
    (t3 : DataW.trod enc Tryz.prog w base spare held n 3 [u3] = some y3) (t4 : DataW.trod enc Tryz.prog w base spare held n 3 [u4] = some y4) (t5 : DataW.trod enc Tryz.prog w base spare held n 3 [u5] = some y5)
    (t6 : DataW.trod enc Tryz.prog w base spare held n 9 [u6] = some y6) (t7 : DataW.trod enc Tryz.prog w base spare held n 9 [u7] = some y7) (t8 : DataW.trod enc Tryz.prog w base spare held n 48 [u8] = some y8) :
    ∃ e : Eff, e.vals = [u0, u1, u2, u3, u4, u5, u6, u7, u8] ∧ e.Ok w w.heap.size := by
  obtain ⟨a0, z0, _, w0⟩ := DataW.trod_int Tryz.underlying3 t0
  obtain ⟨a1, z1, _, w1⟩ := DataW.trod_int Tryz.underlying3 t1
  obtain ⟨a2, z2, _, w2⟩ := DataW.trod_int Tryz.underlying3 t2
  obtain ⟨a3, z3, _, w3⟩ := DataW.trod_int Tryz.underlying3 t3
  obtain ⟨a4, z4, _, w4⟩ := DataW.trod_int Tryz.underlying3 t4
  obtain ⟨a5, z5, _, w5⟩ := DataW.trod_int Tryz.underlying3 t5
  obtain ⟨s6, z6, _, w6⟩ := DataW.trod_string Tryz.underlying9 t6
  obtain ⟨s7, z7, _, w7⟩ := DataW.trod_string Tryz.underlying9 t7
  obtain rfl := (List.cons.inj z0).1
  obtain rfl := (List.cons.inj z1).1
  obtain rfl := (List.cons.inj z2).1
  obtain rfl := (List.cons.inj z3).1
  obtain rfl := (List.cons.inj z4).1
  obtain rfl := (List.cons.inj z5).1
  obtain rfl := (List.cons.inj z6).1
  obtain rfl := (List.cons.inj z7).1
  obtain ⟨A, cp, l, rfl, r, ok, q1, q2⟩ := row_of_trod (f := Value.int .u8) (ok := fun y => (Lit.int .u8 y).wf = true) Tryz.underlying48 (by kernel_rfl) (fun n v x h => by obtain ⟨b, hb, _, hw⟩ := DataW.trod_int Tryz.underlying5 h; exact ⟨b, (List.cons.inj hb).1, hw⟩) t8
  obtain ⟨m, hm, hb, hr⟩ := row_bytes' r ok
  refine ⟨⟨a0, a1, a2, a3, a4, a5, s6, s7, A, cp, m⟩, by unfold Eff.vals; rw [hm], ⟨i64R_of w0, i64R_of w1, i64R_of w2, i64R_of w3, i64R_of w4, i64R_of w5, w6, w7, hb, hr, by show m.length ≤ _; rw [hm]; exact Nat.le_trans q1 q2, by show m.length ≤ cp; rw [hm]; exact q1⟩⟩
set_option maxRecDepth 100000 in
theorem open_effect {H : Type} {enc : TypeId × Value → H} {w : World} {base : Nat} {spare : Nat → Bool} {held : Bool} {r : Reach} {b0 : Nat} {v : Value} {d : DataW H} {p : List MemPlace}
    (hv : Value.okWide Tryz.prog w r b0 50 v) (h : DataW.Trod enc Tryz.prog w base spare held 50 v d p) : ∃ e : Eff, v = e.val ∧ e.Ok w w.heap.size := by
  obtain ⟨cs, rfl, hsz, n, hy⟩ := open_struct Tryz.underlying50 (by kernel_rfl) (by kernel_rfl) hv h
  obtain ⟨u0, y0, c0, t0⟩ := hy 0 _ rfl
  obtain ⟨u1, y1, c1, t1⟩ := hy 1 _ rfl
  obtain ⟨u2, y2, c2, t2⟩ := hy 2 _ rfl
  obtain ⟨u3, y3, c3, t3⟩ := hy 3 _ rfl
  obtain ⟨u4, y4, c4, t4⟩ := hy 4 _ rfl
  obtain ⟨u5, y5, c5, t5⟩ := hy 5 _ rfl
  obtain ⟨u6, y6, c6, t6⟩ := hy 6 _ rfl
  obtain ⟨u7, y7, c7, t7⟩ := hy 7 _ rfl
  obtain ⟨u8, y8, c8, t8⟩ := hy 8 _ rfl
  obtain ⟨e, hvals, hok⟩ := eff_of t0 t1 t2 t3 t4 t5 t6 t7 t8
  refine ⟨e, ?_, hok⟩
  have hcs : cs = #[u0, u1, u2, u3, u4, u5, u6, u7, u8] := by
    apply Array.ext_getElem?
    intro j
    match j with
    | 0 => exact c0
    | 1 => exact c1
    | 2 => exact c2
    | 3 => exact c3
    | 4 => exact c4
    | 5 => exact c5
    | 6 => exact c6
    | 7 => exact c7
    | 8 => exact c8
    | j + 9 =>
      have hs9 : cs.size = 9 := hsz
      rw [Array.getElem?_eq_none (by omega), Array.getElem?_eq_none (by simp)]
  rw [hcs, ← hvals]
  rfl
/-- effects in a row -/
structure Effs (w : World) (B : Nat) (A : Option Addr) (l : List Eff) : Prop where
  at_ : 0 < l.length → ∃ b off, A = some ⟨b, off, none⟩ ∧ b < B ∧ ∀ (j : Nat) (e : Eff), l[j]? = some e → ∀ (k : Nat) (x : Value), e.vals[k]? = some x → w.cell? ⟨b, off + (j * 9 + k), none⟩ = some x
  ok : ∀ e ∈ l, e.Ok w B
theorem Effs.below {w w' : World} {B : Nat} {A : Option Addr} {l : List Eff} (h : Effs w B A l) (hb : Below B w w') : Effs w' B A l :=
  ⟨fun hn => by
    obtain ⟨b, off, e, hB, hx⟩ := h.at_ hn
    exact ⟨b, off, e, hB, fun j d hj k x hk => (hb.cell (p := ⟨b, _, none⟩) hB).trans (hx j d hj k x hk)⟩, fun d hd => (h.ok d hd).below hb⟩
theorem Effs.more {w : World} {B B' : Nat} {A : Option Addr} {l : List Eff} (h : Effs w B A l) (hB : B ≤ B') : Effs w B' A l :=
  ⟨fun hn => by
    obtain ⟨b, off, e, hb, hx⟩ := h.at_ hn
    exact ⟨b, off, e, Nat.lt_of_lt_of_le hb hB, hx⟩, fun d hd => (h.ok d hd).more hB⟩
set_option maxRecDepth 100000 in
theorem open_effects {H : Type} {enc : TypeId × Value → H} {w : World} {base : Nat} {spare : Nat → Bool} {held : Bool} {r : Reach} {b0 : Nat} {v : Value} {d : DataW H} {p : List MemPlace}
    (hv : Value.okWide Tryz.prog w r b0 23 v) (h : DataW.Trod enc Tryz.prog w base spare held 23 v d p) :
    ∃ (A : Option Addr) (c : Nat) (l : List Eff), v = .slice A l.length c ∧ Effs w w.heap.size A l ∧ l.length ≤ c ∧ c ≤ maxLen := by
  obtain ⟨A, len, cap, rfl, h1, h2, h3⟩ := open_structs Tryz.underlying23 Tryz.underlying50 (by kernel_rfl) (by kernel_rfl) (by decide) hv h
  by_cases hn : 0 < len
  · obtain ⟨b, off, rfl, hb, hx⟩ := h3 hn
    have each : ∀ i, i < len → ∃ d : Eff, (∀ (k : Nat) (x : Value), d.vals[k]? = some x → w.cell? ⟨b, off + (i * 9 + k), none⟩ = some x) ∧ d.Ok w w.heap.size := by
      intro i hi
      obtain ⟨n, hy⟩ := hx i hi
      obtain ⟨u0, y0, c0, t0⟩ := hy 0 _ rfl
      obtain ⟨u1, y1, c1, t1⟩ := hy 1 _ rfl
      obtain ⟨u2, y2, c2, t2⟩ := hy 2 _ rfl
      obtain ⟨u3, y3, c3, t3⟩ := hy 3 _ rfl
      obtain ⟨u4, y4, c4, t4⟩ := hy 4 _ rfl
      obtain ⟨u5, y5, c5, t5⟩ := hy 5 _ rfl
      obtain ⟨u6, y6, c6, t6⟩ := hy 6 _ rfl
      obtain ⟨u7, y7, c7, t7⟩ := hy 7 _ rfl
      obtain ⟨u8, y8, c8, t8⟩ := hy 8 _ rfl
      obtain ⟨e, hvals, hok⟩ := eff_of t0 t1 t2 t3 t4 t5 t6 t7 t8
      refine ⟨e, ?_, hok⟩
      intro k x hk
      rw [hvals] at hk
      match k, hk with
      | 0, hk => cases hk; exact c0
      | 1, hk => cases hk; exact c1
      | 2, hk => cases hk; exact c2
      | 3, hk => cases hk; exact c3
      | 4, hk => cases hk; exact c4
      | 5, hk => cases hk; exact c5
      | 6, hk => cases hk; exact c6
      | 7, hk => cases hk; exact c7
      | 8, hk => cases hk; exact c8
      | k + 9, hk => simp at hk
    obtain ⟨Y, hY⟩ := choose_lt (n := len) (p := fun i (d : Eff) => (∀ (k : Nat) (x : Value), d.vals[k]? = some x → w.cell? ⟨b, off + (i * 9 + k), none⟩ = some x) ∧ d.Ok w w.heap.size) each
    refine ⟨_, cap, (List.range len).map Y, by simp, ⟨fun _ => ⟨b, off, rfl, hb, fun j d hj k x hk => ?_⟩, fun d hd => ?_⟩, by simp; exact h1, h2⟩
    · obtain ⟨hj1, hj2⟩ := List.getElem?_eq_some_iff.1 hj
      simp at hj1 hj2
      subst hj2
      exact (hY j hj1).1 k x hk
    · obtain ⟨i, hi, rfl⟩ := List.mem_map.1 hd
      exact (hY i (List.mem_range.1 hi)).2
  · obtain rfl : len = 0 := by omega
    exact ⟨A, cap, [], rfl, ⟨fun h => absurd h (by simp), fun d hd => by cases hd⟩, by simp, h2⟩
end Go.Proofs.YtamndllolppmoaaGreat

namespace Go.Proofs.YtamndllolppmoaaGreat
open Wd U Go.RowKit Go.ChangeShapes Go.WideShapes
set_option linter.unusedVariables false

/-! whether effects are few -/
def Eff.few (e : Eff) : Prop := e.data.length ≤ 300 ∧ e.name.size ≤ 100 ∧ e.other.size ≤ 100
instance (e : Eff) : Decidable e.few := by unfold Eff.few; exact inferInstance
def fewE (l : List Eff) : Bool := l.all (fun e => decide e.few) && decide (l.length ≤ 30)
theorem fewE_iff {l : List Eff} : fewE l = true ↔ (∀ e ∈ l, e.few) ∧ l.length ≤ 30 := by unfold fewE; simp
def FewERel (w : World) (l : List Eff) (i : Value) (wr : World) : Prop := ∃ k : Nat, k ≤ l.length ∧ i = .int .i64 k ∧ (∀ e ∈ l.take k, e.few) ∧ Below w.heap.size w wr
def RetB (w : World) (b : Bool) (e : Ending) (w' : World) : Prop := e = .returned (.bool b) ∧ Below w.heap.size w w'
theorem no_few {l : List Eff} {k : Nat} {e : Eff} (h : l[k]? = some e) (hn : ¬ e.few) : fewE l = false := by
  cases hf : fewE l
  · rfl
  · exact absurd ((fewE_iff.1 hf).1 e (List.mem_of_getElem? h)) hn
theorem effs_cells {w : World} {B : Nat} {A : Option Addr} {l : List Eff} (h : Effs w B A l) {k : Nat} {e : Eff} (hk : l[k]? = some e) : ∃ b off, A = some ⟨b, off, none⟩ ∧ b < B ∧
    w.cell? ⟨b, off + k * 9, none⟩ = some (.int .i64 e.kind) ∧ w.cell? ⟨b, off + k * 9 + 1, none⟩ = some (.int .i64 e.ino) ∧ w.cell? ⟨b, off + k * 9 + 2, none⟩ = some (.int .i64 e.dir) ∧ w.cell? ⟨b, off + k * 9 + 3, none⟩ = some (.int .i64 e.dst) ∧
    w.cell? ⟨b, off + k * 9 + 4, none⟩ = some (.int .i64 e.page) ∧ w.cell? ⟨b, off + k * 9 + 5, none⟩ = some (.int .i64 e.size) ∧ w.cell? ⟨b, off + k * 9 + 6, none⟩ = some (.string e.name) ∧ w.cell? ⟨b, off + k * 9 + 7, none⟩ = some (.string e.other) ∧
    w.cell? ⟨b, off + k * 9 + 8, none⟩ = some (.slice e.A e.data.length e.cp) := by
  obtain ⟨b, off, rfl, hb, hx⟩ := h.at_ (by have := (List.getElem?_eq_some_iff.1 hk).1; omega)
  have g := hx k e hk
  exact ⟨b, off, rfl, hb, g 0 _ rfl, g 1 _ rfl, g 2 _ rfl, g 3 _ rfl, g 4 _ rfl, g 5 _ rfl, g 6 _ rfl, g 7 _ rfl, g 8 _ rfl⟩
theorem take_snocE {α : Type} {l : List α} {k : Nat} {x : α} (h : l[k]? = some x) : l.take (k + 1) = l.take k ++ [x] := by rw [List.take_add_one, h]; rfl

set_option maxRecDepth 100000 in
set_option maxHeartbeats 1000000 in
theorem few_any {w : World} {A : Option Addr} {c : Nat} {l : List Eff} (h : Effs w w.heap.size A l) (hm : l.length ≤ maxLen) : Calls Tryz.prog 10 #[.slice A l.length c] w (RetB w (fewE l)) := by
  unfold maxLen at hm
  go_enter Tryz.func10, Tryz.ntmps10
  go_wp2
  go_loopw [7] (fun i wr => FewERel w l i wr) (fun i _ => l.length - (intOf i).toNat)
  case atStart => exact ⟨0, Nat.zero_le _, rfl, by simp, Below.refl _ _⟩
  case round =>
    obtain ⟨k, hk, rfl, hall, hb⟩ := hrel
    by_cases hlt : k < l.length
    · obtain ⟨e, he⟩ : ∃ e, l[k]? = some e := ⟨_, List.getElem?_eq_getElem hlt⟩
      have hD := h.below hb
      obtain ⟨b, off, rfl, hbB, x0, x1, x2, x3, x4, x5, x6, x7, x8⟩ := effs_cells hD he
      have ok := hD.ok e (List.mem_of_getElem? he)
      have le1 := ok.le
      have le2 := ok.name
      have le3 := ok.other
      unfold maxLen at le1 le2 le3
      have HB := Lib.hid hb; have HA := Lib.hid hall; have HE := Lib.hid he
      clear hD hb hall he ok
      have hkl : (k : Int) < (l.length : Int) := by omega
      by_cases q1 : e.data.length ≤ 300
      · have p1 : decide ((e.data.length : Int) > 300) = false := decide_eq_false (by omega)
        by_cases q2 : e.name.size ≤ 100
        · have p2 : decide ((e.name.size : Int) > 100) = false := decide_eq_false (by omega)
          by_cases q3 : e.other.size ≤ 100
          · have p3 : decide ((e.other.size : Int) > 100) = false := decide_eq_false (by omega)
            have HF := Lib.hid (⟨q1, q2, q3⟩ : e.few)
            go_wp2
            go_roundw
            case rel =>
              refine ⟨k + 1, by omega, by go_num, ?_, HB.out.alloc HB.out.size _⟩
              rw [take_snocE HE.out]
              intro x hx
              rcases List.mem_append.1 hx with h | h
              · exact HA.out x h
              · simp at h; subst h; exact HF.out
            case measure => simp [intOf]; omega
          · have p3 : decide ((e.other.size : Int) > 100) = true := decide_eq_true (by omega)
            have HF := Lib.hid (no_few HE.out fun f => q3 f.2.2)
            clear q3
            go_wp2
            go_ret
            exact ⟨by rw [HF.out]; rfl, HB.out.alloc HB.out.size _⟩
        · have p2 : decide ((e.name.size : Int) > 100) = true := decide_eq_true (by omega)
          have HF := Lib.hid (no_few HE.out fun f => q2 f.2.1)
          clear q2
          go_wp2
          go_ret
          exact ⟨by rw [HF.out]; rfl, HB.out.alloc HB.out.size _⟩
      · have p1 : decide ((e.data.length : Int) > 300) = true := decide_eq_true (by omega)
        have HF := Lib.hid (no_few HE.out fun f => q1 f.1)
        clear q1
        go_wp2
        go_ret
        exact ⟨by rw [HF.out]; rfl, HB.out.alloc HB.out.size _⟩
    · obtain rfl : k = l.length := by omega
      have e : fewE l = decide ((l.length : Int) ≤ 30) := by
        unfold fewE
        rw [List.all_eq_true.2 (fun d hd => by simpa using hall d (by rw [List.take_of_length_le (Nat.le_refl _)]; exact hd)), Bool.true_and]
        by_cases h30 : l.length ≤ 30
        · rw [decide_eq_true h30, decide_eq_true (by omega)]
        · rw [decide_eq_false h30, decide_eq_false (by omega)]
      have HE := Lib.hid e
      have HB := Lib.hid hb
      clear hb hall e h
      go_wp2
      go_ret
      exact ⟨by rw [HE.out]; simp, HB.out⟩
end Go.Proofs.YtamndllolppmoaaGreat

/-! Deeds: effects with refs, in a row. -/
namespace Wd
open Go Go.RowKit Go.ChangeShapes Go.WideShapes Go.ChangeAt Go.Deep
section
variable {H : Type} {enc : TypeId × Value → H} {P : Program} {w : World} {base : Nat} {spare : Nat → Bool} {held : Bool}
theorem trod_fields {t : TypeId} {fs : Array Field} {fuel : Nat} {cs : List Value} {x : DataW H × List MemPlace} (he : P.underlying t = some (.struct fs)) (hone : oneCellFields P fs = true) (hC : P.cellsOf t = fs.size) (h : DataW.trod enc P w base spare held fuel t cs = some x) :
    cs.length = fs.size ∧ ∃ n, ∀ (j : Nat) (f : Field), fs[j]? = some f → ∃ (u : Value) (y : DataW H × List MemPlace), cs[j]? = some u ∧ DataW.trod enc P w base spare held n f.type [u] = some y := by
  obtain ⟨ys, n', _, _, hlen, hyl, hg⟩ := DataW.trod_struct he h
  rw [hC] at hlen
  refine ⟨hlen, n', fun j f hj => ?_⟩
  obtain ⟨ho, hk⟩ := hone_of hone j f hj
  have hjl : j < fs.size := (Array.getElem?_eq_some_iff.1 hj).1
  have h3 := hg j f hj
  rw [ho, hk, show (cs.drop j).take 1 = [cs[j]'(by omega)] from by rw [List.drop_eq_getElem_cons (by omega)]; rfl] at h3
  have hys : ys[j]? = some (ys[j]'(by omega)) := List.getElem?_eq_getElem (by omega)
  exact ⟨cs[j]'(by omega), _, List.getElem?_eq_getElem (by omega), h3.trans hys⟩
/-- a slice of elements of K cells -/
theorem open_elems {r : Reach} {b0 : Nat} {t e : TypeId} {K : Nat} {v : Value} {d : DataW H} {p : List MemPlace} (ht : P.underlying t = some (.slice e)) (hC : P.cellsOf e = K) (hpos : 0 < K)
    (hv : Value.okWide P w r b0 t v) (h : DataW.Trod enc P w base spare held t v d p) :
    ∃ (A : Option Addr) (len cap : Nat), v = .slice A len cap ∧ len ≤ cap ∧ cap ≤ maxLen ∧ (0 < len → ∃ b off, A = some ⟨b, off, none⟩ ∧ b < w.heap.size ∧
      ∀ i, i < len → ∃ (cs : List Value) (n : Nat) (y : DataW H × List MemPlace), cs.length = K ∧ (∀ j, j < K → w.cell? ⟨b, off + (i * K + j), none⟩ = cs[j]?) ∧ DataW.trod enc P w base spare held n e cs = some y) := by
  obtain ⟨a0, len0, cap0, rfl⟩ := okWide_slice ht hv
  obtain ⟨fuel, hf⟩ := h
  rcases open_slice ht hf with ⟨hcs, _⟩ | ⟨a, len, cap, m, n, D, Pl, hcs, _, hl, hm, hmm, _, hi⟩
  · obtain ⟨rfl, rfl, rfl⟩ : a0 = _ ∧ len0 = _ ∧ cap0 = _ := by simpa [Value.cells] using hcs
    exact ⟨none, 0, 0, rfl, Nat.le_refl _, by simp, fun h => absurd h (by omega)⟩
  · obtain ⟨rfl, rfl, rfl⟩ : a0 = _ ∧ len0 = _ ∧ cap0 = _ := by simpa [Value.cells] using hcs
    have hle : len0 ≤ m := by rw [hmm]; split <;> omega
    have each : ∀ i, i < len0 → ∃ (cs : List Value) (n : Nat) (y : DataW H × List MemPlace), cs.length = K ∧ (∀ j, j < K → w.cell? (a.add (i * K + j)) = cs[j]?) ∧ DataW.trod enc P w base spare held n e cs = some y := by
      intro i hil
      obtain ⟨cs', h1, h2⟩ := hi i (by omega)
      rw [hC] at h1
      obtain ⟨_, hcl, hat⟩ := World.cells?_some h1
      refine ⟨cs', n, _, hcl, fun j hj => ?_, h2⟩
      have := hat j hj
      rw [add_add] at this
      exact this
    refine ⟨some a, len0, cap0, rfl, hl, hm, fun hn => ?_⟩
    obtain ⟨b, off, spot⟩ := a
    obtain ⟨cs0, n0, y0, hl0, hx, _⟩ := each 0 hn
    have hc0 := hx 0 hpos
    rw [List.getElem?_eq_getElem (by omega)] at hc0
    have hs : spot = none := by simpa [Addr.add] using World.cell?_spot hc0
    refine ⟨b, off, by rw [hs], by simpa [Addr.add] using World.block_lt_of_cell? _ _ hc0, fun i hil => ?_⟩
    obtain ⟨cs1, n1, y1, hl1, hx, ht1⟩ := each i hil
    refine ⟨cs1, n1, y1, hl1, fun j hj => ?_, ht1⟩
    have := hx j hj
    rw [add_at hs] at this
    exact this
theorem sized_len {t e : TypeId} {ts : List TypeId} {ds : List (DataW H)} {j : Nat} {A : Option Addr} {len cap : Nat} {d : DataW H} {p : List MemPlace} (hsz : (DataW.weightsEach P ts ds).all (· ≤ reachBytes) = true) (hj : ts[j]? = some t) (hd : ds[j]? = some d)
    (ht : P.underlying t = some (.slice e)) (h : DataW.Trod enc P w base spare held t (.slice A len cap) d p) : len * P.bytesOf e ≤ reachBytes := by
  obtain ⟨fuel, hf⟩ := h
  rcases open_slice ht hf with ⟨hcs, _⟩ | ⟨a, len2, cap2, m, n, D, Pl, hcs, _, hl, hm, hmm, hx, hi⟩
  · obtain ⟨rfl, rfl, rfl⟩ : A = _ ∧ len = _ ∧ cap = _ := by simpa [Value.cells] using hcs
    simp
  · obtain ⟨rfl, rfl, rfl⟩ : A = _ ∧ len = _ ∧ cap = _ := by simpa [Value.cells] using hcs
    obtain ⟨hx1, _⟩ := Prod.mk.inj hx
    subst hx1
    have := sized_slice hsz hj hd ht
    simp only [List.length_map, List.length_range] at this
    exact Nat.le_trans (Nat.mul_le_mul_right _ (Nat.le_add_right _ _)) this
end
end Wd
namespace Go.Proofs.YtamndllolppmoaaGreat
open Wd U Go.RowKit Go.ChangeShapes Go.WideShapes Go.ChangeAt Go.Deep
set_option linter.unusedVariables false
structure Dd where
  e : Eff
  ref : Int
instance : Inhabited Dd := ⟨⟨default, 0⟩⟩
def Dd.vals (d : Dd) : List Value := d.e.vals ++ [.int .i64 d.ref]
def Dd.val (d : Dd) : Value := .agg #[.int .i64 d.e.kind, .int .i64 d.e.ino, .int .i64 d.e.dir, .int .i64 d.e.dst, .int .i64 d.e.page, .int .i64 d.e.size, .string d.e.name, .string d.e.other, .slice d.e.A d.e.data.length d.e.cp, .int .i64 d.ref]
structure Dd.Ok (d : Dd) (w : World) (B : Nat) : Prop where
  e : d.e.Ok w B
  ref : i64R d.ref
theorem Dd.Ok.below {d : Dd} {w w' : World} {B : Nat} (h : d.Ok w B) (hb : Below B w w') : d.Ok w' B := ⟨h.e.below hb, h.ref⟩
theorem Dd.Ok.more {d : Dd} {w : World} {B B' : Nat} (h : d.Ok w B) (hB : B ≤ B') : d.Ok w B' := ⟨h.e.more hB, h.ref⟩
set_option maxRecDepth 100000 in
theorem deed_of {H : Type} {enc : TypeId × Value → H} {w : World} {base : Nat} {spare : Nat → Bool} {held : Bool} {n : Nat} {cs : List Value} {y : DataW H × List MemPlace}
    (h : DataW.trod enc Tryz.prog w base spare held n 52 cs = some y) : ∃ d : Dd, cs = d.vals ∧ d.Ok w w.heap.size := by
  obtain ⟨y0, y1, m, _, hl, t0, t1⟩ := trod_struct2 Tryz.underlying52 h
  have hC : Tryz.prog.cellsOf 52 = 10 := by kernel_rfl
  have hE : Tryz.prog.cellsOf 50 = 9 := by kernel_rfl
  have hI : Tryz.prog.cellsOf 3 = 1 := by kernel_rfl
  rw [hC] at hl
  dsimp only at t0 t1
  rw [hE, List.drop_zero] at t0
  rw [hI] at t1
  match cs, hl with
  | [u0, u1, u2, u3, u4, u5, u6, u7, u8, u9], _ =>
    obtain ⟨_, n2, hg⟩ := trod_fields Tryz.underlying50 (by kernel_rfl) (by kernel_rfl) t0
    obtain ⟨_, z0, c0, s0⟩ := hg 0 _ rfl
    obtain ⟨_, z1, c1, s1⟩ := hg 1 _ rfl
    obtain ⟨_, z2, c2, s2⟩ := hg 2 _ rfl
    obtain ⟨_, z3, c3, s3⟩ := hg 3 _ rfl
    obtain ⟨_, z4, c4, s4⟩ := hg 4 _ rfl
    obtain ⟨_, z5, c5, s5⟩ := hg 5 _ rfl
    obtain ⟨_, z6, c6, s6⟩ := hg 6 _ rfl
    obtain ⟨_, z7, c7, s7⟩ := hg 7 _ rfl
    obtain ⟨_, z8, c8, s8⟩ := hg 8 _ rfl
    obtain rfl := Option.some.inj c0
    obtain rfl := Option.some.inj c1
    obtain rfl := Option.some.inj c2
    obtain rfl := Option.some.inj c3
    obtain rfl := Option.some.inj c4
    obtain rfl := Option.some.inj c5
    obtain rfl := Option.some.inj c6
    obtain rfl := Option.some.inj c7
    obtain rfl := Option.some.inj c8
    obtain ⟨e, hvals, hok⟩ := eff_of s0 s1 s2 s3 s4 s5 s6 s7 s8
    obtain ⟨a9, q9, _, w9⟩ := DataW.trod_int Tryz.underlying3 (show DataW.trod enc Tryz.prog w base spare held m 3 [u9] = some y1 from t1)
    obtain rfl := (List.cons.inj q9).1
    exact ⟨⟨e, a9⟩, by unfold Dd.vals; rw [hvals]; rfl, hok, i64R_of w9⟩
/-- deeds in a row -/
structure Dds (w : World) (B : Nat) (A : Option Addr) (l : List Dd) : Prop where
  at_ : 0 < l.length → ∃ b off, A = some ⟨b, off, none⟩ ∧ b < B ∧ ∀ (j : Nat) (d : Dd), l[j]? = some d → ∀ (k : Nat) (x : Value), d.vals[k]? = some x → w.cell? ⟨b, off + (j * 10 + k), none⟩ = some x
  ok : ∀ d ∈ l, d.Ok w B
theorem Dds.below {w w' : World} {B : Nat} {A : Option Addr} {l : List Dd} (h : Dds w B A l) (hb : Below B w w') : Dds w' B A l :=
  ⟨fun hn => by
    obtain ⟨b, off, e, hB, hx⟩ := h.at_ hn
    exact ⟨b, off, e, hB, fun j d hj k x hk => (hb.cell (p := ⟨b, _, none⟩) hB).trans (hx j d hj k x hk)⟩, fun d hd => (h.ok d hd).below hb⟩
theorem Dds.more {w : World} {B B' : Nat} {A : Option Addr} {l : List Dd} (h : Dds w B A l) (hB : B ≤ B') : Dds w B' A l :=
  ⟨fun hn => by
    obtain ⟨b, off, e, hb, hx⟩ := h.at_ hn
    exact ⟨b, off, e, Nat.lt_of_lt_of_le hb hB, hx⟩, fun d hd => (h.ok d hd).more hB⟩
theorem dds_cells {w : World} {B : Nat} {A : Option Addr} {l : List Dd} (h : Dds w B A l) {k : Nat} {d : Dd} (hk : l[k]? = some d) : ∃ b off, A = some ⟨b, off, none⟩ ∧ b < B ∧
    w.cell? ⟨b, off + k * 10, none⟩ = some (.int .i64 d.e.kind) ∧ w.cell? ⟨b, off + k * 10 + 1, none⟩ = some (.int .i64 d.e.ino) ∧ w.cell? ⟨b, off + k * 10 + 2, none⟩ = some (.int .i64 d.e.dir) ∧ w.cell? ⟨b, off + k * 10 + 3, none⟩ = some (.int .i64 d.e.dst) ∧
    w.cell? ⟨b, off + k * 10 + 4, none⟩ = some (.int .i64 d.e.page) ∧ w.cell? ⟨b, off + k * 10 + 5, none⟩ = some (.int .i64 d.e.size) ∧ w.cell? ⟨b, off + k * 10 + 6, none⟩ = some (.string d.e.name) ∧ w.cell? ⟨b, off + k * 10 + 7, none⟩ = some (.string d.e.other) ∧
    w.cell? ⟨b, off + k * 10 + 8, none⟩ = some (.slice d.e.A d.e.data.length d.e.cp) ∧ w.cell? ⟨b, off + k * 10 + 9, none⟩ = some (.int .i64 d.ref) := by
  obtain ⟨b, off, rfl, hb, hx⟩ := h.at_ (by have := (List.getElem?_eq_some_iff.1 hk).1; omega)
  have g := hx k d hk
  exact ⟨b, off, rfl, hb, g 0 _ rfl, g 1 _ rfl, g 2 _ rfl, g 3 _ rfl, g 4 _ rfl, g 5 _ rfl, g 6 _ rfl, g 7 _ rfl, g 8 _ rfl, g 9 _ rfl⟩
set_option maxRecDepth 100000 in
theorem open_dds {H : Type} {enc : TypeId × Value → H} {w : World} {base : Nat} {spare : Nat → Bool} {held : Bool} {r : Reach} {b0 : Nat} {v : Value} {d : DataW H} {p : List MemPlace}
    (hv : Value.okWide Tryz.prog w r b0 22 v) (h : DataW.Trod enc Tryz.prog w base spare held 22 v d p) :
    ∃ (A : Option Addr) (c : Nat) (l : List Dd), v = .slice A l.length c ∧ Dds w w.heap.size A l ∧ l.length ≤ c ∧ c ≤ maxLen := by
  obtain ⟨A, len, cap, rfl, h1, h2, h3⟩ := open_elems (K := 10) Tryz.underlying22 (by kernel_rfl) (by decide) hv h
  by_cases hn : 0 < len
  · obtain ⟨b, off, rfl, hb, hx⟩ := h3 hn
    have each : ∀ i, i < len → ∃ d : Dd, (∀ (k : Nat) (x : Value), d.vals[k]? = some x → w.cell? ⟨b, off + (i * 10 + k), none⟩ = some x) ∧ d.Ok w w.heap.size := by
      intro i hi
      obtain ⟨cs, n, y, hl, hc, ht⟩ := hx i hi
      obtain ⟨d, hd, hok⟩ := deed_of ht
      refine ⟨d, fun k x hk => ?_, hok⟩
      rw [← hd] at hk
      rw [hc k (by have := (List.getElem?_eq_some_iff.1 hk).1; omega)]
      exact hk
    obtain ⟨Y, hY⟩ := choose_lt (n := len) (p := fun i (d : Dd) => (∀ (k : Nat) (x : Value), d.vals[k]? = some x → w.cell? ⟨b, off + (i * 10 + k), none⟩ = some x) ∧ d.Ok w w.heap.size) each
    refine ⟨_, cap, (List.range len).map Y, by simp, ⟨fun _ => ⟨b, off, rfl, hb, fun j d hj k x hk => ?_⟩, fun d hd => ?_⟩, by simp; exact h1, h2⟩
    · obtain ⟨hj1, hj2⟩ := List.getElem?_eq_some_iff.1 hj
      simp at hj1 hj2
      subst hj2
      exact (hY j hj1).1 k x hk
    · obtain ⟨i, hi, rfl⟩ := List.mem_map.1 hd
      exact (hY i (List.mem_range.1 hi)).2
  · obtain rfl : len = 0 := by omega
    exact ⟨A, cap, [], rfl, ⟨fun h => absurd h (by simp), fun d hd => by cases hd⟩, by simp, h2⟩
set_option maxRecDepth 100000 in
theorem open_dd {H : Type} {enc : TypeId × Value → H} {w : World} {base : Nat} {spare : Nat → Bool} {held : Bool} {r : Reach} {b0 : Nat} {v : Value} {d : DataW H} {p : List MemPlace}
    (hv : Value.okWide Tryz.prog w r b0 52 v) (h : DataW.Trod enc Tryz.prog w base spare held 52 v d p) : ∃ d : Dd, v = d.val ∧ d.Ok w w.heap.size := by
  obtain ⟨cs, rfl, hsz⟩ := okWide_struct Tryz.underlying52 hv
  obtain ⟨fuel, hf⟩ := h
  obtain ⟨d, hd, hok⟩ := deed_of hf
  refine ⟨d, ?_, hok⟩
  have : cs.toList = d.vals := hd
  unfold Dd.val
  congr 1
  rw [← Array.toArray_toList (xs := cs), this]
  rfl
end Go.Proofs.YtamndllolppmoaaGreat

namespace Wd
open Go Go.RowKit
variable {w : World} {base n : Nat} {e : TypeId} {v : Value} {xs : List Value}

/-- a row that is owned, and holds something, opened -/
theorem own_open (h : w.ownsRow base e 1 v n xs) (hn : 0 < n) : ∃ g cap, v = .slice (some ⟨g, 0, none⟩) n cap ∧ base ≤ g ∧ n ≤ cap ∧ cap ≤ maxLen ∧ g < w.heap.size := by
  rcases h.2 with ⟨_, h0⟩ | ⟨g, cap, cur, rfl, hb, hh, h1, h2, _, _⟩
  · omega
  · exact ⟨g, cap, rfl, hb, h1, h2, lt_of_block hh⟩
theorem own_cell {g cap : Nat} (h : w.ownsRow base e 1 (.slice (some ⟨g, 0, none⟩) n cap) n xs) {k : Nat} {u : Value} (hk : xs[k]? = some u) : w.cell? ⟨g, k, none⟩ = some u ∧ w.frozen? ⟨g, k, none⟩ = false := by
  have hl := h.1
  rw [Nat.mul_one] at hl
  rcases h.2 with ⟨h0, _⟩ | ⟨g', cap', cur, hv, hb, hh, h1, h2, hs, ht⟩
  · cases h0
  · injection hv with hv _ hc
    injection hv with hv
    injection hv with hv
    subst hv hc
    rw [Nat.mul_one] at ht
    have hkn : k < n := by have := (List.getElem?_eq_some_iff.1 hk).1; omega
    have hc : Cells w g e cur := hh
    refine ⟨?_, hc.free k⟩
    rw [hc.cell k]
    rw [← ht, List.getElem?_take_of_lt hkn] at hk
    simpa using hk
theorem own_set {g cap : Nat} (h : w.ownsRow base e 1 (.slice (some ⟨g, 0, none⟩) n cap) n xs) (k : Nat) (u : Value) : (w.setCell ⟨g, k, none⟩ u).ownsRow base e 1 (.slice (some ⟨g, 0, none⟩) n cap) n (xs.set k u) := by
  rcases h with ⟨hl, h⟩
  refine ⟨by rw [List.length_set]; exact hl, ?_⟩
  rcases h with ⟨h0, _⟩ | ⟨g', cap', cur, hv, hb, hh, h1, h2, hs, ht⟩
  · cases h0
  · injection hv with hv _ hc
    injection hv with hv
    injection hv with hv
    subst hv hc
    refine .inr ⟨g, cap, cur.setIfInBounds k u, rfl, hb, Cells.set hh k u, h1, h2, by simp [hs], ?_⟩
    rw [Array.toList_setIfInBounds, List.take_set, ht]
end Wd

/-
  The nine cells of an effect.
-/
namespace Go.Proofs.YtamndllolppmoaaGreat
open Wd U Go.RowKit Go.ChangeShapes Go.WideShapes Go.Sort

def effCells (e : Eff) : Array Value := #[.int .i64 e.kind, .int .i64 e.ino, .int .i64 e.dir, .int .i64 e.dst, .int .i64 e.page, .int .i64 e.size, .string e.name, .string e.other, .slice e.A e.data.length e.cp]
theorem s9 {W w : World} {g : Nat} {e : Eff} (hc : Cells W g 50 (effCells e)) (b : Below W.heap.size W w) :
    Below W.heap.size W w ∧ w.cell? ⟨g, 0, none⟩ = some (.int .i64 e.kind) ∧ w.cell? ⟨g, 1, none⟩ = some (.int .i64 e.ino) ∧ w.cell? ⟨g, 2, none⟩ = some (.int .i64 e.dir) ∧ w.cell? ⟨g, 3, none⟩ = some (.int .i64 e.dst) ∧ w.cell? ⟨g, 4, none⟩ = some (.int .i64 e.page) ∧
      w.cell? ⟨g, 5, none⟩ = some (.int .i64 e.size) ∧ w.cell? ⟨g, 6, none⟩ = some (.string e.name) ∧ w.cell? ⟨g, 7, none⟩ = some (.string e.other) ∧ w.cell? ⟨g, 8, none⟩ = some (.slice e.A e.data.length e.cp) := by
  have h := hc.below' b
  exact ⟨b, h.cell 0, h.cell 1, h.cell 2, h.cell 3, h.cell 4, h.cell 5, h.cell 6, h.cell 7, h.cell 8⟩
end Go.Proofs.YtamndllolppmoaaGreat
