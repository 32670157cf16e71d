import Derived.Test.YtbejbiogabpmfaaGreatG09
import Derived.Test.YtbejbiogabpmfaaGreatG02
import Derived.Test.YtbejbiogabpmfaaGreatG01
import Derived.Test.YtbejbiogabpmfaaGreatG00

namespace Go.Proofs.YtbejbiogabpmfaaGreat
open Wd Ino Go.RowKit Go.ChangeShapes Go.WideShapes Go.Sort
set_option linter.unusedVariables false
set_option maxRecDepth 100000

/-! the document's PutEntry -/
def putR (s : ByteArray) (n : Int) (l : List Ent) : List Ent := if hasN s l then l else putN s n l
def PutRel (s : ByteArray) (n : Int) (l : List Ent) (w : World) (v d i : Value) (wr : World) : Prop := ∃ (k : Nat) (acc : List Ent), k ≤ l.length ∧ i = .int .i64 k ∧ acc.length ≤ k + 1 ∧ OwnE wr w.heap.size v acc ∧ Below w.heap.size w wr ∧
  ((d = .bool false ∧ acc = l.take k ∧ ∀ x ∈ l.take k, foreE s x = false) ∨ (d = .bool true ∧ acc ++ l.drop k = putN s n l))
theorem put_here {s : ByteArray} {n : Int} {l : List Ent} {k : Nat} {e : Ent} (h0 : ∀ x ∈ l.take k, foreE s x = false) (he : l[k]? = some e) (hs : foreE s e = true) : ((l.take k ++ [⟨s, n⟩]) ++ [e]) ++ l.drop (k + 1) = putN s n l := by
  obtain ⟨hk, hke⟩ := List.getElem?_eq_some_iff.1 he
  unfold putN
  rw [findIdx_at h0 he hs, List.drop_eq_getElem_cons hk, hke]
  simp
theorem put_end {s : ByteArray} {n : Int} {l : List Ent} (h0 : ∀ x ∈ l, foreE s x = false) : l ++ [⟨s, n⟩] = putN s n l := by
  unfold putN
  rw [findIdx_all h0, List.take_length, List.drop_length]
theorem drop_more {l : List Ent} {k : Nat} {e : Ent} (he : l[k]? = some e) (acc : List Ent) : (acc ++ [e]) ++ l.drop (k + 1) = acc ++ l.drop k := by
  obtain ⟨hk, hke⟩ := List.getElem?_eq_some_iff.1 he
  rw [List.drop_eq_getElem_cons hk, hke]
  simp
theorem one_new' (w : World) (x : Ent) : Ens (w.alloc (.cells #[.string x.s, .int .i64 x.n] 103)) (w.heap.size + 1) (some ⟨w.heap.size, 0, none⟩) [x] := by
  have h := ens_one (x := x) (hi := w.heap.size + 1) (Cells.new w 103 (ecells x)) (by simp)
  exact h
theorem ownE_lt {w : World} {base : Nat} {v : Value} {l : List Ent} (h : OwnE w base v l) : ∀ q, v.ownBlock = some q → q < w.heap.size := by
  intro q hq
  rcases h.2 with ⟨rfl, _⟩ | ⟨g, cap, cur, rfl, _, hh, _⟩
  · cases hq
  · have : g = q := by simpa [Value.ownBlock] using hq
    subst this
    exact lt_of_block hh
theorem ownE_ne {w : World} {base : Nat} {v : Value} {l : List Ent} (h : OwnE w base v l) {g : Nat} (hg : w.heap.size ≤ g) : some g ≠ v.ownBlock := fun e => by
  have := ownE_lt h g e.symm
  omega
/-- e's block reads as it did behind the append -/
theorem kept2 {w w5 : World} {base : Nat} {v : Value} {l : List Ent} {g : Nat} {e : Ent} {o : Obj} (ho : OwnE w base v l) (hg : w.heap.size = g) (h5 : ((w.alloc (.cells #[.string e.s, .int .i64 e.n] 103)).alloc o).grownBy w5 v.ownBlock) :
    w5.cell? ⟨g, 0, none⟩ = some (.string e.s) ∧ w5.cell? ⟨g, 1, none⟩ = some (.int .i64 e.n) := by
  subst hg
  have h := ((Cells.new w 103 (ecells e)).alloc o).grown h5 (ownE_ne ho (Nat.le_refl _))
  exact ecells2 h
set_option maxHeartbeats 8000000 in
theorem rPutO {w : World} {hi : Nat} {A : Option Addr} {c : Nat} {l : List Ent} (h : Ens w hi A l) (hh : hi ≤ w.heap.size) (hc : l.length ≤ c) (hm : l.length ≤ 1000) (s : ByteArray) (n : Int) (hn : hasN s l = false) : Calls Tryz.prog 145 #[.slice A l.length c, .string s, .int .i64 n] w (GivesO (putR s n l) (!hasN s l) w) := by
  have H := Lib.hid h
  have K := Lib.hid (rFind (c := c) h hh hm s)
  clear h
  have HR := Lib.hid (show putR s n l = putN s n l by unfold putR; rw [if_neg (by rw [hn]; decide)])
  rw [hn] at K ⊢
  clear hn
  go_enter Tryz.func145, Tryz.ntmps145
  go_wp2_with fail
  refine K.out.mono ?_
  rintro e1 w1 ⟨rfl, hw1⟩
  have HB1 := Lib.hid (grown_self hw1)
  clear hw1 K
  go_wp2
  go_loopw [10, 11, 24] (fun v d i wr => PutRel s n l w v d i wr) (fun _ _ i _ => l.length - (intOf i).toNat)
  case atStart => exact ⟨0, [], Nat.zero_le _, rfl, by simp, own_nilE _ _, HB1.out, .inl ⟨rfl, by simp, by simp⟩⟩
  case round =>
    obtain ⟨k, acc, hk, rfl, ha, ho, hb, hd⟩ := hrel
    have HO := Lib.hid ho; have HB := Lib.hid hb
    clear ho hb
    by_cases hlt : k < l.length
    · obtain ⟨e, he⟩ : ∃ e, l[k]? = some e := ⟨_, List.getElem?_eq_getElem hlt⟩
      obtain ⟨bl, off, rfl, hbB, x0, x1⟩ := ens_cells (H.out.below (HB.out.mono hh)) he
      have hlt2 : (k : Int) < (l.length : Int) := Int.ofNat_lt.2 hlt
      have HE := Lib.hid he
      clear he
      have hb2 := below_two wr (.cells (ecells e) 103) (.cells (ecells e) 103)
      have ho2 := HO.out.below hb2
      have hz := Nat.le_trans HB.out.size hb2.size
      have HX := Lib.hid (two_new wr (.cells (ecells e) 103) e)
      unfold ecells at hb2 ho2 hz HX
      have HB2 := Lib.hid hb2; have HO2 := Lib.hid ho2; have HZ := Lib.hid hz
      clear hb2 ho2 hz
      rcases hd with ⟨rfl, rfl, hf⟩ | ⟨rfl, hp⟩
      · have HF := Lib.hid hf
        clear hf
        cases hl : foreE s e with
        | true =>
          have q0 : Op.bytesLess s.toList e.s.toList = true := hl
          have HP := Lib.hid (put_here (n := n) HF.out HE.out hl)
          clear hl HX HO2 HB2 HZ
          have hb2 := below_two wr (.cells (ecells e) 103) (.cells (ecells ⟨s, n⟩) 103)
          have ho2 := HO.out.below hb2
          have hz := Nat.le_trans HB.out.size hb2.size
          have HX := Lib.hid (two_new wr (.cells (ecells e) 103) ⟨s, n⟩)
          unfold ecells at hb2 ho2 hz HX
          have HB2 := Lib.hid hb2; have HO2 := Lib.hid ho2; have HZ := Lib.hid hz
          have HL := Lib.hid (show (l.take k).length + [(⟨s, n⟩ : Ent)].length ≤ 100000 by rw [List.length_take]; simp; omega)
          have y0 := (Cells.new wr 103 (ecells e)).alloc (.cells (ecells ⟨s, n⟩) 103)
          unfold ecells at y0
          have Y0 := Lib.hid y0
          clear hb2 ho2 hz y0
          go_wp2_with (first
            | (at_builtin; refine wpList_append_ens (m := [⟨s, n⟩]) rfl (.tmp 36) (.tmp 40) rfl rfl rfl HO2.out HX.out HL.out HZ.out ?_; intro v5 w5 hown5 hgr5 hat5
               have HO5 := Lib.hid hown5
               obtain ⟨c0, c1⟩ := kept2 HO.out rfl hgr5
               have hb5 := (HB.out.trans (HB2.out.mono HB.out.size)).grown hgr5 HZ.out (ownE_base HO2.out)
               have HB5 := Lib.hid hb5
               have HX5 := Lib.hid (one_new' w5 e)
               have hb6 := (Below.refl w5.heap.size w5).alloc (Nat.le_refl _) (.cells #[.string e.s, .int .i64 e.n] 103)
               have HO6 := Lib.hid (hown5.below hb6)
               have HZ6 := Lib.hid (Nat.le_trans hb5.size hb6.size)
               have HL6 := Lib.hid (show (l.take k ++ [(⟨s, n⟩ : Ent)]).length + [e].length ≤ 100000 by rw [List.length_append, List.length_take]; simp; omega)
               clear hown5 hgr5 hat5 hb5 hb6)
            | (at_builtin; refine wpList_append_ens (m := [e]) rfl (.tmp 42) (.tmp 44) rfl rfl rfl HO6.out HX5.out HL6.out HZ6.out ?_; intro v7 w7 hown7 hgr7 hat7; have HO7 := Lib.hid hown7; have HG7 := Lib.hid hgr7; clear hown7 hgr7 hat7))
          go_roundw
          case rel => exact ⟨k + 1, (l.take k ++ [⟨s, n⟩]) ++ [e], by omega, by go_num, by simp; omega, HO7.out, (HB5.out.alloc HB5.out.size _).grown HG7.out HZ6.out (ownE_base HO6.out), .inr ⟨rfl, HP.out⟩⟩
          case measure => simp [intOf]; omega
        | false =>
          have q0 : Op.bytesLess s.toList e.s.toList = false := hl
          have HP := Lib.hid (none_snoc HE.out HF.out hl)
          have HL := Lib.hid (show (l.take k).length + [e].length ≤ 100000 by rw [List.length_take]; simp; omega)
          clear hl
          go_wp2_with (at_builtin; refine wpList_append_ens (m := [e]) rfl (.tmp 42) (.tmp 44) rfl rfl rfl HO2.out HX.out HL.out HZ.out ?_; intro v5 w5 hown5 hgr5 hat5; have HO5 := Lib.hid hown5; have HG5 := Lib.hid hgr5; clear hown5 hgr5 hat5)
          go_roundw
          case rel => exact ⟨k + 1, l.take k ++ [e], by omega, by go_num, by simp; omega, HO5.out, (HB.out.trans (HB2.out.mono HB.out.size)).grown HG5.out HZ.out (ownE_base HO2.out), .inl ⟨rfl, (take_snoc HE.out).symm, HP.out⟩⟩
          case measure => simp [intOf]; omega
      · have HP := Lib.hid (show (acc ++ [e]) ++ l.drop (k + 1) = putN s n l by rw [drop_more HE.out]; exact hp)
        have HL := Lib.hid (show acc.length + [e].length ≤ 100000 by simp; omega)
        clear hp
        go_wp2_with (at_builtin; refine wpList_append_ens (m := [e]) rfl (.tmp 42) (.tmp 44) rfl rfl rfl HO2.out HX.out HL.out HZ.out ?_; intro v5 w5 hown5 hgr5 hat5; have HO5 := Lib.hid hown5; have HG5 := Lib.hid hgr5; clear hown5 hgr5 hat5)
        go_roundw
        case rel => exact ⟨k + 1, acc ++ [e], by omega, by go_num, by simp; omega, HO5.out, (HB.out.trans (HB2.out.mono HB.out.size)).grown HG5.out HZ.out (ownE_base HO2.out), .inr ⟨rfl, HP.out⟩⟩
        case measure => simp [intOf]; omega
    · obtain rfl : k = l.length := by omega
      rcases hd with ⟨rfl, rfl, hf⟩ | ⟨rfl, hp⟩
      · rw [List.take_length] at hf
        have ho := HO.out
        rw [List.take_length] at ho
        have HP := Lib.hid (put_end (n := n) hf)
        have HL := Lib.hid (show l.length + [(⟨s, n⟩ : Ent)].length ≤ 100000 by simp; omega)
        have hb2 := (Below.refl wr.heap.size wr).alloc (Nat.le_refl _) (.cells #[.string s, .int .i64 n] 103)
        have HX := Lib.hid (one_new' wr ⟨s, n⟩)
        have HO2 := Lib.hid (ho.below hb2)
        have HZ := Lib.hid (Nat.le_trans HB.out.size hb2.size)
        clear hf ho hb2 HO
        go_wp2_with (at_builtin; refine wpList_append_ens (m := [⟨s, n⟩]) rfl (.tmp 49) (.tmp 53) rfl rfl rfl HO2.out HX.out HL.out HZ.out ?_; intro v5 w5 hown5 hgr5 hat5; have HO5 := Lib.hid hown5; have HG5 := Lib.hid hgr5; clear hown5 hgr5 hat5)
        go_ret2
        have ho5 := HO5.out
        rw [HP.out, ← HR.out] at ho5
        obtain ⟨A1, c1, rfl, hc1, hx⟩ := ho5.form
        exact ⟨A1, c1, rfl, hc1, ho5, (HB.out.alloc HB.out.size _).grown HG5.out HZ.out (ownE_base HO2.out)⟩
      · rw [List.drop_length, List.append_nil] at hp
        have ho := HO.out
        rw [hp, ← HR.out] at ho
        obtain ⟨A1, c1, rfl, hc1, hx⟩ := ho.form
        have HX := Lib.hid ho
        clear hp hx ho HO
        go_wp2
        go_ret2
        exact ⟨A1, c1, rfl, hc1, HX.out, HB.out⟩
end Go.Proofs.YtbejbiogabpmfaaGreat

namespace Go.Proofs.YtbejbiogabpmfaaGreat
open Wd U Go.RowKit Go.ChangeShapes Go.WideShapes Go.ChangeAt Go.Deep
set_option linter.unusedVariables false

/-! one effect, plainly -/
structure Eff where
  kind : Int
  ino : Int
  dir : Int
  dst : Int
  page : Int
  size : Int
  name : ByteArray
  other : ByteArray
  A : Option Addr
  cp : Nat
  data : List Nat
instance : Inhabited Eff := ⟨⟨0, 0, 0, 0, 0, 0, .empty, .empty, none, 0, []⟩⟩
def Eff.vals (e : Eff) : List Value := [.int .i64 e.kind, .int .i64 e.ino, .int .i64 e.dir, .int .i64 e.dst, .int .i64 e.page, .int .i64 e.size, .string e.name, .string e.other, .slice e.A e.data.length e.cp]
def Eff.val (e : Eff) : Value := .agg #[.int .i64 e.kind, .int .i64 e.ino, .int .i64 e.dir, .int .i64 e.dst, .int .i64 e.page, .int .i64 e.size, .string e.name, .string e.other, .slice e.A e.data.length e.cp]
structure Eff.Ok (e : Eff) (w : World) (B : Nat) : Prop where
  kind : i64R e.kind
  ino : i64R e.ino
  dir : i64R e.dir
  dst : i64R e.dst
  page : i64R e.page
  size : i64R e.size
  name : e.name.size ≤ maxLen
  other : e.other.size ≤ maxLen
  bytes : Bytes e.data
  row : Row w B e.A e.data.length (e.data.map bt)
  le : e.data.length ≤ maxLen
  cap : e.data.length ≤ e.cp
theorem Eff.Ok.below {e : Eff} {w w' : World} {B : Nat} (h : e.Ok w B) (hb : Below B w w') : e.Ok w' B := ⟨h.kind, h.ino, h.dir, h.dst, h.page, h.size, h.name, h.other, h.bytes, h.row.below hb, h.le, h.cap⟩
theorem Eff.Ok.more {e : Eff} {w : World} {B B' : Nat} (h : e.Ok w B) (hB : B ≤ B') : e.Ok w B' := ⟨h.kind, h.ino, h.dir, h.dst, h.page, h.size, h.name, h.other, h.bytes, h.row.more hB, h.le, h.cap⟩
theorem row_bytes' {w : World} {B : Nat} {A : Option Addr} {l : List Int} (h : Row w B A l.length (l.map (Value.int .u8))) (hok : ∀ y ∈ l, (Lit.int .u8 y).wf = true) :
    ∃ m : List Nat, m.length = l.length ∧ Bytes m ∧ Row w B A m.length (m.map bt) := by
  have hb : ∀ y ∈ l, 0 ≤ y ∧ y < 256 := by
    intro y hy
    have h : IntKind.u8.min ≤ y ∧ y ≤ IntKind.u8.max := by simpa [Lit.wf] using hok y hy
    have m1 : IntKind.u8.min = 0 := by decide
    have m2 : IntKind.u8.max = 255 := by decide
    omega
  refine ⟨l.map Int.toNat, by simp, ?_, ?_⟩
  · intro x hx
    obtain ⟨y, hy, rfl⟩ := List.mem_map.1 hx
    have := hb y hy; omega
  · have e : (l.map Int.toNat).map bt = l.map (Value.int .u8) := by
      rw [List.map_map]
      refine List.map_congr_left fun y hy => ?_
      have := hb y hy
      show Value.int .u8 ((y.toNat : Nat) : Int) = _
      rw [Int.toNat_of_nonneg this.1]
    rw [e, List.length_map]
    exact h
/-- the nine fields of an effect, as they are trodden -/
theorem eff_of {H : Type} {enc : TypeId × Value → H} {w : World} {base : Nat} {spare : Nat → Bool} {held : Bool} {n : Nat} {u0 u1 u2 u3 u4 u5 u6 u7 u8 : Value} {y0 y1 y2 y3 y4 y5 y6 y7 y8 : DataW H × List MemPlace}
    (t0 : DataW.trod enc Tryz.prog w base spare held n 3 [u0] = some y0) (t1 : DataW.trod enc Tryz.prog w base spare held n 3 [u1] = some y1) (t2 : DataW.trod enc Tryz.prog w base spare held n 3 [u2] = some y2)
    (t3 : DataW.trod enc Tryz.prog w base spare held n 3 [u3] = some y3) (t4 : DataW.trod enc Tryz.prog w base spare held n 3 [u4] = some y4) (t5 : DataW.trod enc Tryz.prog w base spare held n 3 [u5] = some y5)
    (t6 : DataW.trod enc Tryz.prog w base spare held n 9 [u6] = some y6) (t7 : DataW.trod enc Tryz.prog w base spare held n 9 [u7] = some y7) (t8 : DataW.trod enc Tryz.prog w base spare held n 62 [u8] = some y8) :
    ∃ e : Eff, e.vals = [u0, u1, u2, u3, u4, u5, u6, u7, u8] ∧ e.Ok w w.heap.size := by
  obtain ⟨a0, z0, _, w0⟩ := DataW.trod_int Tryz.underlying3 t0
  obtain ⟨a1, z1, _, w1⟩ := DataW.trod_int Tryz.underlying3 t1
  obtain ⟨a2, z2, _, w2⟩ := DataW.trod_int Tryz.underlying3 t2
  obtain ⟨a3, z3, _, w3⟩ := DataW.trod_int Tryz.underlying3 t3
  obtain ⟨a4, z4, _, w4⟩ := DataW.trod_int Tryz.underlying3 t4
  obtain ⟨a5, z5, _, w5⟩ := DataW.trod_int Tryz.underlying3 t5
  obtain ⟨s6, z6, _, w6⟩ := DataW.trod_string Tryz.underlying9 t6
  obtain ⟨s7, z7, _, w7⟩ := DataW.trod_string Tryz.underlying9 t7
  obtain rfl := (List.cons.inj z0).1
  obtain rfl := (List.cons.inj z1).1
  obtain rfl := (List.cons.inj z2).1
  obtain rfl := (List.cons.inj z3).1
  obtain rfl := (List.cons.inj z4).1
  obtain rfl := (List.cons.inj z5).1
  obtain rfl := (List.cons.inj z6).1
  obtain rfl := (List.cons.inj z7).1
  obtain ⟨A, cp, l, rfl, r, ok, q1, q2⟩ := row_of_trod (f := Value.int .u8) (ok := fun y => (Lit.int .u8 y).wf = true) Tryz.underlying62 (by kernel_rfl) (fun n v x h => by obtain ⟨b, hb, _, hw⟩ := DataW.trod_int Tryz.underlying5 h; exact ⟨b, (List.cons.inj hb).1, hw⟩) t8
  obtain ⟨m, hm, hb, hr⟩ := row_bytes' r ok
  refine ⟨⟨a0, a1, a2, a3, a4, a5, s6, s7, A, cp, m⟩, by unfold Eff.vals; rw [hm], ⟨i64R_of w0, i64R_of w1, i64R_of w2, i64R_of w3, i64R_of w4, i64R_of w5, w6, w7, hb, hr, by show m.length ≤ _; rw [hm]; exact Nat.le_trans q1 q2, by show m.length ≤ cp; rw [hm]; exact q1⟩⟩
/-- effects in a row -/
structure Effs (w : World) (B : Nat) (A : Option Addr) (l : List Eff) : Prop where
  at_ : 0 < l.length → ∃ b off, A = some ⟨b, off, none⟩ ∧ b < B ∧ ∀ (j : Nat) (e : Eff), l[j]? = some e → ∀ (k : Nat) (x : Value), e.vals[k]? = some x → w.cell? ⟨b, off + (j * 9 + k), none⟩ = some x
  ok : ∀ e ∈ l, e.Ok w B
theorem Effs.below {w w' : World} {B : Nat} {A : Option Addr} {l : List Eff} (h : Effs w B A l) (hb : Below B w w') : Effs w' B A l :=
  ⟨fun hn => by
    obtain ⟨b, off, e, hB, hx⟩ := h.at_ hn
    exact ⟨b, off, e, hB, fun j d hj k x hk => (hb.cell (p := ⟨b, _, none⟩) hB).trans (hx j d hj k x hk)⟩, fun d hd => (h.ok d hd).below hb⟩
theorem Effs.more {w : World} {B B' : Nat} {A : Option Addr} {l : List Eff} (h : Effs w B A l) (hB : B ≤ B') : Effs w B' A l :=
  ⟨fun hn => by
    obtain ⟨b, off, e, hb, hx⟩ := h.at_ hn
    exact ⟨b, off, e, Nat.lt_of_lt_of_le hb hB, hx⟩, fun d hd => (h.ok d hd).more hB⟩
end Go.Proofs.YtbejbiogabpmfaaGreat
