import Derived.Test.YtcdpmifgjaongaaGreatDoorG28
import Derived.Test.YtcdpmifgjaongaaGreatDoorG25
import Derived.Test.YtcdpmifgjaongaaGreatDoorG02
import Derived.Test.YtcdpmifgjaongaaGreatDoorG01
import Derived.Test.YtcdpmifgjaongaaGreatDoorG07

/-! The law's Done: both states behind deeds. -/
namespace Go.Proofs.YtcdpmifgjaongaaGreatDoor
open Wd Ino Sm U Go.RowKit Go.ChangeShapes Go.WideShapes Go.Sort
set_option linter.unusedVariables false
set_option maxRecDepth 100000
theorem Trn.keepC1 {w w' : World} {g : Nat} {T : TypeId} {cs : Array Value} (hc : Cells w g T cs) (t : Trn w w' [g]) : KeepC [T] w w' := fun b u cs' hu hc' => (t.block b hc'.lt (fun e => hu (by
    have e' : b = g := List.mem_singleton.1 e
    subst e'
    have : u = T := Decidable.byContradiction fun hne => hc'.ne hc hne rfl
    rw [this]; exact List.mem_singleton.2 rfl))).trans hc'
/-- the state behind deeds -/
def runD (l : List Dd) : Stt := l.foldl (fun S d => nextS S d.e d.ref) newStt
theorem runD_snoc (l : List Dd) (d : Dd) : runD (l ++ [d]) = nextS (runD l) d.e d.ref := by unfold runD; rw [List.foldl_append]; rfl
theorem inv_foldl (l : List Dd) : ∀ S, Inv S → Inv (l.foldl (fun S d => nextS S d.e d.ref) S) := by
  induction l with
  | nil => exact fun S h => h
  | cons d l ih => exact fun S h => ih _ (h.next d.e d.ref)
theorem Inv.runD (l : List Dd) : Inv (runD l) := inv_foldl l _ Inv.new
theorem num_foldl (l : List Dd) (hr : ∀ d ∈ l, i64R d.ref) : ∀ S k, Num k S → Num (k + l.length) (l.foldl (fun S d => nextS S d.e d.ref) S) := by
  induction l with
  | nil => exact fun S k h => h
  | cons d l ih =>
    intro S k h
    have := ih (fun x hx => hr x (List.mem_cons_of_mem _ hx)) _ _ (h.next d.e (hr d List.mem_cons_self))
    rw [List.length_cons, show k + (l.length + 1) = k + 1 + l.length by omega]
    exact this
theorem Num.runD (l : List Dd) (hr : ∀ d ∈ l, i64R d.ref) : Num l.length (runD l) := by
  have := num_foldl l hr _ _ Num.new
  rw [Nat.zero_add] at this
  exact this
theorem PSt.bx {w : World} {base m g b gx : Nat} {S : Stt} (h : PSt w base m g b S) {T : TypeId} {cs : Array Value} (hc : Cells w gx T cs) : b ≠ gx := by
  obtain ⟨G, hm, _⟩ := h.mp
  exact hm.cells hc
theorem PSt.far {w w' : World} {base m g b gx : Nat} {S : Stt} (h : PSt w base m g b S) {cs : Array Value} (hc : Cells w gx 45 cs) (t : Trn w w' [gx]) : PSt w' base m g b S :=
  h.keep (Trn.keepC1 hc t) (by decide) (by decide) (by decide) (t.block b h.blt (by simp; exact h.bx hc))
theorem DSx.far {w w' : World} {base m g b gx bx : Nat} {S S' : Stt} {Ls : List Nd} {v : Value} (h : DSx w bx gx Ls v S') (hp : PSt w base m g b S) (t : Trn w w' [g, b]) : DSx w' bx gx Ls v S' :=
  h.keep (hp.keepC t) (by decide) (by decide) (by decide) (by decide)
/-- both states, side by side, made since base -/
structure Two (w : World) (base m g b gx : Nat) (S S' : Stt) : Prop where
  p : PSt w base m g b S
  x : ∃ Ls v, DSx w base gx Ls v S'
theorem Two.below {w w' : World} {base m g b gx : Nat} {S S' : Stt} (h : Two w base m g b gx S S') (hb : Below w.heap.size w w') : Two w' base m g b gx S S' := ⟨h.p.below hb, let ⟨Ls, v, hx⟩ := h.x; ⟨Ls, v, hx.below hb⟩⟩
theorem Two.more {w : World} {base m m' g b gx : Nat} {S S' : Stt} (h : Two w base m g b gx S S') (hm : m ≤ m') : Two w base m' g b gx S S' := ⟨h.p.more hm, h.x⟩
theorem Two.base {w : World} {base m g b gx : Nat} {S S' : Stt} (h : Two w base m g b gx S S') : base ≤ w.heap.size := by
  have h1 := h.p.lo; have h2 := h.p.cells.lt; omega
theorem Two.mono {w : World} {base base' m g b gx : Nat} {S S' : Stt} (h : Two w base m g b gx S S') (hb : base' ≤ base) : Two w base' m g b gx S S' := by
  obtain ⟨p, Ls, v, x⟩ := h
  refine ⟨⟨Nat.le_trans hb p.lo, Nat.le_trans hb p.lob, p.cells, ?_⟩, Ls, v, ⟨Nat.le_trans hb x.lo, x.cells, ⟨x.row.1, ?_⟩, fun n hn => (x.own n hn).mono hb, x.eq⟩⟩
  · obtain ⟨G, h1, h2, h3⟩ := p.mp
    exact ⟨G, h1, h2, fun i n hn => (h3 i n hn).mono hb⟩
  · rcases x.row.2 with h3 | ⟨gg, cap, cur, h3, h4, h5⟩
    · exact .inl h3
    · exact .inr ⟨gg, cap, cur, h3, Nat.le_trans hb h4, h5⟩
def DoneGo (S : Stt) (m : Nat) (w : World) (e : Ending) (w' : World) : Prop := ∃ g b gx, e = .returned (.tuple #[SPtr g, SPtr gx]) ∧ Two w' w.heap.size m g b gx S S ∧ Below w.heap.size w w'
def DnRel (w : World) (l : List Dd) (g b gx : Nat) (i : Value) (wr : World) : Prop := ∃ k : Nat, k ≤ l.length ∧ i = .int .i64 k ∧ Two wr w.heap.size (1 + 8 * k) g b gx (runD (l.take k)) (runD (l.take k)) ∧ Below w.heap.size w wr
set_option maxHeartbeats 8000000 in
theorem done_law {w : World} {A : Option Addr} {c : Nat} {l : List Dd} (h : Dds w w.heap.size A l) (hf : fewD l = true) : Calls Tryz.prog 8 #[.slice A l.length c] w (DoneGo (runD l) (1 + 8 * l.length) w) := by
  obtain ⟨hfew, hlen⟩ := fewD_iff.1 hf
  have HF := Lib.hid hfew; have HL := Lib.hid hlen; have HREF := Lib.hid (fun d hd => (h.ok d hd).ref)
  have KP := Lib.hid (pNew w)
  clear hf hfew hlen
  go_enter Tryz.func8, Tryz.ntmps8
  go_wp2_with fail
  refine (KP.out).mono ?_
  rintro e w1 ⟨g, b, rfl, hb1, P1⟩
  have HB1 := Lib.hid hb1; have P1H := Lib.hid P1
  have KX := Lib.hid (rNew w1)
  clear hb1 P1 KP
  go_wp2_with fail
  refine (KX.out).mono ?_
  rintro e w2 ⟨gx, Lx, vx, rfl, X2, hb2⟩
  have HB2 := Lib.hid (HB1.out.trans (hb2.mono HB1.out.size))
  have hx2 : DSx w2 w.heap.size gx Lx vx newStt := ⟨Nat.le_trans HB1.out.size X2.lo, X2.cells, ⟨X2.row.1, by
    rcases X2.row.2 with h3 | ⟨gg, cap, cur, h3, h4, h5⟩
    · exact .inl h3
    · exact .inr ⟨gg, cap, cur, h3, Nat.le_trans HB1.out.size h4, h5⟩⟩, fun n hn => (X2.own n hn).mono HB1.out.size, X2.eq⟩
  have T2 := Lib.hid (Two.mk (P1H.out.below hb2) ⟨Lx, vx, hx2⟩)
  clear X2 hb2 hx2 KX
  unfold SPtr
  go_wp2
  go_loopw [12] (fun i wr => DnRel w l g b gx i wr) (fun i _ => l.length - (intOf i).toNat)
  case atStart => exact ⟨0, Nat.zero_le _, rfl, T2.out, HB2.out⟩
  case round =>
    obtain ⟨k, hk, rfl, T, hb⟩ := hrel
    by_cases hlt : k < l.length
    · obtain ⟨d, hd⟩ : ∃ d, l[k]? = some d := ⟨_, List.getElem?_eq_getElem hlt⟩
      have hD := h.below hb
      obtain ⟨bb, off, rfl, hbB, x0, x1, x2, x3, x4, x5, x6, x7, x8, x9⟩ := dds_cells hD hd
      have hkl : (k : Int) < (l.length : Int) := by omega
      have hdm := List.mem_of_getElem? hd
      have hiv := Inv.runD (l.take k)
      have hnm := Num.runD (l.take k) (fun x hx => HREF.out x (List.mem_of_mem_take hx))
      rw [List.length_take, Nat.min_eq_left hk] at hnm
      have hk30 : k ≤ 30 := Nat.le_trans hk HL.out
      have hok := (hD.ok d hdm).e
      have hfe := HF.out d hdm
      have hrf := HREF.out d hdm
      have hsn : runD (l.take (k + 1)) = nextS (runD (l.take k)) d.e d.ref := by rw [take_snocE hd, runD_snoc]
      obtain ⟨⟨kind, ino, dir, dst, page, size, name, other, Ae, cp, data⟩, ref⟩ := d
      dsimp only at x0 x1 x2 x3 x4 x5 x6 x7 x8 x9 hok hfe hrf hsn
      obtain ⟨S, hS⟩ : ∃ S, runD (l.take k) = S := ⟨_, rfl⟩
      rw [hS] at T hiv hnm hsn
      obtain ⟨w3, hw3⟩ : ∃ w3, wr.alloc (.cells #[.int .i64 kind, .int .i64 ino, .int .i64 dir, .int .i64 dst, .int .i64 page, .int .i64 size, .string name, .string other, .slice Ae data.length cp, .int .i64 ref] 52) = w3 := ⟨_, rfl⟩
      have hb3 : Below wr.heap.size wr w3 := by rw [← hw3]; exact below_of_grown (World.grownBy_alloc wr _ none)
      have hc3 : Cells w3 wr.heap.size 52 #[.int .i64 kind, .int .i64 ino, .int .i64 dir, .int .i64 dst, .int .i64 page, .int .i64 size, .string name, .string other, .slice Ae data.length cp, .int .i64 ref] := by rw [← hw3]; exact Cells.new _ _ _
      have z0 := hc3.cell 0; have z1 := hc3.cell 1; have z2 := hc3.cell 2; have z3 := hc3.cell 3; have z4 := hc3.cell 4; have z5 := hc3.cell 5; have z6 := hc3.cell 6; have z7 := hc3.cell 7; have z8 := hc3.cell 8; have z9 := hc3.cell 9
      simp only [List.getElem?_toArray, List.getElem?_cons_succ, List.getElem?_cons_zero] at z0 z1 z2 z3 z4 z5 z6 z7 z8 z9
      have T3 := T.below hb3
      have hok3 : Eff.Ok ⟨kind, ino, dir, dst, page, size, name, other, Ae, cp, data⟩ w3 w.heap.size := hok.below ((hb3.mono hb.size))
      have HB3 := Lib.hid (hb.trans (hb3.mono hb.size))
      have KA := Lib.hid (pApply T3.p (hiv.fit hnm (by omega)) (by omega) ⟨kind, ino, dir, dst, page, size, name, other, Ae, cp, data⟩ (hok3.more HB3.out.size) hfe ref)
      have KR := Lib.hid (fun wx (b3 : Below w.heap.size w3 wx) (Lx : List Nd) (vx : Value) (x : DSx wx w.heap.size gx Lx vx S) => rApply x hiv hnm (by omega) ⟨kind, ino, dir, dst, page, size, name, other, Ae, cp, data⟩ ((hok3.below b3).more (Nat.le_trans HB3.out.size b3.size)) hfe ref hrf)
      have T3H := Lib.hid T3; have HC3 := Lib.hid hc3; have HSN := Lib.hid hsn
      unfold Eff.val SPtr at KA KR
      dsimp only at KA KR
      clear T3 hb3 hc3 hok3 hok hfe hrf hsn hS hiv hnm hD hd hdm T hb hbB
      go_wp2_with fail
      refine (KA.out).mono ?_
      rintro e' w4 ⟨A4, c4, l4, rfl, P4, t4⟩
      obtain ⟨Lx3, vx3, X3⟩ := T3H.out.x
      have X4 := X3.far T3H.out.p t4
      have C4 := Lib.hid (T3H.out.p.keepC t4 _ _ _ (by decide) HC3.out)
      have B4 := Lib.hid (t4.below (B := w.heap.size) HB3.out.size (fun x hx => by
        rcases List.mem_cons.1 hx with rfl | hx
        · exact T3H.out.p.lo
        · rw [List.mem_singleton.1 hx]; exact T3H.out.p.lob))
      have KR4 := Lib.hid (KR.out w4 B4.out _ _ X4)
      have P4H := Lib.hid P4; have X4H := Lib.hid X4
      clear P4 t4 X3 X4 KA KR z0 z1 z2 z3 z4 z5 z6 z7 z8 z9 x0 x1 x2 x3 x4 x5 x6 x7 x8 x9
      have z0 := C4.out.cell 0; have z1 := C4.out.cell 1; have z2 := C4.out.cell 2; have z3 := C4.out.cell 3; have z4 := C4.out.cell 4; have z5 := C4.out.cell 5; have z6 := C4.out.cell 6; have z7 := C4.out.cell 7; have z8 := C4.out.cell 8; have z9 := C4.out.cell 9
      simp only [List.getElem?_toArray, List.getElem?_cons_succ, List.getElem?_cons_zero] at z0 z1 z2 z3 z4 z5 z6 z7 z8 z9
      go_wp2_with fail
      refine (KR4.out).mono ?_
      rintro e' w5 ⟨A5, c5, l5, Lx5, vx5, rfl, X5, t5⟩
      have P5 := P4H.out.far X4H.out.cells t5
      have T5 := Lib.hid ((Two.mk P5 ⟨Lx5, vx5, X5⟩).more (m' := 1 + 8 * (k + 1)) (by omega))
      have B5 := Lib.hid ((HB3.out.trans B4.out).trans (t5.below (B := w.heap.size) (by have := HB3.out.size; have := B4.out.size; omega) (fun x hx => by rw [List.mem_singleton.1 hx]; exact X4H.out.lo)))
      clear P5 X5 t5 KR4 z0 z1 z2 z3 z4 z5 z6 z7 z8 z9
      go_wp2
      go_roundw
      case rel => exact ⟨k + 1, hlt, by go_num, by rw [HSN.out]; exact T5.out, B5.out⟩
      case measure => simp [intOf]; omega
    · obtain rfl : k = l.length := by omega
      have TH := Lib.hid T; have HB := Lib.hid hb
      clear T hb hk hlt
      go_wp2
      go_ret2
      exact ⟨g, b, gx, rfl, by have h9 := TH.out; rw [List.take_length] at h9; exact h9, HB.out⟩
end Go.Proofs.YtcdpmifgjaongaaGreatDoor

/-! Find, of both states. -/
namespace Go.Proofs.YtcdpmifgjaongaaGreatDoor
open Wd Ino Sm U Go.RowKit Go.ChangeShapes Go.WideShapes Go.Sort
set_option linter.unusedVariables false
set_option maxRecDepth 100000
/-- what names lead to, from a node: its number, the error's -/
def walkS (l : List Nod) : List ByteArray → Int → Int × Int
  | [], at_ => (at_, 0)
  | s :: r, at_ => if kindS l at_ = 2 then (if hasN s (namesS l at_) = true then walkS l r (inoN s (namesS l at_)) else (0, 2)) else (0, 20)
/-- what a path leads to -/
def findS (S : Stt) (p : ByteArray) : Int × Int := if pathE p.toList = 0 then walkS S.l ((pathL p.toList).map fun t => ⟨t.toArray⟩) 1 else (0, pathE p.toList)
theorem bs_of {bs : List ByteArray} {l : List (List UInt8)} (h : bs.map ByteArray.toList = l) : l.map (fun t => (⟨t.toArray⟩ : ByteArray)) = bs := by
  subst h
  rw [List.map_map]
  conv => rhs; rw [← List.map_id bs]
  refine List.map_congr_left fun b _ => ?_
  refine tolist_inj ?_
  show (⟨b.toList.toArray⟩ : ByteArray).toList = b.toList
  rw [ByteArray.toList_eq, ByteArray.toList_eq]
theorem cut_many (l : List UInt8) : ∀ acc, (cutS l acc).length ≤ l.length + 1 := by
  induction l with
  | nil => intro acc; exact Nat.le_refl _
  | cons c t ih =>
    intro acc
    unfold cutS
    split
    · have := ih []; simp; omega
    · have := ih (acc ++ [c]); simp; omega
theorem path_many (l : List UInt8) : (pathL l).length ≤ 121 := by
  unfold pathL
  split
  · rename_i h
    have hl : l.length ≤ 120 := by
      unfold pathE at h
      split at h
      · cases h
      · omega
    have h1 := cut_many (l.drop 1) []
    have h2 : (keepS (cutS (l.drop 1) [])).length ≤ (cutS (l.drop 1) []).length := List.length_filter_le _ _
    have h3 : (l.drop 1).length ≤ l.length := by rw [List.length_drop]; omega
    unfold pieces
    omega
  · simp
theorem walk_step {l : List Nod} {bs : List ByteArray} {k : Nat} {s : ByteArray} (h : bs[k]? = some s) (x : Int) : walkS l (bs.drop k) x = if kindS l x = 2 then (if hasN s (namesS l x) = true then walkS l (bs.drop (k + 1)) (inoN s (namesS l x)) else (0, 2)) else (0, 20) := by
  have hlt := (List.getElem?_eq_some_iff.1 h).1
  have e : bs[k] = s := (List.getElem?_eq_some_iff.1 h).2
  rw [List.drop_eq_getElem_cons hlt, e]
  rfl
theorem ino_R {S : Stt} (hs : SmS S.l) (x : Int) (s : ByteArray) : i64R (inoN s (namesS S.l x)) := by
  by_cases h : hasN s (namesS S.l x) = true
  · obtain ⟨e, he, _, h2⟩ := has_mem h
    rw [← h2]
    exact (hs.get x).nm e he
  · rw [inoN_none (by simpa using h)]; unfold i64R; omega
def FdRel (l : List Nod) (bs : List ByteArray) (R : Int × Int) (W : World) (a i : Value) (wr : World) : Prop := ∃ (k : Nat) (x : Int), k ≤ bs.length ∧ i = .int .i64 k ∧ a = .int .i64 x ∧ i64R x ∧ walkS l (bs.drop k) x = R ∧ Below W.heap.size W wr
section
variable {w : World} {base m g b : Nat} {S : Stt}
set_option maxHeartbeats 8000000 in
theorem pFind (h : PSt w base m g b S) (hs : SmS S.l) (p : ByteArray) (hp : p.size ≤ 1000) (hM : MaxW w) :
    Calls Tryz.prog 9 #[SPtr g, .string p] w (Ends (.tuple #[.int .i64 (findS S p).1, .int .i64 (findS S p).2]) w) := by
  have KM := Lib.hid (pMade h)
  have KS := Lib.hid (fun wx (hb : Below w.heap.size w wx) => nSplitC p (by omega) wx (hM.on hb))
  have H := Lib.hid h; have HS := Lib.hid hs
  clear h hs hp hM
  unfold SPtr at *
  go_enter Tryz.func9, Tryz.ntmps9
  go_wp2_with fail
  refine (KM.out).mono ?_
  rintro e w1 ⟨rfl, hw1⟩
  have HB1 := Lib.hid (grown_b hw1)
  clear hw1 KM
  go_wp2_with fail
  refine (KS.out _ HB1.out).mono ?_
  rintro e w2 ⟨A, c, bs, rfl, hbs, hbc, hrow, hb2⟩
  have HB2 := Lib.hid (HB1.out.trans (hb2.mono HB1.out.size))
  have HROW := Lib.hid hrow
  obtain ⟨E, hE⟩ : ∃ E, pathE p.toList = E := ⟨_, rfl⟩
  rw [hE]
  obtain ⟨R, hR⟩ : ∃ R, findS S p = R := ⟨_, rfl⟩
  have HRR := Lib.hid hR
  have HFS := Lib.hid (show R = if E = 0 then walkS S.l bs 1 else (0, E) by rw [← hR]; unfold findS; rw [hE, bs_of hbs])
  have hbl : bs.length ≤ 121 := by
    have := path_many p.toList
    rw [← hbs, List.length_map] at this
    exact this
  clear hb2 hrow hbs hE hR KS
  by_cases e0 : E = 0
  · subst e0
    have hr := HFS.out
    rw [if_pos rfl] at hr
    have HR := Lib.hid hr.symm
    clear hr
    go_wp2_with fail
    go_loopw [8, 26] (fun a i wr => FdRel S.l bs R w2 a i wr) (fun _ i _ => bs.length - (intOf i).toNat)
    case atStart => exact ⟨0, 1, Nat.zero_le _, rfl, rfl, by unfold i64R; omega, by rw [List.drop_zero]; exact HR.out, Below.refl _ _⟩
    case round =>
      obtain ⟨k, x, hk, rfl, rfl, hx, hwx, hb⟩ := hrel
      have HB := Lib.hid hb
      by_cases hlt : k < bs.length
      · obtain ⟨s, hs⟩ : ∃ s, bs[k]? = some s := ⟨_, List.getElem?_eq_getElem hlt⟩
        have hk1 : (k : Int) < (bs.length : Int) := Int.ofNat_lt.2 hlt
        have hrw := HROW.out.below hb
        obtain ⟨bb, off, hA, _, hcell⟩ := hrw.2 (by omega)
        have cx := hcell k (by rw [List.length_map]; omega)
        have cx2 : wr.cell? ⟨bb, off + k, none⟩ = some (.string s) := by
          rw [cx, List.getElem_map, (List.getElem?_eq_some_iff.1 hs).2]
        have hst := walk_step (l := S.l) hs x
        rw [hwx] at hst
        have hxr := ino_R HS.out x s
        have HST := Lib.hid hst; have HXR := Lib.hid hxr; have HLT := Lib.hid hlt
        have h2 := H.out.below ((HB2.out.trans (hb.mono HB2.out.size)).mono (Nat.le_refl _))
        have KI := Lib.hid (pIs h2 x 2 hx)
        have H2 := Lib.hid h2; have HX := Lib.hid hx
        subst hA
        clear hrw hcell cx hst hxr hs hwx hb hk hx hlt h2
        go_wp2_with fail
        refine (KI.out).mono ?_
        rintro e' w3 ⟨rfl, hw3⟩
        have HB3 := Lib.hid (HB.out.trans ((grown_b hw3).mono HB.out.size))
        have h3 := H2.out.below (grown_b hw3)
        have H3 := Lib.hid h3
        clear hw3 KI h3
        by_cases q : kindS S.l x = 2
        · have qd : decide (kindS S.l x = 2) = true := decide_eq_true q
          have hst := HST.out
          rw [if_pos q] at hst
          have c0 := H3.out.c0
          obtain ⟨n, hn, ho, lk⟩ := H3.out.look HX.out
          have lk0 := lk w3 rfl
          have hsm := HS.out.get x
          have hN : namesS S.l x = n.names := by unfold namesS; rw [← hn]; rfl
          have hlen : n.names.length ≤ 1000 := by have := hsm.q; rw [← hn] at this; exact Nat.le_trans this (by decide)
          obtain ⟨hbc9, hE9⟩ := ho.ens
          have KF := Lib.hid (dFind (c := n.bc) hE9 (Nat.le_refl _) hlen s)
          have HXR2 := HXR.out
          rw [hN] at hst HXR2
          obtain ⟨HH, hH⟩ : ∃ H, hasN s n.names = H := ⟨_, rfl⟩
          obtain ⟨II, hII⟩ : ∃ H, inoN s n.names = H := ⟨_, rfl⟩
          rw [hH, hII] at KF
          rw [hH, hII] at hst
          rw [hII] at HXR2
          rw [qd]
          have HST2 := Lib.hid hst; have HXI := Lib.hid HXR2
          obtain ⟨i, ki, l, t, u, A0, ac, P, B, bc, N⟩ := n
          unfold Nd.val at lk0
          dsimp only at lk0 KF
          clear lk ho hn hN hsm hlen hE9 hbc9 hH hII hst HXR2 q qd HST HXR
          go_wp2_with fail
          refine (KF.out).mono ?_
          rintro e' w4 ⟨rfl, hw4⟩
          have HB4 := Lib.hid (HB3.out.trans ((grown_b hw4).mono HB3.out.size))
          clear hw4 KF lk0 c0
          cases HH with
          | true =>
            go_wp2
            go_roundw
            case rel => exact ⟨k + 1, II, HLT.out, by go_num, rfl, HXI.out, by have h9 := HST2.out; simp only [if_true] at h9; exact h9.symm, HB4.out⟩
            case measure => simp [intOf]; have := HLT.out; omega
          | false =>
            have HW := Lib.hid (show R = (0, 2) by have h9 := HST2.out; simp only [Bool.false_eq_true, if_false] at h9; exact h9)
            go_wp2
            go_ret2
            rw [HRR.out, HW.out]
            exact ⟨rfl, HB2.out.trans (HB4.out.mono HB2.out.size)⟩
        · have HW := Lib.hid (show R = (0, 20) by have h9 := HST.out; rw [if_neg q] at h9; exact h9)
          rw [decide_eq_false q]
          clear q
          go_wp2
          go_ret2
          rw [HRR.out, HW.out]
          exact ⟨rfl, HB2.out.trans (HB3.out.mono HB2.out.size)⟩
      · obtain rfl : k = bs.length := by omega
        rw [List.drop_length] at hwx
        have HW := Lib.hid (show R = (x, 0) from hwx.symm)
        clear hwx hb hk hx hlt
        go_wp2
        go_ret2
        rw [HRR.out, HW.out]
        exact ⟨rfl, HB2.out.trans (HB.out.mono HB2.out.size)⟩
  · have q0 : (E != 0) = true := by simpa using e0
    have hr := HFS.out
    rw [if_neg e0] at hr
    have HR := Lib.hid hr
    clear e0 hr
    go_wp2
    go_ret2
    rw [HRR.out, HR.out]
    exact ⟨rfl, HB2.out⟩
set_option maxHeartbeats 8000000 in
theorem rFindS {Ls : List Nd} {v : Value} (h : DSx w base g Ls v S) (hlen : Ls.length ≤ 1000) (hs : SmS S.l) (hok : ∀ n ∈ S.l, RightN n.names) (p : ByteArray) (hp : p.size ≤ 1000) :
    Calls Tryz.prog 10 #[SPtr g, .string p] w (Ends (.tuple #[.int .i64 (findS S p).1, .int .i64 (findS S p).2]) w) := by
  have KS := Lib.hid (refSplit_any p w hp)
  have H := Lib.hid h; have HS := Lib.hid hs; have HLE := Lib.hid hlen
  have HOK := Lib.hid (show ∀ x, ∀ e ∈ namesS S.l x, 1 ≤ e.n from fun x e he => by
    unfold namesS getS at he
    cases hx : atS S.l x with
    | none => rw [hx] at he; cases he
    | some n => rw [hx] at he; exact (okE_parts ((hok n (atS_mem hx)).1 e he)).2.1)
  clear h hs hp hlen hok
  unfold SPtr at *
  go_enter Tryz.func10, Tryz.ntmps10
  go_wp2_with fail
  refine (KS.out).mono ?_
  rintro e w2 ⟨vv, bs, rfl, hbs, hown, hb2⟩
  obtain ⟨A, c, rfl, hrow⟩ := Row.of_own hown
  have HB2 := Lib.hid hb2
  have HROW := Lib.hid hrow
  obtain ⟨E, hE⟩ : ∃ E, pathE p.toList = E := ⟨_, rfl⟩
  rw [hE]
  obtain ⟨R, hR⟩ : ∃ R, findS S p = R := ⟨_, rfl⟩
  have HRR := Lib.hid hR
  have HFS := Lib.hid (show R = if E = 0 then walkS S.l bs 1 else (0, E) by rw [← hR]; unfold findS; rw [hE, bs_of hbs])
  have hbl : bs.length ≤ 121 := by
    have := path_many p.toList
    rw [← hbs, List.length_map] at this
    exact this
  clear hb2 hrow hbs hE hR KS hown
  by_cases e0 : E = 0
  · subst e0
    have hr := HFS.out
    rw [if_pos rfl] at hr
    have HR := Lib.hid hr.symm
    clear hr
    go_wp2_with fail
    go_loopw [8, 21] (fun a i wr => FdRel S.l bs R w2 a i wr) (fun _ i _ => bs.length - (intOf i).toNat)
    case atStart => exact ⟨0, 1, Nat.zero_le _, rfl, rfl, by unfold i64R; omega, by rw [List.drop_zero]; exact HR.out, Below.refl _ _⟩
    case round =>
      obtain ⟨k, x, hk, rfl, rfl, hx, hwx, hb⟩ := hrel
      have HB := Lib.hid hb
      by_cases hlt : k < bs.length
      · obtain ⟨s, hs⟩ : ∃ s, bs[k]? = some s := ⟨_, List.getElem?_eq_getElem hlt⟩
        have hk1 : (k : Int) < (bs.length : Int) := Int.ofNat_lt.2 hlt
        have hrw := HROW.out.below hb
        obtain ⟨bb, off, hA, _, hcell⟩ := hrw.2 (by omega)
        have cx := hcell k (by rw [List.length_map]; omega)
        have cx2 : wr.cell? ⟨bb, off + k, none⟩ = some (.string s) := by
          rw [cx, List.getElem_map, (List.getElem?_eq_some_iff.1 hs).2]
        have hst := walk_step (l := S.l) hs x
        rw [hwx] at hst
        have HST := Lib.hid hst; have HLT := Lib.hid hlt; have HXR := Lib.hid (ino_R HS.out x s)
        have h2 := H.out.below ((HB2.out.trans (hb.mono HB2.out.size)).mono (Nat.le_refl _))
        have KI := Lib.hid (rKind h2 HLE.out x)
        have H2 := Lib.hid h2; have HX := Lib.hid hx
        obtain ⟨K0, hK0⟩ : ∃ K, kindS S.l x = K := ⟨_, rfl⟩
        rw [hK0] at KI
        have HK0 := Lib.hid hK0
        subst hA
        clear hrw hcell cx hst hs hwx hb hk hx hlt h2 hK0
        go_wp2_with fail
        refine (KI.out).mono ?_
        rintro e' w3 ⟨rfl, hw3⟩
        have HB3 := Lib.hid (HB.out.trans ((grown_b hw3).mono HB.out.size))
        have KN := Lib.hid (rNamed (H2.out.below (grown_b hw3)) HLE.out HS.out x s)
        clear hw3 KI
        by_cases q : K0 = 2
        · have q1 : (K0 != 2) = false := by simpa using q
          have hst := HST.out
          rw [if_pos (HK0.out.trans q)] at hst
          have hnm : namedS S.l x s = inoN s (namesS S.l x) := by unfold namedS; rw [if_pos (HK0.out.trans q)]
          obtain ⟨II, hII⟩ : ∃ H, namedS S.l x s = H := ⟨_, rfl⟩
          have hz : (II = 0) ↔ ¬ hasN s (namesS S.l x) = true := by
            rw [← hII, hnm]
            constructor
            · intro h0 hh
              obtain ⟨e9, he9, _, h9⟩ := has_mem hh
              have := HOK.out x e9 he9
              omega
            · intro hh; exact inoN_none (by simpa using hh)
          rw [hII] at KN
          have HZ := Lib.hid hz; have HXI := Lib.hid (show i64R II by rw [← hII, hnm]; exact HXR.out)
          have HST2 := Lib.hid (show R = if hasN s (namesS S.l x) = true then walkS S.l (bs.drop (k + 1)) II else (0, 2) by rw [← hII, hnm]; exact hst)
          clear hst hnm hII hz q
          go_wp2_with fail
          refine (KN.out).mono ?_
          rintro e' w4 ⟨rfl, hw4⟩
          have HB4 := Lib.hid (HB3.out.trans ((grown_b hw4).mono HB3.out.size))
          clear hw4 KN
          by_cases q3 : II = 0
          · have q4 : (II == 0) = true := by simpa using q3
            have HW := Lib.hid (show R = (0, 2) by have h9 := HST2.out; rw [if_neg (HZ.out.1 q3)] at h9; exact h9)
            clear q3
            go_wp2
            go_ret2
            rw [HRR.out, HW.out]
            exact ⟨rfl, HB2.out.trans (HB4.out.mono HB2.out.size)⟩
          · have q4 : (II == 0) = false := by simpa using q3
            have HW := Lib.hid (show walkS S.l (bs.drop (k + 1)) II = R by have h9 := HST2.out; rw [if_pos (Decidable.byContradiction fun hh => q3 (HZ.out.2 hh))] at h9; exact h9.symm)
            clear q3
            go_wp2
            go_roundw
            case rel => exact ⟨k + 1, II, HLT.out, by go_num, rfl, HXI.out, HW.out, HB4.out⟩
            case measure => simp [intOf]; have := HLT.out; omega
        · have q1 : (K0 != 2) = true := by simpa using q
          have HW := Lib.hid (show R = (0, 20) by have h9 := HST.out; rw [if_neg (by rw [HK0.out]; exact q)] at h9; exact h9)
          clear q KN
          go_wp2
          go_ret2
          rw [HRR.out, HW.out]
          exact ⟨rfl, HB2.out.trans (HB3.out.mono HB2.out.size)⟩
      · obtain rfl : k = bs.length := by omega
        rw [List.drop_length] at hwx
        have HW := Lib.hid (show R = (x, 0) from hwx.symm)
        clear hwx hb hk hx hlt
        go_wp2
        go_ret2
        rw [HRR.out, HW.out]
        exact ⟨rfl, HB2.out.trans (HB.out.mono HB2.out.size)⟩
  · have q0 : (E != 0) = true := by simpa using e0
    have hr := HFS.out
    rw [if_neg e0] at hr
    have HR := Lib.hid hr
    clear e0 hr
    go_wp2
    go_ret2
    rw [HRR.out, HR.out]
    exact ⟨rfl, HB2.out⟩
end
end Go.Proofs.YtcdpmifgjaongaaGreatDoor

/-! The project's Get. -/
namespace Go.Proofs.YtcdpmifgjaongaaGreatDoor
open Wd Ino Sm U Go.RowKit Go.ChangeShapes Go.WideShapes Go.Sort
set_option linter.unusedVariables false
set_option maxRecDepth 100000
def GetGo (S : Stt) (a : Int) (w : World) (e : Ending) (w' : World) : Prop := ∃ n : Nd, e = .returned (.tuple #[n.val, .bool (atS S.l a).isSome]) ∧ n.plain = getS S.l a ∧ OwnNd w' w.heap.size n ∧ Below w.heap.size w w'
theorem set7_own {w : World} {base g : Nat} {i k l s u : Int} {p m : Value} {n : Nd} {cs : Array Value} (h : OwnNd w base n) (hc : Cells w g 38 cs) : OwnNd (set7 w g i k l s u p m) base n :=
  h.keep (KeepC.one hc (fun q hq => set7_heap hq)) (by decide) (by decide)
section
variable {w : World} {base m g b : Nat} {S : Stt}
set_option maxHeartbeats 4000000 in
theorem pGet (h : PSt w base m g b S) (hs : SmS S.l) (a : Int) (ha : i64R a) :
    Calls Tryz.prog 13 #[SPtr g, .int .i64 a] w (GetGo S a w) := by
  have hg1 : Below w.heap.size w (w.alloc (.cells (ncells 0 0 0 0 0 (.slice none 0 0) (.slice none 0 0)) 38)) := below_of_grown (World.grownBy_alloc w _ none)
  have hz1 : Cells (w.alloc (.cells (ncells 0 0 0 0 0 (.slice none 0 0) (.slice none 0 0)) 38)) w.heap.size 38 (ncells 0 0 0 0 0 (.slice none 0 0) (.slice none 0 0)) := Cells.new _ _ _
  have KM := Lib.hid (pMade (h.below hg1))
  have H1 := Lib.hid (h.below hg1); have HG1 := Lib.hid hg1; have HZ1 := Lib.hid hz1; have HS := Lib.hid hs; have HA := Lib.hid ha
  unfold ncells at KM H1 HG1 HZ1
  unfold SPtr at *
  clear h hg1 hz1 hs
  go_enter Tryz.func13, Tryz.ntmps13
  go_wp2_with fail
  refine (KM.out).mono ?_
  rintro e w2 ⟨rfl, hw2⟩
  have H2 := Lib.hid (H1.out.below (grown_b hw2))
  have HZ2 := Lib.hid (HZ1.out.below' (grown_b hw2))
  have HB2 := Lib.hid (HG1.out.trans ((grown_b hw2).mono HG1.out.size))
  obtain ⟨n, hn, ho, lk⟩ := H2.out.look_ok HA.out
  have lk0 := lk w2 rfl
  have c0 := H2.out.c0
  have hsm := HS.out.get a
  rw [← hn] at hsm
  obtain ⟨B, hB⟩ : ∃ B, (atS S.l a).isSome = B := ⟨_, rfl⟩
  rw [hB] at lk0
  have HBB := Lib.hid hB; have HN := Lib.hid hn
  obtain ⟨j, ki, l, t, u, A0, ac, P, B0, bc, N⟩ := n
  unfold Nd.val at lk0
  dsimp only at lk0
  obtain ⟨w3, hw3⟩ : ∃ W, W = w2.alloc (.cells #[.int .i64 j, .int .i64 ki, .int .i64 l, .int .i64 t, .int .i64 u, .slice A0 P.length ac, .slice B0 N.length bc] 38) := ⟨_, rfl⟩
  have hb3 : Below w2.heap.size w2 w3 := by rw [hw3]; exact below_of_grown (World.grownBy_alloc w2 _ none)
  have cb3 : Cells w3 w2.heap.size 38 (ncells j ki l t u (.slice A0 P.length ac) (.slice B0 N.length bc)) := by rw [hw3]; exact Cells.new _ _ _
  have HB3 := Lib.hid (HB2.out.trans (hb3.mono HB2.out.size)); have HZ3 := Lib.hid (HZ2.out.below' hb3); have CB3 := Lib.hid cb3
  have KC := Lib.hid (iCopy ⟨j, ki, l, t, u, A0, ac, P, B0, bc, N⟩ w3 ((ho.below hb3).in_) hsm.p (Nat.le_trans hsm.q (by decide)) hsm.sz)
  unfold Nd.val at KC
  dsimp only at KC
  clear hw2 KM lk hn ho hsm hB hb3 cb3
  go_upto_region 4 with fail
  rw [← hw3]
  clear hw3 lk0 c0
  obtain ⟨y0, y1, y2, y3, y4, y5, y6⟩ := cells7 CB3.out
  go_wp2_with fail
  refine (KC.out).mono ?_
  rintro e w4 ⟨V, A5, ac5, B5, bc5, rfl, ho4, hb4⟩
  obtain ⟨rfl, ow4⟩ := ho4.nd
  have HZ4 := Lib.hid (HZ3.out.below' hb4); have HB4 := Lib.hid (HB3.out.trans (hb4.mono HB3.out.size)); have OW4 := Lib.hid (ow4.mono HB3.out.size)
  obtain ⟨z0, z1, z2, z3, z4, z5, z6⟩ := cells7 HZ4.out
  have s0 := HZ4.out.free 0; have s1 := HZ4.out.free 1; have s2 := HZ4.out.free 2; have s3 := HZ4.out.free 3; have s4 := HZ4.out.free 4; have s5 := HZ4.out.free 5; have s6 := HZ4.out.free 6
  unfold Nd.val
  dsimp only
  clear ho4 hb4 ow4 KC y0 y1 y2 y3 y4 y5 y6
  go_wp2
  refine bodyPost_ret (results_node_tmp rfl _ _ w.heap.size (ncells j ki l t u (.slice A5 P.length ac5) (.slice B5 N.length bc5)) rfl (set7_cells HZ4.out) rfl) rfl ?_
  exact ⟨⟨j, ki, l, t, u, A5, ac5, P, B5, bc5, N⟩, by rw [HBB.out]; rfl, HN.out, set7_own OW4.out HZ4.out, set7_below HB4.out (Nat.le_refl _)⟩
end
end Go.Proofs.YtcdpmifgjaongaaGreatDoor

/-! The project's Turn. -/
namespace Go.Proofs.YtcdpmifgjaongaaGreatDoor
open Wd Ino Sm U Go.RowKit Go.ChangeShapes Go.WideShapes Go.Sort
set_option linter.unusedVariables false
set_option maxRecDepth 100000
def turnOk (S : Stt) (a page old : Int) : Prop := old ≠ 0 ∧ ∃ K : Nat, page = (K : Int) ∧ (getS S.l a).pages[K]? = some old
def TurnGo (S : Stt) (a page old ref : Int) (base m g b : Nat) (w : World) (e : Ending) (w' : World) : Prop :=
  (turnOk S a page old → e = .returned (.bool true) ∧ PSt w' base (m + 8) g b ⟨modS S.l a (putNod page ref (getS S.l a).size), S.last⟩) ∧ (¬ turnOk S a page old → e = .returned (.bool false) ∧ PSt w' base (m + 8) g b S) ∧ Trn w w' [g, b]
section
variable {w : World} {base m g b : Nat} {S : Stt}
set_option maxHeartbeats 8000000 in
theorem pTurn (h : PSt w base m g b S) (iv : Inv S) {k0 : Nat} (nm : Num k0 S) (hk0 : k0 ≤ 900) (hm : m < 999900) (a page old ref : Int) (ha : i64R a) (hp : i64R page) :
    Calls Tryz.prog 16 #[SPtr g, .int .i64 a, .int .i64 page, .int .i64 old, .int .i64 ref] w (TurnGo S a page old ref base m g b w) := by
  have KM := Lib.hid (pMade h)
  have H := Lib.hid h; have HA := Lib.hid ha; have IV := Lib.hid iv; have SM := Lib.hid (iv.smN nm hk0); have HM := Lib.hid hm
  have NO := Lib.hid (show ¬ turnOk S a page old → ∀ wx, Below w.heap.size w wx → TurnGo S a page old ref base m g b w (.returned (.bool false)) wx from fun hn wx hb => ⟨fun h => absurd h hn, fun _ => ⟨rfl, (h.below hb).more (by omega)⟩, Trn.of hb⟩)
  unfold SPtr at *
  clear h iv nm hm ha
  go_enter Tryz.func16, Tryz.ntmps16
  go_wp2_with fail
  refine (KM.out).mono ?_
  rintro e w2 ⟨rfl, hw2⟩
  have HB2 := Lib.hid (grown_b hw2); have H2 := Lib.hid (H.out.below (grown_b hw2))
  clear hw2 KM
  by_cases h0 : old = 0
  · have q0 : (old == 0) = true := by simpa using h0
    have HN := Lib.hid (show ¬ turnOk S a page old from fun h => h.1 h0)
    clear h0
    go_wp2
    go_ret
    exact NO.out HN.out _ HB2.out
  · have q0 : (old == 0) = false := by simpa using h0
    have HO0 := Lib.hid h0
    clear h0
    obtain ⟨n, hn, ho, lk⟩ := H2.out.look HA.out
    have lk0 := lk w2 rfl
    have c0 := H2.out.c0
    have hsm := SM.out.get a
    rw [← hn] at hsm
    have HN := Lib.hid hn; have HSM := Lib.hid hsm
    obtain ⟨j, ki, l, t, u, A0, ac, P, B0, bc, N⟩ := n
    unfold Nd.val at lk0
    dsimp only at lk0
    obtain ⟨w3, hw3⟩ : ∃ W, W = w2.alloc (.cells #[.int .i64 j, .int .i64 ki, .int .i64 l, .int .i64 t, .int .i64 u, .slice A0 P.length ac, .slice B0 N.length bc] 38) := ⟨_, rfl⟩
    have hb3 : Below w2.heap.size w2 w3 := by rw [hw3]; exact below_of_grown (World.grownBy_alloc w2 _ none)
    have cb3 : Cells w3 w2.heap.size 38 (ncells j ki l t u (.slice A0 P.length ac) (.slice B0 N.length bc)) := by rw [hw3]; exact Cells.new _ _ _
    have HB3 := Lib.hid (HB2.out.trans (hb3.mono HB2.out.size)); have CB3 := Lib.hid cb3; have H3 := Lib.hid (H2.out.below hb3); have HO3 := Lib.hid (ho.below hb3)
    have hgp : (getS S.l a).pages = P := by rw [← hn]; rfl
    have hgs : (getS S.l a).size = t := by rw [← hn]; rfl
    have HGP := Lib.hid hgp; have HGS := Lib.hid hgs
    clear lk hn ho hsm hb3 cb3 hgp hgs
    go_upto_region 4 with fail
    rw [← hw3]
    clear hw3 lk0 c0
    obtain ⟨y0, y1, y2, y3, y4, y5, y6⟩ := cells7 CB3.out
    by_cases hp0 : page < 0
    · have q1 : decide (page < 0) = true := decide_eq_true hp0
      have HNT := Lib.hid (show ¬ turnOk S a page old from fun h => by obtain ⟨_, K, hK, _⟩ := h; omega)
      clear hp0
      go_wp2
      go_ret
      exact NO.out HNT.out _ HB3.out
    · have q1 : decide (page < 0) = false := decide_eq_false hp0
      obtain ⟨K, rfl⟩ : ∃ K : Nat, page = (K : Int) := ⟨page.toNat, by omega⟩
      clear hp0
      by_cases hlt : K < P.length
      · have hlt2 : (K : Int) < (P.length : Int) := Int.ofNat_lt.2 hlt
        have q2 : decide ((P.length : Int) ≤ (K : Int)) = false := decide_eq_false (by omega)
        obtain ⟨x, hx⟩ : ∃ x, P[K]? = some x := ⟨_, List.getElem?_eq_getElem hlt⟩
        obtain ⟨A1, ac1, hv1, hrw⟩ := HO3.out.1.row
        injection hv1 with hv1 _ hv3
        subst hv1 hv3
        obtain ⟨b1, o1, x', hA, hbb, hx', cx⟩ := getI hrw hlt
        have hxx : x' = x := by rw [hx] at hx'; exact (Option.some.inj hx').symm
        subst hxx hA
        have HX := Lib.hid hx; have HLT := Lib.hid hlt
        clear hx hx' hrw hbb hlt
        by_cases he : x' = old
        · have q3 : (x' != old) = false := by simpa using he
          have HTO := Lib.hid (show turnOk S a (K : Int) old from ⟨HO0.out, K, rfl, by rw [HGP.out, HX.out, he]⟩)
          clear he
          have hat : ∃ n0, atS S.l a = some n0 ∧ getS S.l a = n0 := by
            cases hn0 : atS S.l a with
            | none =>
              have h9 := HGP.out
              unfold getS at h9
              rw [hn0] at h9
              have h10 := HX.out
              rw [← h9] at h10
              cases h10
            | some n0 => exact ⟨n0, rfl, by unfold getS; rw [hn0]; rfl⟩
          obtain ⟨n0, a0, a1⟩ := hat
          have hright := IV.out.right n0 (atS_mem a0)
          rw [a1] at HGP HGS
          have hkd : n0.kind = 1 := by
            rcases (right_ino hright).2.2.2.2 with h1 | h1
            · exact h1
            · have h2 := (right_dir hright h1).2.1
              rw [h2] at HGP
              have h10 := HX.out
              rw [← HGP.out] at h10
              cases h10
          obtain ⟨_, _, r1, r2, r3⟩ := right_file hright hkd
          rw [HGS.out] at r1 r2 r3
          rw [HGP.out] at r3
          have hpo : putOk (K : Int) t = true := by
            unfold putOk inB
            have := HLT.out
            simp only [Bool.and_eq_true, decide_eq_true_eq]
            omega
          have HPO := Lib.hid hpo; have HA0 := Lib.hid a0; have HN2 := Lib.hid (HN.out.trans a1)
          have HGS2 := Lib.hid (show (getS S.l a).size = t by rw [a1]; exact HGS.out)
          have KP := Lib.hid (fun wx (b3 : Below w3.heap.size w3 wx) => iPut ⟨j, ki, l, t, u, some ⟨b1, o1, none⟩, ac, P, B0, bc, N⟩ (K : Int) ref t HSM.out.size wx ((HO3.out.below b3).ok HSM.out) HSM.out.p (Nat.le_trans HSM.out.q (by decide)) HSM.out.sz)
          unfold Nd.val at KP
          dsimp only at KP
          have c0 := H3.out.c0
          have b0 : Below w3.heap.size w3 w3.drew := below_drewN (Below.refl _ _) 1
          have HBS := Lib.hid (show base ≤ w3.heap.size by have := H3.out.lo; have := H3.out.cells.lt; omega)
          have hm2 : m < 1000000 := by have := HM.out; omega
          clear hright hkd r1 r2 r3 hpo a0 a1
          go_upto_region 6 with fail
          go_region_with (first
            | (go_at_call 42; (with_reducible refine (KP.out _ b0).mono ?_); rintro e' w6 ⟨V, A5, ac5, B5, bc5, rfl, ho6, hb6⟩
               rw [if_pos HPO.out] at ho6 ⊢
               rw [if_pos HPO.out] at ho6
               obtain ⟨rfl, ow6⟩ := ho6.nd
               have b6 : Below w3.heap.size w3 w6 := b0.trans (hb6.mono b0.size)
               have d0 := (H3.out.below b6).c0
               obtain ⟨v0, v1, v2, v3, v4, v5, v6⟩ := cells7 (CB3.out.below' b6)
               obtain ⟨w7, hrun, hP7, hT7⟩ := (H3.out.below b6).store hm2 HA.out (x := a) (n := ⟨j, ki, l, t, u, A5, ac5, putP P (K : Int) ref t, B5, bc5, N⟩) (ow6.mono (Nat.le_trans HBS.out b0.size)) (l' := modS S.l a (putNod (K : Int) ref t)) (fun x => by rw [at_modS (f := putNod (K : Int) ref t) (fun _ => rfl) HA0.out, ← HN2.out]; rfl)
               unfold Nd.val at hrun ⊢
               dsimp only at hrun ⊢))
          all_goals
            have HP7 := Lib.hid hP7
            have T7 := Lib.hid (((Trn.of (S := [g, b]) (HB3.out.trans (b6.mono HB3.out.size))).trans (Trn.map hT7 (S := [g, b]) (List.mem_cons_of_mem _ (List.mem_singleton.2 rfl)))))
            clear hP7 hT7 hrun b6 ow6 hb6 ho6
            go_wp2
            go_ret
            exact ⟨fun _ => ⟨rfl, by rw [HGS2.out]; exact HP7.out.more (by omega)⟩, fun h => absurd HTO.out h, T7.out⟩
        · have q3 : (x' != old) = true := by simpa using he
          have HNT := Lib.hid (show ¬ turnOk S a (K : Int) old from fun h => by
            obtain ⟨_, K', hK, hx2⟩ := h
            obtain rfl : K = K' := by omega
            rw [HGP.out, HX.out] at hx2
            exact he (Option.some.inj hx2))
          clear he
          go_wp2
          go_ret
          exact NO.out HNT.out _ HB3.out
      · have q2 : decide ((P.length : Int) ≤ (K : Int)) = true := decide_eq_true (by omega)
        have HNT := Lib.hid (show ¬ turnOk S a (K : Int) old from fun h => by
          obtain ⟨_, K', hK, hx2⟩ := h
          obtain rfl : K = K' := by omega
          rw [HGP.out] at hx2
          exact hlt (List.getElem?_eq_some_iff.1 hx2).1)
        have q2n : decide (P.length ≤ K) = true := decide_eq_true (by omega)
        have q2m : P.length ≤ K := by omega
        clear hlt
        go_wp2
        go_ret
        exact NO.out HNT.out _ HB3.out
end
end Go.Proofs.YtcdpmifgjaongaaGreatDoor
