import Derived.Test.YtamndllolppmoaaGreatG27
import Derived.Test.YtamndllolppmoaaGreatG24
import Derived.Test.YtamndllolppmoaaGreatG05
import Derived.Test.YtamndllolppmoaaGreatShelf
import Derived.RangeFuncNested
import Derived.RangeFuncBound
import Derived.RangeFuncCalls
import Derived.RangeFuncLeaves
import Derived.Shelf.Abstract
import Derived.Shelf.RegionOpen
import Derived.OwnWalkIn
import Derived.TacticsInMore
import Derived.LoopNIn
import Derived.LoopIn

/-! The law's Done: both states behind deeds. -/
namespace Go.Proofs.YtamndllolppmoaaGreat
open Wd Ino Sm U Go.RowKit Go.ChangeShapes Go.WideShapes Go.Sort
set_option linter.unusedVariables false
set_option maxRecDepth 100000
theorem Trn.keepC1 {w w' : World} {g : Nat} {T : TypeId} {cs : Array Value} (hc : Cells w g T cs) (t : Trn w w' [g]) : KeepC [T] w w' := fun b u cs' hu hc' => (t.block b hc'.lt (fun e => hu (by
    have e' : b = g := List.mem_singleton.1 e
    subst e'
    have : u = T := Decidable.byContradiction fun hne => hc'.ne hc hne rfl
    rw [this]; exact List.mem_singleton.2 rfl))).trans hc'
/-- the state behind deeds -/
def runD (l : List Dd) : Stt := l.foldl (fun S d => nextS S d.e d.ref) newStt
theorem runD_snoc (l : List Dd) (d : Dd) : runD (l ++ [d]) = nextS (runD l) d.e d.ref := by unfold runD; rw [List.foldl_append]; rfl
theorem inv_foldl (l : List Dd) : ∀ S, Inv S → Inv (l.foldl (fun S d => nextS S d.e d.ref) S) := by
  induction l with
  | nil => exact fun S h => h
  | cons d l ih => exact fun S h => ih _ (h.next d.e d.ref)
theorem Inv.runD (l : List Dd) : Inv (runD l) := inv_foldl l _ Inv.new
theorem num_foldl (l : List Dd) (hr : ∀ d ∈ l, i64R d.ref) : ∀ S k, Num k S → Num (k + l.length) (l.foldl (fun S d => nextS S d.e d.ref) S) := by
  induction l with
  | nil => exact fun S k h => h
  | cons d l ih =>
    intro S k h
    have := ih (fun x hx => hr x (List.mem_cons_of_mem _ hx)) _ _ (h.next d.e (hr d List.mem_cons_self))
    rw [List.length_cons, show k + (l.length + 1) = k + 1 + l.length by omega]
    exact this
theorem Num.runD (l : List Dd) (hr : ∀ d ∈ l, i64R d.ref) : Num l.length (runD l) := by
  have := num_foldl l hr _ _ Num.new
  rw [Nat.zero_add] at this
  exact this
theorem PSt.bx {w : World} {base m g b gx : Nat} {S : Stt} (h : PSt w base m g b S) {T : TypeId} {cs : Array Value} (hc : Cells w gx T cs) : b ≠ gx := by
  obtain ⟨G, hm, _⟩ := h.mp
  exact hm.cells hc
theorem PSt.far {w w' : World} {base m g b gx : Nat} {S : Stt} (h : PSt w base m g b S) {cs : Array Value} (hc : Cells w gx 80 cs) (t : Trn w w' [gx]) : PSt w' base m g b S :=
  h.keep (Trn.keepC1 hc t) (by decide) (by decide) (by decide) (t.block b h.blt (by simp; exact h.bx hc))
theorem DSx.far {w w' : World} {base m g b gx bx : Nat} {S S' : Stt} {Ls : List Nd} {v : Value} (h : DSx w bx gx Ls v S') (hp : PSt w base m g b S) (t : Trn w w' [g, b]) : DSx w' bx gx Ls v S' :=
  h.keep (hp.keepC t) (by decide) (by decide) (by decide) (by decide)
/-- both states, side by side, made since base -/
structure Two (w : World) (base m g b gx : Nat) (S S' : Stt) : Prop where
  p : PSt w base m g b S
  x : ∃ Ls v, DSx w base gx Ls v S'
theorem Two.below {w w' : World} {base m g b gx : Nat} {S S' : Stt} (h : Two w base m g b gx S S') (hb : Below w.heap.size w w') : Two w' base m g b gx S S' := ⟨h.p.below hb, let ⟨Ls, v, hx⟩ := h.x; ⟨Ls, v, hx.below hb⟩⟩
theorem Two.more {w : World} {base m m' g b gx : Nat} {S S' : Stt} (h : Two w base m g b gx S S') (hm : m ≤ m') : Two w base m' g b gx S S' := ⟨h.p.more hm, h.x⟩
theorem Two.base {w : World} {base m g b gx : Nat} {S S' : Stt} (h : Two w base m g b gx S S') : base ≤ w.heap.size := by
  have h1 := h.p.lo; have h2 := h.p.cells.lt; omega
theorem Two.mono {w : World} {base base' m g b gx : Nat} {S S' : Stt} (h : Two w base m g b gx S S') (hb : base' ≤ base) : Two w base' m g b gx S S' := by
  obtain ⟨p, Ls, v, x⟩ := h
  refine ⟨⟨Nat.le_trans hb p.lo, Nat.le_trans hb p.lob, p.cells, ?_⟩, Ls, v, ⟨Nat.le_trans hb x.lo, x.cells, ⟨x.row.1, ?_⟩, fun n hn => (x.own n hn).mono hb, x.eq⟩⟩
  · obtain ⟨G, h1, h2, h3⟩ := p.mp
    exact ⟨G, h1, h2, fun i n hn => (h3 i n hn).mono hb⟩
  · rcases x.row.2 with h3 | ⟨gg, cap, cur, h3, h4, h5⟩
    · exact .inl h3
    · exact .inr ⟨gg, cap, cur, h3, Nat.le_trans hb h4, h5⟩
def DoneGo (S : Stt) (m : Nat) (w : World) (e : Ending) (w' : World) : Prop := ∃ g b gx, e = .returned (.tuple #[SPtr g, SPtr gx]) ∧ Two w' w.heap.size m g b gx S S ∧ Below w.heap.size w w'
def DnRel (w : World) (l : List Dd) (g b gx : Nat) (i : Value) (wr : World) : Prop := ∃ k : Nat, k ≤ l.length ∧ i = .int .i64 k ∧ Two wr w.heap.size (1 + 8 * k) g b gx (runD (l.take k)) (runD (l.take k)) ∧ Below w.heap.size w wr
set_option maxHeartbeats 8000000 in
theorem done_law {w : World} {A : Option Addr} {c : Nat} {l : List Dd} (h : Dds w w.heap.size A l) (hf : fewD l = true) : Calls Tryz.prog 12 #[.slice A l.length c] w (DoneGo (runD l) (1 + 8 * l.length) w) := by
  obtain ⟨hfew, hlen⟩ := fewD_iff.1 hf
  have HF := Lib.hid hfew; have HL := Lib.hid hlen; have HREF := Lib.hid (fun d hd => (h.ok d hd).ref)
  have KP := Lib.hid (pNew w)
  clear hf hfew hlen
  go_enter Tryz.func12, Tryz.ntmps12
  go_wp2_with fail
  refine (KP.out).mono ?_
  rintro e w1 ⟨g, b, rfl, hb1, P1⟩
  have HB1 := Lib.hid hb1; have P1H := Lib.hid P1
  have KX := Lib.hid (rNew w1)
  clear hb1 P1 KP
  go_wp2_with fail
  refine (KX.out).mono ?_
  rintro e w2 ⟨gx, Lx, vx, rfl, X2, hb2⟩
  have HB2 := Lib.hid (HB1.out.trans (hb2.mono HB1.out.size))
  have hx2 : DSx w2 w.heap.size gx Lx vx newStt := ⟨Nat.le_trans HB1.out.size X2.lo, X2.cells, ⟨X2.row.1, by
    rcases X2.row.2 with h3 | ⟨gg, cap, cur, h3, h4, h5⟩
    · exact .inl h3
    · exact .inr ⟨gg, cap, cur, h3, Nat.le_trans HB1.out.size h4, h5⟩⟩, fun n hn => (X2.own n hn).mono HB1.out.size, X2.eq⟩
  have T2 := Lib.hid (Two.mk (P1H.out.below hb2) ⟨Lx, vx, hx2⟩)
  clear X2 hb2 hx2 KX
  unfold SPtr
  go_wp2
  go_loopw [12] (fun i wr => DnRel w l g b gx i wr) (fun i _ => l.length - (intOf i).toNat)
  case atStart => exact ⟨0, Nat.zero_le _, rfl, T2.out, HB2.out⟩
  case round =>
    obtain ⟨k, hk, rfl, T, hb⟩ := hrel
    by_cases hlt : k < l.length
    · obtain ⟨d, hd⟩ : ∃ d, l[k]? = some d := ⟨_, List.getElem?_eq_getElem hlt⟩
      have hD := h.below hb
      obtain ⟨bb, off, rfl, hbB, x0, x1, x2, x3, x4, x5, x6, x7, x8, x9⟩ := dds_cells hD hd
      have hkl : (k : Int) < (l.length : Int) := by omega
      have hdm := List.mem_of_getElem? hd
      have hiv := Inv.runD (l.take k)
      have hnm := Num.runD (l.take k) (fun x hx => HREF.out x (List.mem_of_mem_take hx))
      rw [List.length_take, Nat.min_eq_left hk] at hnm
      have hk30 : k ≤ 30 := Nat.le_trans hk HL.out
      have hok := (hD.ok d hdm).e
      have hfe := HF.out d hdm
      have hrf := HREF.out d hdm
      have hsn : runD (l.take (k + 1)) = nextS (runD (l.take k)) d.e d.ref := by rw [take_snocE hd, runD_snoc]
      obtain ⟨⟨kind, ino, dir, dst, page, size, name, other, Ae, cp, data⟩, ref⟩ := d
      dsimp only at x0 x1 x2 x3 x4 x5 x6 x7 x8 x9 hok hfe hrf hsn
      obtain ⟨S, hS⟩ : ∃ S, runD (l.take k) = S := ⟨_, rfl⟩
      rw [hS] at T hiv hnm hsn
      obtain ⟨w3, hw3⟩ : ∃ w3, wr.alloc (.cells #[.int .i64 kind, .int .i64 ino, .int .i64 dir, .int .i64 dst, .int .i64 page, .int .i64 size, .string name, .string other, .slice Ae data.length cp, .int .i64 ref] 52) = w3 := ⟨_, rfl⟩
      have hb3 : Below wr.heap.size wr w3 := by rw [← hw3]; exact below_of_grown (World.grownBy_alloc wr _ none)
      have hc3 : Cells w3 wr.heap.size 52 #[.int .i64 kind, .int .i64 ino, .int .i64 dir, .int .i64 dst, .int .i64 page, .int .i64 size, .string name, .string other, .slice Ae data.length cp, .int .i64 ref] := by rw [← hw3]; exact Cells.new _ _ _
      have z0 := hc3.cell 0; have z1 := hc3.cell 1; have z2 := hc3.cell 2; have z3 := hc3.cell 3; have z4 := hc3.cell 4; have z5 := hc3.cell 5; have z6 := hc3.cell 6; have z7 := hc3.cell 7; have z8 := hc3.cell 8; have z9 := hc3.cell 9
      simp only [List.getElem?_toArray, List.getElem?_cons_succ, List.getElem?_cons_zero] at z0 z1 z2 z3 z4 z5 z6 z7 z8 z9
      have T3 := T.below hb3
      have hok3 : Eff.Ok ⟨kind, ino, dir, dst, page, size, name, other, Ae, cp, data⟩ w3 w.heap.size := hok.below ((hb3.mono hb.size))
      have HB3 := Lib.hid (hb.trans (hb3.mono hb.size))
      have KA := Lib.hid (pApply T3.p (hiv.fit hnm (by omega)) (by omega) ⟨kind, ino, dir, dst, page, size, name, other, Ae, cp, data⟩ (hok3.more HB3.out.size) hfe ref)
      have KR := Lib.hid (fun wx (b3 : Below w.heap.size w3 wx) (Lx : List Nd) (vx : Value) (x : DSx wx w.heap.size gx Lx vx S) => rApply x hiv hnm (by omega) ⟨kind, ino, dir, dst, page, size, name, other, Ae, cp, data⟩ ((hok3.below b3).more (Nat.le_trans HB3.out.size b3.size)) hfe ref hrf)
      have T3H := Lib.hid T3; have HC3 := Lib.hid hc3; have HSN := Lib.hid hsn
      unfold Eff.val SPtr at KA KR
      dsimp only at KA KR
      clear T3 hb3 hc3 hok3 hok hfe hrf hsn hS hiv hnm hD hd hdm T hb hbB
      go_wp2_with fail
      refine (KA.out).mono ?_
      rintro e' w4 ⟨A4, c4, l4, rfl, P4, t4⟩
      obtain ⟨Lx3, vx3, X3⟩ := T3H.out.x
      have X4 := X3.far T3H.out.p t4
      have C4 := Lib.hid (T3H.out.p.keepC t4 _ _ _ (by decide) HC3.out)
      have B4 := Lib.hid (t4.below (B := w.heap.size) HB3.out.size (fun x hx => by
        rcases List.mem_cons.1 hx with rfl | hx
        · exact T3H.out.p.lo
        · rw [List.mem_singleton.1 hx]; exact T3H.out.p.lob))
      have KR4 := Lib.hid (KR.out w4 B4.out _ _ X4)
      have P4H := Lib.hid P4; have X4H := Lib.hid X4
      clear P4 t4 X3 X4 KA KR z0 z1 z2 z3 z4 z5 z6 z7 z8 z9 x0 x1 x2 x3 x4 x5 x6 x7 x8 x9
      have z0 := C4.out.cell 0; have z1 := C4.out.cell 1; have z2 := C4.out.cell 2; have z3 := C4.out.cell 3; have z4 := C4.out.cell 4; have z5 := C4.out.cell 5; have z6 := C4.out.cell 6; have z7 := C4.out.cell 7; have z8 := C4.out.cell 8; have z9 := C4.out.cell 9
      simp only [List.getElem?_toArray, List.getElem?_cons_succ, List.getElem?_cons_zero] at z0 z1 z2 z3 z4 z5 z6 z7 z8 z9
      go_wp2_with fail
      refine (KR4.out).mono ?_
      rintro e' w5 ⟨A5, c5, l5, Lx5, vx5, rfl, X5, t5⟩
      have P5 := P4H.out.far X4H.out.cells t5
      have T5 := Lib.hid ((Two.mk P5 ⟨Lx5, vx5, X5⟩).more (m' := 1 + 8 * (k + 1)) (by omega))
      have B5 := Lib.hid ((HB3.out.trans B4.out).trans (t5.below (B := w.heap.size) (by have := HB3.out.size; have := B4.out.size; omega) (fun x hx => by rw [List.mem_singleton.1 hx]; exact X4H.out.lo)))
      clear P5 X5 t5 KR4 z0 z1 z2 z3 z4 z5 z6 z7 z8 z9
      go_wp2
      go_roundw
      case rel => exact ⟨k + 1, hlt, by go_num, by rw [HSN.out]; exact T5.out, B5.out⟩
      case measure => simp [intOf]; omega
    · obtain rfl : k = l.length := by omega
      have TH := Lib.hid T; have HB := Lib.hid hb
      clear T hb hk hlt
      go_wp2
      go_ret2
      exact ⟨g, b, gx, rfl, by have h9 := TH.out; rw [List.take_length] at h9; exact h9, HB.out⟩
end Go.Proofs.YtamndllolppmoaaGreat

/-! The project's Get. -/
namespace Go.Proofs.YtamndllolppmoaaGreat
open Wd Ino Sm U Go.RowKit Go.ChangeShapes Go.WideShapes Go.Sort
set_option linter.unusedVariables false
set_option maxRecDepth 100000
def GetGo (S : Stt) (a : Int) (w : World) (e : Ending) (w' : World) : Prop := ∃ n : Nd, e = .returned (.tuple #[n.val, .bool (atS S.l a).isSome]) ∧ n.plain = getS S.l a ∧ OwnNd w' w.heap.size n ∧ Below w.heap.size w w'
theorem set7_own {w : World} {base g : Nat} {i k l s u : Int} {p m : Value} {n : Nd} {cs : Array Value} (h : OwnNd w base n) (hc : Cells w g 55 cs) : OwnNd (set7 w g i k l s u p m) base n :=
  h.keep (KeepC.one hc (fun q hq => set7_heap hq)) (by decide) (by decide)
section
variable {w : World} {base m g b : Nat} {S : Stt}
set_option maxHeartbeats 4000000 in
theorem pGet (h : PSt w base m g b S) (hs : SmS S.l) (a : Int) (ha : i64R a) :
    Calls Tryz.prog 22 #[SPtr g, .int .i64 a] w (GetGo S a w) := by
  have hg1 : Below w.heap.size w (w.alloc (.cells (ncells 0 0 0 0 0 (.slice none 0 0) (.slice none 0 0)) 55)) := below_of_grown (World.grownBy_alloc w _ none)
  have hz1 : Cells (w.alloc (.cells (ncells 0 0 0 0 0 (.slice none 0 0) (.slice none 0 0)) 55)) w.heap.size 55 (ncells 0 0 0 0 0 (.slice none 0 0) (.slice none 0 0)) := Cells.new _ _ _
  have KM := Lib.hid (pMade (h.below hg1))
  have H1 := Lib.hid (h.below hg1); have HG1 := Lib.hid hg1; have HZ1 := Lib.hid hz1; have HS := Lib.hid hs; have HA := Lib.hid ha
  unfold ncells at KM H1 HG1 HZ1
  unfold SPtr at *
  clear h hg1 hz1 hs
  go_enter Tryz.func22, Tryz.ntmps22
  go_wp2_with fail
  refine (KM.out).mono ?_
  rintro e w2 ⟨rfl, hw2⟩
  have H2 := Lib.hid (H1.out.below (grown_b hw2))
  have HZ2 := Lib.hid (HZ1.out.below' (grown_b hw2))
  have HB2 := Lib.hid (HG1.out.trans ((grown_b hw2).mono HG1.out.size))
  obtain ⟨n, hn, ho, lk⟩ := H2.out.look_ok HA.out
  have lk0 := lk w2 rfl
  have c0 := H2.out.c0
  have hsm := HS.out.get a
  rw [← hn] at hsm
  obtain ⟨B, hB⟩ : ∃ B, (atS S.l a).isSome = B := ⟨_, rfl⟩
  rw [hB] at lk0
  have HBB := Lib.hid hB; have HN := Lib.hid hn
  obtain ⟨j, ki, l, t, u, A0, ac, P, B0, bc, N⟩ := n
  unfold Nd.val at lk0
  dsimp only at lk0
  obtain ⟨w3, hw3⟩ : ∃ W, W = w2.alloc (.cells #[.int .i64 j, .int .i64 ki, .int .i64 l, .int .i64 t, .int .i64 u, .slice A0 P.length ac, .slice B0 N.length bc] 55) := ⟨_, rfl⟩
  have hb3 : Below w2.heap.size w2 w3 := by rw [hw3]; exact below_of_grown (World.grownBy_alloc w2 _ none)
  have cb3 : Cells w3 w2.heap.size 55 (ncells j ki l t u (.slice A0 P.length ac) (.slice B0 N.length bc)) := by rw [hw3]; exact Cells.new _ _ _
  have HB3 := Lib.hid (HB2.out.trans (hb3.mono HB2.out.size)); have HZ3 := Lib.hid (HZ2.out.below' hb3); have CB3 := Lib.hid cb3
  have KC := Lib.hid (iCopy ⟨j, ki, l, t, u, A0, ac, P, B0, bc, N⟩ w3 ((ho.below hb3).in_) hsm.p (Nat.le_trans hsm.q (by decide)) hsm.sz)
  unfold Nd.val at KC
  dsimp only at KC
  clear hw2 KM lk hn ho hsm hB hb3 cb3
  go_upto_region 4 with fail
  rw [← hw3]
  clear hw3 lk0 c0
  obtain ⟨y0, y1, y2, y3, y4, y5, y6⟩ := cells7 CB3.out
  go_wp2_with fail
  refine (KC.out).mono ?_
  rintro e w4 ⟨V, A5, ac5, B5, bc5, rfl, ho4, hb4⟩
  obtain ⟨rfl, ow4⟩ := ho4.nd
  have HZ4 := Lib.hid (HZ3.out.below' hb4); have HB4 := Lib.hid (HB3.out.trans (hb4.mono HB3.out.size)); have OW4 := Lib.hid (ow4.mono HB3.out.size)
  obtain ⟨z0, z1, z2, z3, z4, z5, z6⟩ := cells7 HZ4.out
  have s0 := HZ4.out.free 0; have s1 := HZ4.out.free 1; have s2 := HZ4.out.free 2; have s3 := HZ4.out.free 3; have s4 := HZ4.out.free 4; have s5 := HZ4.out.free 5; have s6 := HZ4.out.free 6
  unfold Nd.val
  dsimp only
  clear ho4 hb4 ow4 KC y0 y1 y2 y3 y4 y5 y6
  go_wp2
  refine bodyPost_ret (results_node_tmp rfl _ _ w.heap.size (ncells j ki l t u (.slice A5 P.length ac5) (.slice B5 N.length bc5)) rfl (set7_cells HZ4.out) rfl) rfl ?_
  exact ⟨⟨j, ki, l, t, u, A5, ac5, P, B5, bc5, N⟩, by rw [HBB.out]; rfl, HN.out, set7_own OW4.out HZ4.out, set7_below HB4.out (Nat.le_refl _)⟩
end
end Go.Proofs.YtamndllolppmoaaGreat

/-! The project's Turn. -/
namespace Go.Proofs.YtamndllolppmoaaGreat
open Wd Ino Sm U Go.RowKit Go.ChangeShapes Go.WideShapes Go.Sort
set_option linter.unusedVariables false
set_option maxRecDepth 100000
def turnOk (S : Stt) (a page old : Int) : Prop := old ≠ 0 ∧ ∃ K : Nat, page = (K : Int) ∧ (getS S.l a).pages[K]? = some old
def TurnGo (S : Stt) (a page old ref : Int) (base m g b : Nat) (w : World) (e : Ending) (w' : World) : Prop :=
  (turnOk S a page old → e = .returned (.bool true) ∧ PSt w' base (m + 8) g b ⟨modS S.l a (putNod page ref (getS S.l a).size), S.last⟩) ∧ (¬ turnOk S a page old → e = .returned (.bool false) ∧ PSt w' base (m + 8) g b S) ∧ Trn w w' [g, b]
section
variable {w : World} {base m g b : Nat} {S : Stt}
end
end Go.Proofs.YtamndllolppmoaaGreat

/-! The project's inOrder: all nodes in a row, by number. -/
namespace Go.Proofs.YtamndllolppmoaaGreat
open Wd Ino Sm U Go.Maps Go.RowKit Go.ChangeShapes Go.WideShapes Go.Sort Go.Shelf
set_option linter.unusedVariables false
set_option linter.unusedSimpArgs false
set_option maxRecDepth 100000
theorem sortsI (m : Nat) : AnyZI.SortsIn Tryz.prog Tryz.sortedA_ren Fence.wide m :=
  ⟨fun blk off cap ss W hH hblk hsz => callsIn_wide.2 (AnyM.slices_Sort_int Tryz.sortA blk off cap ss W hH hblk hsz),
   fun p cap W => callsIn_wide.2 (AnyM.slices_Sort_int_none Tryz.sortA p cap W)⟩
theorem rise_srt {ss : List Int} (h : ss.Nodup) : (ss.mergeSort leI).Pairwise (· < ·) := by
  have tr : ∀ a b c : Int, leI a b = true → leI b c = true → leI a c = true := fun a b c h1 h2 => by simp only [leI, decide_eq_true_eq] at *; exact Int.le_trans h1 h2
  have tot : ∀ a b : Int, (leI a b || leI b a) = true := fun a b => by simp only [leI, Bool.or_eq_true, decide_eq_true_eq]; exact Int.le_total a b
  have h1 := List.pairwise_mergeSort tr tot ss
  have h2 : (ss.mergeSort leI).Nodup := (List.mergeSort_perm ss leI).nodup_iff.2 h
  refine (h1.and h2).imp fun {a b} ⟨h3, h4⟩ => ?_
  simp only [leI, decide_eq_true_eq] at h3
  have : a ≠ b := h4
  omega
theorem rise_uniq : ∀ {l m : List Int}, l.Pairwise (· < ·) → m.Pairwise (· < ·) → (∀ x, x ∈ l ↔ x ∈ m) → l = m
  | [], [], _, _, _ => rfl
  | [], b :: m, _, _, h => absurd ((h b).2 List.mem_cons_self) (by simp)
  | a :: l, [], _, _, h => absurd ((h a).1 List.mem_cons_self) (by simp)
  | a :: l, b :: m, hl, hm, h => by
    have hl' := List.pairwise_cons.1 hl
    have hm' := List.pairwise_cons.1 hm
    have hab : a = b := by
      rcases List.mem_cons.1 ((h a).1 List.mem_cons_self) with h1 | h1
      · exact h1
      · rcases List.mem_cons.1 ((h b).2 List.mem_cons_self) with h2 | h2
        · exact h2.symm
        · have h3 := hm'.1 a h1
          have h4 := hl'.1 b h2
          omega
    subst hab
    refine congrArg _ (rise_uniq hl'.2 hm'.2 fun x => ⟨fun hx => ?_, fun hx => ?_⟩)
    · have h3 := hl'.1 x hx
      rcases List.mem_cons.1 ((h x).1 (List.mem_cons_of_mem _ hx)) with h1 | h1
      · omega
      · exact h1
    · have h3 := hm'.1 x hx
      rcases List.mem_cons.1 ((h x).2 (List.mem_cons_of_mem _ hx)) with h1 | h1
      · omega
      · exact h1
theorem keysM {w : World} {b n : Nat} {F : VFn} (h : Mv Tryz.prog 3 w b n F) : ∃ D : DataW Value, w.ownsMap Tryz.prog 3 HR b n D ∧ ∀ ss : List Int, ss.Perm (intKeys D) → (ss.mergeSort leI).Pairwise (· < ·) ∧ ∀ x, x ∈ ss.mergeSort leI ↔ (F x).isSome = true := by
  obtain ⟨D, h, v⟩ := h
  refine ⟨D, h, fun ss hp => ?_⟩
  have h' := h
  obtain ⟨es, clock, h1, F1, h2, rfl⟩ := h
  have ap := Maps.fit_apart keyedN F1
  have each : ∀ p ∈ es.toList.map (WideElems.rg (H := Value) Tryz.prog 3 HR), ∃ x, p.1 = .int .i64 x := by
    intro p hp
    obtain ⟨m, hm, rfl⟩ := List.mem_map.1 hp
    obtain ⟨y, hy⟩ := F1.reads m hm
    obtain ⟨x, _, ex, _⟩ := Maps.keyOf_int_inv Tryz.underlying3 (WideElems.rd_key hy)
    exact ⟨x, by rw [WideElems.rg_of hy, ex]⟩
  obtain ⟨es', e1, pw, hk⟩ := h'.entries keyedN
  injection e1 with e1
  rw [e1] at hp v
  have each' : ∀ p ∈ es', ∃ x, p.1 = .int .i64 x := fun p hp => by rw [← e1] at hp; exact each p (mem_sorted.1 hp)
  have hnd : (es'.map fun p => Go.intOf p.1).Nodup := by
    refine List.pairwise_map.2 (pw.imp_of_mem fun {p q} hp' hq' hne e => hne ?_)
    obtain ⟨a, ha⟩ := each' p hp'
    obtain ⟨b, hb⟩ := each' q hq'
    rw [ha, hb] at e ⊢
    exact congrArg _ e
  refine ⟨rise_srt (hp.nodup_iff.2 hnd), fun x => ?_⟩
  rw [List.mem_mergeSort, hp.mem_iff, ← (v x).1, has_eq, List.any_eq_true]
  show x ∈ es'.map (fun p => Go.intOf p.1) ↔ _
  rw [List.mem_map]
  constructor
  · rintro ⟨p, hp', rfl⟩
    obtain ⟨a, ha⟩ := each' p hp'
    exact ⟨p, hp', by rw [ha]; simp [Lit.sameKey, Go.intOf, KI]⟩
  · rintro ⟨p, hp', hs⟩
    obtain ⟨a, ha⟩ := each' p hp'
    rw [ha] at hs
    exact ⟨p, hp', by rw [ha]; simpa [Lit.sameKey, Go.intOf, KI] using hs⟩
section
variable {w : World} {base m g b : Nat} {S : Stt}
theorem order_keys {w : World} {base m g b : Nat} {S : Stt} (h : PSt w base m g b S) (ha : AscS S.l) : ∃ D : DataW Value, w.ownsMap Tryz.prog 3 HR b m D ∧ ∀ ss : List Int, ss.Perm (intKeys D) → ss.mergeSort leI = S.l.map Nod.ino := by
  obtain ⟨G, hm, hp, ho⟩ := h.mp
  obtain ⟨D, hD, hk⟩ := keysM hm
  refine ⟨D, hD, fun ss hss => ?_⟩
  obtain ⟨k1, k2⟩ := hk ss hss
  refine rise_uniq k1 (List.pairwise_map.2 ha) fun x => ?_
  rw [k2]
  unfold mval
  rw [Option.isSome_map]
  have hx := hp x
  have h2 : (G x).isSome = (atS S.l x).isSome := by rw [← hx, Option.isSome_map]
  rw [h2, List.mem_map]
  constructor
  · intro h3
    obtain ⟨n, hn⟩ := Option.isSome_iff_exists.1 h3
    exact ⟨n, atS_mem hn, atS_ino hn⟩
  · rintro ⟨n, hn, rfl⟩
    rw [atS_of_mem ha hn]; rfl
def OrdRow (W0 w0 : World) (base : Nat) (w : World) (q : Nat) (v : Value) (Lk : List Nd) (l : List Nod) : Prop := w0.heap.size ≤ q ∧ Cells w q 78 #[v] ∧ OwnNs w w0.heap.size v Lk ∧ (∀ n ∈ Lk, OwnNd W0 base n) ∧ Lk.map Nd.plain = l
def OrdGo (W0 : World) (l : List Nod) (base : Nat) (w : World) (e : Ending) (w' : World) : Prop := ∃ q Lk v, e = .returned (.func (.func 101) #[] #[.pointer (some ⟨q, 0, none⟩)]) ∧ OrdRow W0 w base w' q v Lk l ∧ Below w.heap.size w w'
def IoRel (W0 : World) (l : List Nod) (base : Nat) (w : World) (q : Nat) (i : Value) (wr : World) : Prop := ∃ (k : Nat) (Lk : List Nd) (v : Value), k ≤ l.length ∧ i = .int .i64 k ∧ OrdRow W0 w base wr q v Lk (l.take k) ∧ Below w.heap.size w wr
set_option maxHeartbeats 8000000 in
theorem pInOrder {W0 : World} (h0 : PSt W0 base m g b S) (hw0 : Below W0.heap.size W0 w) (ha : AscS S.l) (hs : SmS S.l) (hl : S.l.length ≤ 1000) (hm : m < 999900) : Calls Tryz.prog 63 #[SPtr g] w (OrdGo W0 S.l base w) := by
  have h := h0.below hw0
  obtain ⟨w1, hw1⟩ : ∃ w1, w.alloc (.cells #[.slice none 0 0] 78) = w1 := ⟨_, rfl⟩
  have hg1 : Below w.heap.size w w1 := by rw [← hw1]; exact below_of_grown (World.grownBy_alloc w _ none)
  have hc1 : Cells w1 w.heap.size 78 #[.slice none 0 0] := by rw [← hw1]; exact Cells.new _ _ _
  have HA := Lib.hid ha; have HS := Lib.hid hs; have HL := Lib.hid hl; have HM := Lib.hid hm; have HBASE := Lib.hid (show base ≤ w.heap.size by have := h.lo; have := h.cells.lt; omega)
  have H0 := Lib.hid h0; have HW0 := Lib.hid hw0; have H1 := Lib.hid (h.below hg1); have HG1 := Lib.hid hg1; have HC1 := Lib.hid hc1
  have c0 := (h.below hg1).c0
  have cK : ∀ mb W, Calls Tryz.prog 100 #[.map mb] W fun e w' => e = .returned (.func (.func 147) #[] #[.pointer (some ⟨W.heap.size, 0, none⟩)]) ∧ w' = W.alloc (.cells #[.map mb] 87) := fun mb W => (callsIn_wide (n := 5)).1 (AnyZI.keys_in Tryz.keysA Fence.wide 5 trivial rfl mb W)
  have cS : ∀ W, PSt W base m g b S → Calls Tryz.prog 99 #[.func (.func 147) #[] #[.pointer (some ⟨W.heap.size, 0, none⟩)]] (W.alloc (.cells #[.map (some b)] 87)) fun e w' => ∃ v, e = .returned v ∧ w'.ownsRow W.heap.size 3 1 v S.l.length ((S.l.map Nod.ino).map iv) ∧ Below W.heap.size W w' := by
    intro W hW
    obtain ⟨D0, hown, hkeys⟩ := order_keys hW ha
    have hsz := hown.size_le
    have hbl := hown.lt
    have hseq : SeqGives Fence.wide 2 Tryz.prog 147 #[.pointer (some ⟨W.heap.size, 0, none⟩)] encZ (fun ss => ss.Perm (intKeys D0)) (Maps.size D0) (W.alloc (.cells #[.map (some b)] 87)) :=
      AnyZI.keys_gives (ρ := Tryz.keysA_ren) { Tryz.keysA with } Fence.wide _ trivial rfl (by omega) W.heap.size b m D0 _ (by simp) (by simp) (by
        obtain ⟨es, clock, hb, Ft, hs, hD⟩ := hown
        exact ⟨es, clock, (Below.heap_alloc _ _ b hbl).trans hb, Ft, hs, hD⟩)
    have cS := AnyZI.sorted_in Tryz.sortedA Fence.wide 5 trivial trivial trivial trivial rfl (by omega) (sortsI _) (enters_of Tryz.func71 (by kernel_rfl) rfl) 147 #[.pointer (some ⟨W.heap.size, 0, none⟩)] trivial (enters_of Tryz.func147 (by kernel_rfl) rfl) _ _ (by unfold maxLen; omega) (by omega) _ hseq
    change CallsIn _ _ Tryz.prog 99 _ _ _ at cS
    refine ((callsIn_wide (n := 5)).1 cS).mono ?_
    rintro e w' ⟨v, ss, rfl, hS, hrow, _, hb⟩
    have hk := hkeys ss hS
    have hrow' := own_mono' hrow (by simp : W.heap.size ≤ _)
    have hlen : ss.length = S.l.length := by
      have := congrArg List.length hk
      rw [List.length_mergeSort, List.length_map] at this
      exact this
    refine ⟨v, rfl, ?_, ((Below.refl _ W).alloc (Nat.le_refl _) _).trans (hb.mono (by simp))⟩
    rw [← hk, ← hlen]
    exact hrow'
  have CK := Lib.hid cK; have CS := Lib.hid (cS _ H1.out)
  unfold SPtr
  clear h h0 hw0 ha hs hl hm hg1 hc1 cK cS
  go_enter Tryz.func63, Tryz.ntmps63
  go_wp2_with fail
  refine (CK.out _ _).mono ?_
  rintro e w2 ⟨rfl, rfl⟩
  go_wp2_with fail
  refine (CS.out).mono ?_
  rintro e w3 ⟨v, rfl, hown3, hb3⟩
  obtain ⟨A, c, rfl, _⟩ := Row.of_own hown3
  have H3 := Lib.hid (H1.out.below hb3); have HC3 := Lib.hid (HC1.out.below' hb3); have HB3 := Lib.hid (HG1.out.trans (hb3.mono HG1.out.size)); have HOW3 := Lib.hid hown3
  have hlb : S.l.length ≤ 1000 := HL.out
  clear hown3 hb3 CK CS c0 hw1
  go_wp2_with fail
  go_loopw [13] (fun i wr => IoRel W0 S.l base w w.heap.size i wr ∧ PSt wr base m g b S ∧ wr.ownsRow w1.heap.size 3 1 (.slice A S.l.length c) S.l.length ((S.l.map Nod.ino).map iv)) (fun i _ => S.l.length - (intOf i).toNat)
  case atStart => exact ⟨⟨0, [], _, Nat.zero_le _, rfl, ⟨Nat.le_refl _, HC3.out, World.ownsRow_nil _ _ _ _, fun n hn => (by simp at hn), rfl⟩, HB3.out⟩, H3.out, HOW3.out⟩
  case round =>
    obtain ⟨⟨k, Lk, vk, hk, rfl, ⟨hq, hcq, hro, hon, hpl⟩, hb⟩, hps, hints⟩ := hrel
    by_cases hlt : k < S.l.length
    · obtain ⟨n0, hn0⟩ : ∃ n, S.l[k]? = some n := ⟨_, List.getElem?_eq_getElem hlt⟩
      have hkl : (k : Int) < (S.l.length : Int) := Int.ofNat_lt.2 hlt
      have hmem := List.mem_of_getElem? hn0
      have hsm := HS.out n0 hmem
      obtain ⟨A1, c1, hv1, hrw⟩ := Row.of_own hints
      injection hv1 with hv1 _ hv3
      subst hv1 hv3
      obtain ⟨b1, o1, hA, _, hcell⟩ := hrw.2 (by omega)
      have cx : wr.cell? ⟨b1, o1 + k, none⟩ = some (.int .i64 n0.ino) := by
        rw [hcell k (by rw [List.length_map, List.length_map]; omega), List.getElem_map, List.getElem_map, (List.getElem?_eq_some_iff.1 hn0).2]; rfl
      subst hA
      obtain ⟨n, hn, ho, lk⟩ := H0.out.look hsm.ino
      have hnn : n.plain = n0 := hn.trans (getS_some (atS_of_mem HA.out hmem))
      have lk0 := lk wr.drew ((hb.block b (Nat.lt_of_lt_of_le H0.out.blt HW0.out.size)).trans (HW0.out.block b H0.out.blt))
      have c0 := hps.c0
      obtain ⟨Ak, ck, rfl, _, _⟩ := ownK_form (RowP.of hro)
      have y0 := hcq.cell 0
      have z0 := hcq.free 0
      simp only [List.getElem?_toArray, List.getElem?_cons_zero] at y0
      obtain ⟨J, ki, l, t, u, A0, ac, P, B0, bc, N⟩ := n
      unfold Nd.val at lk0
      dsimp only at lk0
      have g4 : Below wr.heap.size wr (wr.alloc (.cells #[.int .i64 J, .int .i64 ki, .int .i64 l, .int .i64 t, .int .i64 u, .slice A0 P.length ac, .slice B0 N.length bc] 55)) := below_of_grown (World.grownBy_alloc wr _ none)
      have b4 : Below wr.heap.size wr (wr.alloc (.cells #[.int .i64 J, .int .i64 ki, .int .i64 l, .int .i64 t, .int .i64 u, .slice A0 P.length ac, .slice B0 N.length bc] 55)).drew := g4.drew
      have y4 := (hcq.below' g4).cell 0
      simp only [List.getElem?_toArray, List.getElem?_cons_zero] at y4
      have HPS := Lib.hid hps; have HINTS := Lib.hid hints; have HCQ := Lib.hid hcq; have HRO := Lib.hid hro; have HON := Lib.hid hon; have HPL := Lib.hid hpl; have HB := Lib.hid hb; have HNN := Lib.hid hnn; have HN0 := Lib.hid hn0; have HO := Lib.hid ho; have B4 := Lib.hid b4
      have hro4 : OwnNs _ w.heap.size (.slice Ak Lk.length ck) Lk := hro.below b4
      have HRO4 := Lib.hid hro4
      have hlk : Lk.length ≤ 1000 := by have := congrArg List.length hpl; rw [List.length_map, List.length_take] at this; omega
      have HLK := Lib.hid hlk; have HLT := Lib.hid hlt
      have HSB := Lib.hid (show w.heap.size ≤ (wr.alloc (.cells #[.int .i64 J, .int .i64 ki, .int .i64 l, .int .i64 t, .int .i64 u, .slice A0 P.length ac, .slice B0 N.length bc] 55)).drew.heap.size from Nat.le_trans hb.size b4.size)
      clear hps hints hcq hro hon hpl hb hnn hn0 ho g4 b4 hro4 hlk lk hn hsm hmem hcell hrw hlt hk
      go_wp2_with fail
      go_region_law (first
        | (refine step_append_nds (by rfl) (.tmp 17) (.tmp 24) (by rfl) (m := [(Nd.mk J ki l t u A0 ac P B0 bc N)]) (by rfl) (by rfl) HRO4.out (nds_one wr (Nd.mk J ki l t u A0 ac P B0 bc N)) (by have := HLK.out; simp; omega) HSB.out ?_; intro v6 w6 hown6 hgr6 hat6
           have hc6 := (HCQ.out.below' B4.out).grown hgr6 (ne_own (HCQ.out.below' B4.out) HRO4.out (by decide))
           obtain ⟨A6, c6, rfl, _, _⟩ := ownK_form (RowP.of hown6)
           have y6 := hc6.cell 0
           have f6 := hc6.free 0))
      all_goals
        have hk6 := KeepC.grown HRO4.out hgr6
        have hks := KeepC.set hc6 0 (.slice A6 (Lk ++ [Nd.mk J ki l t u A0 ac P B0 bc N]).length c6)
        have hB4 : KeepC ([] : List TypeId) wr _ := KeepC.of B4.out
        have hP := HPS.out.below B4.out
        have hbb : b ≠ w.heap.size := by
          obtain ⟨G, hG, _⟩ := hP.mp
          exact hG.cells (HCQ.out.below' B4.out)
        have hb6 : (w6.setCell ⟨w.heap.size, 0, none⟩ (.slice A6 (Lk ++ [Nd.mk J ki l t u A0 ac P B0 bc N]).length c6)).heap[b]? = (wr.alloc (.cells #[.int .i64 J, .int .i64 ki, .int .i64 l, .int .i64 t, .int .i64 u, .slice A0 P.length ac, .slice B0 N.length bc] 55)).drew.heap[b]? := by
          rw [Below.heap_setCell _ _ _ b hbb]
          refine hgr6.block b hP.blt (fun e => ?_)
          obtain ⟨G, hG, _⟩ := hP.mp
          obtain ⟨es, clock, h9⟩ := hG.block
          rcases HRO4.out.2 with ⟨h0, _⟩ | ⟨g9, cap9, cur9, hv9, _, hh9, _⟩
          · rw [h0] at e; cases e
          · rw [hv9] at e
            injection e with e
            rw [e] at h9
            have hh9' : (wr.alloc (.cells #[.int .i64 J, .int .i64 ki, .int .i64 l, .int .i64 t, .int .i64 u, .slice A0 P.length ac, .slice B0 N.length bc] 55)).drew.heap[g9]? = some (.cells cur9 55 (0, 0)) := hh9
            rw [hh9'] at h9
            cases h9
        have hP6 := hP.keep (KeepC.trans (hk6.more (Us := [55, 78]) (fun x hx => by rw [List.mem_singleton.1 hx]; exact List.mem_cons_self)) (hks.more (Us := [55, 78]) (fun x hx => by rw [List.mem_singleton.1 hx]; exact List.mem_cons_of_mem _ (List.mem_singleton.2 rfl)))) (by decide) (by decide) (by decide) hb6
        have hI6 := hks.own (by decide) (hk6.own (by decide) (hB4.own (by simp) HINTS.out))
        have hR6 : OwnNs _ w.heap.size _ _ := hks.own (by decide) hown6
        have hln : (Lk ++ [Nd.mk J ki l t u A0 ac P B0 bc N]).length = Lk.length + 1 := by simp
        have hON6 : ∀ x ∈ Lk ++ [Nd.mk J ki l t u A0 ac P B0 bc N], OwnNd W0 base x := fun x hx => by
          rcases List.mem_append.1 hx with hx | hx
          · exact HON.out x hx
          · rw [List.mem_singleton.1 hx]
            exact HO.out
        have hPL6 : (Lk ++ [Nd.mk J ki l t u A0 ac P B0 bc N]).map Nd.plain = S.l.take (k + 1) := by
          rw [take_snocE HN0.out, List.map_append, HPL.out]; congr 1; show [Nd.plain _] = _; rw [HNN.out]
        have hBB6 : Below w.heap.size w (w6.setCell ⟨w.heap.size, 0, none⟩ (.slice A6 (Lk ++ [Nd.mk J ki l t u A0 ac P B0 bc N]).length c6)) := ((HB.out.trans (B4.out.mono HB.out.size)).grown hgr6 HSB.out (fun q hq => own_base HRO4.out q hq)).setCell (p := ⟨w.heap.size, 0, none⟩) (Nat.le_refl _) _
        have hC6 := hc6.set 0 (.slice A6 (Lk ++ [Nd.mk J ki l t u A0 ac P B0 bc N]).length c6)
        rw [hln] at hP6 hI6 hR6 hBB6 hC6
        have HP6 := Lib.hid hP6; have HI6 := Lib.hid hI6; have HR6 := Lib.hid hR6; have HON6 := Lib.hid hON6; have HPL6 := Lib.hid hPL6; have HBB6 := Lib.hid hBB6; have HC6 := Lib.hid hC6
        clear hP6 hI6 hR6 hON6 hPL6 hBB6 hC6 hb6 hbb hP hB4 hks hk6 hc6 hown6 hgr6 hat6 y6 f6 lk0 hln
        go_wp2
        go_roundw
        case rel => exact ⟨⟨k + 1, _, _, HLT.out, by go_num, ⟨Nat.le_refl _, HC6.out, HR6.out, HON6.out, HPL6.out⟩, HBB6.out⟩, HP6.out, HI6.out⟩
        case measure => simp [intOf]; have := HLT.out; omega
    · obtain rfl : k = S.l.length := by omega
      have HOR := Lib.hid (show OrdRow W0 w base wr w.heap.size vk Lk S.l from ⟨hq, hcq, hro, hon, by rw [List.take_length] at hpl; exact hpl⟩)
      have HB := Lib.hid hb
      clear hq hcq hro hon hpl hb hps hints hk hlt
      go_wp2
      go_ret
      exact ⟨w.heap.size, Lk, vk, rfl, HOR.out, HB.out⟩
end
end Go.Proofs.YtamndllolppmoaaGreat

/-! What the project's inOrder hands to a loop's body: the nodes, by number. -/
namespace Go.Proofs.YtamndllolppmoaaGreat
open Wd Ino Sm U Go.RowKit Go.ChangeShapes Go.WideShapes Go.Shelf
set_option linter.unusedVariables false
attribute [local go_sem] Oper.semAt_some
set_option maxRecDepth 100000
theorem nds_of_row {w : World} {base n : Nat} {v : Value} {l : List Nd} (h : RowP w base 55 7 v l.length (ndvals l)) : ∃ A c, v = .slice A l.length c ∧ Nds w w.heap.size A l := by
  rcases h.2 with ⟨rfl, h0⟩ | ⟨g, cap, cur, rfl, _, hh, hc, hm, _, ht⟩
  · obtain rfl : l = [] := List.eq_nil_of_length_eq_zero h0
    exact ⟨none, 0, rfl, fun hn => absurd hn (by simp)⟩
  · refine ⟨_, cap, rfl, fun _ => ⟨g, 0, rfl, (show Cells w g 55 cur from hh).lt, fun j e hj k x hk => ?_⟩⟩
    have h1 := flat_at cells_len l j k e x hj hk
    have h2 : cur.toList[j * 7 + k]? = some x := by
      have h3 : (ndvals l)[j * 7 + k]? = some x := h1
      rw [← ht] at h3
      rw [← h3]
      have := (List.getElem?_eq_some_iff.1 h3).1
      rw [List.getElem?_take_of_lt (by rw [List.length_take] at this; omega)]
    rw [(show Cells w g 55 cur from hh).cell (0 + (j * 7 + k)), Nat.zero_add, ← Array.getElem?_toList]
    exact h2
theorem Nds.below {w w' : World} {hi : Nat} {A : Option Addr} {l : List Nd} (h : Nds w hi A l) (hb : Below hi w w') : Nds w' hi A l := fun hn => by
  obtain ⟨b, off, e, hB, hx⟩ := h hn
  exact ⟨b, off, e, hB, fun j d hj k x hk => (hb.cell (p := ⟨b, _, none⟩) hB).trans (hx j d hj k x hk)⟩
theorem Nds.more {w : World} {hi hi' : Nat} {A : Option Addr} {l : List Nd} (h : Nds w hi A l) (hb : hi ≤ hi') : Nds w hi' A l := fun hn => by
  obtain ⟨b, off, e, hB, hx⟩ := h hn
  exact ⟨b, off, e, Nat.lt_of_lt_of_le hB hb, hx⟩
theorem nds_cells {w : World} {hi : Nat} {A : Option Addr} {l : List Nd} (h : Nds w hi A l) {k : Nat} {n : Nd} (hk : l[k]? = some n) : ∃ b off, A = some ⟨b, off, none⟩ ∧ b < hi ∧
    w.cell? ⟨b, off + k * 7, none⟩ = some (.int .i64 n.ino) ∧ w.cell? ⟨b, off + k * 7 + 1, none⟩ = some (.int .i64 n.kind) ∧ w.cell? ⟨b, off + k * 7 + 2, none⟩ = some (.int .i64 n.links) ∧ w.cell? ⟨b, off + k * 7 + 3, none⟩ = some (.int .i64 n.size) ∧
    w.cell? ⟨b, off + k * 7 + 4, none⟩ = some (.int .i64 n.up) ∧ w.cell? ⟨b, off + k * 7 + 5, none⟩ = some (.slice n.A n.pages.length n.ac) ∧ w.cell? ⟨b, off + k * 7 + 6, none⟩ = some (.slice n.B n.names.length n.bc) := by
  obtain ⟨b, off, rfl, hb, hx⟩ := h (by have := (List.getElem?_eq_some_iff.1 hk).1; omega)
  have g := hx k n hk
  exact ⟨b, off, rfl, hb, g 0 _ rfl, g 1 _ rfl, g 2 _ rfl, g 3 _ rfl, g 4 _ rfl, g 5 _ rfl, g 6 _ rfl⟩
theorem take_len {α : Type} (l : List α) {k : Nat} (hk : k ≤ l.length) : (l.take k).length = k := by rw [List.length_take]; omega
/-- what a loop's body keeps of the row that it is handed -/
def Kq (q : Nat) (A : Option Addr) (W W' : World) : Prop := W.heap.size ≤ W'.heap.size ∧ W'.heap[q]? = W.heap[q]? ∧ ∀ b off, A = some ⟨b, off, none⟩ → W'.heap[b]? = W.heap[b]?
theorem Kq.refl (q : Nat) (A : Option Addr) (W : World) : Kq q A W W := ⟨Nat.le_refl _, rfl, fun _ _ _ => rfl⟩
theorem Kq.trans {q : Nat} {A : Option Addr} {X Y Z : World} (h : Kq q A X Y) (k : Kq q A Y Z) : Kq q A X Z := ⟨Nat.le_trans h.1 k.1, k.2.1.trans h.2.1, fun b off e => (k.2.2 b off e).trans (h.2.2 b off e)⟩
theorem Kq.below {q : Nat} {A : Option Addr} {X Y : World} {B : Nat} (h : Below B X Y) (hq : q < B) (hA : ∀ b off, A = some ⟨b, off, none⟩ → b < B) : Kq q A X Y := ⟨h.size, h.block _ hq, fun b off e => h.block _ (hA b off e)⟩
theorem Kq.nds {q : Nat} {A : Option Addr} {X Y : World} {hi hi' : Nat} {l : List Nd} (h : Kq q A X Y) (hn : Nds X hi A l) (hh : hi ≤ hi') : Nds Y hi' A l := fun h0 => by
  obtain ⟨b, off, e, hB, hx⟩ := hn h0
  have hb := h.2.2 b off e
  exact ⟨b, off, e, Nat.lt_of_lt_of_le hB hh, fun j d hj k x hk => by
    have := hx j d hj k x hk
    unfold World.cell? at this ⊢
    rw [hb]; exact this⟩
theorem Kq.put {q : Nat} {A : Option Addr} {w : World} (hq : q < w.heap.size) (hA : ∀ b off, A = some ⟨b, off, none⟩ → b < w.heap.size) (W : World) (l : Nat) (o o' : Obj) (hl : w.heap.size ≤ l) (h : W.heap[l]? = some o) (_ : o.isCells = false) (_ : o.isWalk = false) : Kq q A W (W.putObj l o') :=
  ⟨(grownBy_putObj' W l o').size, World.putObj_heap_other (by omega), fun b off e => World.putObj_heap_other (by have := hA b off e; omega)⟩
set_option maxHeartbeats 4000000 in
theorem io_in (F : Fence) (n : Nat) (h7 : F.fn 101) (hro : F.round = none) (hn : 1 ≤ n) (lp q : Nat) (A : Option Addr) (cap : Nat) (l : List Nd) (hm : l.length ≤ 1000) (J Jx : List Nd → World → Prop)
    (hY : ∀ pre (x : Nd) W, J pre W → pre.length < l.length → l[pre.length]? = some x → YieldAt F (n - 1) Tryz.prog lp #[.int .i64 x.ino, x.val] W fun e W' =>
      (e = .returned (.bool true) ∧ J (pre ++ [x]) W' ∧ Kq q A W W') ∨ (e = .returned (.bool false) ∧ Jx (pre ++ [x]) W'))
    (hJ : ∀ pre W o, J pre W → J pre (W.alloc o))
    (W : World) (hq : W.cell? ⟨q, 0, none⟩ = some (.slice A l.length cap)) (hqn : q < W.heap.size) (hE : Nds W W.heap.size A l) (h0 : J [] W) :
    CallsIn F n Tryz.prog 101 #[.func (.yield lp) #[] #[], .pointer (some ⟨q, 0, none⟩)] W fun e W' => (∃ v, e = .returned v) ∧
      (J l W' ∨ (∃ k, k ≤ l.length ∧ Jx (l.take k) W')) := by
  refine callsIn_of_wp Tryz.func101 rfl h7 ?_ hro
  simp only [Tryz.ntmps101, List.size_toArray, List.length_cons, List.length_nil, Nat.reduceAdd, Nat.reduceSub, Array.replicate_succ, Array.replicate_zero, List.push_toArray, List.append_toArray, List.nil_append, List.cons_append]
  gi_wp2
  gi_loopw [7] (fun i wr => ∃ k : Nat, k ≤ l.length ∧ i = .int .i64 (k : Int) ∧ J (l.take k) wr ∧ Kq q A W wr) (fun i _ => l.length - (intOf i).toNat)
  case atStart => exact ⟨0, Nat.zero_le _, by simp, h0, Kq.refl _ _ _⟩
  case round =>
    obtain ⟨k, hk, rfl, hJs, hnx⟩ := hrel
    by_cases hlt : k < l.length
    · obtain ⟨e, he⟩ : ∃ e, l[k]? = some e := ⟨_, List.getElem?_eq_getElem hlt⟩
      have hs := take_snocE he
      obtain ⟨b, off, rfl, hbB, x0, x1, x2, x3, x4, x5, x6⟩ := nds_cells (hnx.nds hE hnx.1) he
      obtain ⟨J0, ki, lk, t, u, A0, ac, P, B0, bc, N⟩ := e
      dsimp only at x0 x1 x2 x3 x4 x5 x6
      obtain ⟨w3, hw3⟩ : ∃ w3, wr.alloc (.cells #[.int .i64 J0, .int .i64 ki, .int .i64 lk, .int .i64 t, .int .i64 u, .slice A0 P.length ac, .slice B0 N.length bc] 55) = w3 := ⟨_, rfl⟩
      have hc3 : Cells w3 wr.heap.size 55 (ncells J0 ki lk t u (.slice A0 P.length ac) (.slice B0 N.length bc)) := by rw [← hw3]; exact Cells.new _ _ _
      have hb3 : Below wr.heap.size wr w3 := by rw [← hw3]; exact below_of_grown (World.grownBy_alloc wr _ none)
      have hJ3 : J (l.take k) w3 := by rw [← hw3]; exact hJ _ _ _ hJs
      obtain ⟨z0, z1, z2, z3, z4, z5, z6⟩ := cells7 hc3
      have hl2 : (l.take k).length = k := take_len l hk
      obtain ⟨fn, tmps, assign, body, hy, hR⟩ := hY _ ⟨J0, ki, lk, t, u, A0, ac, P, B0, bc, N⟩ w3 hJ3 (by rw [hl2]; exact hlt) (by rw [hl2]; exact he)
      unfold Nd.val at hy
      dsimp only at hy
      have HS := Lib.hid hs; have HLT := Lib.hid hlt; have HB3 := Lib.hid (hnx.trans (Kq.below hb3 (Nat.lt_of_lt_of_le hqn hnx.1) (fun b9 off9 e9 => by cases e9; exact hbB)))
      have hkl : (k : Int) < (l.length : Int) := by omega
      have hm2 : (k : Int) < 1000 := by omega
      clear hs he hc3 hb3 hJ3 hJs hk hlt
      gi_wp2
      refine hR.mono ?_
      rintro e W3 (⟨rfl, hJ4, hk4⟩ | ⟨rfl, hJx4⟩)
      · gi_wp2
        go_roundw
        case rel => exact ⟨k + 1, HLT.out, by go_num, by rw [HS.out]; exact hJ4, HB3.out.trans hk4⟩
        case measure => simp [intOf]; have := HLT.out; omega
      · gi_wp2
        refine bodyPost_ret (results_none rfl _ _ _) rfl ?_
        exact ⟨⟨_, rfl⟩, .inr ⟨k + 1, HLT.out, by rw [HS.out]; exact hJx4⟩⟩
    · obtain rfl : k = l.length := by omega
      rw [List.take_length] at hJs
      gi_wp2
      go_end0
      exact ⟨⟨_, rfl⟩, .inl hJs⟩
end Go.Proofs.YtamndllolppmoaaGreat
