import Derived.Test.YtbejbiogabpmfaaGreatG29
import Derived.Test.YtbejbiogabpmfaaGreatG00
import Derived.IntWalk
import Derived.Test.YtbejbiogabpmfaaGreatG32
import Derived.Test.YtbejbiogabpmfaaGreatG31
import Derived.Deep.RegionHeld3
import Derived.Test.YtbejbiogabpmfaaGreatG35
import Derived.Test.YtbejbiogabpmfaaGreatG37
import Derived.Test.YtbejbiogabpmfaaGreatG18
import Derived.Test.YtbejbiogabpmfaaGreatG17
import Derived.Test.YtbejbiogabpmfaaGreatG34
import Derived.Test.YtbejbiogabpmfaaGreatG30

/-! The project's State: Last. -/
namespace Go.Proofs.YtbejbiogabpmfaaGreat
open Wd Ino Sm Go.RowKit Go.ChangeShapes Go.WideShapes Go.Sort
set_option linter.unusedVariables false
set_option maxRecDepth 100000
variable {w : World} {base m g b : Nat} {S : Stt}
theorem pLast (h : PSt w base m g b S) : Calls Tryz.prog 39 #[SPtr g] w (Grows (.int .i64 S.last) w) := by
  have KM := Lib.hid (pMade h)
  have H := Lib.hid h
  unfold SPtr at *
  clear h
  go_enter Tryz.func39, Tryz.ntmps39
  go_wp2_with fail
  refine (KM.out).mono ?_
  rintro e' w2 ⟨rfl, hw2⟩
  have HG2 := Lib.hid hw2
  have c1 := (H.out.cells.below' (grown_b hw2)).cell 1
  clear hw2 KM H
  go_wp2_with fail
  go_ret
  exact ⟨rfl, HG2.out⟩
end Go.Proofs.YtbejbiogabpmfaaGreat

namespace Go.Proofs.YtbejbiogabpmfaaGreat
open Wd Go.ChangeShapes Go.WideShapes Go.RowKit Go.Sort
set_option linter.unusedVariables false

/-- what a device of so many pages has -/
def bankG (p : Int) : Int := p / 8
def imageG (p : Int) : Int := (32 * (p / 8) - 2) / 2
def logG (p : Int) : Int := 32 * (p / 8) - 2 - (32 * (p / 8) - 2) / 2
def dataG (p : Int) : Int := p - 1 - 2 * (p / 8)
def mayG (p : Int) : Bool := decide (64 ≤ p) && decide (p ≤ 1048576)
def geomV (p : Int) : Value := .agg #[.int .i64 p, .int .i64 (bankG p), .int .i64 (imageG p), .int .i64 (logG p), .int .i64 (dataG p)]
def noneV : Value := .agg #[.int .i64 0, .int .i64 0, .int .i64 0, .int .i64 0, .int .i64 0]

def bankP (B k : Int) : Int := if k = 1 then 32 * (1 + B) else 32
def pageP (B D p : Int) : Int := if 1 ≤ p ∧ p ≤ D then 32 * (2 * B + p) else 0

end Go.Proofs.YtbejbiogabpmfaaGreat

/-! The project's room: rest, Pages, Left, Fits. -/
namespace Go.Proofs.YtbejbiogabpmfaaGreat
open Wd Ino Sm U Go.RowKit Go.ChangeShapes Go.WideShapes Go.Sort
set_option linter.unusedVariables false
set_option maxRecDepth 100000
/-- a state within bounds -/
structure PF (w : World) (base m g b : Nat) (S : Stt) : Prop where
  p : PSt w base m g b S
  asc : AscS S.l
  sm : SmS S.l
  len : S.l.length ≤ 1000
  m : m < 999900
theorem PF.below {w w' : World} {base m g b : Nat} {S : Stt} (h : PF w base m g b S) (hb : Below w.heap.size w w') : PF w' base m g b S := ⟨h.p.below hb, h.asc, h.sm, h.len, h.m⟩
theorem PF.words {w : World} {base m g b : Nat} {S : Stt} (h : PF w base m g b S) : wordsS S.l ≤ 140000002 := by
  have h1 := sum_le (B := 140000) (f := wordsNod) S.l (fun n hn => words_node h.sm hn)
  have h2 : S.l.length * 140000 ≤ 1000 * 140000 := Nat.mul_le_mul_right _ h.len
  unfold wordsS; omega
theorem PF.refs {w : World} {base m g b : Nat} {S : Stt} (h : PF w base m g b S) : (refsS S.l).length ≤ 1000000 := by
  have h1 := flat_len_le (B := 1000) (f := fun n : Nod => refsP n.pages) S.l (fun n hn => Nat.le_trans (refs_len _) (h.sm n hn).p)
  have h2 : S.l.length * 1000 ≤ 1000 * 1000 := Nat.mul_le_mul_right _ h.len
  unfold refsS; omega
section
variable {w : World} {base m g b : Nat} {S : Stt}
def LeftGo (I D : Int) (l : List Nod) (w : World) (e : Ending) (w' : World) : Prop := e = .returned (.tuple #[.int .i64 (I - 1 - (wordsS l : Nat)), .int .i64 (D - 1 - ((refsS l).length : Nat))]) ∧ Below w.heap.size w w'
def fitsB (I D : Int) (l : List Nod) : Bool := decide (0 ≤ I - 1 - (wordsS l : Nat)) && decide (0 ≤ D - 1 - ((refsS l).length : Nat))
end
end Go.Proofs.YtbejbiogabpmfaaGreat

/-! The project's image: Put. -/
namespace Go.Proofs.YtbejbiogabpmfaaGreat
open Wd Ino Sm U Go.RowKit Go.ChangeShapes Go.WideShapes Go.Shelf Go.Sort
set_option linter.unusedVariables false
attribute [local go_sem] Oper.semAt_some
set_option maxRecDepth 100000
theorem wpListIn_append_nds {F : Fence} {n : Nat} {ops : Array Oper} {rest : List Oper} {o : Oper} {a : Act} {Q : Exit → Act → World → Prop} {w : World} (hgd : o.guard = none) (s x : Operand)
    (ho : o.op = .call { callee := .builtin .append, args := #[s, x], argTypes := #[73, 73] })
    {base hi : Nat} {v : Value} {l m : List Nd} {A : Option Addr} {c : Nat} (hs : a.eval s = v) (hx' : a.eval x = .slice A m.length c) (hown : OwnNs w base v l) (hx : Nds w hi A m) (hl : l.length + m.length ≤ 100000) (hb : base ≤ w.heap.size)
    (h : ∀ v' w', OwnNs w' base v' (l ++ m) → w.grownBy w' v.ownBlock → wpListIn F n Tryz.prog ops Q rest (a.put o.dst v') w') : wpListIn F n Tryz.prog ops Q (o :: rest) a w := by
  refine wpListIn_plain hgd fun K hK => ?_
  obtain ⟨v', w', hrun, h2, h3, _⟩ := run_append_nds (c := c) o.type hown hx hl hb
  unfold Oper.wpIn
  refine ⟨by simp [Oper.about, ho, resolve, Target.leads, Sem.run_pure], ?_⟩
  rw [Oper.semAt_plain F _ _ (by rw [ho]; intro c hc'; cases hc')]
  simp [execOp, ho, resolve, invoke, builtin, hs, hx', hrun, Result.andThen]
  exact hK _ _ (h v' w' h2 h3)
/-- the words of all nodes -/
def imgW (S : Stt) : List Nat := [uw S.last, S.l.length] ++ S.l.flatMap nodeW
theorem pMadeI {w : World} {base m g b : Nat} {S : Stt} (h : PSt w base m g b S) (hl : S.last ≠ 0) : Calls Tryz.prog 49 #[SPtr g] w (Grows (.bool true) w) := by
  have KL := Lib.hid (pLast h)
  have q0 : (S.last != 0) = true := by simpa using hl
  obtain ⟨LA, hLA⟩ : ∃ x, S.last = x := ⟨_, rfl⟩
  rw [hLA] at KL q0
  clear h hl hLA
  unfold SPtr at *
  go_enter Tryz.func49, Tryz.ntmps49
  go_wp2_with fail
  refine (KL.out).mono ?_
  rintro e w1 ⟨rfl, hw1⟩
  have HG := Lib.hid hw1
  clear hw1 KL
  go_wp2
  go_ret
  exact ⟨rfl, HG.out⟩
def PuI (w w3 : World) (nb : Nat) (pre : List Nd) (W : World) : Prop := (∃ v, Cells W nb 73 #[v] ∧ OwnNs W w3.heap.size v pre) ∧ Below w.heap.size w W ∧ w3.heap.size ≤ W.heap.size
theorem PuI.from {w w3 : World} {nb : Nat} (h3 : w.heap.size ≤ w3.heap.size) : OwnFrom w3.heap.size (PuI w w3 nb) := fun s X Y row hs hg hr => by
  obtain ⟨⟨v, h1, h2⟩, h6, h7⟩ := hs
  have hk := keepC_from hg (fun r e => (hr r e).2)
  exact ⟨⟨v, hk _ _ _ (by simp) h1, hk.own (by simp) h2⟩, h6.grown hg h6.size (fun j hj => Nat.le_trans h3 (hr j hj).1), Nat.le_trans h7 hg.size⟩
theorem pu_end {w w3 W W4 w7 : World} {nb q cv : Nat} {A Av A7 : Option Addr} {c7 : Nat} {pre : List Nd} {nd : Nd} (b4 : Below W.heap.size W W4) (hg7 : W4.grownBy w7 (Value.slice Av pre.length cv).ownBlock) (ho7 : OwnNs w7 w3.heap.size (.slice A7 (pre ++ [nd]).length c7) (pre ++ [nd]))
    (hro : OwnNs W4 w3.heap.size (.slice Av pre.length cv) pre) (hcy : Cells W4 nb 73 #[.slice Av pre.length cv])
    (hB : Below w.heap.size w W) (hsz : w3.heap.size ≤ W.heap.size) (hq : q < w3.heap.size) (hA : ∀ b off, A = some ⟨b, off, none⟩ → b < w3.heap.size) (hqg : q ≠ nb) (hAg : ∀ b off, A = some ⟨b, off, none⟩ → b ≠ nb) (hys : w.heap.size ≤ nb) (h3 : w.heap.size ≤ w3.heap.size) :
    KeepsFrom w3.heap.size W (w7.setCell ⟨nb, 0, none⟩ (.slice A7 (pre.length + 1) c7)) ∧ (KeepC [73, 51] W (w7.setCell ⟨nb, 0, none⟩ (.slice A7 (pre.length + 1) c7)) ∧ Kq q A W (w7.setCell ⟨nb, 0, none⟩ (.slice A7 (pre.length + 1) c7))) ∧
      PuI w w3 nb (pre ++ [nd]) (w7.setCell ⟨nb, 0, none⟩ (.slice A7 (pre.length + 1) c7)) := by
  rw [show (pre ++ [nd]).length = pre.length + 1 by simp] at ho7
  have hob : ∀ j, (Value.slice Av pre.length cv).ownBlock = some j → w3.heap.size ≤ j := fun j hj => own_base hro j hj
  have hc7 := hcy.grown hg7 (ne_own hcy hro (by decide))
  have hks := KeepC.set hc7 0 (.slice A7 (pre.length + 1) c7)
  have hk7 := KeepC.grown hro hg7
  have hs4 := b4.size
  refine ⟨(KeepsFrom.of_grownBy (grown_of_below b4 none) (fun j e => by cases e)).trans (((own_cellsrow hro hg7).trans (KeepsOthers.setCell _ _ _)).from _), ⟨?_, ?_⟩, ⟨⟨_, hc7.set 0 _, hks.own (by decide) ho7⟩, ?_, ?_⟩⟩
  · exact ((KeepC.of (Ts := []) b4).more (by simp)).trans ((hk7.more (by simp)).trans (hks.more (by simp)))
  · exact ((Kq.grow b4 (Nat.lt_of_lt_of_le hq hsz) (fun b off e => Nat.lt_of_lt_of_le (hA b off e) hsz)).trans (Kq.grown hg7 (by omega) (fun b off e => by have := hA b off e; omega) (fun e => by have := hob q e.symm; omega) (fun b off e e2 => by have := hob b e2.symm; have := hA b off e; omega))).trans (Kq.set _ _ hqg hAg)
  · exact ((hB.trans (b4.mono hB.size)).grown hg7 (by have := hB.size; omega) (fun j hj => Nat.le_trans h3 (hob j hj))).setCell (p := ⟨nb, 0, none⟩) hys _
  · exact Nat.le_trans hsz (Nat.le_trans hs4 (Nat.le_trans hg7.size (by simp [World.setCell])))
theorem imgW_small {S : Stt} (hs : SmS S.l) (hl : S.l.length ≤ 1000) : Small (imgW S) := by
  intro x hx
  unfold imgW at hx
  rcases List.mem_append.1 hx with hx | hx
  · rcases List.mem_cons.1 hx with rfl | hx
    · exact uw_lt _
    · rcases List.mem_cons.1 hx with rfl | hx
      · omega
      · cases hx
  · obtain ⟨n, hn, hx⟩ := List.mem_flatMap.1 hx
    unfold nodeW at hx
    rcases List.mem_append.1 hx with hx | hx
    · rcases List.mem_append.1 hx with hx | hx
      · obtain ⟨y, _, rfl⟩ := List.mem_map.1 hx; exact uw_lt _
      · obtain ⟨y, _, rfl⟩ := List.mem_map.1 hx; exact uw_lt _
    · obtain ⟨e, he, hx⟩ := List.mem_flatMap.1 hx
      have hz := (hs n hn).sz e he
      unfold nameW at hx
      rcases List.mem_append.1 hx with hx | hx
      · rcases List.mem_append.1 hx with hx | hx
        · rw [List.mem_singleton.1 hx]; omega
        · exact pk_small (bsOf_bytesW e.s) x hx
      · rw [List.mem_singleton.1 hx]; exact uw_lt _
def PutGo (S : Stt) (w : World) (e : Ending) (w' : World) : Prop := Sealed (imgW S) w e w'
set_option maxHeartbeats 32000000 in
theorem iPutAll {w : World} {base m g b : Nat} {S : Stt} (h : PF w base m g b S) (hl0 : S.last ≠ 0) (hn : (imgW S).length ≤ 200000) :
    Calls Tryz.prog 23 #[SPtr g] w (PutGo S w) := by
  have H := Lib.hid h; have HN := Lib.hid hn
  have KM := Lib.hid (pMadeI h.p hl0)
  have KNo := Lib.hid (fun wx (hb : Below w.heap.size w wx) => pNodes (h.p.below hb) h.asc h.sm h.len h.m)
  have KL := Lib.hid (fun wx (hb : Below w.heap.size w wx) => pLast (h.p.below hb))
  unfold SPtr at *
  clear h hn hl0
  refine (callsIn_wide (n := 8)).1 (callsIn_of_wp_marks Tryz.func23 rfl trivial ?_ rfl)
  refine wpIn_wide.2 ?_
  simp only [Tryz.ntmps23, List.size_toArray, List.length_cons, List.length_nil, Nat.reduceAdd, Nat.reduceSub, Array.replicate_succ, Array.replicate_zero, List.push_toArray, List.append_toArray, List.nil_append, List.cons_append]
  go_wp2_with fail
  refine (KM.out).mono ?_
  rintro e w1 ⟨rfl, hw1⟩
  have hb1 := grown_b hw1
  have hb2 : Below w1.heap.size w1 (w1.alloc (.cells #[.slice none 0 0] 73)) := below_of_grown (World.grownBy_alloc w1 _ none)
  have hc2 : Cells (w1.alloc (.cells #[.slice none 0 0] 73)) w1.heap.size 73 #[.slice none 0 0] := Cells.new _ _ _
  have HS2 := Lib.hid (show (w1.alloc (.cells #[.slice none 0 0] 73)).heap.size = w1.heap.size + 1 by simp)
  have B2 := Lib.hid (hb1.trans (hb2.mono hb1.size)); have C2 := Lib.hid hc2; have HS1 := Lib.hid hb1.size
  have KN2 := Lib.hid (KNo.out _ B2.out)
  clear hw1 hb1 hb2 hc2 KM KNo
  go_wp2_with fail
  refine (KN2.out).mono ?_
  rintro e w3 ⟨p, q, Lk, v, rfl, hp1, hp2, hpq, hcp, hq1, hcq, hro, hon, hpl, hb3⟩
  obtain ⟨A, c, rfl, hE, hA, hAb⟩ := row_hi (n := 0) hro
  have hlen : Lk.length ≤ 1000 := by have := congrArg List.length hpl; rw [List.length_map] at this; have := H.out.len; omega
  have hqc := hcq.cell 0
  simp only [List.getElem?_toArray, List.getElem?_cons_zero] at hqc
  have C3 := Lib.hid (C2.out.below' hb3)
  have B3 := Lib.hid (B2.out.trans (hb3.mono B2.out.size))
  have HQ := Lib.hid hcq.lt; have HA := Lib.hid hA
  have hs2 := HS2.out
  rw [hs2] at hq1 hAb hp1
  have HQG := Lib.hid (show q ≠ w1.heap.size by omega)
  have HAG := Lib.hid (show ∀ b off, A = some ⟨b, off, none⟩ → b ≠ w1.heap.size from fun b off e => by have := hAb b off e; omega)
  have HW23 := Lib.hid (show w.heap.size ≤ w3.heap.size from B3.out.size)
  have HSEQ := Lib.hid (nodes_tells (n := 7) (by omega) (w := w3) (Ts := [73, 51]) (by decide) (by decide) (by decide) hcp hp2 hqc hcq.lt hA hE hon hpl H.out.sm hlen)
  have HLEN := Lib.hid hlen; have HPL := Lib.hid hpl
  clear KN2 hp1 hp2 hpq hcp hq1 hqc hcq hro hon hpl hb3 hA hAb hE hs2 hlen
  go_wp2
  refine (wpIn_wide (n := 8)).1 ?_
  refine wp_range_tells rfl (by omega) rfl trivial (enters_of Tryz.func71 (by kernel_rfl) rfl) HSEQ.out (fun h k => ⟨h.1.trans k.1, h.2.trans k.2⟩)
    (fun W o o' ho hc hw => ⟨(keepC_from (grownBy_putObj' W _ o') (fun r e => by cases e; exact ⟨_, ho, hc⟩)).more (by simp), Kq.put (w := w3) HQ.out HA.out W _ o o' (by omega) ho hc hw⟩)
    (OwnFrom.and (ownFrom_pure _ _) (own_nds _ _ (fun xs => xs))) (fun x => rfl)
    (PuI w w3 w1.heap.size) (PuI.from HW23.out) ⟨⟨_, C3.out, World.ownsRow_nil _ _ _ _⟩, B3.out, Nat.le_refl _⟩
    (fun x a' W => ∃ Bx, w3.heap.size ≤ Bx ∧ Cells W Bx 51 (ndc x) ∧ a' = { tmps := #[.pointer (some ⟨g, 0, none⟩), undef, .slice none 0 0, .pointer (some ⟨w1.heap.size, 0, none⟩), undef, .pointer (some ⟨Bx, 0, none⟩), undef, undef, undef, .pointer (some ⟨g, 0, none⟩), .bool true, .bool false, .pointer (some ⟨g, 0, none⟩), .func (.func 71) #[] #[.pointer (some ⟨p, 0, none⟩)], .int .i64 x.ino, x.val, undef, undef, undef, undef, undef, undef, undef, undef, undef, undef, undef, undef, undef, undef, undef, undef, undef, undef, undef, undef, undef], defers := [] })
    (fun x a' _ X Y row hs hg hr => by obtain ⟨Bx, g1, g2, g3⟩ := hs; exact ⟨Bx, g1, (grownBy_keeps_cells hg (fun r e => (hr r e).2) g2 rfl).trans g2, g3⟩)
    ?assign ?body ?done
  case assign =>
    rintro l2 pre ⟨j, ki, lk, t, u, A0, ac, P, B0, bc, N⟩ W K hrel hok hK
    have hsz := hrel.2.2
    have hK' := hK { tmps := #[.pointer (some ⟨g, 0, none⟩), undef, .slice none 0 0, .pointer (some ⟨w1.heap.size, 0, none⟩), undef, .pointer (some ⟨W.heap.size, 0, none⟩), undef, undef, undef, .pointer (some ⟨g, 0, none⟩), .bool true, .bool false, .pointer (some ⟨g, 0, none⟩), .func (.func 71) #[] #[.pointer (some ⟨p, 0, none⟩)], .int .i64 j, Nd.val ⟨j, ki, lk, t, u, A0, ac, P, B0, bc, N⟩, undef, undef, undef, undef, undef, undef, undef, undef, undef, undef, undef, undef, undef, undef, undef, undef, undef, undef, undef, undef, undef], defers := [] } (W.alloc (.cells (ndc ⟨j, ki, lk, t, u, A0, ac, P, B0, bc, N⟩) 51)) ((KeepsOthers.alloc _ _).from _)
      ⟨(KeepC.of (Ts := []) (below_of_grown (World.grownBy_alloc W _ none))).more (by simp), Kq.grow (below_of_grown (World.grownBy_alloc W _ none)) (Nat.lt_of_lt_of_le HQ.out hsz) (fun b off e => Nat.lt_of_lt_of_le (HA.out b off e) hsz)⟩ ((PuI.from HW23.out).alloc _ hrel) ⟨W.heap.size, hsz, Cells.new _ _ _, rfl⟩
    unfold Nd.val ndc ncells at hK'
    unfold Nd.val
    dsimp only at hK' ⊢
    clear hK
    gi_wp2
    exact hK'
  case body =>
    rintro l2 pre ⟨j, ki, lk, t, u, A0, ac, P, B0, bc, N⟩ a' W hl ⟨⟨v, gcy, gro⟩, hB, hsz⟩ ⟨Bx, hBx, cX, rfl⟩ hlt
    unfold ndc at cX
    dsimp only at cX
    obtain ⟨z0, z1, z2, z3, z4, z5, z6⟩ := cells7 cX
    obtain ⟨Av, cv, rfl, _, _⟩ := ownK_form (RowP.of gro)
    have c0 := gcy.cell 0
    simp only [List.getElem?_toArray, List.getElem?_cons_zero] at c0
    have b4 : Below W.heap.size W (W.alloc (.cells #[.int .i64 j, .int .i64 ki, .int .i64 lk, .int .i64 t, .int .i64 u, .slice A0 P.length ac, .slice B0 N.length bc] 51)) := below_of_grown (World.grownBy_alloc W _ none)
    have B4 := Lib.hid b4
    have HROW4 := Lib.hid (show OwnNs (W.alloc (.cells #[.int .i64 j, .int .i64 ki, .int .i64 lk, .int .i64 t, .int .i64 u, .slice A0 P.length ac, .slice B0 N.length bc] 51)) w3.heap.size (.slice Av pre.length cv) pre from gro.below b4)
    have HCY4 := Lib.hid (gcy.below' b4)
    have HB := Lib.hid hB; have HSZ := Lib.hid hsz
    have HSB := Lib.hid (show w3.heap.size ≤ (W.alloc (.cells #[.int .i64 j, .int .i64 ki, .int .i64 lk, .int .i64 t, .int .i64 u, .slice A0 P.length ac, .slice B0 N.length bc] 51)).heap.size from Nat.le_trans hsz b4.size)
    have HP9 := Lib.hid (show pre.length + [(Nd.mk j ki lk t u A0 ac P B0 bc N)].length ≤ 100000 by have := HLEN.out; simp; omega)
    have HN4 := Lib.hid (nds_one W (Nd.mk j ki lk t u A0 ac P B0 bc N))
    have HYS := Lib.hid (show w.heap.size ≤ w1.heap.size from HS1.out)
    clear gcy gro hB hsz b4 cX hlt
    gi_wp2_with (gi_at_builtin; refine wpListIn_append_nds (by rfl) (.tmp 16) (.tmp 18) (by rfl) (by rfl) (by rfl) HROW4.out HN4.out HP9.out HSB.out ?_; intro v7 w7 o7 g7; obtain ⟨A7, c7, rfl, _, _⟩ := ownK_form (RowP.of o7); have hc7 := HCY4.out.grown g7 (ne_own HCY4.out HROW4.out (by decide)); have y7 := hc7.cell 0; have f7 := hc7.free 0; have O := pu_end B4.out g7 o7 HROW4.out HCY4.out HB.out HSZ.out HQ.out HA.out HQG.out HAG.out HYS.out HW23.out; clear o7 g7 hc7)
    exact O
  case done =>
    rintro D ns W hD ⟨hys, hown⟩ ⟨⟨v, gcy, gro⟩, hB, hsz⟩ hK
    refine (?_ : Exit.inBlock 0 _ _ _ _)
    simp only [Exit.inBlock]
    obtain ⟨An, cn, rfl, hNE, _, _⟩ := row_hi (n := 0) gro
    have hns : ns.length ≤ 1000 := by have := congrArg List.length hys; rw [List.length_map] at this; have := H.out.len; omega
    have GCY := Lib.hid gcy; have GOW := Lib.hid hown; have GYS := Lib.hid hys; have GB := Lib.hid hB; have GK := Lib.hid hK; have GNE := Lib.hid hNE; have GNS := Lib.hid hns
    have b0 : Below W.heap.size W (W.alloc (.cells #[.slice none 0 0] 95)) := below_of_grown (World.grownBy_alloc W _ none)
    have WR0 := Lib.hid (WrSt.new W W (Below.refl _ _))
    have KC0 := Lib.hid (show KeepC wrTs W (W.alloc (.cells #[.slice none 0 0] 95)) from (KeepC.of (Ts := []) b0).more (by simp))
    have KLW := Lib.hid (KL.out _ (GB.out.trans (b0.mono GB.out.size)))
    clear gcy gro hB hsz hK hys hown b0 KL hNE hns HSEQ C2 B2 C3 HQ HA HQG HAG HLEN HPL HS1 HS2
    go_wp2_with fail
    refine (KLW.out).mono ?_
    rintro e w5 ⟨rfl, hw5⟩
    have b5 := grown_b hw5
    have WR5 := Lib.hid (WR0.out.below b5)
    have KC5 := Lib.hid (KC0.out.trans ((KeepC.of (Ts := []) b5).more (by simp)))
    clear hw5 b5 KLW WR0 KC0
    go_wp2_with fail
    refine (num_k WR5.out (by simp) S.last).mono ?_
    rintro e w6 ⟨rfl, h6, k6⟩
    have WR6 := Lib.hid h6; have KC6 := Lib.hid (KC5.out.trans k6)
    have c6 := (KC6.out _ _ _ (by decide) GCY.out).cell 0
    simp only [List.getElem?_toArray, List.getElem?_cons_zero] at c6
    clear h6 k6 WR5 KC5
    go_wp2_with fail
    refine (num_k WR6.out (by simp) (ns.length : Nat)).mono ?_
    rintro e w7 ⟨rfl, h7, k7⟩
    have WR7 := Lib.hid h7; have KC7 := Lib.hid (KC6.out.trans k7)
    have c7 := (KC7.out _ _ _ (by decide) GCY.out).cell 0
    simp only [List.getElem?_toArray, List.getElem?_cons_zero] at c7
    clear h7 k7 c6 WR6 KC6
    go_wp2
    clear c7
    have HIM := Lib.hid (show imgW S = [uw S.last, uw (ns.length : Nat)] ++ ns.flatMap (fun n => nodeW n.plain) by
      have hl : S.l.length = ns.length := by rw [← GYS.out, List.length_map]
      have hu : uw (ns.length : Nat) = ns.length := by unfold uw; have := GNS.out; omega
      unfold imgW
      rw [hl, hu, ← GYS.out, List.flatMap_map])
    go_loopw [28] (fun i wr => WkRel W W W.heap.size [uw S.last, uw (ns.length : Nat)] [] ns.length (fun k => (ns.take k).flatMap (fun n => nodeW n.plain)) i wr) (fun i _ => ns.length - (intOf i).toNat)
    case atStart => exact ⟨0, Nat.zero_le _, rfl, by simpa using WR7.out, KC7.out⟩
    case round =>
      obtain ⟨k, hk, rfl, hw, hkp⟩ := hrel
      change WrSt W W.heap.size ([uw S.last, uw (ns.length : Nat)] ++ (ns.take k).flatMap (fun n => nodeW n.plain)) wr at hw
      have HWR := Lib.hid hw; have HKP := Lib.hid hkp
      by_cases hlt : k < ns.length
      · have hlt2 : (k : Int) < (ns.length : Int) := Int.ofNat_lt.2 hlt
        have hk9 : k ≤ 1000 := by have := GNS.out; omega
        obtain ⟨e, he⟩ : ∃ e, ns[k]? = some e := ⟨_, List.getElem?_eq_getElem hlt⟩
        obtain ⟨b1, off, rfl, hbB, x0, x1, x2, x3, x4, x5, x6⟩ := nds_cells (GNE.out.below hw.1) he
        have hmem := List.mem_of_getElem? he
        have hsm : SmN e.plain := H.out.sm _ (by rw [← GYS.out]; exact List.mem_map_of_mem hmem)
        have how := GOW.out e hmem
        have HX := Lib.hid (take_snocA he)
        have hfl : ((ns.take (k + 1)).flatMap (fun n => nodeW n.plain)).length ≤ (ns.flatMap (fun n => nodeW n.plain)).length := by
          conv => rhs; rw [← List.take_append_drop (k + 1) ns]
          rw [List.flatMap_append, List.length_append]; omega
        have hle : ([uw S.last, uw (ns.length : Nat)] ++ (ns.take k).flatMap (fun n => nodeW n.plain)).length + (nodeW e.plain).length ≤ 300000 := by
          have h9 := HN.out
          rw [HIM.out, List.length_append] at h9
          rw [HX.out, List.flatMap_append, List.length_append, List.flatMap_cons, List.flatMap_nil, List.append_nil] at hfl
          rw [List.length_append]
          omega
        obtain ⟨J0, ki, lk, t, u, A0, ac, P, B0, bc, N⟩ := e
        dsimp only at x0 x1 x2 x3 x4 x5 x6
        have hb3 : Below wr.heap.size wr (wr.alloc (.cells #[.int .i64 J0, .int .i64 ki, .int .i64 lk, .int .i64 t, .int .i64 u, .slice A0 P.length ac, .slice B0 N.length bc] 51)) := below_of_grown (World.grownBy_alloc wr _ none)
        have hc3 : Cells (wr.alloc (.cells #[.int .i64 J0, .int .i64 ki, .int .i64 lk, .int .i64 t, .int .i64 u, .slice A0 P.length ac, .slice B0 N.length bc] 51)) wr.heap.size 51 (ncells J0 ki lk t u (.slice A0 P.length ac) (.slice B0 N.length bc)) := Cells.new _ _ _
        obtain ⟨z0, z1, z2, z3, z4, z5, z6⟩ := cells7 hc3
        have KW := Lib.hid (iWrite (hw.below hb3) ⟨J0, ki, lk, t, u, A0, ac, P, B0, bc, N⟩ ((how.keep hkp (by decide) (by decide)).below hb3) hsm.p (Nat.le_trans hsm.q (by decide)) hsm.sz hle)
        have HLT := Lib.hid hlt; have HK3 := Lib.hid (hkp.trans ((KeepC.of (Ts := []) hb3).more (by simp)))
        unfold Nd.val at KW
        dsimp only at KW
        clear hw hkp hk hlt he hmem hsm how hfl hle hb3 hc3 HWR HKP
        go_wp2_with fail
        refine (KW.out).mono ?_
        rintro e' wn ⟨rfl, hn, hkn⟩
        have HNN := Lib.hid hn; have HKN := Lib.hid (HK3.out.trans hkn)
        clear hn hkn KW
        go_wp2
        go_roundw
        case rel => exact ⟨k + 1, HLT.out, by go_num, by
          show WrSt W W.heap.size ([uw S.last, uw (ns.length : Nat)] ++ (ns.take (k + 1)).flatMap (fun n => nodeW n.plain)) wn
          rw [HX.out, List.flatMap_append, List.flatMap_cons, List.flatMap_nil, List.append_nil, ← List.append_assoc]; exact HNN.out, HKN.out⟩
        case measure => simp [intOf]; have := HLT.out; omega
      · obtain rfl : k = ns.length := by omega
        rw [List.take_length] at hw
        rw [← HIM.out] at hw
        have HW8 := Lib.hid hw
        clear hw hkp hk hlt HWR
        go_wp2_with fail
        refine (words_w HW8.out (by have := HN.out; omega)).mono ?_
        rintro e' w8 ⟨v8, rfl, hr8, hb8⟩
        obtain ⟨A8, c8, rfl, _, hr8'⟩ := hr8.row
        have BB8 := Lib.hid (HW8.out.1.trans (hb8.mono HW8.out.1.size))
        have HR8 := Lib.hid hr8'
        clear hr8 hb8 hr8'
        go_wp2_with fail
        refine (cSeal (imgW S) _ rfl (imgW_small H.out.sm H.out.len) A8 c8 _ w8 (by have := HN.out; omega) (Nat.le_refl _) HR8.out).mono ?_
        rintro e' w9 ⟨g9, cap9, cs9, rfl, hc9, ht9, hg9, hb9, hl9⟩
        have BB9 := Lib.hid (BB8.out.trans (hb9.mono BB8.out.size))
        have HC9 := Lib.hid hc9; have HT9 := Lib.hid ht9; have HG9 := Lib.hid hg9; have HL9 := Lib.hid hl9
        clear hc9 ht9 hg9 hb9 hl9
        go_wp2
        have hDl : D < W.heap.size := (Array.getElem?_eq_some_iff.1 GK.out).1
        have hK9 : w9.heap[D]? = some (.deferred (some [])) := (BB9.out.block D hDl).trans GK.out
        refine ⟨by simp, .inl ⟨_, _, rfl, run_takeDeferred hK9, ?_⟩⟩
        have hc := (grownBy_keeps_cells (grownBy_putObj' w9 D (.deferred none)) (fun r e => by cases e; exact ⟨_, hK9, rfl⟩) HC9.out rfl).trans HC9.out
        refine ⟨_, ?_, g9, cap9, cs9, rfl, hc, HT9.out, by have := HG9.out; have := GB.out.size; have := BB8.out.size; omega, (GB.out.trans (BB9.out.mono GB.out.size)).trans (belowK_b (w := w) (Nat.le_refl _) _ D _ _ (by have := HW23.out; omega) hK9 rfl rfl), HL9.out⟩
        simp [results, Tryz.f23, go_sem]
end Go.Proofs.YtbejbiogabpmfaaGreat

/-! The project's image: Of, of a picture that is right. -/
namespace Go.Proofs.YtbejbiogabpmfaaGreat
open Wd Ino Sm U Go.RowKit Go.ChangeShapes Go.WideShapes Go.Sort
set_option linter.unusedVariables false
set_option maxRecDepth 100000
def IOfGo (w : World) (S : Stt) (e : Ending) (w' : World) : Prop := ∃ g b base, e = .returned (.tuple #[SPtr g, .int .i64 0]) ∧ w.heap.size ≤ base ∧ PSt w' base S.l.length g b S ∧ Below w.heap.size w w'
set_option maxHeartbeats 4000000 in
theorem iOf_good {w : World} {S : Stt} (iv : Inv S) {k0 : Nat} (nm : Num k0 S) (hk0 : k0 ≤ 900) (hap : (refsS S.l).Nodup) (hok : ∀ n ∈ S.l, okN n) (hlz : okZ S.last) (hsm : Small (imgW S)) {A : Option Addr} {c B n : Nat} (hL : (imgW S).length + 1 = n) (hc : n ≤ c) (hn : n ≤ 300000)
    (hr : Row w B A n ((imgW S ++ [sum (imgW S)]).map wd)) (hB : B ≤ w.heap.size) : Calls Tryz.prog 21 #[.slice A n c] w (IOfGo w S) := by
  have hmf : ∀ (fn : Fn) (first cap : Array Value) (w : World), (Instr.makeFunc fn first cap).run Tryz.prog w = .ok (.func fn first cap) w := fun _ _ _ _ => rfl
  have KO := Lib.hid (cOpen_own (imgW S) n hL hsm A c B hc w (by omega) hB hr)
  have hll : S.l.length ≤ 1000 := by have := nm.len; omega
  have hlast : i64R S.last := by unfold okZ at hlz; unfold i64R; omega
  have IV := Lib.hid iv; have NM := Lib.hid nm; have HAP := Lib.hid hap; have HOK := Lib.hid hok; have HLZ := Lib.hid hlz; have HSM := Lib.hid hsm; have HLL := Lib.hid hll; have HLA := Lib.hid hlast
  have hlen : (imgW S).length ≤ 400000 := by omega
  have HLEN := Lib.hid hlen
  clear iv nm hap hok hlz hsm hL hc hr hB hll hlast hlen
  go_enter Tryz.func21, Tryz.ntmps21
  go_wp2_with fail
  refine (KO.out).mono ?_
  rintro e w1 ⟨v, rfl, hrd, hb1⟩
  obtain ⟨A1, c1, rfl, hlc, _⟩ := hrd.row
  obtain ⟨w2, hw2⟩ : ∃ w2, w1.alloc (.cells #[.slice A1 (imgW S).length c1, .bool false] 87) = w2 := ⟨_, rfl⟩
  have hb2 : Below w1.heap.size w1 w2 := by rw [← hw2]; exact below_of_grown (World.grownBy_alloc w1 _ none)
  have hc2 : Cells w2 w1.heap.size 87 #[.slice A1 (imgW S).length c1, .bool false] := by rw [← hw2]; exact Cells.new _ _ _
  have hR : RdStI w w1.heap.size (imgW S) false w2 := ⟨hb1.trans (hb2.mono hb1.size), hb1.size, HLEN.out, HSM.out, (fun e => by cases e), _, hc2, hrd.below hb2⟩
  have hR2 : RdStI w w1.heap.size (uw S.last :: S.l.length :: (S.l.flatMap nodeW ++ [])) false w2 := by
    have e : imgW S = uw S.last :: S.l.length :: (S.l.flatMap nodeW ++ []) := by unfold imgW; simp
    rw [← e]; exact hR
  have KN := num_t hR2 (uw_zle HLZ.out)
  rw [uw_z HLZ.out] at KN
  have KN' := Lib.hid KN
  have KU := Lib.hid (fun wx (h : RdStI w w1.heap.size (S.l.length :: (S.l.flatMap nodeW ++ [])) false wx) => upTo_t h 65536 (by omega) (Nat.le_trans HLL.out (by decide)))
  have KR := Lib.hid (fun wx (h : RdStI w w1.heap.size (S.l.flatMap nodeW ++ []) false wx) => rowN_t h HOK.out HLL.out)
  have KT := Lib.hid (fun wx (h : RdStI w w1.heap.size [] false wx) => took_i h)
  unfold NodF at KR
  have HB2 := Lib.hid (hb1.trans (hb2.mono hb1.size)); have HR := Lib.hid hR2
  clear hrd hb1 hb2 hc2 hR hR2 KN KO hlc
  go_upto_region 5 with fail
  try rw [hw2]
  clear hw2
  go_wp2_with fail
  refine (KN'.out).mono ?_
  rintro e w3 ⟨rfl, h3, t3⟩
  have H3 := Lib.hid h3; have T3 := Lib.hid t3
  clear h3 t3 KN'
  go_wp2_with fail
  refine (KU.out _ H3.out).mono ?_
  rintro e w4 ⟨rfl, h4, t4⟩
  have H4 := Lib.hid h4; have T4 := Lib.hid (T3.out.trans t4)
  clear h4 t4 KU
  go_wp2_with fail
  refine (KR.out _ H4.out).mono ?_
  rintro e w5 ⟨A5, c5, ds, hpl, rfl, ho5, hds5, h5, t5⟩
  have H5 := Lib.hid h5; have T5 := Lib.hid (T4.out.trans t5); have HO5 := Lib.hid ho5; have HDS := Lib.hid hds5; have HPL := Lib.hid hpl
  have KT2 := Lib.hid (KT.out _ h5)
  have hdl : ds.length = S.l.length := by rw [← hpl, List.length_map]
  clear h5 t5 hpl ho5 hds5 KR KT
  go_wp2_with fail
  refine (KT2.out).mono ?_
  rintro e w6 ⟨rfl, rfl⟩
  obtain ⟨A6, c6, hv6, hn6⟩ := nds_of_row (n := 0) (RowP.of HO5.out)
  injection hv6 with hv6 _ hv7
  subst hv6 hv7
  have KS := pOf (c := c5) hn6 (Nat.le_refl _) (fun d hd => ⟨_, HDS.out d hd⟩) HPL.out IV.out NM.out hk0 HAP.out HLA.out
  rw [hdl] at KS
  have KS' := Lib.hid KS
  clear KS hn6 KT2
  go_wp2_with fail
  refine (KS'.out).mono ?_
  rintro e w7 ⟨g, b, rfl, P7, b7⟩
  have P7H := Lib.hid P7; have B7 := Lib.hid b7
  clear P7 b7 KS'
  go_wp2
  go_ret2
  have hb5 : Below w.heap.size w w5 := HB2.out.trans ((T5.out.below (B := w.heap.size) HB2.out.size (fun x hx => by rw [List.mem_singleton.1 hx]; exact HR.out.hg)))
  exact ⟨g, b, _, rfl, hb5.size, P7H.out, hb5.trans (B7.out.mono hb5.size)⟩
end Go.Proofs.YtbejbiogabpmfaaGreat

/-! The project's image: Of, of words whose sum is another. -/
namespace Go.Proofs.YtbejbiogabpmfaaGreat
open Wd Ino Sm U Go.RowKit Go.ChangeShapes Go.WideShapes Go.Sort
set_option linter.unusedVariables false
set_option maxRecDepth 100000
def IOfNo (w : World) (e : Ending) (w' : World) : Prop := e = .returned (.tuple #[.pointer none, .int .i64 74]) ∧ Below w.heap.size w w'
theorem iOf_no {w : World} {l : List Nat} {s n : Nat} (hL : l.length + 1 = n) (hl : Small l) (hs : s < 18446744073709551616) (hne : s ≠ sum l) {A : Option Addr} {c B : Nat} (hc : n ≤ c) (hn : n ≤ 1000000) (hr : Row w B A n ((l ++ [s]).map wd)) (hB : B ≤ w.heap.size) : Calls Tryz.prog 21 #[.slice A n c] w (IOfNo w) := by
  have KO := Lib.hid (cOpen_no l s n hL hl hs hne A c B hc w hn hB hr)
  clear hL hl hs hne hc hn hr hB
  go_enter Tryz.func21, Tryz.ntmps21
  go_wp2_with fail
  refine (KO.out).mono ?_
  rintro e w1 ⟨A1, c1, rfl, hb1⟩
  have HB1 := Lib.hid hb1
  clear hb1 KO
  go_wp2
  go_ret2
  exact ⟨rfl, HB1.out⟩
end Go.Proofs.YtbejbiogabpmfaaGreat

/-! The refs that effects leave, plainly: none twice, if each effect has one of its own. -/
namespace Go.Proofs.YtbejbiogabpmfaaGreat
open Wd Ino
set_option linter.unusedVariables false
def cR (x : Int) (l : List Nod) : Nat := (l.map (fun n => (refsP n.pages).count x)).sum
theorem cR_refs (x : Int) (l : List Nod) : (refsS l).count x = cR x l := by
  unfold refsS cR
  rw [List.count_flatMap]
  rfl
def LeR (l' l : List Nod) : Prop := ∀ x, cR x l' ≤ cR x l
theorem LeR.refl (l : List Nod) : LeR l l := fun _ => Nat.le_refl _
theorem LeR.trans {a b c : List Nod} (h : LeR a b) (k : LeR b c) : LeR a c := fun x => Nat.le_trans (h x) (k x)
theorem LeR.mod (l : List Nod) (i : Int) {f : Nod → Nod} (hf : ∀ n x, (refsP (f n).pages).count x ≤ (refsP n.pages).count x) : LeR (modS l i f) l := fun x => by
  unfold cR modS
  induction l with
  | nil => exact Nat.le_refl _
  | cons a l ih =>
    rw [List.map_cons, List.map_cons, List.sum_cons, List.map_cons, List.sum_cons]
    refine Nat.add_le_add ?_ ih
    split
    · exact hf a x
    · exact Nat.le_refl _
theorem LeR.same (l : List Nod) (i : Int) {f : Nod → Nod} (hf : ∀ n, (f n).pages = n.pages) : LeR (modS l i f) l := LeR.mod l i (fun n x => by rw [hf n]; exact Nat.le_refl _)
theorem LeR.rm (l : List Nod) (i : Int) : LeR (rmS l i) l := fun x => by
  unfold cR rmS
  induction l with
  | nil => exact Nat.le_refl _
  | cons a l ih =>
    rw [List.filter_cons, List.map_cons, List.sum_cons]
    split
    · rw [List.map_cons, List.sum_cons]; omega
    · omega
theorem LeR.enter (l : List Nod) (d : Int) (s : ByteArray) (i : Int) : LeR (enterS l d s i) l := LeR.same _ _ (fun _ => rfl)
theorem LeR.leave (l : List Nod) (d : Int) (s : ByteArray) : LeR (leaveS l d s) l := LeR.same _ _ (fun _ => rfl)
theorem LeR.forget (l : List Nod) (d : Int) (s : ByteArray) (i : Int) : LeR (forgetS l d s i) l := by
  unfold forgetS
  split
  · exact (LeR.rm _ _).trans (LeR.leave _ _ _)
  · exact (LeR.same _ _ (f := lessLk) (fun _ => rfl)).trans (LeR.leave _ _ _)
theorem LeR.move (l : List Nod) (e : Eff) : LeR (moveS l e) l := by
  unfold moveS
  dsimp only
  split
  · exact ((LeR.same _ _ (f := setUp e.dst) (fun _ => rfl)).trans (LeR.enter _ _ _ _)).trans (LeR.leave _ _ _)
  · exact (LeR.enter _ _ _ _).trans (LeR.leave _ _ _)
theorem refs_fit_count (P : List Int) (K : Nat) (x : Int) : (refsP (fitP P K)).count x ≤ (refsP P).count x := by
  unfold refsP fitP
  rw [List.filter_append, List.count_append]
  have h1 : (List.replicate (K - P.length) (0 : Int)).filter (fun x => x != 0) = [] := by simp
  rw [h1, List.count_nil, Nat.add_zero]
  exact List.Sublist.count_le _ ((List.take_sublist K P).filter _)
theorem refs_set_count (P : List Int) (k : Nat) (r x : Int) : (refsP (P.set k r)).count x ≤ (refsP P).count x + (if x = r then 1 else 0) := by
  unfold refsP
  by_cases hk : k < P.length
  · rw [List.set_eq_take_append_cons_drop, if_pos hk, List.filter_append, List.count_append]
    have h1 : ((P.drop (k + 1)).filter (fun x => x != 0)).count x + ((P.take k).filter (fun x => x != 0)).count x ≤ (P.filter (fun x => x != 0)).count x := by
      conv => rhs; rw [← List.take_append_drop k P]
      rw [List.filter_append, List.count_append]
      have h2 := List.Sublist.count_le x ((List.drop_sublist 1 (P.drop k)).filter (fun x => x != 0))
      rw [List.drop_drop] at h2
      rw [Nat.add_comm k 1] at *
      omega
    rw [List.filter_cons]
    split
    · rw [List.count_cons]
      by_cases hx : x = r
      · subst hx
        simp only [beq_self_eq_true, if_true]
        omega
      · have : (r == x) = false := by rw [beq_eq_false_iff_ne]; exact fun e => hx e.symm
        rw [this, if_neg hx]
        simp only [Bool.false_eq_true, if_false]
        omega
    · omega
  · rw [List.set_eq_of_length_le (by omega)]
    omega
theorem put_mod {l : List Nod} (ha : AscS l) (i page r size x : Int) : cR x (modS l i (putNod page r size)) ≤ cR x l + (if x = r then 1 else 0) := by
  unfold cR modS
  induction l with
  | nil => exact Nat.zero_le _
  | cons a l ih =>
    have ha' := List.pairwise_cons.1 ha
    rw [List.map_cons, List.map_cons, List.sum_cons, List.map_cons, List.sum_cons]
    by_cases e : a.ino = i
    · rw [if_pos e]
      have hrest : (l.map (fun n => if n.ino = i then putNod page r size n else n)) = l := by
        conv => rhs; rw [← List.map_id l]
        refine List.map_congr_left fun n hn => ?_
        have := ha'.1 n hn
        rw [if_neg (by omega)]; rfl
      rw [hrest]
      have h1 := refs_set_count (fitP a.pages (needP size).toNat) page.toNat r x
      have h2 := refs_fit_count a.pages (needP size).toNat x
      have h3 : (putNod page r size a).pages = (fitP a.pages (needP size).toNat).set page.toNat r := rfl
      rw [h3]
      omega
    · rw [if_neg e]
      have := ih ha'.2
      omega
theorem step_refs {S : Stt} (iv : Inv S) {e : Eff} {r : Int} {y : Stt × List Int} (hs : stepS S e r = some y) (x : Int) : cR x y.1.l ≤ cR x S.l + (if x = r then 1 else 0) := by
  have le : LeR y.1.l S.l → cR x y.1.l ≤ cR x S.l + (if x = r then 1 else 0) := fun h => Nat.le_trans (h x) (Nat.le_add_right _ _)
  unfold stepS at hs
  split at hs
  · have h1 := bare_some hs
    unfold makeS at h1
    split at h1
    · rw [← Option.some.inj h1]
      refine Nat.le_trans (LeR.enter _ _ _ _ x) ?_
      unfold cR
      rw [List.map_append, List.sum_append]
      simp [newNod, refsP]
    · cases h1
  · split at hs
    · have h1 := bare_some hs
      unfold linkS at h1
      split at h1
      · refine le ?_
        rw [← Option.some.inj h1]
        exact (LeR.enter _ _ _ _).trans (LeR.same _ _ (f := moreLk) (fun _ => rfl))
      · cases h1
    · have rmv : ∀ j, removeS S e j = some y.1 → cR x y.1.l ≤ cR x S.l + (if x = r then 1 else 0) := fun j h1 => by
        unfold removeS at h1
        split at h1
        · refine le ?_
          rw [← Option.some.inj h1]
          exact LeR.forget _ _ _ _
        · cases h1
      split at hs
      · exact rmv _ (bare_some hs)
      · split at hs
        · exact rmv _ (bare_some hs)
        · split at hs
          · have h1 := bare_some hs
            unfold renameS at h1
            split at h1
            · split at h1
              · split at h1
                · refine le ?_
                  rw [← Option.some.inj h1]
                  exact (LeR.move _ _).trans (LeR.forget _ _ _ _)
                · cases h1
              · refine le ?_
                rw [← Option.some.inj h1]
                exact LeR.move _ _
            · cases h1
          · split at hs
            · unfold truncS at hs
              split at hs
              · refine le ?_
                rw [← Option.some.inj hs]
                exact LeR.mod _ _ (fun n x => refs_fit_count _ _ _)
              · cases hs
            · split at hs
              · unfold writeS at hs
                split at hs
                · rw [← Option.some.inj hs]
                  exact put_mod iv.asc _ _ _ _ _
                · cases hs
              · split at hs
                · unfold dropS at hs
                  split at hs
                  · refine le ?_
                    rw [← Option.some.inj hs]
                    exact LeR.rm _ _
                  · cases hs
                · cases hs
theorem next_refs {S : Stt} (iv : Inv S) (e : Eff) (r x : Int) : cR x (nextS S e r).l ≤ cR x S.l + (if x = r then 1 else 0) := by
  unfold nextS
  split
  · cases hs : stepS S e r with
    | none => exact Nat.le_add_right _ _
    | some y => exact step_refs iv hs x
  · exact Nat.le_add_right _ _
/-- each ref once, and none above k -/
def OneRef (k : Int) (l : List Nod) : Prop := (∀ x, cR x l ≤ 1) ∧ ∀ x, k < x → cR x l = 0
theorem OneRef.next {S : Stt} {k : Int} (iv : Inv S) (h : OneRef k S.l) (e : Eff) {r : Int} (hr : k < r) : OneRef r (nextS S e r).l := by
  refine ⟨fun x => ?_, fun x hx => ?_⟩
  · have h1 := next_refs iv e r x
    by_cases hx : x = r
    · rw [if_pos hx, h.2 x (by omega)] at h1; exact h1
    · rw [if_neg hx] at h1; have := h.1 x; omega
  · have h1 := next_refs iv e r x
    rw [if_neg (by omega), h.2 x (by omega)] at h1
    omega
theorem OneRef.nodup {k : Int} {l : List Nod} (h : OneRef k l) : (refsS l).Nodup := by
  rw [List.nodup_iff_count]
  intro a
  rw [cR_refs]
  exact h.1 a
theorem OneRef.mono {k k' : Int} {l : List Nod} (h : OneRef k l) (hk : k ≤ k') : OneRef k' l := ⟨h.1, fun x hx => h.2 x (by omega)⟩
theorem OneRef.new : OneRef 0 newStt.l := ⟨fun x => by show cR x newStt.l ≤ 1; have : cR x newStt.l = 0 := rfl; omega, fun x _ => rfl⟩
/-- the state behind deeds, each with a ref of its own -/
def runN : List Dd → Nat → Stt → Stt
  | [], _, S => S
  | d :: l, k, S => runN l (k + 1) (nextS S d.e ((k : Int) + 1))
end Go.Proofs.YtbejbiogabpmfaaGreat

/-! The state behind deeds, each with the ref of its place. -/
namespace Go.Proofs.YtbejbiogabpmfaaGreat
open Wd Ino Sm
set_option linter.unusedVariables false
/-- the state behind the first k deeds, the n-th with the ref n -/
def runI (l : List Dd) : Nat → Stt
  | 0 => newStt
  | k + 1 => match l[k]? with
    | some d => nextS (runI l k) d.e ((k : Int) + 1)
    | none => runI l k
theorem runI_at {l : List Dd} {k : Nat} {d : Dd} (h : l[k]? = some d) : runI l (k + 1) = nextS (runI l k) d.e ((k : Int) + 1) := by
  show (match l[k]? with | some d => nextS (runI l k) d.e ((k : Int) + 1) | none => runI l k) = _
  rw [h]
theorem Inv.runI (l : List Dd) : ∀ k, Inv (runI l k)
  | 0 => Inv.new
  | k + 1 => by
    cases h : l[k]? with
    | none => show Inv (match l[k]? with | some d => nextS (Go.Proofs.YtbejbiogabpmfaaGreat.runI l k) d.e ((k : Int) + 1) | none => Go.Proofs.YtbejbiogabpmfaaGreat.runI l k); rw [h]; exact Inv.runI l k
    | some d => rw [runI_at h]; exact (Inv.runI l k).next _ _
theorem Num.runI {l : List Dd} : ∀ k, k ≤ l.length → k ≤ 1000 → Num k (runI l k)
  | 0, _, _ => Num.new
  | k + 1, hk, h1 => by
    obtain ⟨d, hd⟩ : ∃ d, l[k]? = some d := ⟨_, List.getElem?_eq_getElem (by omega)⟩
    rw [runI_at hd]
    exact (Num.runI (l := l) k (by omega) (by omega)).next _ (by unfold i64R; omega)
end Go.Proofs.YtbejbiogabpmfaaGreat
