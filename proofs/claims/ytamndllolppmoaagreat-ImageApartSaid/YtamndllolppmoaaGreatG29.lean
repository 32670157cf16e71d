import Derived.Test.YtamndllolppmoaaGreatG28

/-! A loop over the project's inOrder that goes through all nodes. -/
namespace Go.Proofs.YtamndllolppmoaaGreat
open Wd Ino Sm U Go.RowKit Go.ChangeShapes Go.WideShapes Go.Shelf
set_option linter.unusedVariables false
set_option maxRecDepth 100000
abbrev Mem (L : List Nd) := {x : Nd // x ∈ L}
theorem mem_lift {L : List Nd} : ∀ (l : List Nd), (∀ x ∈ l, x ∈ L) → ∃ p : List (Mem L), p.map Subtype.val = l
  | [], _ => ⟨[], rfl⟩
  | x :: l, h => by
    obtain ⟨p, hp⟩ := mem_lift l (fun y hy => h y (List.mem_cons_of_mem _ hy))
    exact ⟨⟨x, h x List.mem_cons_self⟩ :: p, by rw [List.map_cons, hp]⟩
theorem io_seq {L : List Nd} {n0 : Nat} (h2 : 2 ≤ n0) {w : World} {q cap : Nat} {A : Option Addr} (hq : w.cell? ⟨q, 0, none⟩ = some (.slice A L.length cap)) (hqw : q < w.heap.size) (hA : ∀ b off, A = some ⟨b, off, none⟩ → b < w.heap.size) (hE : Nds w w.heap.size A L) (hm : L.length ≤ 1000) :
    SeqStopsK Fence.wide (n0 - 1) Tryz.prog 101 #[.pointer (some ⟨q, 0, none⟩)] (fun x : Mem L => #[Value.int .i64 x.1.ino, x.1.val]) (Kq q A) (fun xs => xs.map Subtype.val = L) (fun pre => ∃ k, k ≤ L.length ∧ pre.map Subtype.val = L.take k) L.length w := by
  intro lp J Jx W hW hJ hJx hY h0
  have hk : Kq q A w W := Kq.below hW hqw hA
  have hq2 : W.cell? ⟨q, 0, none⟩ = some (.slice A L.length cap) := (hW.cell (p := ⟨q, 0, none⟩) hqw).trans hq
  refine (io_in Fence.wide (n0 - 1) trivial rfl (by omega) lp q A cap L hm (fun pre W => ∃ p : List (Mem L), p.map Subtype.val = pre ∧ J p W) (fun pre W => ∃ p : List (Mem L), p.map Subtype.val = pre ∧ Jx p W) ?_ ?_ W hq2 (Nat.lt_of_lt_of_le hqw hW.size) (hk.nds hE hW.size) ⟨[], rfl, h0⟩).mono ?_
  · rintro pre x W1 ⟨p, hp, hj⟩ hlt hx
    have hpl : p.length < L.length := by rw [← hp, List.length_map] at hlt; exact hlt
    obtain ⟨fn, tmps, assign, body, hy, hR⟩ := hY p ⟨x, List.mem_of_getElem? hx⟩ W1 hj hpl
    refine ⟨fn, tmps, assign, body, hy, hR.mono fun e W' he => ?_⟩
    rcases he with ⟨h1, h2, h3⟩ | ⟨h1, h2⟩
    · exact .inl ⟨h1, ⟨_, by rw [List.map_append, hp]; rfl, h2⟩, h3⟩
    · exact .inr ⟨h1, ⟨_, by rw [List.map_append, hp]; rfl, h2⟩⟩
  · rintro pre W1 o ⟨p, hp, hj⟩
    exact ⟨p, hp, hJ _ _ _ none hj (World.grownBy_alloc W1 o none) (fun r e => by cases e)⟩
  · rintro e W' ⟨hv, hj | ⟨k, hk2, hj⟩⟩
    · obtain ⟨p, hp, hj⟩ := hj
      exact ⟨hv, .inl ⟨p, hp, hj⟩⟩
    · obtain ⟨p, hp, hj⟩ := hj
      exact ⟨hv, .inr ⟨p, ⟨k, hk2, hp⟩, hj⟩⟩
/-- a loop over all nodes, by number, whose body never ends it -/
theorem wp_inOrder {L : List Nd} {n0 : Nat} (h3 : 3 ≤ n0) {w : World} {q cap : Nat} {A : Option Addr} {g : Operand} {ps : Array Tmp} {assign body : Code} {Q : Exit → Act → World → Prop} {a : Act}
    (hg : a.eval g = .func (.func 101) #[] #[.pointer (some ⟨q, 0, none⟩)]) (hps : ps.size = 2)
    (hq : w.cell? ⟨q, 0, none⟩ = some (.slice A L.length cap)) (hqw : q < w.heap.size) (hA : ∀ b off, A = some ⟨b, off, none⟩ → b < w.heap.size) (hE : Nds w w.heap.size A L) (hm : L.length ≤ 1000)
    (I : List (Mem L) → World → Prop) (hI : OwnFrom w.heap.size I) (h0 : I [] w) (Ax : Mem L → Act → World → Prop) (hAx : ∀ x a', OwnFrom w.heap.size (fun (_ : Unit) W => Ax x a' W))
    (hassign : ∀ (l : Nat) (pre : List (Mem L)) (x : Mem L) (W : World) (K : Act → World → Prop), I pre W → (∀ a' W', KeepsFrom w.heap.size W W' → Kq q A W W' → I pre W' → Ax x a' W' → K a' W') →
      assign.wpIn (Fence.wide.inRound l) (n0 - 1 - 1) Tryz.prog (Exit.then K (fun _ _ _ => False)) { tmps := (ps.zip #[Value.int .i64 x.1.ino, x.1.val]).foldl (fun t (p, v) => t.setIfInBounds p v) a.tmps, defers := [] } W)
    (hbody : ∀ (l : Nat) (pre : List (Mem L)) (x : Mem L) (a' : Act) (W : World), w.heap.size ≤ l → I pre W → Ax x a' W → pre.length < L.length → body.wpIn (Fence.wide.inRound l) (n0 - 1 - 1) Tryz.prog (ownPostG w.heap.size (Kq q A) I (fun _ _ _ => False) (pre ++ [x]) W) a' W)
    (hdone : ∀ (D : Nat) (xs : List (Mem L)) (W : World), w.heap.size ≤ D → xs.map Subtype.val = L → I xs W → W.heap[D]? = some (.deferred (some [])) → Q .normal { a with defers := { target := .collected D, args := #[] } :: a.defers } W) :
    (Code.rangeFunc g ps assign body).wpIn Fence.wide n0 Tryz.prog Q a w :=
  wpIn_rangeFunc_ownH rfl (by omega) (gf := 101) (lb := #[.pointer (some ⟨q, 0, none⟩)]) hg trivial (enters_of Tryz.func101 (by kernel_rfl) rfl)
    (io_seq (n0 := n0) (by omega) hq hqw hA hE hm) (fun h k => h.trans k) (fun W l o o' hl h hc hw => Kq.put hqw hA W l o o' hl h hc hw) (Below.refl _ _) (fun x => by rw [hps]; rfl) I (fun _ _ _ => False) hI (fun c s W W' row hs _ _ => hs) h0 Ax hAx
    hassign (fun l pre x a' W hl _ hi hax hlt => hbody l pre x a' W hl hi hax hlt) hdone (fun D c pre W _ _ hx _ => hx.elim)
end Go.Proofs.YtamndllolppmoaaGreat

/-! The project's directories: how many there are. -/
namespace Go.Proofs.YtamndllolppmoaaGreat
open Wd Ino Sm U Go.RowKit Go.ChangeShapes Go.WideShapes Go.Shelf
set_option linter.unusedVariables false
attribute [local go_sem] Oper.semAt_some
set_option maxRecDepth 100000
theorem row_hi {w : World} {base n : Nat} {v : Value} {l : List Nd} (h : OwnNs w base v l) : ∃ A c, v = .slice A l.length c ∧ Nds w w.heap.size A l ∧ (∀ b off, A = some ⟨b, off, none⟩ → b < w.heap.size) ∧ ∀ b off, A = some ⟨b, off, none⟩ → base ≤ b := by
  obtain ⟨A, c, rfl, hn⟩ := nds_of_row (n := n) (RowP.of h)
  refine ⟨A, c, rfl, hn, fun b off e => ?_, fun b off e => ?_⟩
  all_goals
    subst e
    rcases h.2 with ⟨h0, _⟩ | ⟨g, cap, cur, h0, hb, hh, _⟩
    · cases h0
    · injection h0 with h0 _ _
      injection h0 with h0
      injection h0 with h0
      subst h0
      first | exact (show Cells w b 55 cur from hh).lt | exact hb
theorem own_box {β : Type} (B g : Nat) (T : TypeId) (f : β → Array Value) : OwnFrom B (fun s W => Cells W g T (f s)) := Own.from (I := fun s W => Cells W g T (f s)) (fun s X Y row hs hg hr => (grownBy_keeps_cells hg hr hs rfl).trans hs) B
theorem Kq.set {q : Nat} {A : Option Addr} {p : Addr} (W : World) (u : Value) (hq : q ≠ p.block) (hA : ∀ b off, A = some ⟨b, off, none⟩ → b ≠ p.block) : Kq q A W (W.setCell p u) :=
  ⟨by simp [World.setCell], Below.heap_setCell W p u q hq, fun b off e => Below.heap_setCell W p u b (hA b off e)⟩
theorem Kq.grow {q : Nat} {A : Option Addr} {X Y : World} (h : Below X.heap.size X Y) (hq : q < X.heap.size) (hA : ∀ b off, A = some ⟨b, off, none⟩ → b < X.heap.size) : Kq q A X Y := Kq.below h hq hA
theorem lift_plain {L : List Nd} {ys : List (Mem L)} (h : ys.map Subtype.val = L) {l : List Nod} (hl : L.map Nd.plain = l) : l = ys.map (fun x => x.1.plain) := by
  have := congrArg (List.map Nd.plain) h
  rw [List.map_map, hl] at this
  exact this.symm
/-- a node's cells -/
def ndc (x : Nd) : Array Value := ncells x.ino x.kind x.links x.size x.up (.slice x.A x.pages.length x.ac) (.slice x.B x.names.length x.bc)
def dirsN (l : List Nod) : Nat := l.countP (fun n => decide (n.kind = 2))
section
variable {w : World} {base m g b : Nat} {S : Stt}
set_option maxHeartbeats 8000000 in
theorem pDirs_in (n0 : Nat) (hn : 3 ≤ n0) (h : PSt w base m g b S) (ha : AscS S.l) (hs : SmS S.l) (hl : S.l.length ≤ 1000) (hm : m < 999900) : CallsIn Fence.wide n0 Tryz.prog 179 #[SPtr g] w fun e w' => e = .returned (.int .i64 (dirsN S.l)) ∧ Below w.heap.size w w' := by
  have h1 : 1 ≤ n0 := by omega
  have KO := Lib.hid (fun wx (hb : Below w.heap.size w wx) => pInOrder h hb ha hs hl hm)
  obtain ⟨w1, hw1⟩ : ∃ w1, w.alloc (.cells #[.int .i64 0] 3) = w1 := ⟨_, rfl⟩
  have hb1 : Below w.heap.size w w1 := by rw [← hw1]; exact below_of_grown (World.grownBy_alloc w _ none)
  have hs1 : w1.heap.size = w.heap.size + 1 := by rw [← hw1]; simp
  have hc1 : Cells w1 w.heap.size 3 #[.int .i64 0] := by rw [← hw1]; exact Cells.new _ _ _
  have HB0 := Lib.hid (show Below w.heap.size w (w.alloc (.cells #[.int .i64 0] 3)) from below_of_grown (World.grownBy_alloc w _ none))
  have HB1 := Lib.hid hb1; have HS1 := Lib.hid hs1; have HW1 := Lib.hid hw1
  clear hw1
  unfold SPtr at *
  clear hs1
  refine callsIn_of_wp_marks Tryz.func179 rfl trivial ?_ rfl
  simp only [Tryz.ntmps179, List.size_toArray, List.length_cons, List.length_nil, Nat.reduceAdd, Nat.reduceSub, Array.replicate_succ, Array.replicate_zero, List.push_toArray, List.append_toArray, List.nil_append, List.cons_append]
  gi_wp2_with (refine ⟨trivial, ?_⟩; gi_at_call 63; refine (callsIn_wide.2 (KO.out _ HB0.out)).mono ?_; rintro e w2 ⟨q, Lk, v, rfl, hor, hb2⟩)
  rw [HW1.out] at hor hb2
  obtain ⟨hq, hcq, hro, hon, hpl⟩ := hor
  obtain ⟨A, c, rfl, hE, hA, hAb⟩ := row_hi (n := 0) hro
  have hm1 : Cells w2 w.heap.size 3 #[.int .i64 0] := hc1.below' hb2
  have hB2 : Below w.heap.size w w2 := hb1.trans (hb2.mono hb1.size)
  have hlen : Lk.length ≤ 1000 := by have := congrArg List.length hpl; rw [List.length_map] at this; omega
  have hs1 := HS1.out
  have hqg : q ≠ w.heap.size := by omega
  have hqc := hcq.cell 0
  simp only [List.getElem?_toArray, List.getElem?_cons_zero] at hqc
  have hAg : ∀ b off, A = some ⟨b, off, none⟩ → b ≠ w.heap.size := fun b off e => by have := hAb b off e; omega
  have HAG := Lib.hid hAg; have HA := Lib.hid hA; have HQ := Lib.hid hcq.lt; have HQG := Lib.hid hqg; have HB2 := Lib.hid hB2
  refine wp_inOrder (L := Lk) (q := q) (cap := c) (A := A) hn rfl rfl hqc hcq.lt hA hE hlen
    (fun pre W => Cells W w.heap.size 3 #[.int .i64 ((pre.countP (fun x => decide (x.1.kind = 2)) : Nat) : Int)] ∧ Below w.heap.size w W ∧ w2.heap.size ≤ W.heap.size)
    (OwnFrom.and (own_box _ _ _ (fun (pre : List (Mem Lk)) => #[.int .i64 ((pre.countP (fun x => decide (x.1.kind = 2)) : Nat) : Int)])) (OwnFrom.and (ownFrom_below (Nat.le_refl _) hB2.size) (fun s X Y row hs hg hr => Nat.le_trans hs hg.size)))
    ⟨hm1, hB2, Nat.le_refl _⟩
    (fun x a' W => ∃ Bx, w2.heap.size ≤ Bx ∧ Cells W Bx 55 (ndc x.1) ∧ a' = { tmps := #[.pointer (some ⟨g, 0, none⟩), undef, .int .i64 0, .pointer (some ⟨w.heap.size, 0, none⟩), undef, .pointer (some ⟨Bx, 0, none⟩), .pointer (some ⟨g, 0, none⟩), .func (.func 101) #[] #[.pointer (some ⟨q, 0, none⟩)], .int .i64 x.1.ino, x.1.val, undef, undef, undef, undef, undef, undef], defers := [] })
    (fun x a' _ X Y row hs hg hr => by obtain ⟨Bx, g1, g2, g3⟩ := hs; exact ⟨Bx, g1, (grownBy_keeps_cells hg (fun r e => (hr r e).2) g2 rfl).trans g2, g3⟩)
    ?assign ?body ?done
  case assign =>
    rintro lp pre ⟨⟨J, ki, l, t, u, A0, ac, P, B0, bc, N⟩, hx⟩ W K ⟨g0, hB, hsz⟩ hK
    have hK' := hK { tmps := #[.pointer (some ⟨g, 0, none⟩), undef, .int .i64 0, .pointer (some ⟨w.heap.size, 0, none⟩), undef, .pointer (some ⟨W.heap.size, 0, none⟩), .pointer (some ⟨g, 0, none⟩), .func (.func 101) #[] #[.pointer (some ⟨q, 0, none⟩)], .int .i64 J, Nd.val ⟨J, ki, l, t, u, A0, ac, P, B0, bc, N⟩, undef, undef, undef, undef, undef, undef], defers := [] } (W.alloc (.cells (ndc ⟨J, ki, l, t, u, A0, ac, P, B0, bc, N⟩) 55)) ((KeepsOthers.alloc _ _).from _)
      (Kq.grow (below_of_grown (World.grownBy_alloc W _ none)) (Nat.lt_of_lt_of_le HQ.out hsz) (fun b off e => Nat.lt_of_lt_of_le (HA.out b off e) hsz)) ⟨g0.alloc _, hB.alloc hB.size _, Nat.le_trans hsz (by simp)⟩ ⟨W.heap.size, hsz, Cells.new _ _ _, rfl⟩
    unfold Nd.val ndc ncells at hK'
    unfold Nd.val
    dsimp only at hK' ⊢
    clear hK
    gi_wp2
    exact hK'
  case body =>
    rintro lp pre ⟨⟨J, ki, l, t, u, A0, ac, P, B0, bc, N⟩, hx⟩ a' W hl ⟨g0, hB, hsz⟩ ⟨Bx, hBx, cX, rfl⟩ hlt
    unfold ndc at cX
    dsimp only at cX
    obtain ⟨z0, z1, z2, z3, z4, z5, z6⟩ := cells7 cX
    have c0 := g0.cell 0
    have f0 := g0.free 0
    simp only [List.getElem?_toArray, List.getElem?_cons_zero] at c0
    obtain ⟨k, hk⟩ : ∃ k : Nat, pre.countP (fun x => decide (x.1.kind = 2)) = k := ⟨_, rfl⟩
    rw [hk] at c0
    have hkl : k < 1000 := by have := List.countP_le_length (l := pre) (p := fun x => decide (x.1.kind = 2)); omega
    have HK := Lib.hid hk; have G0 := Lib.hid g0; have HB := Lib.hid hB; have HSZ := Lib.hid hsz
    clear hk g0 hB hsz cX
    by_cases h2 : ki = 2
    · have q2 : (ki == 2) = true := by simpa using h2
      have HC := Lib.hid (show (pre ++ [(⟨⟨J, ki, l, t, u, A0, ac, P, B0, bc, N⟩, hx⟩ : Mem Lk)]).countP (fun x => decide (x.1.kind = 2)) = k + 1 by rw [List.countP_append, HK.out]; simp [h2])
      clear h2
      gi_wp2
      refine ⟨(KeepsOthers.setCell _ _ _).from _, Kq.set W _ HQG.out HAG.out, ?_, HB.out.setCell (p := ⟨w.heap.size, 0, none⟩) (Nat.le_refl _) _, Nat.le_trans HSZ.out (by simp [World.setCell])⟩
      have h9 := G0.out.set 0 (.int .i64 ((k : Int) + 1))
      rw [HC.out]
      exact h9
    · have q2 : (ki == 2) = false := by simpa using h2
      have HC := Lib.hid (show (pre ++ [(⟨⟨J, ki, l, t, u, A0, ac, P, B0, bc, N⟩, hx⟩ : Mem Lk)]).countP (fun x => decide (x.1.kind = 2)) = pre.countP (fun x => decide (x.1.kind = 2)) by rw [List.countP_append]; simp [h2])
      clear h2
      gi_wp2
      exact ⟨KeepsFrom.refl _ _, Kq.refl _ _ _, by rw [HC.out]; exact G0.out, HB.out, HSZ.out⟩
  case done =>
    rintro D ys W hD hys ⟨g0, hB, hsz⟩ hK
    have c0 := g0.cell 0
    simp only [List.getElem?_toArray, List.getElem?_cons_zero] at c0
    gi_wp2
    refine ⟨by simp, .inl ⟨_, _, rfl, run_takeDeferred hK, ?_⟩⟩
    refine ⟨.int .i64 (dirsN S.l), ?_, rfl, hB.trans (belowK_b (w := w) (Nat.le_refl _) _ D _ _ (by have := hB2.size; omega) hK rfl rfl)⟩
    have hcnt : (ys.countP (fun x => decide (x.1.kind = 2))) = dirsN S.l := by
      unfold dirsN
      rw [lift_plain hys hpl, List.countP_map]
      rfl
    simp [results, Tryz.f179, go_sem, hcnt]
end
end Go.Proofs.YtamndllolppmoaaGreat

/-! The project's Words: of all nodes. -/
namespace Go.Proofs.YtamndllolppmoaaGreat
open Wd Ino Sm U Go.RowKit Go.ChangeShapes Go.WideShapes Go.Shelf
set_option linter.unusedVariables false
attribute [local go_sem] Oper.semAt_some
set_option maxRecDepth 100000
def wordsNod (n : Nod) : Nat := 7 + n.pages.length + wsum n.names
def wordsS (l : List Nod) : Nat := 2 + (l.map wordsNod).sum
theorem sum_le {α : Type} {f : α → Nat} {B : Nat} : ∀ (l : List α), (∀ x ∈ l, f x ≤ B) → (l.map f).sum ≤ l.length * B
  | [], _ => by simp
  | x :: l, h => by
    have h1 := h x List.mem_cons_self
    have h2 := sum_le l (fun y hy => h y (List.mem_cons_of_mem _ hy))
    rw [List.map_cons, List.sum_cons, List.length_cons, Nat.add_mul]; omega
theorem words_node {S : Stt} (hs : SmS S.l) {n : Nod} (h : n ∈ S.l) : wordsNod n ≤ 140000 := by
  have sm := hs n h
  have h1 := wsum_partM (l := n.names) sm.sz (Nat.le_trans sm.q (by decide)) n.names.length
  rw [List.take_length] at h1
  have h2 := sm.p
  unfold wordsNod
  omega
section
variable {w : World} {base m g b : Nat} {S : Stt}
set_option maxHeartbeats 8000000 in
theorem pWords_in (n0 : Nat) (hn : 3 ≤ n0) (h : PSt w base m g b S) (ha : AscS S.l) (hs : SmS S.l) (hl : S.l.length ≤ 1000) (hm : m < 999900) : CallsIn Fence.wide n0 Tryz.prog 32 #[SPtr g] w fun e w' => e = .returned (.int .i64 (wordsS S.l)) ∧ Below w.heap.size w w' := by
  have h1 : 1 ≤ n0 := by omega
  have KO := Lib.hid (fun wx (hb : Below w.heap.size w wx) => pInOrder h hb ha hs hl hm)
  have hfol : Tryz.prog.follows .mixedOrders = true := by kernel_rfl
  have KM := Lib.hid (pMade h)
  have HSM := Lib.hid hs
  unfold SPtr at *
  refine callsIn_of_wp_marks Tryz.func32 rfl trivial ?_ rfl
  simp only [Tryz.ntmps32, List.size_toArray, List.length_cons, List.length_nil, Nat.reduceAdd, Nat.reduceSub, Array.replicate_succ, Array.replicate_zero, List.push_toArray, List.append_toArray, List.nil_append, List.cons_append]
  gi_wp2_with (refine ⟨trivial, ?_⟩; gi_at_call 45; refine (callsIn_wide.2 (KM.out)).mono ?_; rintro e w0 ⟨rfl, hw0⟩)
  obtain ⟨w1, hw1⟩ : ∃ w1, w0.alloc (.cells #[.int .i64 2] 3) = w1 := ⟨_, rfl⟩
  have hb0 := grown_b hw0
  have hb01 : Below w0.heap.size w0 w1 := by rw [← hw1]; exact below_of_grown (World.grownBy_alloc w0 _ none)
  have hs1 : w1.heap.size = w0.heap.size + 1 := by rw [← hw1]; simp
  have hc1 : Cells w1 w0.heap.size 3 #[.int .i64 2] := by rw [← hw1]; exact Cells.new _ _ _
  have hb1 : Below w.heap.size w w1 := hb0.trans (hb01.mono hb0.size)
  have HB1 := Lib.hid hb1; have HB0 := Lib.hid hb0; have HW1 := Lib.hid hw1
  have KO1 := Lib.hid (KO.out _ HB1.out)
  rw [← hw1] at KO1
  clear hw1
  refine ⟨trivial, ?_⟩; gi_at_call 63; refine (callsIn_wide.2 KO1.out).mono ?_; rintro e w2 ⟨q, Lk, v, rfl, hor, hb2⟩
  rw [HW1.out] at hor hb2
  obtain ⟨hq, hcq, hro, hon, hpl⟩ := hor
  obtain ⟨A, c, rfl, hE, hA, hAb⟩ := row_hi (n := 0) hro
  have hm1 : Cells w2 w0.heap.size 3 #[.int .i64 2] := hc1.below' hb2
  have hB2 : Below w.heap.size w w2 := hb1.trans (hb2.mono hb1.size)
  have hlen : Lk.length ≤ 1000 := by have := congrArg List.length hpl; rw [List.length_map] at this; omega
  have hqg : q ≠ w0.heap.size := by omega
  have hqc := hcq.cell 0
  simp only [List.getElem?_toArray, List.getElem?_cons_zero] at hqc
  have hAg : ∀ b off, A = some ⟨b, off, none⟩ → b ≠ w0.heap.size := fun b off e => by have := hAb b off e; omega
  have HAG := Lib.hid hAg; have HA := Lib.hid hA; have HQ := Lib.hid hcq.lt; have HQG := Lib.hid hqg; have HB2 := Lib.hid hB2
  have HON := Lib.hid hon
  have HPL := Lib.hid hpl
  clear KO1 KM
  gi_wp2
  refine wp_inOrder (L := Lk) (q := q) (cap := c) (A := A) hn rfl rfl hqc hcq.lt hA hE hlen
    (fun pre W => Cells W w0.heap.size 3 #[.int .i64 ((2 + (pre.map (fun x => wordsNod x.1.plain)).sum : Nat) : Int)] ∧ Below w.heap.size w W ∧ w2.heap.size ≤ W.heap.size)
    (OwnFrom.and (own_box _ _ _ (fun (pre : List (Mem Lk)) => #[.int .i64 ((2 + (pre.map (fun x => wordsNod x.1.plain)).sum : Nat) : Int)])) (OwnFrom.and (ownFrom_below (Nat.le_refl _) hB2.size) (fun s X Y row hs hg hr => Nat.le_trans hs hg.size)))
    ⟨hm1, hB2, Nat.le_refl _⟩
    (fun x a' W => ∃ Bx, w2.heap.size ≤ Bx ∧ Cells W Bx 55 (ndc x.1) ∧ a' = { tmps := #[.pointer (some ⟨g, 0, none⟩), undef, .int .i64 0, .pointer (some ⟨w0.heap.size, 0, none⟩), undef, .pointer (some ⟨Bx, 0, none⟩), .pointer (some ⟨g, 0, none⟩), .bool true, .bool false, .pointer (some ⟨g, 0, none⟩), .func (.func 101) #[] #[.pointer (some ⟨q, 0, none⟩)], .int .i64 x.1.ino, x.1.val, undef, undef, undef, undef, undef], defers := [] })
    (fun x a' _ X Y row hs hg hr => by obtain ⟨Bx, g1, g2, g3⟩ := hs; exact ⟨Bx, g1, (grownBy_keeps_cells hg (fun r e => (hr r e).2) g2 rfl).trans g2, g3⟩)
    ?assign ?body ?done
  case assign =>
    rintro lp pre ⟨⟨J, ki, l, t, u, A0, ac, P, B0, bc, N⟩, hx⟩ W K ⟨g0, hB, hsz⟩ hK
    have hK' := hK { tmps := #[.pointer (some ⟨g, 0, none⟩), undef, .int .i64 0, .pointer (some ⟨w0.heap.size, 0, none⟩), undef, .pointer (some ⟨W.heap.size, 0, none⟩), .pointer (some ⟨g, 0, none⟩), .bool true, .bool false, .pointer (some ⟨g, 0, none⟩), .func (.func 101) #[] #[.pointer (some ⟨q, 0, none⟩)], .int .i64 J, Nd.val ⟨J, ki, l, t, u, A0, ac, P, B0, bc, N⟩, undef, undef, undef, undef, undef], defers := [] } (W.alloc (.cells (ndc ⟨J, ki, l, t, u, A0, ac, P, B0, bc, N⟩) 55)) ((KeepsOthers.alloc _ _).from _)
      (Kq.grow (below_of_grown (World.grownBy_alloc W _ none)) (Nat.lt_of_lt_of_le HQ.out hsz) (fun b off e => Nat.lt_of_lt_of_le (HA.out b off e) hsz)) ⟨g0.alloc _, hB.alloc hB.size _, Nat.le_trans hsz (by simp)⟩ ⟨W.heap.size, hsz, Cells.new _ _ _, rfl⟩
    unfold Nd.val ndc ncells at hK'
    unfold Nd.val
    dsimp only at hK' ⊢
    clear hK
    gi_wp2
    exact hK'
  case body =>
    rintro lp pre ⟨⟨J, ki, l, t, u, A0, ac, P, B0, bc, N⟩, hx⟩ a' W hl9 ⟨g0, hB, hsz⟩ ⟨Bx, hBx, cX, rfl⟩ hlt
    unfold ndc at cX
    dsimp only at cX
    obtain ⟨z0, z1, z2, z3, z4, z5, z6⟩ := cells7 cX
    have c0 := g0.cell 0
    simp only [List.getElem?_toArray, List.getElem?_cons_zero] at c0
    have hmem : Nd.plain ⟨J, ki, l, t, u, A0, ac, P, B0, bc, N⟩ ∈ S.l := by rw [← HPL.out]; exact List.mem_map_of_mem hx
    have hsm := HSM.out _ hmem
    have hwb := words_node HSM.out hmem
    have how := (HON.out _ hx).below hB
    have h1' : 1 ≤ n0 - 1 - 1 := by omega
    obtain ⟨k, hk⟩ : ∃ k : Nat, 2 + (pre.map (fun x => wordsNod x.1.plain)).sum = k := ⟨_, rfl⟩
    rw [hk] at c0 g0
    obtain ⟨d, hd⟩ : ∃ d : Nat, wordsNod (Nd.plain ⟨J, ki, l, t, u, A0, ac, P, B0, bc, N⟩) = d := ⟨_, rfl⟩
    have hkb : k ≤ 150000000 := by
      have h9 := sum_le (B := 140000) (f := fun x : Mem Lk => wordsNod x.1.plain) pre (fun x _ => words_node HSM.out (by rw [← HPL.out]; exact List.mem_map_of_mem x.2))
      have h10 : pre.length * 140000 ≤ 1000 * 140000 := Nat.mul_le_mul_right _ (by omega)
      omega
    rw [hd] at hwb
    have hw9 : IntKind.i64.wrap ((k : Int) + (d : Int)) = ((k + d : Nat) : Int) := by rw [IntKind.wrap_i64]; omega
    have HS := Lib.hid (show 2 + ((pre ++ [(⟨⟨J, ki, l, t, u, A0, ac, P, B0, bc, N⟩, hx⟩ : Mem Lk)]).map (fun x => wordsNod x.1.plain)).sum = k + d by rw [List.map_append, List.sum_append, ← hk, ← hd]; simp; omega)
    have KW := Lib.hid (fun wx (hb : Below W.heap.size W wx) => iWordsM ⟨J, ki, l, t, u, A0, ac, P, B0, bc, N⟩ wx (how.below hb).in_ ⟨Nat.le_trans hsm.q (by decide), hsm.p, hsm.sz⟩)
    have hdv : Nd.words ⟨J, ki, l, t, u, A0, ac, P, B0, bc, N⟩ = (d : Int) := by rw [← hd]; rfl
    rw [hdv] at KW
    have G0 := Lib.hid g0; have HB := Lib.hid hB; have HSZ := Lib.hid hsz
    have b0 : Below W.heap.size W W.drew := below_drewN (Below.refl _ _) 1
    unfold Nd.val at KW ⊢
    dsimp only at KW ⊢
    clear hk g0 hB hsz hmem hsm how hd hwb hdv cX
    gi_upto_region 6 with fail
    gi_region_with_o (refine ⟨trivial, ?_⟩; gi_at_call 64; refine (CallsIn.inRound lp (callsIn_wide.2 (KW.out _ b0))).mono ?_; rintro e w6 ⟨rfl, hw6⟩; have b6 := b0.trans (below_of_grown_of hw6); have c6 := (G0.out.below' b6).cell 0; have f6 := (G0.out.below' b6).free 0; simp only [List.getElem?_toArray, List.getElem?_cons_zero] at c6)
    all_goals
      have hset := (G0.out.below' b6).set 0 (.int .i64 ((k : Int) + (d : Int)))
      have HSET := Lib.hid hset
      have HB6 := Lib.hid b6
      clear hset b6 c6 f6 hw6
      gi_wp2
      refine ⟨(KeepsFrom.of_grownBy (grown_of_below HB6.out none) (fun j e => by cases e)).trans ((KeepsOthers.setCell _ _ _).from _), (Kq.grow HB6.out (Nat.lt_of_lt_of_le HQ.out HSZ.out) (fun b off e => Nat.lt_of_lt_of_le (HA.out b off e) HSZ.out)).trans (Kq.set _ _ HQG.out HAG.out), ?_, (HB.out.trans (HB6.out.mono HB.out.size)).setCell (p := ⟨w0.heap.size, 0, none⟩) HB0.out.size _, Nat.le_trans HSZ.out (Nat.le_trans HB6.out.size (by simp [World.setCell]))⟩
      rw [HS.out]
      first | exact HSET.out | (have h9 := HSET.out; rw [← hw9] at *; exact h9)
  case done =>
    rintro D ys W hD hys ⟨g0, hB, hsz⟩ hK
    have hcnt : 2 + (ys.map (fun x => wordsNod x.1.plain)).sum = wordsS S.l := by
      unfold wordsS
      rw [lift_plain hys hpl, List.map_map]
      rfl
    rw [hcnt] at g0
    have c0 := g0.cell 0
    simp only [List.getElem?_toArray, List.getElem?_cons_zero] at c0
    gi_wp2
    refine ⟨by simp, .inl ⟨_, _, rfl, run_takeDeferred hK, ?_⟩⟩
    refine ⟨.int .i64 (wordsS S.l), ?_, rfl, hB.trans (belowK_b (w := w) (Nat.le_refl _) _ D _ _ (by have := hB2.size; omega) hK rfl rfl)⟩
    simp [results, Tryz.f32, go_sem]
end
end Go.Proofs.YtamndllolppmoaaGreat
