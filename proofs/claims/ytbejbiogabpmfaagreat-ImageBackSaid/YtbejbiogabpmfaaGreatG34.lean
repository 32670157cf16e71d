import Derived.Test.YtbejbiogabpmfaaGreatG33
import Derived.Test.YtbejbiogabpmfaaGreatG32

/-! The project's rightNames. -/
namespace Go.Proofs.YtbejbiogabpmfaaGreat
open Wd Ino Sm U Go.RowKit Go.ChangeShapes Go.WideShapes Go.Shelf Go.Maps
set_option linter.unusedVariables false
attribute [local go_sem] Oper.semAt_some
set_option maxRecDepth 100000
/-- counts, as a map holds them -/
def cF (c : Int → Nat) : VFn := fun x => if c x = 0 then none else some (.int .i64 (c x : Int))
theorem cF_get (c : Int → Nat) (x : Int) : (cF c x).getD (.int .i64 0) = .int .i64 (c x : Int) := by
  unfold cF
  by_cases h : c x = 0
  · rw [if_pos h, h]; rfl
  · rw [if_neg h]; rfl
theorem cF_put {c c' : Int → Nat} {x : Int} (h : ∀ y, c' y = c y + (if x = y then 1 else 0)) (y : Int) : (if y = x then some (.int .i64 ((c x : Int) + 1)) else cF c y) = cF c' y := by
  unfold cF
  rw [h y]
  by_cases e : y = x
  · subst e
    rw [if_pos rfl, if_pos rfl, if_neg (by omega)]
    exact congrArg (fun z => some (Value.int .i64 z)) (by omega)
  · rw [if_neg e, if_neg (show ¬ x = y from fun e2 => e e2.symm), Nat.add_zero]
def cC {L : List Nd} (pre : List (Mem L)) (N : List Ent) (k : Nat) (i : Int) : Nat := (pre.map (fun x => countN i x.1.names)).sum + countN i (N.take k)
theorem cC_next {L : List Nd} (pre : List (Mem L)) {N : List Ent} {k : Nat} {e : Ent} (h : N[k]? = some e) (y : Int) : cC pre N (k + 1) y = cC pre N k y + (if e.n = y then 1 else 0) := by
  unfold cC
  rw [countN_snoc h]; omega
theorem cC_all {L : List Nd} (pre : List (Mem L)) (x : Mem L) (y : Int) : cC (pre ++ [x]) [] 0 y = cC pre x.1.names x.1.names.length y := by
  unfold cC
  rw [List.map_append, List.sum_append, List.take_length]
  simp [countN]
theorem cC_done {L : List Nd} {ys : List (Mem L)} (h : ys.map Subtype.val = L) {l : List Nod} (hl : L.map Nd.plain = l) (y : Int) : cC ys [] 0 y = cntS l y := by
  unfold cC cntS
  rw [lift_plain h hl, List.map_map]
  simp [countN]
  rfl
theorem cC_start {L : List Nd} (pre : List (Mem L)) (N : List Ent) : cC pre N 0 = cC pre [] 0 := by funext i; unfold cC; simp
theorem cC_le {L : List Nd} (pre : List (Mem L)) {N : List Ent} {k : Nat} (hN : N.length ≤ 1000) (hp : ∀ x ∈ L, x.names.length ≤ 1000) (i : Int) : cC pre N k i ≤ 1000 * pre.length + 1000 := by
  have h1 := sum_le (B := 1000) (f := fun x : Mem L => countN i x.1.names) pre (fun x _ => Nat.le_trans (by unfold countN; exact List.countP_le_length) (hp x.1 x.2))
  have h2 : countN i (N.take k) ≤ (N.take k).length := by unfold countN; exact List.countP_le_length
  rw [List.length_take] at h2
  unfold cC
  omega
theorem Inv.may {S : Stt} (h : Inv S) {d : Nod} (hd : d ∈ S.l) {e : Ent} (he : e ∈ d.names) : mayS S.l d.ino e.n = true := by
  obtain ⟨n, hn, hk⟩ := h.there d hd e he
  unfold mayS
  have hkk : kindS S.l e.n = n.kind := kind_some hn
  have hu : upS S.l e.n = n.up := by unfold upS; rw [getS_some hn]
  rcases (right_ino (h.right n (atS_mem hn))).2.2.2.2 with h1 | h1
  · rw [hkk, decide_eq_true h1]; rfl
  · obtain ⟨h2, h3⟩ := hk h1
    rw [hkk, hu, decide_eq_true h1, decide_eq_false h2, decide_eq_true h3]
    simp
theorem zeroI1 (w : World) : (zeroValue 3).run Tryz.prog w = .ok (.int .i64 0) w := by kernel_rfl
theorem lookC {w : World} {b n : Nat} {c : Int → Nat} (h : Mv Tryz.prog 3 w b n (cF c)) {x : Int} (hx : i64R x) : (Instr.lookup 188 (.map (some b)) (.int .i64 x) false).run Tryz.prog w = .ok (.int .i64 (c x : Int)) w := by
  have := h.look (e := 3) (t := 188) keyedN Tryz.underlying188 Tryz.underlying3 (zeroI1 w) x (wfI hx)
  rw [cF_get] at this
  exact this
theorem keeps_turned {B b : Nat} {w w' : World} (h : w.mapTurned w' b) (hb : b < B) : KeepsFrom B w w' := ⟨by rw [turned_size h]; exact Nat.le_refl _, fun k o hk ho _ => (turned_block h (by omega)).trans ho⟩
theorem Kq.turned {q b : Nat} {A : Option Addr} {w w' : World} (h : w.mapTurned w' b) (hq : q ≠ b) (hA : ∀ x off, A = some ⟨x, off, none⟩ → x ≠ b) : Kq q A w w' := ⟨by rw [turned_size h]; exact Nat.le_refl _, turned_block h hq, fun x off e => turned_block h (hA x off e)⟩
theorem mv_from {β : Type} (B b n : Nat) (hb : b < B) (F : β → VFn) : OwnFrom B (fun s W => Mv Tryz.prog 3 W b n (F s)) := fun s X Y row hs hg hr => hs.same (hg.block b hs.lt (fun e => by have := (hr b e.symm).1; omega))
theorem cells_turned {w w' : World} {b g : Nat} {T : TypeId} {cs : Array Value} (h : w.mapTurned w' b) (hc : Cells w g T cs) (hne : g ≠ b) : Cells w' g T cs := (turned_block h hne).trans hc
section
variable {w : World} {base m g b : Nat} {S : Stt}
set_option maxHeartbeats 16000000 in
theorem pRightNames_in (n0 : Nat) (hn : 3 ≤ n0) (h : PSt w base m g b S) (iv : Inv S) {k0 : Nat} (nm : Num k0 S) (hk0 : k0 ≤ 900) (hm : m < 999900) : CallsIn Fence.wide n0 Tryz.prog 120 #[SPtr g] w fun e w' => e = .returned (.bool true) ∧ Below w.heap.size w w' := by
  have h1 : 1 ≤ n0 := by omega
  have hmm := @run_makeMap Tryz.prog
  have hs := iv.smN nm hk0
  have KO := Lib.hid (fun wx (hb : Below w.heap.size w wx) => pInOrder h hb iv.asc hs (by have := nm.len; omega) hm)
  have HH := Lib.hid h; have HSM := Lib.hid hs; have IV := Lib.hid iv
  obtain ⟨w1, hw1⟩ : ∃ w1, (((w.alloc (.cells #[SPtr g] 31)).alloc (.cells #[.bool false] 4)).alloc (.map #[] 0)).alloc (.cells #[.map (some (w.heap.size + 2))] 188) = w1 := ⟨_, rfl⟩
  have hbe : Below w.heap.size w (w.alloc (.cells #[SPtr g] 31)) := below_of_grown (World.grownBy_alloc w _ none)
  have hb1 : Below w.heap.size w w1 := by rw [← hw1]; exact ((hbe.alloc (by simp) _).alloc (by simp; omega) _).alloc (by simp; omega) _
  have hs1 : w1.heap.size = w.heap.size + 4 := by rw [← hw1]; simp
  have hcs : Cells w1 w.heap.size 31 #[SPtr g] := by rw [← hw1]; exact (((Cells.new _ _ _).alloc _).alloc _).alloc _
  have hcr : Cells w1 (w.heap.size + 1) 4 #[.bool false] := by
    rw [← hw1]; have := Cells.new (w.alloc (.cells #[SPtr g] 31)) 4 #[.bool false]
    rw [show (w.alloc (.cells #[SPtr g] 31)).heap.size = w.heap.size + 1 by simp] at this
    exact (this.alloc _).alloc _
  have hcm : Cells w1 (w.heap.size + 3) 188 #[.map (some (w.heap.size + 2))] := by
    rw [← hw1]; have := Cells.new (((w.alloc (.cells #[SPtr g] 31)).alloc (.cells #[.bool false] 4)).alloc (.map #[] 0)) 188 #[.map (some (w.heap.size + 2))]
    simpa using this
  have hmv : Mv Tryz.prog 3 w1 (w.heap.size + 2) 0 (fun _ => none) := by
    have h9 := Mv.made ((w.alloc (.cells #[SPtr g] 31)).alloc (.cells #[.bool false] 4)) Tryz.prog 3
    rw [show ((w.alloc (.cells #[SPtr g] 31)).alloc (.cells #[.bool false] 4)).heap.size = w.heap.size + 2 by simp] at h9
    rw [← hw1]
    exact h9.same (Below.heap_alloc _ _ _ h9.lt)
  have HB1 := Lib.hid hb1; have HS1 := Lib.hid hs1; have HW1 := Lib.hid hw1
  have KO1 := Lib.hid (KO.out _ hb1)
  rw [← hw1] at KO1
  unfold SPtr at *
  clear hs1 hw1 hbe
  refine callsIn_of_wp_marks Tryz.func120 rfl trivial ?_ rfl
  simp only [Tryz.ntmps120, List.size_toArray, List.length_cons, List.length_nil, Nat.reduceAdd, Nat.reduceSub, Array.replicate_succ, Array.replicate_zero, List.push_toArray, List.append_toArray, List.nil_append, List.cons_append]
  gi_wp2_with (refine ⟨trivial, ?_⟩; gi_at_call 57; refine (callsIn_wide.2 KO1.out).mono ?_; rintro e w2 ⟨q, Lk, v, rfl, hor, hb2⟩)
  rw [HW1.out] at hor hb2
  obtain ⟨hq, hcq, hro, hon, hpl⟩ := hor
  obtain ⟨A, c, rfl, hE, hA, hAb⟩ := row_hi (n := 0) hro
  have hs1 := HS1.out
  have hB2 : Below w.heap.size w w2 := hb1.trans (hb2.mono hb1.size)
  have hlen : Lk.length ≤ 1000 := by have := congrArg List.length hpl; rw [List.length_map] at this; have := nm.len; omega
  have hqc := hcq.cell 0
  simp only [List.getElem?_toArray, List.getElem?_cons_zero] at hqc
  have hcs2 := hcs.below' hb2
  have hcr2 := hcr.below' hb2
  have hcm2 := hcm.below' hb2
  have hmv2 := hmv.same (hb2.block _ hmv.lt)
  have hinv : ∀ n ∈ Lk, Nd.plain n ∈ S.l := fun n hn => by rw [← hpl]; exact List.mem_map_of_mem hn
  have hnames : ∀ n ∈ Lk, n.names.length ≤ 1000 := fun n hn => Nat.le_trans (hs _ (hinv n hn)).q (by decide)
  have hqm : q ≠ w.heap.size + 1 + 1 := fun e => hmv2.cells hcq e.symm
  have hAm : ∀ b off, A = some ⟨b, off, none⟩ → b ≠ w.heap.size + 1 + 1 := fun b off e => by have := hAb b off e; omega
  have HA := Lib.hid hA; have HQ := Lib.hid hcq.lt; have HB2 := Lib.hid hB2; have HON := Lib.hid hon; have HPL := Lib.hid hpl; have HINV := Lib.hid hinv; have HNAMES := Lib.hid hnames; have HQM := Lib.hid hqm; have HAM := Lib.hid hAm
  have HMB := Lib.hid (show w.heap.size + 1 + 1 < w2.heap.size from hmv2.lt); have HLEN := Lib.hid hlen
  clear KO1 hinv hnames hqm hAm
  refine wp_inOrder (L := Lk) (q := q) (cap := c) (A := A) hn rfl rfl hqc hcq.lt hA hE hlen
    (fun pre W => Cells W w.heap.size 31 #[.pointer (some ⟨g, 0, none⟩)] ∧ Cells W (w.heap.size + 1) 4 #[.bool false] ∧ Cells W (w.heap.size + 1 + 1 + 1) 188 #[.map (some (w.heap.size + 1 + 1))] ∧ (∃ Nn, Mv Tryz.prog 3 W (w.heap.size + 1 + 1) Nn (cF (cC pre [] 0)) ∧ Nn ≤ 1000 * pre.length) ∧ Below w.heap.size w W ∧ w2.heap.size ≤ W.heap.size)
    (OwnFrom.and (own_box _ _ _ (fun _ => #[.pointer (some ⟨g, 0, none⟩)])) (OwnFrom.and (own_box _ _ _ (fun _ => #[.bool false])) (OwnFrom.and (own_box _ _ _ (fun _ => #[.map (some (w.heap.size + 1 + 1))])) (OwnFrom.and (fun pre X Y row hs hg hr => by obtain ⟨Nn, h1, h2⟩ := hs; exact ⟨Nn, mv_from w2.heap.size _ Nn HMB.out (fun _ : Unit => cF (cC pre [] 0)) () X Y row h1 hg hr, h2⟩) (OwnFrom.and (ownFrom_below (Nat.le_refl _) hB2.size) (fun s X Y row hs hg hr => Nat.le_trans hs hg.size))))))
    ⟨hcs2, hcr2, hcm2, ⟨0, hmv2.congr (fun x => by unfold cF cC; simp [countN]), Nat.le_refl _⟩, hB2, Nat.le_refl _⟩
    (fun x a' W => ∃ Bx, w2.heap.size ≤ Bx ∧ Cells W Bx 51 (ndc x.1) ∧ a' = { tmps := #[.pointer (some ⟨g, 0, none⟩), .pointer (some ⟨w.heap.size, 0, none⟩), .pointer (some ⟨w.heap.size + 1, 0, none⟩), .pointer (some ⟨w.heap.size + 1 + 1 + 1, 0, none⟩), .int .i64 x.1.ino, .pointer (some ⟨Bx, 0, none⟩), undef, undef, undef, undef, .map (some (w.heap.size + 1 + 1)), .pointer (some ⟨g, 0, none⟩), .func (.func 85) #[] #[.pointer (some ⟨q, 0, none⟩)], .int .i64 x.1.ino, x.1.val, undef, undef, undef, undef, undef, undef, undef, undef, undef, undef, undef, undef, undef, undef, undef, undef, undef, undef, undef, undef, undef, undef, undef, undef, undef, undef, undef, undef, undef, undef, undef, undef, undef], defers := [] })
    (fun x a' _ X Y row hs hg hr => by obtain ⟨Bx, g1, g2, g3⟩ := hs; exact ⟨Bx, g1, (grownBy_keeps_cells hg (fun r e => (hr r e).2) g2 rfl).trans g2, g3⟩)
    ?assign ?body ?done
  case assign =>
    rintro lp pre ⟨⟨J, ki, l, t, u, A0, ac, P, B0, bc, N⟩, hx⟩ W K ⟨g0, g1, g2, ⟨Nn, g3, g4⟩, hB, hsz⟩ hK
    have hK' := hK { tmps := #[.pointer (some ⟨g, 0, none⟩), .pointer (some ⟨w.heap.size, 0, none⟩), .pointer (some ⟨w.heap.size + 1, 0, none⟩), .pointer (some ⟨w.heap.size + 1 + 1 + 1, 0, none⟩), .int .i64 J, .pointer (some ⟨W.heap.size, 0, none⟩), undef, undef, undef, undef, .map (some (w.heap.size + 1 + 1)), .pointer (some ⟨g, 0, none⟩), .func (.func 85) #[] #[.pointer (some ⟨q, 0, none⟩)], .int .i64 J, Nd.val ⟨J, ki, l, t, u, A0, ac, P, B0, bc, N⟩, undef, undef, undef, undef, undef, undef, undef, undef, undef, undef, undef, undef, undef, undef, undef, undef, undef, undef, undef, undef, undef, undef, undef, undef, undef, undef, undef, undef, undef, undef, undef, undef, undef], defers := [] } (W.alloc (.cells (ndc ⟨J, ki, l, t, u, A0, ac, P, B0, bc, N⟩) 51)) ((KeepsOthers.alloc _ _).from _)
      (Kq.grow (below_of_grown (World.grownBy_alloc W _ none)) (Nat.lt_of_lt_of_le HQ.out hsz) (fun b off e => Nat.lt_of_lt_of_le (HA.out b off e) hsz)) ⟨g0.alloc _, g1.alloc _, g2.alloc _, ⟨Nn, g3.same (Below.heap_alloc _ _ _ g3.lt), g4⟩, hB.alloc hB.size _, Nat.le_trans hsz (by simp)⟩ ⟨W.heap.size, hsz, Cells.new _ _ _, rfl⟩
    unfold Nd.val ndc ncells at hK'
    unfold Nd.val
    dsimp only at hK' ⊢
    clear hK
    gi_wp2
    exact hK'
  case body =>
    rintro lp pre ⟨⟨J, ki, l, t, u, A0, ac, P, B0, bc, N⟩, hx⟩ a' W hl9 ⟨g0, g1, g2, ⟨Nn0, g3, g4⟩, hB, hsz⟩ ⟨Bx, hBx, cX, rfl⟩ hlt
    unfold ndc at cX
    dsimp only at cX
    have hmem := HINV.out _ hx
    have hsm := HSM.out _ hmem
    have h1' : 1 ≤ n0 - 1 - 1 := by omega
    have hNl : N.length ≤ 1000 := Nat.le_trans hsm.q (by decide)
    obtain ⟨z0, z1, z2, z3, z4, z5, z6⟩ := cells7 cX
    have CX := Lib.hid cX; have HX := Lib.hid hx; have HMEM := Lib.hid hmem; have HSMN := Lib.hid hsm
    have HST := Lib.hid (And.intro g0 (And.intro g1 (And.intro g2 (And.intro g3 (And.intro g4 (And.intro hB hsz))))))
    unfold Nd.val
    dsimp only
    clear g0 g1 g2 g3 g4 hB hsz cX hmem hsm
    gi_wp2
    gi_loopw [18] (fun i wr => ∃ k Nn : Nat, k ≤ N.length ∧ i = .int .i64 k ∧ Cells wr w.heap.size 31 #[.pointer (some ⟨g, 0, none⟩)] ∧ Cells wr (w.heap.size + 1) 4 #[.bool false] ∧ Cells wr (w.heap.size + 1 + 1 + 1) 188 #[.map (some (w.heap.size + 1 + 1))] ∧ Mv Tryz.prog 3 wr (w.heap.size + 1 + 1) Nn (cF (cC pre N k)) ∧ Nn ≤ 1000 * pre.length + k ∧ Below w.heap.size w wr ∧ KeepsFrom w2.heap.size W wr ∧ Kq q A W wr) (fun i _ => N.length - (intOf i).toNat)
    case atStart =>
      obtain ⟨g0, g1, g2, g3, g4, hB, hsz⟩ := HST.out
      exact ⟨0, Nn0, Nat.zero_le _, rfl, g0, g1, g2, by rw [cC_start]; exact g3, g4, hB, KeepsFrom.refl _ _, Kq.refl _ _ _⟩
    case round =>
      obtain ⟨k, Nn, hk, rfl, g0, g1, g2, g3, g4, hB, hkf, hkq⟩ := hrel
      by_cases hlt2 : k < N.length
      · obtain ⟨e, hek⟩ : ∃ e, N[k]? = some e := ⟨_, List.getElem?_eq_getElem hlt2⟩
        have how := (HON.out _ HX.out).below hB
        obtain ⟨b1, o1, hA1, hbb, x0, x1⟩ := ens_cells (how.ens.2) hek
        dsimp only at hA1
        have hlt3 : (k : Int) < (N.length : Int) := Int.ofNat_lt.2 hlt2
        have hme := List.mem_of_getElem? hek
        have hmay := IV.out.may HMEM.out (e := e) hme
        have hxi : i64R e.n := HSMN.out.nm e hme
        obtain ⟨w3, hw3⟩ : ∃ w3, wr.alloc (.cells #[.string e.s, .int .i64 e.n] 103) = w3 := ⟨_, rfl⟩
        have hb3 : Below wr.heap.size wr w3 := by rw [← hw3]; exact below_of_grown (World.grownBy_alloc wr _ none)
        have hc3 : Cells w3 wr.heap.size 103 #[.string e.s, .int .i64 e.n] := by rw [← hw3]; exact Cells.new _ _ _
        have y0 := hc3.cell 0
        have y1 := hc3.cell 1
        have s0 := (g0.below' hb3).cell 0
        simp only [List.getElem?_toArray, List.getElem?_cons_zero, List.getElem?_cons_succ] at y0 y1 s0
        have KM := Lib.hid (pMayStand (HH.out.below (hB.trans (hb3.mono hB.size))) J e.n hxi)
        rw [show mayS S.l J e.n = true from hmay] at KM
        unfold SPtr at KM
        obtain ⟨cc, hcc⟩ : ∃ cc, cC pre N k e.n = cc := ⟨_, rfl⟩
        have hccb : cc ≤ 2000000 := by
          have h9 := cC_le pre (N := N) (k := k) hNl HNAMES.out e.n
          have h10 := HLEN.out
          omega
        have hwr : IntKind.i64.wrap ((cc : Int) + 1) = (cc : Int) + 1 := by rw [IntKind.wrap_i64]; omega
        have hnn : Nn < maxLen := by have h10 := HLEN.out; unfold maxLen; omega
        have HNX := Lib.hid (fun y => cF_put (c := cC pre N k) (c' := cC pre N (k + 1)) (x := e.n) (fun y => cC_next pre hek y) y)
        rw [hcc] at HNX
        have HB3 := Lib.hid hb3; have HC3 := Lib.hid hc3; have HCC := Lib.hid hcc; have HXI := Lib.hid hxi
        have HFIN := Lib.hid (And.intro g0 (And.intro g1 (And.intro g2 (And.intro g3 (And.intro g4 (And.intro hB (And.intro hkf hkq)))))))
        have HLT2 := Lib.hid hlt2
        subst hA1
        clear g0 g1 g2 g3 g4 hB hkf hkq hb3 hc3 hxi hmay hme hek how hk hlt2 hcc hbb z0 z1 z2 z3 z4 z5 z6
        gi_wp2_with (refine ⟨trivial, ?_⟩; gi_at_call 169; refine (CallsIn.inRound lp (callsIn_wide.2 KM.out)).mono ?_; rintro e' w4 ⟨rfl, hw4⟩; have b4 := grown_b hw4; have hc4 := HC3.out.below' b4; have v1 := hc4.cell 1; have d0 := ((HFIN.out.2.2.1.below' HB3.out).below' b4).cell 0; simp only [List.getElem?_toArray, List.getElem?_cons_zero, List.getElem?_cons_succ] at v1 d0; have hm4 := (HFIN.out.2.2.2.1.same (HB3.out.block _ HFIN.out.2.2.2.1.lt)).same (b4.block _ (Nat.lt_of_lt_of_le HFIN.out.2.2.2.1.lt HB3.out.size)); have hlook := lookC hm4 HXI.out; rw [HCC.out] at hlook; obtain ⟨w5, hrun, hm5, ht5⟩ := hm4.store (t := 188) (e := 3) keyedN Tryz.underlying188 Tryz.underlying3 hnn e.n (.int .i64 ((cc : Int) + 1)) (wfI HXI.out); have HB4 := Lib.hid b4; have HM5 := Lib.hid hm5; have HT5 := Lib.hid ht5; clear hm4 hm5 ht5 b4 hc4 hw4)
        go_roundw
        case rel =>
          obtain ⟨g0, g1, g2, g3, g4, hB, hkf, hkq⟩ := HFIN.out
          have b34 : Below wr.heap.size wr w4 := HB3.out.trans (HB4.out.mono HB3.out.size)
          exact ⟨k + 1, Nn + 1, HLT2.out, by go_num, cells_turned HT5.out (g0.below' b34) (by omega), cells_turned HT5.out (g1.below' b34) (by omega), cells_turned HT5.out (g2.below' b34) (by omega), HM5.out.congr HNX.out, by omega,
            turned_below HT5.out (hB.trans (b34.mono hB.size)) (by omega),
            (hkf.trans (KeepsFrom.of_grownBy (grown_of_below b34 none) (fun j e => by cases e))).trans (keeps_turned HT5.out HMB.out),
            (hkq.trans (Kq.grow b34 (Nat.lt_of_lt_of_le (Nat.lt_of_lt_of_le HQ.out HST.out.2.2.2.2.2.2) hkq.1) (fun b off e => Nat.lt_of_lt_of_le (Nat.lt_of_lt_of_le (HA.out b off e) HST.out.2.2.2.2.2.2) hkq.1))).trans (Kq.turned HT5.out HQM.out HAM.out)⟩
        case measure => simp [intOf]; have := HLT2.out; omega
      · obtain rfl : k = N.length := by omega
        have HFIN := Lib.hid (And.intro g0 (And.intro g1 (And.intro g2 (And.intro g3 (And.intro g4 (And.intro hB (And.intro hkf hkq)))))))
        clear g0 g1 g2 g3 g4 hB hkf hkq hk hlt2
        gi_wp2
        obtain ⟨g0, g1, g2, g3, g4, hB, hkf, hkq⟩ := HFIN.out
        exact ⟨hkf, hkq, g0, g1, g2, ⟨Nn, g3.congr (fun y => by unfold cF; rw [cC_all]), by rw [List.length_append, List.length_singleton]; omega⟩, hB, Nat.le_trans HST.out.2.2.2.2.2.2 hkq.1⟩
  case done =>
    rintro D ys W hD hys ⟨g0, g1, g2, ⟨Nn, g3, g4⟩, hB, hsz⟩ hK
    have s0 := g0.cell 0
    simp only [List.getElem?_toArray, List.getElem?_cons_zero] at s0
    have g3 := g3.congr (G := cF (cntS S.l)) (fun y => by unfold cF; rw [cC_done hys hpl])
    have KO2 := Lib.hid (KO.out W hB)
    have HG := Lib.hid (And.intro g1 (And.intro g2 (And.intro g3 (And.intro hB (And.intro hsz hK)))))
    have HD := Lib.hid hD
    clear g0 g1 g2 g3 g4 hB hsz hK hE hA hAb hqc hcs2 hcr2 hcm2 hmv2 hcq hro hon
    gi_wp2_with (refine ⟨trivial, ?_⟩; gi_at_call 57; refine (callsIn_wide.2 KO2.out).mono ?_; rintro e w3 ⟨q2, L2, v2, rfl, hor, hb3⟩)
    obtain ⟨hq, hcq, hro, hon2, hpl2⟩ := hor
    obtain ⟨A2, c2, rfl, hE, hA, hAb⟩ := row_hi (n := 0) hro
    obtain ⟨g1, g2, g3, hB, hsz, hK⟩ := HG.out
    have hB3 : Below w.heap.size w w3 := hB.trans (hb3.mono hB.size)
    have hDl : D < W.heap.size := (Array.getElem?_eq_some_iff.1 hK).1
    have hqc := hcq.cell 0
    simp only [List.getElem?_toArray, List.getElem?_cons_zero] at hqc
    have hlen2 : L2.length ≤ 1000 := by have := congrArg List.length hpl2; rw [List.length_map] at this; have := nm.len; omega
    have HA := Lib.hid hA; have HQ := Lib.hid hcq.lt; have HB3 := Lib.hid hB3
    have HINV2 := Lib.hid (show ∀ n ∈ L2, Nd.plain n ∈ S.l from fun n hn => by rw [← hpl2]; exact List.mem_map_of_mem hn)
    have HM3 := Lib.hid (show w.heap.size + 1 + 1 < w3.heap.size from Nat.lt_of_lt_of_le g3.lt hb3.size)
    refine wp_inOrder (L := L2) (q := q2) (cap := c2) (A := A2) hn rfl rfl hqc hcq.lt hA hE hlen2
      (fun pre W' => Cells W' (w.heap.size + 1) 4 #[.bool false] ∧ Cells W' (w.heap.size + 1 + 1 + 1) 188 #[.map (some (w.heap.size + 1 + 1))] ∧ Mv Tryz.prog 3 W' (w.heap.size + 1 + 1) Nn (cF (cntS S.l)) ∧ W'.heap[D]? = some (.deferred (some [])) ∧ Below w.heap.size w W' ∧ w3.heap.size ≤ W'.heap.size)
      (OwnFrom.and (own_box _ _ _ (fun _ => #[.bool false])) (OwnFrom.and (own_box _ _ _ (fun _ => #[.map (some (w.heap.size + 1 + 1))])) (OwnFrom.and (mv_from w3.heap.size _ Nn HM3.out (fun _ => cF (cntS S.l))) (OwnFrom.and (fun _ X Y row hs hg hr => (hg.block D (Array.getElem?_eq_some_iff.1 hs).1 (fun e => by have := (hr D e.symm).1; have := hb3.size; omega)).trans hs) (OwnFrom.and (ownFrom_below (Nat.le_refl _) hB3.size) (fun s X Y row hs hg hr => Nat.le_trans hs hg.size))))))
      ⟨g1.below' hb3, g2.below' hb3, g3.same (hb3.block _ g3.lt), (hb3.block D hDl).trans hK, hB3, Nat.le_refl _⟩
      (fun x a' W' => ∃ Bx, w3.heap.size ≤ Bx ∧ Cells W' Bx 51 (ndc x.1) ∧ a' = { tmps := #[.pointer (some ⟨g, 0, none⟩), .pointer (some ⟨w.heap.size, 0, none⟩), .pointer (some ⟨w.heap.size + 1, 0, none⟩), .pointer (some ⟨w.heap.size + 1 + 1 + 1, 0, none⟩), undef, undef, undef, undef, .int .i64 x.1.ino, .pointer (some ⟨Bx, 0, none⟩), .map (some (w.heap.size + 1 + 1)), .pointer (some ⟨g, 0, none⟩), .func (.func 85) #[] #[.pointer (some ⟨q, 0, none⟩)], undef, undef, undef, undef, undef, undef, undef, undef, undef, undef, undef, undef, undef, undef, undef, undef, undef, undef, undef, undef, undef, .pointer (some ⟨g, 0, none⟩), .func (.func 85) #[] #[.pointer (some ⟨q2, 0, none⟩)], .int .i64 x.1.ino, x.1.val, undef, undef, undef, undef, undef, undef, undef, undef, undef, undef], defers := [] })
      (fun x a' _ X Y row hs hg hr => by obtain ⟨Bx, g1, g2, g3⟩ := hs; exact ⟨Bx, g1, (grownBy_keeps_cells hg (fun r e => (hr r e).2) g2 rfl).trans g2, g3⟩)
      ?assign2 ?body2 ?done2
    case assign2 =>
      rintro lp pre ⟨⟨J, ki, l, t, u, A0, ac, P, B0, bc, N⟩, hx⟩ W K ⟨g1, g2, g3, gd, hB, hsz⟩ hK
      have hK' := hK { tmps := #[.pointer (some ⟨g, 0, none⟩), .pointer (some ⟨w.heap.size, 0, none⟩), .pointer (some ⟨w.heap.size + 1, 0, none⟩), .pointer (some ⟨w.heap.size + 1 + 1 + 1, 0, none⟩), undef, undef, undef, undef, .int .i64 J, .pointer (some ⟨W.heap.size, 0, none⟩), .map (some (w.heap.size + 1 + 1)), .pointer (some ⟨g, 0, none⟩), .func (.func 85) #[] #[.pointer (some ⟨q, 0, none⟩)], undef, undef, undef, undef, undef, undef, undef, undef, undef, undef, undef, undef, undef, undef, undef, undef, undef, undef, undef, undef, undef, .pointer (some ⟨g, 0, none⟩), .func (.func 85) #[] #[.pointer (some ⟨q2, 0, none⟩)], .int .i64 J, Nd.val ⟨J, ki, l, t, u, A0, ac, P, B0, bc, N⟩, undef, undef, undef, undef, undef, undef, undef, undef, undef, undef], defers := [] } (W.alloc (.cells (ndc ⟨J, ki, l, t, u, A0, ac, P, B0, bc, N⟩) 51)) ((KeepsOthers.alloc _ _).from _)
        (Kq.grow (below_of_grown (World.grownBy_alloc W _ none)) (Nat.lt_of_lt_of_le HQ.out hsz) (fun b off e => Nat.lt_of_lt_of_le (HA.out b off e) hsz)) ⟨g1.alloc _, g2.alloc _, g3.same (Below.heap_alloc _ _ _ g3.lt), (Below.heap_alloc _ _ _ (Array.getElem?_eq_some_iff.1 gd).1).trans gd, hB.alloc hB.size _, Nat.le_trans hsz (by simp)⟩ ⟨W.heap.size, hsz, Cells.new _ _ _, rfl⟩
      unfold Nd.val ndc ncells at hK'
      unfold Nd.val
      dsimp only at hK' ⊢
      clear hK
      gi_wp2
      exact hK'
    case body2 =>
      rintro lp pre ⟨⟨J, ki, l, t, u, A0, ac, P, B0, bc, N⟩, hx⟩ a' W hl9 ⟨g1, g2, g3, gd, hB, hsz⟩ ⟨Bx, hBx, cX, rfl⟩ hlt
      unfold ndc at cX
      dsimp only at cX
      have hmem := HINV2.out _ hx
      have hsm := HSM.out _ hmem
      have h1' : 1 ≤ n0 - 1 - 1 := by omega
      obtain ⟨z0, z1, z2, z3, z4, z5, z6⟩ := cells7 cX
      have m0 := g2.cell 0
      simp only [List.getElem?_toArray, List.getElem?_cons_zero] at m0
      have HST := Lib.hid (And.intro g1 (And.intro g2 (And.intro g3 (And.intro gd (And.intro hB hsz)))))
      have hlook := lookC g3 (x := J) hsm.ino
      by_cases e1 : J = 1
      · have q1 : (J != 1) = false := by simpa using e1
        unfold Nd.val
        dsimp only
        clear g1 g2 g3 gd hB hsz cX hmem hsm e1
        gi_wp2
        exact ⟨KeepsFrom.refl _ _, Kq.refl _ _ _, HST.out⟩
      · have q1 : (J != 1) = true := by simpa using e1
        have hcnt := IV.out.cnt _ hmem e1
        have hcnt2 : ((cntS S.l J : Nat) : Int) = l := hcnt
        rw [hcnt2] at hlook
        unfold Nd.val
        dsimp only
        clear g1 g2 g3 gd hB hsz cX hmem hsm e1 hcnt hcnt2
        gi_wp2
        exact ⟨KeepsFrom.refl _ _, Kq.refl _ _ _, HST.out⟩
    case done2 =>
      rintro D2 ys2 W4 hD2 _ ⟨g1, g2, g3, gd, hB, hsz⟩ hK2
      have f1 := g1.free 0
      have c1 := g1.cell 0
      simp only [List.getElem?_toArray, List.getElem?_cons_zero] at c1
      have HG1 := Lib.hid g1; have HGD := Lib.hid gd; have HB4 := Lib.hid hB; have HK2 := Lib.hid hK2
      clear g1 g2 g3 gd hB hK2
      gi_wp2
      have hne : D ≠ D2 := by have := hb3.size; omega
      have hK2' := (KeepsOthers.setCell W4 ⟨w.heap.size + 1, 0, none⟩ (.bool true)).same D2 _ HK2.out rfl
      have hK1 := (KeepsOthers.setCell W4 ⟨w.heap.size + 1, 0, none⟩ (.bool true)).same D _ HGD.out rfl
      have hK1' : ((W4.setCell ⟨w.heap.size + 1, 0, none⟩ (.bool true)).putObj D2 (.deferred none)).heap[D]? = some (.deferred (some [])) := (World.putObj_heap_other hne).trans hK1
      refine ⟨by simp, .inl ⟨_, _, rfl, run_takeDeferred hK2', ⟨by simp, .inl ⟨_, _, rfl, run_takeDeferred hK1', ?_⟩⟩⟩⟩
      have hR2 : Cells (W4.setCell ⟨w.heap.size + 1, 0, none⟩ (.bool true)) (w.heap.size + 1) 4 #[.bool true] := HG1.out.set 0 (.bool true)
      have hR3 := (grownBy_keeps_cells (grownBy_putObj' _ D2 (.deferred none)) (fun r e => by cases e; exact ⟨_, hK2', rfl⟩) hR2 rfl).trans hR2
      have hR4 := (grownBy_keeps_cells (grownBy_putObj' _ D (.deferred none)) (fun r e => by cases e; exact ⟨_, hK1', rfl⟩) hR3 rfl).trans hR3
      have cR4 := Cells.cell hR4 0
      simp at cR4
      refine ⟨.bool true, ?_, rfl, ((HB4.out.setCell (p := ⟨w.heap.size + 1, 0, none⟩) (by simp) _).trans (belowK_b (w := w) (Nat.le_refl _) _ D2 _ _ (by have := HB3.out.size; omega) hK2' rfl rfl)).trans (belowK_b (w := w) (Nat.le_refl _) _ D _ _ (by have := HB2.out.size; have := HD.out; omega) hK1' rfl rfl)⟩
      simp [results, Tryz.f120, go_sem, cR4]
end
end Go.Proofs.YtbejbiogabpmfaaGreat

/-! The project's Right. -/
namespace Go.Proofs.YtbejbiogabpmfaaGreat
open Wd Ino Sm U Go.RowKit Go.ChangeShapes Go.WideShapes Go.Shelf Go.Sort
set_option linter.unusedVariables false
set_option maxRecDepth 100000
section
variable {w : World} {base m g b : Nat} {S : Stt}
theorem pRight (h : PSt w base m g b S) (iv : Inv S) {k0 : Nat} (nm : Num k0 S) (hk0 : k0 ≤ 900) (hm : m < 999900) (hap : (refsS S.l).Nodup) : Calls Tryz.prog 79 #[SPtr g] w (RetB w true) := by
  have hs := iv.smN nm hk0
  have hl : S.l.length ≤ 1000 := by have := nm.len; omega
  have KM := Lib.hid (pMade h)
  have K1 := Lib.hid (fun wx (hb : Below w.heap.size w wx) => (callsIn_wide (n := 3)).1 (pRightNodes_in 3 (Nat.le_refl _) (h.below hb) iv nm hk0 hm))
  have K2 := Lib.hid (fun wx (hb : Below w.heap.size w wx) => (callsIn_wide (n := 3)).1 (pRightNames_in 3 (Nat.le_refl _) (h.below hb) iv nm hk0 hm))
  have K3 := Lib.hid (fun wx (hb : Below w.heap.size w wx) => pRightWays (h.below hb) iv nm hk0 hm)
  have K4 := Lib.hid (fun wx (hb : Below w.heap.size w wx) => pRightRefs (h.below hb) iv.asc hs hl hm hap)
  clear h iv nm hs hl hap
  unfold SPtr at *
  go_enter Tryz.func79, Tryz.ntmps79
  go_wp2_with fail
  refine (KM.out).mono ?_
  rintro e w1 ⟨rfl, hw1⟩
  have b1 := grown_b hw1
  have B1 := Lib.hid b1
  clear hw1 b1
  go_wp2_with fail
  refine (K1.out _ B1.out).mono ?_
  rintro e w2 ⟨rfl, hb2⟩
  have B2 := Lib.hid (B1.out.trans (hb2.mono B1.out.size))
  clear hb2
  go_wp2_with fail
  refine (K2.out _ B2.out).mono ?_
  rintro e w3 ⟨rfl, hb3⟩
  have B3 := Lib.hid (B2.out.trans (hb3.mono B2.out.size))
  clear hb3
  go_wp2_with fail
  refine (K3.out _ B3.out).mono ?_
  rintro e w4 ⟨rfl, hb4⟩
  have B4 := Lib.hid (B3.out.trans (hb4.mono B3.out.size))
  clear hb4
  go_wp2_with fail
  refine (K4.out _ B4.out).mono ?_
  rintro e w5 ⟨rfl, hb5⟩
  have B5 := Lib.hid (B4.out.trans (hb5.mono B4.out.size))
  clear hb5
  go_wp2
  go_ret
  exact ⟨rfl, B5.out⟩
end
end Go.Proofs.YtbejbiogabpmfaaGreat
