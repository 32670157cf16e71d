import Derived.Test.YtbejbiogabpmfaaGreatG38
import Derived.Test.YtbejbiogabpmfaaGreatG09
import Derived.Test.YtbejbiogabpmfaaGreatG29
import Derived.Test.YtbejbiogabpmfaaGreatG01
import Derived.Test.YtbejbiogabpmfaaGreatG17
import Derived.Test.YtbejbiogabpmfaaGreatG30
import Derived.Test.YtbejbiogabpmfaaGreatG36
import Derived.OwnWalkIn
import Derived.OrdersIn
import Derived.Orders

/-! Plainly: a state that effects with refs of their own leave has numbers that are read as they are written. -/
namespace Go.Proofs.YtbejbiogabpmfaaGreat
open Wd Ino Sm
set_option linter.unusedVariables false
def PosR (l : List Nod) : Prop := ∀ x, x < 0 → cR x l = 0
theorem PosR.next {S : Stt} (iv : Inv S) (h : PosR S.l) (e : Eff) {r : Int} (hr : 0 ≤ r) : PosR (nextS S e r).l := fun x hx => by
  have h1 := next_refs iv e r x
  rw [if_neg (by omega), h x hx] at h1
  omega
theorem OneRef.runJ {l : List Dd} : ∀ k, k ≤ l.length → OneRef (k : Int) (runI l k).l
  | 0, _ => OneRef.new
  | k + 1, hk => by
    obtain ⟨d, hd⟩ : ∃ d, l[k]? = some d := ⟨_, List.getElem?_eq_getElem (by omega)⟩
    rw [runI_at hd]
    exact (OneRef.runJ (l := l) k (by omega)).next (Inv.runI l k) _ (by omega)
theorem PosR.runJ {l : List Dd} : ∀ k, k ≤ l.length → PosR (runI l k).l
  | 0, _ => fun x _ => rfl
  | k + 1, hk => by
    obtain ⟨d, hd⟩ : ∃ d, l[k]? = some d := ⟨_, List.getElem?_eq_getElem (by omega)⟩
    rw [runI_at hd]
    exact (PosR.runJ (l := l) k (by omega)).next (Inv.runI l k) _ (by omega)
theorem page_ref {l : List Nod} {n : Nod} {x : Int} (hn : n ∈ l) (hx : x ∈ n.pages) (h0 : x ≠ 0) : cR x l ≠ 0 := by
  rw [← cR_refs]
  intro h
  rw [List.count_eq_zero] at h
  apply h
  unfold refsS
  rw [List.mem_flatMap]
  exact ⟨n, hn, by unfold refsP; rw [List.mem_filter]; exact ⟨hx, by simpa using h0⟩⟩
theorem name_24 {s : ByteArray} (h : nameN s.toList = 0) : 1 ≤ s.size ∧ s.size ≤ 24 := by
  unfold nameN at h
  split at h
  · cases h
  · rename_i hne
    have h0 : s.toList ≠ [] := fun e => hne (.inl e)
    have h1 : 1 ≤ s.size := by
      rw [← size_list]
      cases hc : s.toList with
      | nil => exact absurd hc h0
      | cons a t => simp
    unfold plainN at h
    split at h
    · cases h
    · split at h
      · cases h
      · rename_i h3
        refine ⟨h1, ?_⟩
        rw [← size_list]
        omega
theorem okN.of {S : Stt} {k : Nat} {r : Int} (iv : Inv S) (nm : Num k S) (hk : k ≤ 900) (o : OneRef r S.l) (hr : r ≤ 1000) (ps : PosR S.l) : ∀ n ∈ S.l, okN n := fun n hn => by
  have h := iv.right n hn
  obtain ⟨i1, i2, l1, l2, hkd⟩ := right_ino h
  have hnm := nm.nm n hn
  have hpg : ∀ x ∈ n.pages, okZ x := fun x hx => by
    by_cases h0 : x = 0
    · subst h0; unfold okZ; omega
    · have h1 := page_ref hn hx h0
      unfold okZ
      refine ⟨Int.not_lt.1 fun hlt => h1 (ps x hlt), Int.not_lt.1 fun hlt => h1 (o.2 x (by omega))⟩
  have hne : ∀ e ∈ n.names, entI e := fun e he => by
    obtain ⟨h1, h2, h3⟩ := okE_parts ((iv.names n hn).1 e he)
    obtain ⟨h4, h5⟩ := name_24 h1
    exact ⟨h4, h5, by unfold okZ; omega⟩
  rcases hkd with hkd | hkd
  · obtain ⟨u, _, s0, s1, hp⟩ := right_file h hkd
    refine ⟨?_, ?_, ?_, ?_, ?_, ?_, by omega, hpg, hne⟩
    · unfold okZ; omega
    · unfold okZ; omega
    · unfold okZ; omega
    · unfold okZ; omega
    · unfold okZ; omega
    · have := needP_64 s0 s1; omega
  · obtain ⟨s, hp, _, _, u1, u2⟩ := right_dir h hkd
    refine ⟨?_, ?_, ?_, ?_, ?_, ?_, by omega, hpg, hne⟩
    · unfold okZ; omega
    · unfold okZ; omega
    · unfold okZ; omega
    · unfold okZ; omega
    · unfold okZ; omega
    · rw [hp]; simp
end Go.Proofs.YtbejbiogabpmfaaGreat

/-! The project's image: Need, and how long the words of a state are. -/
namespace Go.Proofs.YtbejbiogabpmfaaGreat
open Wd Ino Sm U Go.RowKit Go.ChangeShapes Go.WideShapes Go.Sort
set_option linter.unusedVariables false
set_option maxRecDepth 100000
theorem namesW_len : ∀ (l : List Ent), (l.flatMap nameW).length = wsum l := by
  intro l
  induction l with
  | nil => rfl
  | cons e l ih =>
    rw [List.flatMap_cons, List.length_append, ih, show wsum (e :: l) = 2 + need e.s.size + wsum l from rfl]
    unfold nameW
    simp only [List.length_append, List.length_cons, List.length_nil, pk_len, bsOf_lenW]
    omega
theorem nodeW_len (n : Nod) : (nodeW n).length = wordsNod n := by
  unfold nodeW hdrZ wordsNod
  simp only [List.length_append, List.length_map, List.length_cons, List.length_nil, namesW_len]
theorem imgW_len (S : Stt) : (imgW S).length = wordsS S.l := by
  unfold imgW wordsS
  simp only [List.length_append, List.length_cons, List.length_nil, List.length_flatMap]
  congr 2
  exact List.map_congr_left (fun n _ => nodeW_len n)
set_option maxHeartbeats 4000000 in
theorem iNeedAll {w : World} {base m g b : Nat} {S : Stt} (h : PF w base m g b S) (hl0 : S.last ≠ 0) : Calls Tryz.prog 27 #[SPtr g] w fun e w' => e = .returned (.int .i64 ((imgW S).length + 1 : Nat)) ∧ Below w.heap.size w w' := by
  have KM := Lib.hid (pMadeI h.p hl0)
  have hw9 := h.words
  have KW := Lib.hid (fun wx (hb : Below w.heap.size w wx) => (callsIn_wide (n := 3)).1 (pWords_in 3 (Nat.le_refl _) (h.p.below hb) h.asc h.sm h.len h.m))
  rw [imgW_len]
  obtain ⟨n, hn⟩ : ∃ n, wordsS S.l = n := ⟨_, rfl⟩
  rw [hn] at KW hw9 ⊢
  unfold SPtr at *
  clear h hl0 hn
  go_enter Tryz.func27, Tryz.ntmps27
  go_wp2_with fail
  refine (KM.out).mono ?_
  rintro e w1 ⟨rfl, hw1⟩
  have hb1 := grown_b hw1
  have B1 := Lib.hid hb1
  have KW1 := Lib.hid (KW.out _ hb1)
  clear hw1 hb1 KM KW
  go_wp2_with fail
  refine (KW1.out).mono ?_
  rintro e w2 ⟨rfl, hb2⟩
  have B2 := Lib.hid (B1.out.trans (hb2.mono B1.out.size))
  clear hb2 KW1
  have ha : wrap64 ((n : Int) + 1) = (n : Int) + 1 := by unfold wrap64; omega
  go_wp2
  go_ret
  exact ⟨by push_cast; rfl, B2.out⟩
end Go.Proofs.YtbejbiogabpmfaaGreat

/-! The project's image: two states that have the same words are the same. -/
namespace Go.Proofs.YtbejbiogabpmfaaGreat
open Wd Ino Sm U
set_option linter.unusedVariables false
end Go.Proofs.YtbejbiogabpmfaaGreat

/-! The image's laws: awake. -/
namespace Go.Proofs.YtbejbiogabpmfaaGreat
open Wd Ino Sm U Go.RowKit Go.ChangeShapes Go.WideShapes Go.Sort
set_option linter.unusedVariables false
set_option maxRecDepth 100000
theorem sealed_row {w : World} {g n : Nat} {t : TypeId} {cs : Array Value} {xs : List Value} (hc : Cells w g t cs) (ht : cs.toList.take n = xs) (hn : xs.length = n) : Row w w.heap.size (some ⟨g, 0, none⟩) n xs := by
  have h1 : n ≤ cs.size := by have := congrArg List.length ht; rw [List.length_take, hn] at this; have h2 : cs.toList.length = cs.size := Array.length_toList; omega
  have h3 := row_take (k := n) (Row.of_cells hc hc.lt) h1
  rw [ht] at h3
  exact h3
theorem imgW_new : imgW newStt = [1, 1, 1, 2, 1, 0, 1, 0, 0] := by decide +kernel
theorem PF.inv {w : World} {base m g b : Nat} {S : Stt} (h : PSt w base m g b S) (iv : Inv S) {k : Nat} (nm : Num k S) (hk : k ≤ 900) (hm : m < 999900) : PF w base m g b S := ⟨h, iv.asc, iv.smN nm hk, by have := nm.len; omega, hm⟩
theorem PF.new {w : World} {base g b : Nat} (P : PSt w base 1 g b newStt) : PF w base 1 g b newStt := PF.inv P Inv.new Num.new (by omega) (by omega)
set_option maxHeartbeats 8000000 in
theorem imAwake_true (w : World) : Calls Tryz.prog 20 #[] w (TrueB w) := by
  have hfol : Tryz.prog.follows .mixedOrders = true := by kernel_rfl
  have KN := Lib.hid (pNew w)
  have KP := Lib.hid (fun (wx : World) (bs g b : Nat) (P : PSt wx bs 1 g b newStt) => iPutAll (PF.new P) (by decide) (by rw [imgW_new]; decide))
  go_enter Tryz.func20, Tryz.ntmps20
  go_wp2_with fail
  refine (KN.out).mono ?_
  rintro e w1 ⟨g, b, rfl, hb1, P1⟩
  have B1 := Lib.hid hb1
  have KP1 := Lib.hid (KP.out _ _ _ _ P1)
  clear hb1 P1 KN KP
  go_wp2_with fail
  refine (KP1.out).mono ?_
  rintro e w2 ⟨g2, cap, cs, rfl, hc2, ht2, hg2, hb2, hl2⟩
  rw [imgW_new] at ht2 hl2 ⊢
  have C2 := Lib.hid hc2; have T2 := Lib.hid ht2; have B2 := Lib.hid (B1.out.trans (hb2.mono B1.out.size)); have L2 := Lib.hid hl2
  have hr2 : Row w2 w2.heap.size (some ⟨g2, 0, none⟩) 9 ([1, 1, 1, 2, 1, 0, 1, 0, 0].map wd) := by
    have h9 : Row w2 w2.heap.size (some ⟨g2, 0, none⟩) 10 (([1, 1, 1, 2, 1, 0, 1, 0, 0] ++ [sum [1, 1, 1, 2, 1, 0, 1, 0, 0]]).map wd) := sealed_row hc2 ht2 rfl
    exact row_but_last h9 rfl
  have R2 := Lib.hid hr2
  have hcap : (9 : Int) ≤ (cap : Int) := by simp at hl2; omega
  clear hc2 ht2 hg2 hb2 hl2 hr2 KP1
  have b3 : Below w2.heap.size w2 (w2.alloc (.cells #[.int .u64 1, .int .u64 1, .int .u64 1, .int .u64 2, .int .u64 1, .int .u64 0, .int .u64 1, .int .u64 0, .int .u64 0] 59)) := below_of_grown (World.grownBy_alloc w2 _ none)
  have hr3 : Row (w2.alloc (.cells #[.int .u64 1, .int .u64 1, .int .u64 1, .int .u64 2, .int .u64 1, .int .u64 0, .int .u64 1, .int .u64 0, .int .u64 0] 59)) (w2.alloc (.cells #[.int .u64 1, .int .u64 1, .int .u64 1, .int .u64 2, .int .u64 1, .int .u64 0, .int .u64 1, .int .u64 0, .int .u64 0] 59)).heap.size (some ⟨w2.heap.size, 0, none⟩) 9 ([1, 1, 1, 2, 1, 0, 1, 0, 0].map wd) := sealed_row (Cells.new w2 59 _) rfl rfl
  have KS := Lib.hid (sameWords_any [1, 1, 1, 2, 1, 0, 1, 0, 0] [1, 1, 1, 2, 1, 0, 1, 0, 0] 9 9 rfl rfl (by omega) _ _ cap 9 _ _ ((R2.out.below b3).more b3.size) hr3)
  have B3 := Lib.hid (B2.out.trans (b3.mono B2.out.size))
  clear b3 hr3
  go_wp2_with fail
  refine (KS.out).mono ?_
  rintro e w4 ⟨rfl, hw4⟩
  have B4 := Lib.hid (B3.out.trans ((grown_b hw4).mono B3.out.size))
  clear hw4 KS
  go_wp2
  go_ret
  exact ⟨rfl, B4.out⟩
end Go.Proofs.YtbejbiogabpmfaaGreat

/-! The document's Same, of states that are the same. -/
namespace Go.Proofs.YtbejbiogabpmfaaGreat
open Wd Ino Sm Go.RowKit Go.ChangeShapes Go.WideShapes Go.Sort
set_option linter.unusedVariables false
set_option maxRecDepth 100000
def SmRel (n : Nat) (w : World) (i : Value) (wr : World) : Prop := ∃ k : Nat, k ≤ n ∧ i = .int .i64 k ∧ ∃ q os, wr = grow (w.drewN q) os
theorem plain_same {n k : Nd} (h : n.plain = k.plain) : nodeEq n k = true := by
  rw [nodeEq_iff]
  exact ⟨congrArg Nod.ino h, congrArg Nod.kind h, congrArg Nod.links h, congrArg Nod.size h, congrArg Nod.up h, congrArg Nod.pages h, congrArg Nod.names h⟩
section
variable {w : World} {base base2 g g2 : Nat} {Ls L2 : List Nd} {v v2 : Value} {S : Stt}
set_option maxHeartbeats 8000000 in
theorem rSameS (h : DSx w base g Ls v S) (h2 : DSx w base2 g2 L2 v2 S) (hlen : Ls.length ≤ 1000) (hs : SmS S.l) : Calls Tryz.prog 41 #[SPtr g, SPtr g2] w (Grows (.bool true) w) := by
  have hfol : Tryz.prog.follows .mixedOrders = true := by kernel_rfl
  have hl2 : L2.length = Ls.length := by rw [← h.len, ← h2.len]
  obtain ⟨A1, c1, rfl, hc1, hF1⟩ := h.form
  obtain ⟨A2, c2, rfl, hc2, hF2⟩ := h2.form
  have HF1 := Lib.hid hF1; have HF2 := Lib.hid hF2
  have H := Lib.hid h; have H2 := Lib.hid h2; have HS := Lib.hid hs; have HLEN := Lib.hid hlen
  have a0 := h.c0; have a1 := h.c1; have b0 := h2.c0; have b1 := h2.c1
  obtain ⟨N, hN⟩ : ∃ N, Ls.length = N := ⟨_, rfl⟩
  rw [hl2] at b0
  rw [hN] at a0 b0 HLEN
  obtain ⟨LA, hLA⟩ : ∃ x, S.last = x := ⟨_, rfl⟩
  rw [hLA] at a1 b1
  have q1 : (LA != LA) = false := by simp
  have q2 : ((N : Int) != (N : Int)) = false := by simp
  have HN := Lib.hid hN; have HL2 := Lib.hid (hl2.trans hN)
  have G0 := Lib.hid (show ∃ q os, w.drew = grow (w.drewN q) os from ⟨1, #[], by rw [grow_empty]; rfl⟩)
  clear h h2 hlen hs hF1 hF2 hc1 hc2 hl2 hN hLA
  unfold SPtr
  go_enter Tryz.func41, Tryz.ntmps41
  go_wp2
  go_region
  have g0 := G0.out
  obtain ⟨w1, hw1⟩ : ∃ w1, w.drew = w1 := ⟨_, rfl⟩
  rw [hw1] at g0 ⊢
  have GW := Lib.hid g0
  have a0 : w1.cell? ⟨g, 0, none⟩ = some (.slice A1 N c1) := by rw [← hw1]; exact a0
  clear g0 hw1
  go_wp2
  go_loopw [33] (fun i wr => SmRel N w i wr) (fun i _ => N - (intOf i).toNat)
  case atStart => exact ⟨0, Nat.zero_le _, rfl, GW.out⟩
  case round =>
    obtain ⟨k, hk, rfl, hg⟩ := hrel
    have hb := grown_b hg
    have HG := Lib.hid hg
    by_cases hlt : k < N
    · obtain ⟨n, hn⟩ : ∃ n, Ls[k]? = some n := ⟨_, List.getElem?_eq_getElem (by have := HN.out; omega)⟩
      obtain ⟨n2, hn2⟩ : ∃ n, L2[k]? = some n := ⟨_, List.getElem?_eq_getElem (by have := HL2.out; omega)⟩
      have hpl : n.plain = n2.plain := by
        have e1 : (Ls.map Nd.plain)[k]? = some n.plain := by rw [List.getElem?_map, hn]; rfl
        have e2 : (L2.map Nd.plain)[k]? = some n2.plain := by rw [List.getElem?_map, hn2]; rfl
        rw [H.out.eq] at e1
        rw [H2.out.eq, e1] at e2
        exact Option.some.inj e2
      have hX := H.out.below hb
      have hY := H2.out.below hb
      obtain ⟨gL, hA1, _, _⟩ := HF1.out k n hn
      obtain ⟨gM, hA2, _, _⟩ := HF2.out k n2 hn2
      subst hA1 hA2
      rw [HN.out] at hX
      have hX' : DSx wr base g Ls (.slice (some ⟨gL, 0, none⟩) Ls.length c1) S := by rw [HN.out]; exact hX
      have hxc := hX'.row_cells hn
      have hyc := hY.row_cells hn2
      have hsm : SmN n.plain := HS.out _ (by rw [← H.out.eq]; exact List.mem_map_of_mem (List.mem_of_getElem? hn))
      have o1 := hX.own n (List.mem_of_getElem? hn)
      have o2 := hY.own n2 (List.mem_of_getElem? hn2)
      have KN := Lib.hid (fun n' os => Grows.inAt (fun n' os => rSame n n2 (grow (wr.drewN n') os) ((o1.below (below_grow' wr n' os)).in_) ((o2.below (below_grow' wr n' os)).in_) hsm.p (Nat.le_trans hsm.q (by decide))) n' os)
      rw [plain_same hpl] at KN
      have hlt2 : (k : Int) < (N : Int) := Int.ofNat_lt.2 hlt
      have hl1 : gL < wr.heap.size := World.block_lt_of_cell? _ _ (hxc 0 _ rfl).1
      have hl2 : gM < wr.heap.size := World.block_lt_of_cell? _ _ (hyc 0 _ rfl).1
      obtain ⟨J, ki, l', t, u, A0, ac, P, B0, bc, Nn⟩ := n
      obtain ⟨J2, ki2, l2, t2, u2, A2', ac2, P2, B2, bc2, N2⟩ := n2
      unfold Nd.val at KN
      dsimp only at KN
      have x0 := cell_grown (a := ⟨gL, k * 7, none⟩) hl1 (by have := (hxc 0 _ rfl).1; rwa [Nat.add_zero] at this)
      have x1 := cell_grown (a := ⟨gL, k * 7 + 1, none⟩) hl1 (hxc 1 _ rfl).1
      have x2 := cell_grown (a := ⟨gL, k * 7 + 2, none⟩) hl1 (hxc 2 _ rfl).1
      have x3 := cell_grown (a := ⟨gL, k * 7 + 3, none⟩) hl1 (hxc 3 _ rfl).1
      have x4 := cell_grown (a := ⟨gL, k * 7 + 4, none⟩) hl1 (hxc 4 _ rfl).1
      have x5 := cell_grown (a := ⟨gL, k * 7 + 5, none⟩) hl1 (hxc 5 _ rfl).1
      have x6 := cell_grown (a := ⟨gL, k * 7 + 6, none⟩) hl1 (hxc 6 _ rfl).1
      have y0 := cell_grown (a := ⟨gM, k * 7, none⟩) hl2 (by have := (hyc 0 _ rfl).1; rwa [Nat.add_zero] at this)
      have y1 := cell_grown (a := ⟨gM, k * 7 + 1, none⟩) hl2 (hyc 1 _ rfl).1
      have y2 := cell_grown (a := ⟨gM, k * 7 + 2, none⟩) hl2 (hyc 2 _ rfl).1
      have y3 := cell_grown (a := ⟨gM, k * 7 + 3, none⟩) hl2 (hyc 3 _ rfl).1
      have y4 := cell_grown (a := ⟨gM, k * 7 + 4, none⟩) hl2 (hyc 4 _ rfl).1
      have y5 := cell_grown (a := ⟨gM, k * 7 + 5, none⟩) hl2 (hyc 5 _ rfl).1
      have y6 := cell_grown (a := ⟨gM, k * 7 + 6, none⟩) hl2 (hyc 6 _ rfl).1
      have d0 := cell_grown (a := ⟨g, 0, none⟩) hX.cells.lt hX.c0
      have d1 := cell_grown (a := ⟨g2, 0, none⟩) hY.cells.lt hY.c0
      rw [HL2.out] at d1
      have HLT := Lib.hid hlt
      have hkb : k ≤ 1000 := by have := HLEN.out; omega
      clear hg hb hn hn2 hpl hX hX' hY hxc hyc hsm o1 o2 hl1 hl2 hlt hk
      go_upto_region 6 with fail
      refine wp_region_quiet_grown hfol (by kernel_rfl) ?_
      repeat (go_big_quiet_step (first | (go_at_call 73; (with_reducible exact KN.out _ _))))
      refine wpQuiet_nil ?_
      intro _ hw'
      obtain ⟨⟨nr, osr⟩, hw''⟩ := hw'
      subst hw''
      have G6 := Lib.hid (grow_trans HG.out (show ∃ q os, grow (wr.drewN nr) osr = grow (wr.drewN q) os from ⟨nr, osr, rfl⟩))
      obtain ⟨w6, hw6⟩ : ∃ w6, grow (wr.drewN nr) osr = w6 := ⟨_, rfl⟩
      dsimp only
      rw [hw6] at G6 ⊢
      clear hw6 x0 x1 x2 x3 x4 x5 x6 y0 y1 y2 y3 y4 y5 y6 d0 d1 KN
      go_wp2
      go_roundw
      case rel => exact ⟨k + 1, HLT.out, by go_num, G6.out⟩
      case measure => simp [intOf]; have := HLT.out; omega
    · obtain rfl : k = N := by omega
      clear hlt hk hg hb
      go_wp2
      go_ret
      exact ⟨rfl, HG.out⟩
end
end Go.Proofs.YtbejbiogabpmfaaGreat

/-! The document's Same, of any two states. -/
namespace Go.Proofs.YtbejbiogabpmfaaGreat
open Wd Ino Sm Go.RowKit Go.ChangeShapes Go.WideShapes Go.Sort
set_option linter.unusedVariables false
set_option maxRecDepth 100000
def SaRel (Ls L2 : List Nd) (n : Nat) (w : World) (i : Value) (wr : World) : Prop := ∃ k : Nat, k ≤ n ∧ i = .int .i64 k ∧ (∀ j, j < k → (Ls.map Nd.plain)[j]? = (L2.map Nd.plain)[j]?) ∧ ∃ q os, wr = grow (w.drewN q) os
section
variable {w : World} {base base2 g g2 : Nat} {Ls L2 : List Nd} {v v2 : Value} {S T : Stt}
end
end Go.Proofs.YtbejbiogabpmfaaGreat

/-! The law ImageApart. -/
namespace Go.Proofs.YtbejbiogabpmfaaGreat
open Wd Ino Sm U Go.RowKit Go.ChangeShapes Go.WideShapes Go.Sort
set_option linter.unusedVariables false
set_option maxRecDepth 100000
theorem flat_most {α : Type} {f : α → List Nat} {B : Nat} : ∀ (l : List α), (∀ x ∈ l, (f x).length ≤ B) → (l.flatMap f).length ≤ l.length * B := by
  intro l
  induction l with
  | nil => intro _; simp
  | cons a l ih =>
    intro h
    have h1 := h a (by simp)
    have h2 := ih (fun x hx => h x (by simp [hx]))
    rw [List.flatMap_cons, List.length_append, List.length_cons, Nat.add_mul]
    omega
theorem imgW_most {S : Stt} {k : Nat} (hs : SmS S.l) (hn : Num k S) (hk : k ≤ 30) : (imgW S).length ≤ 200000 := by
  have h1 : ∀ n ∈ S.l, (nodeW n).length ≤ 5000 := by
    intro n hm
    have a1 := (hs n hm).p
    have a2 := hn.nm n hm
    have a3 : (n.names.flatMap nameW).length ≤ n.names.length * 127 := flat_most _ (fun e he => by
      have := (hs n hm).sz e he
      unfold nameW
      rw [List.length_append, List.length_append, pk_len, bsOf_lenW]
      unfold need
      simp
      omega)
    have a4 : n.names.length * 127 ≤ 30 * 127 := Nat.mul_le_mul_right _ (by omega)
    unfold nodeW hdrZ
    simp only [List.length_append, List.length_map, List.length_cons, List.length_nil]
    omega
  have h2 := flat_most S.l h1
  have h3 := hn.len
  have h4 : S.l.length * 5000 ≤ 31 * 5000 := Nat.mul_le_mul_right _ (by omega)
  unfold imgW
  simp only [List.length_append, List.length_cons, List.length_nil]
  omega
theorem inv_last {S : Stt} (h : Inv S) : i64R S.last ∧ S.last ≠ 0 := by
  obtain ⟨n, hn, _⟩ := h.root
  have h1 := h.last n (atS_mem hn)
  have h2 := atS_ino hn
  have h3 := h.most
  unfold i64R
  constructor
  · constructor <;> omega
  · omega
end Go.Proofs.YtbejbiogabpmfaaGreat

/-! A region that draws its order, in a loop's round, walked as anywhere. -/
namespace Go.Proofs.YtbejbiogabpmfaaGreat
open Go.RowKit
set_option linter.unusedVariables false
def OnlyN (R : Act → World → Prop) : Exit → Act → World → Prop
  | .normal, a, w => R a w
  | .ret, _, _ => False
  | .exit _, _, _ => False
  | .goto _, _, _ => False
  | .panic _, _, _ => False
  | .outgrown, _, _ => False
def Oper.plainB (o : Oper) : Bool := match o.op with
  | .defer _ => false
  | _ => true
theorem op_in {l n : Nat} {P : Program} {o : Oper} {a : Act} {w : World} {K K' R : Act → World → Prop} {Q : Exit → Act → World → Prop} (hd : Oper.plainB o = true) (hK : ∀ a w, K a w → K' a w)
    (h : o.wp P a w K (OnlyN R)) : o.wpIn (Fence.wide.inRound l) n P a w K' Q := by
  refine ⟨fun _ _ => trivial, ?_⟩
  rw [Oper.semAt_plain (Fence.wide.inRound l) _ _ (fun c hc => by unfold Oper.plainB at hd; rw [hc] at hd; cases hd)]
  unfold Oper.wp at h
  generalize (execOp a.eval o).run P w = r at h ⊢
  cases r with
  | ok v w' =>
    cases v <;> first
      | exact hK _ _ h
      | exact h.elim
      | (refine ⟨by intro x; simp [Fence.wide] at x, callsIn_wide.2 (Calls.mono (R' := _) h fun e w' he => ?_)⟩
         cases e with
         | returned v => exact hK _ _ he
         | panicked c => exact he.elim
         | outgrown => obtain ⟨_, _, hx⟩ := he; exact hx.elim)
      | (refine ⟨by intro x; simp [Fence.wide] at x, fun c cs _ => ?_⟩
         obtain ⟨v, w2, r, s⟩ := (h : Rows P _ _ w' _) c cs
         exact ⟨v, w2, hK _ _ r, stepsIn_wide.2 s⟩)
  | halt e w' =>
    cases e <;> first | exact h.elim | exact (h : False).elim
theorem anyIn_of_any {l n : Nat} {P : Program} {md : Region.Mode} {ops : Array Oper} {R : Act → World → Prop} {Q : Exit → Act → World → Prop} (hd : ops.all Oper.plainB = true) (hR : ∀ a w, R a w → Q .normal a w) :
    ∀ (fuel : Nat) (listed : Array Bool) (a : Act) (w : World), wpAny P md ops (OnlyN R) fuel listed a w → wpAnyIn (Fence.wide.inRound l) n P md ops Q fuel listed a w
  | 0, listed, a, w, h => ⟨h.1, hR _ _ h.2⟩
  | fuel + 1, listed, a, w, h => ⟨fun h0 => hR _ _ (h.1 h0), fun i hi => by
      have h1 := h.2 i hi
      have ih := anyIn_of_any (l := l) (n := n) (P := P) (md := md) hd hR fuel (listed.setIfInBounds i true)
      unfold wpOp at h1
      unfold wpOpIn
      cases ho : ops[i]? with
      | none => rw [ho] at h1; exact ih _ _ h1
      | some o =>
        rw [ho] at h1
        dsimp only at h1 ⊢
        split
        · rename_i hw
          rw [if_pos hw] at h1
          rcases h1 with h1 | ⟨_, _, _, hx⟩
          · exact op_in (by rw [Array.all_eq_true'] at hd; exact hd o (Array.mem_of_getElem? ho)) ih h1
          · exact hx.elim
        · rename_i hw
          rw [if_neg hw] at h1
          exact ⟨fun _ _ => trivial, ih _ _ h1⟩⟩
theorem region_in {l n id : Nat} {P : Program} {ops : Array Oper} {R : Act → World → Prop} {Q : Exit → Act → World → Prop} {a : Act} {w : World} (hm : P.follows .mixedOrders = true) (hd : ops.all Oper.plainB = true) (hR : ∀ a w, R a w → Q .normal a w)
    (h : wpAny P .any ops (OnlyN R) ops.size (Array.replicate ops.size false) a w.drew) : (Code.region id ops true).wpIn (Fence.wide.inRound l) n P Q a w :=
  wpIn_region_any hm (anyIn_of_any hd hR _ _ _ _ h)
end Go.Proofs.YtbejbiogabpmfaaGreat
