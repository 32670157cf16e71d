import Derived.Test.YtamndllolppmoaaGreatH05
import Derived.Test.YtamndllolppmoaaGreatG27
import Derived.Test.YtamndllolppmoaaGreatH00
import Derived.Test.YtamndllolppmoaaGreatG07
import Derived.Test.YtamndllolppmoaaGreatG16

/-! The project's image: two states that have the same words are the same. -/
namespace Go.Proofs.YtamndllolppmoaaGreat
open Wd Ino Sm U
set_option linter.unusedVariables false
theorem uw_inj {a b : Int} (ha : i64R a) (hb : i64R b) (h : uw a = uw b) : a = b := by
  unfold uw at h; unfold i64R at ha hb; omega
theorem uws_inj : ∀ {l m : List Int}, (∀ x ∈ l, i64R x) → (∀ x ∈ m, i64R x) → l.map uw = m.map uw → l = m := by
  intro l
  induction l with
  | nil => intro m _ _ h; cases m with
    | nil => rfl
    | cons y m => simp at h
  | cons x l ih => intro m h1 h2 h; cases m with
    | nil => simp at h
    | cons y m =>
      rw [List.map_cons, List.map_cons] at h
      injection h with h3 h4
      rw [uw_inj (h1 x (by simp)) (h2 y (by simp)) h3, ih (fun z hz => h1 z (by simp [hz])) (fun z hz => h2 z (by simp [hz])) h4]
theorem bsOfW_inj {s t : ByteArray} (h : bsOfW s = bsOfW t) : s = t := by
  unfold bsOfW at h
  have h1 : s.data.toList = t.data.toList := (List.map_inj_right (fun x y e => UInt8.toNat_inj.1 e)).1 h
  have h2 : s.data = t.data := Array.ext' h1
  cases s; cases t; simp only at h2; rw [h2]
theorem nameW_pre {e f : Ent} {r q : List Nat} (he : i64R e.n) (hf : i64R f.n) (h : nameW e ++ r = nameW f ++ q) : e = f ∧ r = q := by
  unfold nameW at h
  simp only [List.append_assoc, List.cons_append, List.nil_append] at h
  injection h with h1 h2
  have hl : (pk (bsOfW e.s)).length = (pk (bsOfW f.s)).length := by rw [pk_len, pk_len, bsOf_lenW, bsOf_lenW, h1]
  obtain ⟨h3, h4⟩ := List.append_inj h2 hl
  injection h4 with h5 h6
  have h7 := bytes_pk (bsOf_bytesW e.s)
  have h8 := bytes_pk (bsOf_bytesW f.s)
  rw [bsOf_lenW] at h7 h8
  rw [← h1, ← h3, h7] at h8
  have h9 := bsOfW_inj h8
  have h10 := uw_inj he hf h5
  obtain ⟨s, n⟩ := e
  obtain ⟨s', n'⟩ := f
  simp only at h9 h10
  subst h9 h10
  exact ⟨rfl, h6⟩
theorem namesW_pre : ∀ {l m : List Ent} {r q : List Nat}, l.length = m.length → (∀ e ∈ l, i64R e.n) → (∀ e ∈ m, i64R e.n) → l.flatMap nameW ++ r = m.flatMap nameW ++ q → l = m ∧ r = q := by
  intro l
  induction l with
  | nil => intro m r q hl _ _ h; cases m with
    | nil => exact ⟨rfl, by simpa using h⟩
    | cons y m => simp at hl
  | cons x l ih => intro m r q hl h1 h2 h; cases m with
    | nil => simp at hl
    | cons y m =>
      rw [List.flatMap_cons, List.flatMap_cons, List.append_assoc, List.append_assoc] at h
      obtain ⟨rfl, h3⟩ := nameW_pre (h1 x (by simp)) (h2 y (by simp)) h
      obtain ⟨rfl, h4⟩ := ih (by simpa using hl) (fun z hz => h1 z (by simp [hz])) (fun z hz => h2 z (by simp [hz])) h3
      exact ⟨rfl, h4⟩
theorem nodeW_pre {n k : Nod} {r q : List Nat} (hn : SmN n) (hk : SmN k) (h : nodeW n ++ r = nodeW k ++ q) : n = k ∧ r = q := by
  unfold nodeW at h
  rw [List.append_assoc, List.append_assoc, List.append_assoc, List.append_assoc] at h
  obtain ⟨h1, h2⟩ := List.append_inj h (by unfold hdrZ; simp)
  unfold hdrZ at h1
  simp only [List.map_cons, List.map_nil, List.cons.injEq, and_true] at h1
  obtain ⟨a1, a2, a3, a4, a5, a6, a7⟩ := h1
  have p1 := hn.p; have p2 := hk.p; have q1 := hn.q; have q2 := hk.q
  rw [uw_nat (by omega), uw_nat (by omega)] at a6 a7
  obtain ⟨h3, h4⟩ := List.append_inj h2 (by simpa using a6)
  obtain ⟨h5, h6⟩ := namesW_pre a7 hn.nm hk.nm h4
  have b1 := uw_inj hn.ino hk.ino a1
  have b2 := uw_inj hn.kind hk.kind a2
  have b3 := uw_inj hn.links hk.links a3
  have b4 := uw_inj hn.size hk.size a4
  have b5 := uw_inj hn.up hk.up a5
  have b6 := uws_inj hn.pg hk.pg h3
  obtain ⟨x1, x2, x3, x4, x5, x6, x7⟩ := n
  obtain ⟨y1, y2, y3, y4, y5, y6, y7⟩ := k
  simp only at b1 b2 b3 b4 b5 b6 h5
  subst b1 b2 b3 b4 b5 b6 h5
  exact ⟨rfl, h6⟩
theorem nodesW_pre : ∀ {l m : List Nod} {r q : List Nat}, l.length = m.length → SmS l → SmS m → l.flatMap nodeW ++ r = m.flatMap nodeW ++ q → l = m ∧ r = q := by
  intro l
  induction l with
  | nil => intro m r q hl _ _ h; cases m with
    | nil => exact ⟨rfl, by simpa using h⟩
    | cons y m => simp at hl
  | cons x l ih => intro m r q hl h1 h2 h; cases m with
    | nil => simp at hl
    | cons y m =>
      rw [List.flatMap_cons, List.flatMap_cons, List.append_assoc, List.append_assoc] at h
      obtain ⟨rfl, h3⟩ := nodeW_pre (h1 x (by simp)) (h2 y (by simp)) h
      obtain ⟨rfl, h4⟩ := ih (by simpa using hl) (fun z hz => h1 z (by simp [hz])) (fun z hz => h2 z (by simp [hz])) h3
      exact ⟨rfl, h4⟩
theorem imgW_inj {S T : Stt} (hS : SmS S.l) (hT : SmS T.l) (h1 : i64R S.last) (h2 : i64R T.last) (h : imgW S = imgW T) : S = T := by
  unfold imgW at h
  simp only [List.cons_append, List.nil_append] at h
  injection h with h3 h4
  injection h4 with h5 h6
  have h7 := (nodesW_pre (r := []) (q := []) h5 hS hT (by simpa using h6)).1
  have h8 := uw_inj h1 h2 h3
  obtain ⟨l, a⟩ := S
  obtain ⟨m, b⟩ := T
  simp only at h7 h8
  subst h7 h8
  rfl
end Go.Proofs.YtamndllolppmoaaGreat

/-! The image's laws: awake. -/
namespace Go.Proofs.YtamndllolppmoaaGreat
open Wd Ino Sm U Go.RowKit Go.ChangeShapes Go.WideShapes Go.Sort
set_option linter.unusedVariables false
set_option maxRecDepth 100000
theorem sealed_row {w : World} {g n : Nat} {t : TypeId} {cs : Array Value} {xs : List Value} (hc : Cells w g t cs) (ht : cs.toList.take n = xs) (hn : xs.length = n) : Row w w.heap.size (some ⟨g, 0, none⟩) n xs := by
  have h1 : n ≤ cs.size := by have := congrArg List.length ht; rw [List.length_take, hn] at this; have h2 : cs.toList.length = cs.size := Array.length_toList; omega
  have h3 := row_take (k := n) (Row.of_cells hc hc.lt) h1
  rw [ht] at h3
  exact h3
theorem imgW_new : imgW newStt = [1, 1, 1, 2, 1, 0, 1, 0, 0] := by decide +kernel
theorem PF.inv {w : World} {base m g b : Nat} {S : Stt} (h : PSt w base m g b S) (iv : Inv S) {k : Nat} (nm : Num k S) (hk : k ≤ 900) (hm : m < 999900) : PF w base m g b S := ⟨h, iv.asc, iv.smN nm hk, by have := nm.len; omega, hm⟩
theorem PF.new {w : World} {base g b : Nat} (P : PSt w base 1 g b newStt) : PF w base 1 g b newStt := PF.inv P Inv.new Num.new (by omega) (by omega)
set_option maxHeartbeats 8000000 in
theorem imAwake_true (w : World) : Calls Tryz.prog 24 #[] w (TrueB w) := by
  have hfol : Tryz.prog.follows .mixedOrders = true := by kernel_rfl
  have KN := Lib.hid (pNew w)
  have KP := Lib.hid (fun (wx : World) (bs g b : Nat) (P : PSt wx bs 1 g b newStt) => iPutAll (PF.new P) (by decide) (by rw [imgW_new]; decide))
  go_enter Tryz.func24, Tryz.ntmps24
  go_wp2_with fail
  refine (KN.out).mono ?_
  rintro e w1 ⟨g, b, rfl, hb1, P1⟩
  have B1 := Lib.hid hb1
  have KP1 := Lib.hid (KP.out _ _ _ _ P1)
  clear hb1 P1 KN KP
  go_wp2_with fail
  refine (KP1.out).mono ?_
  rintro e w2 ⟨g2, cap, cs, rfl, hc2, ht2, hg2, hb2, hl2⟩
  rw [imgW_new] at ht2 hl2 ⊢
  have C2 := Lib.hid hc2; have T2 := Lib.hid ht2; have B2 := Lib.hid (B1.out.trans (hb2.mono B1.out.size)); have L2 := Lib.hid hl2
  have hr2 : Row w2 w2.heap.size (some ⟨g2, 0, none⟩) 9 ([1, 1, 1, 2, 1, 0, 1, 0, 0].map wd) := by
    have h9 : Row w2 w2.heap.size (some ⟨g2, 0, none⟩) 10 (([1, 1, 1, 2, 1, 0, 1, 0, 0] ++ [sum [1, 1, 1, 2, 1, 0, 1, 0, 0]]).map wd) := sealed_row hc2 ht2 rfl
    exact row_but_last h9 rfl
  have R2 := Lib.hid hr2
  have hcap : (9 : Int) ≤ (cap : Int) := by simp at hl2; omega
  clear hc2 ht2 hg2 hb2 hl2 hr2 KP1
  have b3 : Below w2.heap.size w2 (w2.alloc (.cells #[.int .u64 1, .int .u64 1, .int .u64 1, .int .u64 2, .int .u64 1, .int .u64 0, .int .u64 1, .int .u64 0, .int .u64 0] 69)) := below_of_grown (World.grownBy_alloc w2 _ none)
  have hr3 : Row (w2.alloc (.cells #[.int .u64 1, .int .u64 1, .int .u64 1, .int .u64 2, .int .u64 1, .int .u64 0, .int .u64 1, .int .u64 0, .int .u64 0] 69)) (w2.alloc (.cells #[.int .u64 1, .int .u64 1, .int .u64 1, .int .u64 2, .int .u64 1, .int .u64 0, .int .u64 1, .int .u64 0, .int .u64 0] 69)).heap.size (some ⟨w2.heap.size, 0, none⟩) 9 ([1, 1, 1, 2, 1, 0, 1, 0, 0].map wd) := sealed_row (Cells.new w2 69 _) rfl rfl
  have KS := Lib.hid (sameWords_any [1, 1, 1, 2, 1, 0, 1, 0, 0] [1, 1, 1, 2, 1, 0, 1, 0, 0] 9 9 rfl rfl (by omega) _ _ cap 9 _ _ ((R2.out.below b3).more b3.size) hr3)
  have B3 := Lib.hid (B2.out.trans (b3.mono B2.out.size))
  clear b3 hr3
  go_wp2_with fail
  refine (KS.out).mono ?_
  rintro e w4 ⟨rfl, hw4⟩
  have B4 := Lib.hid (B3.out.trans ((grown_b hw4).mono B3.out.size))
  clear hw4 KS
  go_wp2
  go_ret
  exact ⟨rfl, B4.out⟩
end Go.Proofs.YtamndllolppmoaaGreat

/-! The document's Same, of states that are the same. -/
namespace Go.Proofs.YtamndllolppmoaaGreat
open Wd Ino Sm Go.RowKit Go.ChangeShapes Go.WideShapes Go.Sort
set_option linter.unusedVariables false
set_option maxRecDepth 100000
def SmRel (n : Nat) (w : World) (i : Value) (wr : World) : Prop := ∃ k : Nat, k ≤ n ∧ i = .int .i64 k ∧ ∃ q os, wr = grow (w.drewN q) os
theorem plain_same {n k : Nd} (h : n.plain = k.plain) : nodeEq n k = true := by
  rw [nodeEq_iff]
  exact ⟨congrArg Nod.ino h, congrArg Nod.kind h, congrArg Nod.links h, congrArg Nod.size h, congrArg Nod.up h, congrArg Nod.pages h, congrArg Nod.names h⟩
section
variable {w : World} {base base2 g g2 : Nat} {Ls L2 : List Nd} {v v2 : Value} {S : Stt}
set_option maxHeartbeats 8000000 in
theorem rSameS (h : DSx w base g Ls v S) (h2 : DSx w base2 g2 L2 v2 S) (hlen : Ls.length ≤ 1000) (hs : SmS S.l) : Calls Tryz.prog 36 #[SPtr g, SPtr g2] w (Grows (.bool true) w) := by
  have hfol : Tryz.prog.follows .mixedOrders = true := by kernel_rfl
  have hl2 : L2.length = Ls.length := by rw [← h.len, ← h2.len]
  obtain ⟨A1, c1, rfl, hc1, hF1⟩ := h.form
  obtain ⟨A2, c2, rfl, hc2, hF2⟩ := h2.form
  have HF1 := Lib.hid hF1; have HF2 := Lib.hid hF2
  have H := Lib.hid h; have H2 := Lib.hid h2; have HS := Lib.hid hs; have HLEN := Lib.hid hlen
  have a0 := h.c0; have a1 := h.c1; have b0 := h2.c0; have b1 := h2.c1
  obtain ⟨N, hN⟩ : ∃ N, Ls.length = N := ⟨_, rfl⟩
  rw [hl2] at b0
  rw [hN] at a0 b0 HLEN
  obtain ⟨LA, hLA⟩ : ∃ x, S.last = x := ⟨_, rfl⟩
  rw [hLA] at a1 b1
  have q1 : (LA != LA) = false := by simp
  have q2 : ((N : Int) != (N : Int)) = false := by simp
  have HN := Lib.hid hN; have HL2 := Lib.hid (hl2.trans hN)
  have G0 := Lib.hid (show ∃ q os, w.drew = grow (w.drewN q) os from ⟨1, #[], by rw [grow_empty]; rfl⟩)
  clear h h2 hlen hs hF1 hF2 hc1 hc2 hl2 hN hLA
  unfold SPtr
  go_enter Tryz.func36, Tryz.ntmps36
  go_wp2
  go_region
  have g0 := G0.out
  obtain ⟨w1, hw1⟩ : ∃ w1, w.drew = w1 := ⟨_, rfl⟩
  rw [hw1] at g0 ⊢
  have GW := Lib.hid g0
  have a0 : w1.cell? ⟨g, 0, none⟩ = some (.slice A1 N c1) := by rw [← hw1]; exact a0
  clear g0 hw1
  go_wp2
  go_loopw [33] (fun i wr => SmRel N w i wr) (fun i _ => N - (intOf i).toNat)
  case atStart => exact ⟨0, Nat.zero_le _, rfl, GW.out⟩
  case round =>
    obtain ⟨k, hk, rfl, hg⟩ := hrel
    have hb := grown_b hg
    have HG := Lib.hid hg
    by_cases hlt : k < N
    · obtain ⟨n, hn⟩ : ∃ n, Ls[k]? = some n := ⟨_, List.getElem?_eq_getElem (by have := HN.out; omega)⟩
      obtain ⟨n2, hn2⟩ : ∃ n, L2[k]? = some n := ⟨_, List.getElem?_eq_getElem (by have := HL2.out; omega)⟩
      have hpl : n.plain = n2.plain := by
        have e1 : (Ls.map Nd.plain)[k]? = some n.plain := by rw [List.getElem?_map, hn]; rfl
        have e2 : (L2.map Nd.plain)[k]? = some n2.plain := by rw [List.getElem?_map, hn2]; rfl
        rw [H.out.eq] at e1
        rw [H2.out.eq, e1] at e2
        exact Option.some.inj e2
      have hX := H.out.below hb
      have hY := H2.out.below hb
      obtain ⟨gL, hA1, _, _⟩ := HF1.out k n hn
      obtain ⟨gM, hA2, _, _⟩ := HF2.out k n2 hn2
      subst hA1 hA2
      rw [HN.out] at hX
      have hX' : DSx wr base g Ls (.slice (some ⟨gL, 0, none⟩) Ls.length c1) S := by rw [HN.out]; exact hX
      have hxc := hX'.row_cells hn
      have hyc := hY.row_cells hn2
      have hsm : SmN n.plain := HS.out _ (by rw [← H.out.eq]; exact List.mem_map_of_mem (List.mem_of_getElem? hn))
      have o1 := hX.own n (List.mem_of_getElem? hn)
      have o2 := hY.own n2 (List.mem_of_getElem? hn2)
      have KN := Lib.hid (fun n' os => Grows.inAt (fun n' os => rSame n n2 (grow (wr.drewN n') os) ((o1.below (below_grow' wr n' os)).in_) ((o2.below (below_grow' wr n' os)).in_) hsm.p (Nat.le_trans hsm.q (by decide))) n' os)
      rw [plain_same hpl] at KN
      have hlt2 : (k : Int) < (N : Int) := Int.ofNat_lt.2 hlt
      have hl1 : gL < wr.heap.size := World.block_lt_of_cell? _ _ (hxc 0 _ rfl).1
      have hl2 : gM < wr.heap.size := World.block_lt_of_cell? _ _ (hyc 0 _ rfl).1
      obtain ⟨J, ki, l', t, u, A0, ac, P, B0, bc, Nn⟩ := n
      obtain ⟨J2, ki2, l2, t2, u2, A2', ac2, P2, B2, bc2, N2⟩ := n2
      unfold Nd.val at KN
      dsimp only at KN
      have x0 := cell_grown (a := ⟨gL, k * 7, none⟩) hl1 (by have := (hxc 0 _ rfl).1; rwa [Nat.add_zero] at this)
      have x1 := cell_grown (a := ⟨gL, k * 7 + 1, none⟩) hl1 (hxc 1 _ rfl).1
      have x2 := cell_grown (a := ⟨gL, k * 7 + 2, none⟩) hl1 (hxc 2 _ rfl).1
      have x3 := cell_grown (a := ⟨gL, k * 7 + 3, none⟩) hl1 (hxc 3 _ rfl).1
      have x4 := cell_grown (a := ⟨gL, k * 7 + 4, none⟩) hl1 (hxc 4 _ rfl).1
      have x5 := cell_grown (a := ⟨gL, k * 7 + 5, none⟩) hl1 (hxc 5 _ rfl).1
      have x6 := cell_grown (a := ⟨gL, k * 7 + 6, none⟩) hl1 (hxc 6 _ rfl).1
      have y0 := cell_grown (a := ⟨gM, k * 7, none⟩) hl2 (by have := (hyc 0 _ rfl).1; rwa [Nat.add_zero] at this)
      have y1 := cell_grown (a := ⟨gM, k * 7 + 1, none⟩) hl2 (hyc 1 _ rfl).1
      have y2 := cell_grown (a := ⟨gM, k * 7 + 2, none⟩) hl2 (hyc 2 _ rfl).1
      have y3 := cell_grown (a := ⟨gM, k * 7 + 3, none⟩) hl2 (hyc 3 _ rfl).1
      have y4 := cell_grown (a := ⟨gM, k * 7 + 4, none⟩) hl2 (hyc 4 _ rfl).1
      have y5 := cell_grown (a := ⟨gM, k * 7 + 5, none⟩) hl2 (hyc 5 _ rfl).1
      have y6 := cell_grown (a := ⟨gM, k * 7 + 6, none⟩) hl2 (hyc 6 _ rfl).1
      have d0 := cell_grown (a := ⟨g, 0, none⟩) hX.cells.lt hX.c0
      have d1 := cell_grown (a := ⟨g2, 0, none⟩) hY.cells.lt hY.c0
      rw [HL2.out] at d1
      have HLT := Lib.hid hlt
      have hkb : k ≤ 1000 := by have := HLEN.out; omega
      clear hg hb hn hn2 hpl hX hX' hY hxc hyc hsm o1 o2 hl1 hl2 hlt hk
      go_upto_region 6 with fail
      refine wp_region_quiet_grown hfol (by kernel_rfl) ?_
      repeat (go_big_quiet_step (first | (go_at_call 68; (with_reducible exact KN.out _ _))))
      refine wpQuiet_nil ?_
      intro _ hw'
      obtain ⟨⟨nr, osr⟩, hw''⟩ := hw'
      subst hw''
      have G6 := Lib.hid (grow_trans HG.out (show ∃ q os, grow (wr.drewN nr) osr = grow (wr.drewN q) os from ⟨nr, osr, rfl⟩))
      obtain ⟨w6, hw6⟩ : ∃ w6, grow (wr.drewN nr) osr = w6 := ⟨_, rfl⟩
      dsimp only
      rw [hw6] at G6 ⊢
      clear hw6 x0 x1 x2 x3 x4 x5 x6 y0 y1 y2 y3 y4 y5 y6 d0 d1 KN
      go_wp2
      go_roundw
      case rel => exact ⟨k + 1, HLT.out, by go_num, G6.out⟩
      case measure => simp [intOf]; have := HLT.out; omega
    · obtain rfl : k = N := by omega
      clear hlt hk hg hb
      go_wp2
      go_ret
      exact ⟨rfl, HG.out⟩
end
end Go.Proofs.YtamndllolppmoaaGreat

/-! The document's Same, of any two states. -/
namespace Go.Proofs.YtamndllolppmoaaGreat
open Wd Ino Sm Go.RowKit Go.ChangeShapes Go.WideShapes Go.Sort
set_option linter.unusedVariables false
set_option maxRecDepth 100000
def SaRel (Ls L2 : List Nd) (n : Nat) (w : World) (i : Value) (wr : World) : Prop := ∃ k : Nat, k ≤ n ∧ i = .int .i64 k ∧ (∀ j, j < k → (Ls.map Nd.plain)[j]? = (L2.map Nd.plain)[j]?) ∧ ∃ q os, wr = grow (w.drewN q) os
theorem plain_diff {n k : Nd} (h : n.plain ≠ k.plain) : nodeEq n k = false := by
  rcases hh : nodeEq n k with _ | _
  · rfl
  · exfalso
    rw [nodeEq_iff] at hh
    obtain ⟨h1, h2, h3, h4, h5, h6, h7⟩ := hh
    apply h
    unfold Nd.plain
    rw [h1, h2, h3, h4, h5, h6, h7]
section
variable {w : World} {base base2 g g2 : Nat} {Ls L2 : List Nd} {v v2 : Value} {S T : Stt}
set_option maxHeartbeats 8000000 in
theorem rSameA (h : DSx w base g Ls v S) (h2 : DSx w base2 g2 L2 v2 T) (hlen : Ls.length ≤ 1000) (hlen2 : L2.length ≤ 1000) (hs : SmS S.l) : Calls Tryz.prog 36 #[SPtr g, SPtr g2] w (Grows (.bool (decide (S = T))) w) := by
  have hfol : Tryz.prog.follows .mixedOrders = true := by kernel_rfl
  obtain ⟨A1, c1, rfl, hc1, hF1⟩ := h.form
  obtain ⟨A2, c2, rfl, hc2, hF2⟩ := h2.form
  have HF1 := Lib.hid hF1; have HF2 := Lib.hid hF2
  have H := Lib.hid h; have H2 := Lib.hid h2; have HS := Lib.hid hs; have HLEN := Lib.hid hlen
  have a0 := h.c0; have a1 := h.c1; have b0 := h2.c0; have b1 := h2.c1
  obtain ⟨N, hN⟩ : ∃ N, Ls.length = N := ⟨_, rfl⟩
  obtain ⟨M, hM⟩ : ∃ M, L2.length = M := ⟨_, rfl⟩
  rw [hN] at a0 HLEN
  rw [hM] at b0
  obtain ⟨LA, hLA⟩ : ∃ x, S.last = x := ⟨_, rfl⟩
  obtain ⟨LB, hLB⟩ : ∃ x, T.last = x := ⟨_, rfl⟩
  rw [hLA] at a1
  rw [hLB] at b1
  have HN := Lib.hid hN; have HM := Lib.hid hM; have HM9 := Lib.hid (show M ≤ 1000 by rw [← hM]; exact hlen2)
  have HLA := Lib.hid hLA; have HLB := Lib.hid hLB
  have G0 := Lib.hid (show ∃ q os, w.drew = grow (w.drewN q) os from ⟨1, #[], by rw [grow_empty]; rfl⟩)
  obtain ⟨R, hR⟩ : ∃ R, decide (S = T) = R := ⟨_, rfl⟩
  rw [hR]
  have HR := Lib.hid hR
  have HRF := Lib.hid (fun (hne : ¬ S = T) => show R = false by rw [← hR]; exact decide_eq_false hne)
  have HRT := Lib.hid (fun (he : S = T) => show R = true by rw [← hR]; exact decide_eq_true he)
  clear h h2 hlen hlen2 hs hF1 hF2 hc1 hc2 hN hM hLA hLB hR
  unfold SPtr
  go_enter Tryz.func36, Tryz.ntmps36
  by_cases hll : LA = LB
  case neg =>
    have q1 : (LA != LB) = true := by simpa using hll
    have HRV := Lib.hid (HRF.out (fun e => hll (by rw [← HLA.out, ← HLB.out, e])))
    go_wp2
    go_region
    go_wp2
    go_ret
    exact ⟨by rw [HRV.out]; rfl, G0.out⟩
  case pos =>
  have q1 : (LA != LB) = false := by simpa using hll
  go_wp2
  go_region
  have g0 := G0.out
  obtain ⟨w1, hw1⟩ : ∃ w1, w.drew = w1 := ⟨_, rfl⟩
  rw [hw1] at g0 ⊢
  have GW := Lib.hid g0
  have a0 : w1.cell? ⟨g, 0, none⟩ = some (.slice A1 N c1) := by rw [← hw1]; exact a0
  clear g0 hw1
  have hm9 := HM9.out
  have hn9 := HLEN.out
  by_cases hnm : N = M
  case neg =>
    have q2 : ((N : Int) != (M : Int)) = true := by simp; omega
    have HRV := Lib.hid (HRF.out (fun e => hnm (by rw [← HN.out, ← HM.out, ← H.out.len, ← H2.out.len, e])))
    go_wp2
    go_ret
    exact ⟨by rw [HRV.out]; rfl, GW.out⟩
  case pos =>
  have q2 : ((N : Int) != (M : Int)) = false := by simp; omega
  have HNM := Lib.hid hnm
  go_wp2
  go_loopw [33] (fun i wr => SaRel Ls L2 N w i wr) (fun i _ => N - (intOf i).toNat)
  case atStart => exact ⟨0, Nat.zero_le _, rfl, fun j hj => by omega, GW.out⟩
  case round =>
    obtain ⟨k, hk, rfl, hpre, hg⟩ := hrel
    have HPRE := Lib.hid hpre
    have hb := grown_b hg
    have HG := Lib.hid hg
    by_cases hlt : k < N
    · obtain ⟨n, hn⟩ : ∃ n, Ls[k]? = some n := ⟨_, List.getElem?_eq_getElem (by have := HN.out; omega)⟩
      obtain ⟨n2, hn2⟩ : ∃ n, L2[k]? = some n := ⟨_, List.getElem?_eq_getElem (by have := HM.out; have := HNM.out; omega)⟩
      have e1 : (Ls.map Nd.plain)[k]? = some n.plain := by rw [List.getElem?_map, hn]; rfl
      have e2 : (L2.map Nd.plain)[k]? = some n2.plain := by rw [List.getElem?_map, hn2]; rfl
      have HE1 := Lib.hid e1; have HE2 := Lib.hid e2
      obtain ⟨E, hE⟩ : ∃ E, nodeEq n n2 = E := ⟨_, rfl⟩
      have HET := Lib.hid (fun (he : E = true) => show n.plain = n2.plain from Classical.byContradiction fun hne => by have := plain_diff hne; rw [hE, he] at this; cases this)
      have HEF := Lib.hid (fun (he : E = false) => show n.plain ≠ n2.plain from fun hne => by have := plain_same hne; rw [hE, he] at this; cases this)
      have hX := H.out.below hb
      have hY := H2.out.below hb
      obtain ⟨gL, hA1, _, _⟩ := HF1.out k n hn
      obtain ⟨gM, hA2, _, _⟩ := HF2.out k n2 hn2
      subst hA1 hA2
      rw [HN.out] at hX
      have hX' : DSx wr base g Ls (.slice (some ⟨gL, 0, none⟩) Ls.length c1) S := by rw [HN.out]; exact hX
      have hxc := hX'.row_cells hn
      have hyc := hY.row_cells hn2
      have hsm : SmN n.plain := HS.out _ (by rw [← H.out.eq]; exact List.mem_map_of_mem (List.mem_of_getElem? hn))
      have o1 := hX.own n (List.mem_of_getElem? hn)
      have o2 := hY.own n2 (List.mem_of_getElem? hn2)
      have KN := Lib.hid (fun n' os => Grows.inAt (fun n' os => rSame n n2 (grow (wr.drewN n') os) ((o1.below (below_grow' wr n' os)).in_) ((o2.below (below_grow' wr n' os)).in_) hsm.p (Nat.le_trans hsm.q (by decide))) n' os)
      rw [hE] at KN
      have hlt2 : (k : Int) < (N : Int) := Int.ofNat_lt.2 hlt
      have hl1 : gL < wr.heap.size := World.block_lt_of_cell? _ _ (hxc 0 _ rfl).1
      have hl2 : gM < wr.heap.size := World.block_lt_of_cell? _ _ (hyc 0 _ rfl).1
      obtain ⟨J, ki, l', t, u, A0, ac, P, B0, bc, Nn⟩ := n
      obtain ⟨J2, ki2, l2, t2, u2, A2', ac2, P2, B2, bc2, N2⟩ := n2
      unfold Nd.val at KN
      dsimp only at KN
      have x0 := cell_grown (a := ⟨gL, k * 7, none⟩) hl1 (by have := (hxc 0 _ rfl).1; rwa [Nat.add_zero] at this)
      have x1 := cell_grown (a := ⟨gL, k * 7 + 1, none⟩) hl1 (hxc 1 _ rfl).1
      have x2 := cell_grown (a := ⟨gL, k * 7 + 2, none⟩) hl1 (hxc 2 _ rfl).1
      have x3 := cell_grown (a := ⟨gL, k * 7 + 3, none⟩) hl1 (hxc 3 _ rfl).1
      have x4 := cell_grown (a := ⟨gL, k * 7 + 4, none⟩) hl1 (hxc 4 _ rfl).1
      have x5 := cell_grown (a := ⟨gL, k * 7 + 5, none⟩) hl1 (hxc 5 _ rfl).1
      have x6 := cell_grown (a := ⟨gL, k * 7 + 6, none⟩) hl1 (hxc 6 _ rfl).1
      have y0 := cell_grown (a := ⟨gM, k * 7, none⟩) hl2 (by have := (hyc 0 _ rfl).1; rwa [Nat.add_zero] at this)
      have y1 := cell_grown (a := ⟨gM, k * 7 + 1, none⟩) hl2 (hyc 1 _ rfl).1
      have y2 := cell_grown (a := ⟨gM, k * 7 + 2, none⟩) hl2 (hyc 2 _ rfl).1
      have y3 := cell_grown (a := ⟨gM, k * 7 + 3, none⟩) hl2 (hyc 3 _ rfl).1
      have y4 := cell_grown (a := ⟨gM, k * 7 + 4, none⟩) hl2 (hyc 4 _ rfl).1
      have y5 := cell_grown (a := ⟨gM, k * 7 + 5, none⟩) hl2 (hyc 5 _ rfl).1
      have y6 := cell_grown (a := ⟨gM, k * 7 + 6, none⟩) hl2 (hyc 6 _ rfl).1
      have d0 := cell_grown (a := ⟨g, 0, none⟩) hX.cells.lt hX.c0
      have d1 := cell_grown (a := ⟨g2, 0, none⟩) hY.cells.lt hY.c0
      rw [HM.out] at d1
      have HLT := Lib.hid hlt
      have hkb : k ≤ 1000 := by have := HLEN.out; omega
      clear hg hb hn hn2 e1 e2 hE hpre hX hX' hY hxc hyc hsm o1 o2 hl1 hl2 hlt hk
      go_upto_region 6 with fail
      refine wp_region_quiet_grown hfol (by kernel_rfl) ?_
      repeat (go_big_quiet_step (first | (go_at_call 68; (with_reducible exact KN.out _ _))))
      refine wpQuiet_nil ?_
      intro _ hw'
      obtain ⟨⟨nr, osr⟩, hw''⟩ := hw'
      subst hw''
      have G6 := Lib.hid (grow_trans HG.out (show ∃ q os, grow (wr.drewN nr) osr = grow (wr.drewN q) os from ⟨nr, osr, rfl⟩))
      obtain ⟨w6, hw6⟩ : ∃ w6, grow (wr.drewN nr) osr = w6 := ⟨_, rfl⟩
      dsimp only
      rw [hw6] at G6 ⊢
      clear hw6 x0 x1 x2 x3 x4 x5 x6 y0 y1 y2 y3 y4 y5 y6 d0 d1 KN
      rcases E with _ | _
      · go_wp2
        go_ret
        exact ⟨by
          rw [HRF.out (fun e => HEF.out (by simp) (by
            have x1 := HE1.out; have x2 := HE2.out
            rw [H.out.eq] at x1
            rw [H2.out.eq, ← e, x1] at x2
            exact Option.some.inj x2))]
          rfl, G6.out⟩
      · go_wp2
        go_roundw
        case rel => exact ⟨k + 1, HLT.out, by go_num, fun j hj => by
          rcases Nat.lt_succ_iff_lt_or_eq.1 hj with hj | rfl
          · exact HPRE.out j hj
          · rw [HE1.out, HE2.out, HET.out (by simp)], G6.out⟩
        case measure => simp [intOf]; have := HLT.out; omega
    · obtain rfl : k = N := by omega
      clear hlt hk hg hb
      have HRV := Lib.hid (HRT.out (by
        have hl : S.l = T.l := by
          rw [← H.out.eq, ← H2.out.eq]
          refine List.ext_getElem? fun j => ?_
          by_cases hj : j < k
          · exact hpre j hj
          · rw [List.getElem?_eq_none (by rw [List.length_map, HN.out]; omega), List.getElem?_eq_none (by rw [List.length_map, HM.out, ← HNM.out]; omega)]
        have hla : S.last = T.last := by rw [HLA.out, HLB.out]; exact hll
        obtain ⟨sl, sa⟩ := S
        obtain ⟨tl, ta⟩ := T
        simp only at hl hla
        rw [hl, hla]))
      clear hpre
      go_wp2
      go_ret
      exact ⟨by rw [HRV.out]; rfl, HG.out⟩
end
end Go.Proofs.YtamndllolppmoaaGreat
