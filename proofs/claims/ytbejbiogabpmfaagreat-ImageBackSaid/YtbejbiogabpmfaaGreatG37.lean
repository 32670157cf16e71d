import Derived.Test.YtbejbiogabpmfaaGreatG31
import Derived.Test.YtbejbiogabpmfaaGreatG35
import Derived.Test.YtbejbiogabpmfaaGreatG36

/-! What the project's Nodes hands to a loop's body: copies of the nodes, by number. -/
namespace Go.Proofs.YtbejbiogabpmfaaGreat
open Wd Ino Sm U Go.RowKit Go.ChangeShapes Go.WideShapes Go.Shelf
set_option linter.unusedVariables false
attribute [local go_sem] Oper.semAt_some
set_option maxRecDepth 100000
theorem yield_any {n m : Nat} {P : Program} {l lp : Nat} {args : Array Value} {W : World} {R : Ending → World → Prop} (h : YieldAt Fence.wide n P l args W R) : YieldAt (Fence.wide.inRound lp) m P l args W R := by
  obtain ⟨fn, tmps, assign, body, hy, hr⟩ := h
  exact ⟨fn, tmps, assign, body, hy, hr.1, fun c cs _ => hr.2 c cs (fun d hd => by cases hd)⟩
theorem keepC_from {X Y : World} {row : Option Nat} (hg : X.grownBy Y row) (hr : ∀ r, row = some r → ∃ o : Obj, X.heap[r]? = some o ∧ o.isCells = false) : KeepC [] X Y := fun b t cs _ hc => (grownBy_keeps_cells hg hr hc rfl).trans hc
theorem own_nds {β : Type} (B base : Nat) (f : β → List Nd) : OwnFrom B (fun s W => ∀ x ∈ f s, OwnNd W base x) := fun s X Y row hs hg hr x hx => (hs x hx).keep (keepC_from hg (fun r e => (hr r e).2)) (by simp) (by simp)
theorem row_copy {L : List Nd} {pre : List (Mem L)} {xs : List Nd} (h : xs.map Nd.plain = pre.map (fun x => x.1.plain)) : xs.length = pre.length := by have := congrArg List.length h; simpa using this
def NtRel (w W0 : World) (base bx lp : Nat) (Lk : List Nd) (J : List Nd → World → Prop) (pre : List (Mem Lk)) (V : World) : Prop :=
  (∃ xs : List Nd, xs.map Nd.plain = pre.map (fun x => x.1.plain) ∧ J xs V ∧ ∀ x ∈ xs, OwnNd V w.heap.size x) ∧ (∀ y ∈ Lk, OwnNd V base y) ∧ Cells V bx 117 #[.func (.yield lp) #[] #[]] ∧ W0.heap.size ≤ V.heap.size
theorem NtRel.from {w W0 : World} {base bx lp : Nat} {Lk : List Nd} {J : List Nd → World → Prop} {B : Nat} (hJ : OwnFrom B J) : OwnFrom B (NtRel w W0 base bx lp Lk J) := fun s X Y row hs hg hr => by
  obtain ⟨⟨xs, h1, h2, h3⟩, h4, h5, h6⟩ := hs
  have hk := keepC_from hg (fun r e => (hr r e).2)
  exact ⟨⟨xs, h1, hJ _ _ _ _ h2 hg hr, fun x hx => (h3 x hx).keep hk (by simp) (by simp)⟩, fun y hy => (h4 y hy).keep hk (by simp) (by simp), hk _ _ _ (by simp) h5, Nat.le_trans h6 hg.size⟩
theorem nt_end {w W W0 V w6 W3 : World} {base q lp : Nat} {A : Option Addr} {Lk xs : List Nd} {J : List Nd → World → Prop} {Ts : List TypeId} {pre : List (Mem Lk)} {nd : Nd} {hx : nd ∈ Lk} {x6 : Nd}
    (b6 : Below V.heap.size V w6) (kq : Kq q A w6 W3) (kc : KeepC Ts w6 W3) (kf : KeepsFrom W.heap.size w6 W3) (ho6 : OwnNd w6 w.heap.size x6) (hj : J (xs ++ [x6]) W3) (hcb : Cells V W.heap.size 117 #[.func (.yield lp) #[] #[]])
    (hxs : ∀ x ∈ xs, OwnNd V w.heap.size x) (hon : ∀ y ∈ Lk, OwnNd V base y) (hsz : W0.heap.size ≤ V.heap.size) (e1 : xs.map Nd.plain = pre.map (fun x => x.1.plain)) (hq : q < W0.heap.size) (hA : ∀ b off, A = some ⟨b, off, none⟩ → b < W0.heap.size)
    (hs0 : W0.heap.size = W.heap.size + 1) (t1 : 3 ∉ Ts) (t2 : 103 ∉ Ts) (t3 : 117 ∉ Ts) (hws : w.heap.size ≤ W.heap.size) (hp6 : x6.plain = nd.plain := by rfl) :
    KeepsFrom W0.heap.size V W3 ∧ Kq q A V W3 ∧ NtRel w W0 base W.heap.size lp Lk J (pre ++ [⟨nd, hx⟩]) W3 := by
  refine ⟨(KeepsFrom.of_grownBy (grown_of_below b6 none) (fun j e => by cases e)).trans (keepsFrom_mono kf (by omega)), (Kq.grow b6 (Nat.lt_of_lt_of_le hq hsz) (fun b off e => Nat.lt_of_lt_of_le (hA b off e) hsz)).trans kq, ⟨xs ++ [x6], ?_, hj, fun x hx => ?_⟩, fun y hy => ((hon y hy).below b6).keep kc t1 t2, kc _ _ _ t3 (hcb.below' b6), Nat.le_trans hsz (Nat.le_trans b6.size kf.size)⟩
  · rw [List.map_append, List.map_append, e1, List.map_cons, List.map_cons, List.map_nil, List.map_nil, hp6]
  · rcases List.mem_append.1 hx with h | h
    · exact ((hxs x h).below b6).keep kc t1 t2
    · rw [List.mem_singleton.1 h]; exact ho6.keep kc t1 t2
set_option maxHeartbeats 8000000 in
theorem nodes_tells (n : Nat) (hn : 3 ≤ n) {w : World} {base p q c : Nat} {A : Option Addr} {Lk : List Nd} {l : List Nod} {Ts : List TypeId} (t1 : 3 ∉ Ts) (t2 : 103 ∉ Ts) (t3 : 117 ∉ Ts)
    (hp : w.cell? ⟨p, 0, none⟩ = some (.func (.func 85) #[] #[.pointer (some ⟨q, 0, none⟩)])) (hpw : p < w.heap.size)
    (hq : w.cell? ⟨q, 0, none⟩ = some (.slice A Lk.length c)) (hqw : q < w.heap.size) (hA : ∀ b off, A = some ⟨b, off, none⟩ → b < w.heap.size) (hE : Nds w w.heap.size A Lk)
    (hon : ∀ y ∈ Lk, OwnNd w base y) (hpl : Lk.map Nd.plain = l) (hs : SmS l) (hm : Lk.length ≤ 1000) :
    SeqTells Fence.wide n Tryz.prog 71 #[.pointer (some ⟨p, 0, none⟩)] (fun x : Nd => #[Value.int .i64 x.ino, x.val]) (fun W W' => KeepC Ts W W' ∧ Kq q A W W') (fun x W => OwnNd W w.heap.size x ∧ x.plain ∈ l)
      (fun xs W => xs.map Nd.plain = l ∧ ∀ x ∈ xs, OwnNd W w.heap.size x) Lk.length w := by
  have hfol : Tryz.prog.follows .mixedOrders = true := by kernel_rfl
  intro lp J W hW hJ hY h0
  have hcp : W.cell? ⟨p, 0, none⟩ = some (.func (.func 85) #[] #[.pointer (some ⟨q, 0, none⟩)]) := (hW.cell (p := ⟨p, 0, none⟩) hpw).trans hp
  obtain ⟨W0, hW0⟩ : ∃ W0, W.alloc (.cells #[.func (.yield lp) #[] #[]] 117) = W0 := ⟨_, rfl⟩
  have hb0 : Below W.heap.size W W0 := by rw [← hW0]; exact below_of_grown (World.grownBy_alloc W _ none)
  have hc0 : Cells W0 W.heap.size 117 #[.func (.yield lp) #[] #[]] := by rw [← hW0]; exact Cells.new _ _ _
  have hbw : Below w.heap.size w W0 := hW.trans (hb0.mono hW.size)
  have hJ0 : J [] W0 := by rw [← hW0]; exact hJ.alloc _ h0
  have hs0 : W0.heap.size = W.heap.size + 1 := by rw [← hW0]; simp
  have hq0 : W0.cell? ⟨q, 0, none⟩ = some (.slice A Lk.length c) := (hbw.cell (p := ⟨q, 0, none⟩) hqw).trans hq
  have hcp0 : W0.cell? ⟨p, 0, none⟩ = some (.func (.func 85) #[] #[.pointer (some ⟨q, 0, none⟩)]) := (hbw.cell (p := ⟨p, 0, none⟩) hpw).trans hp
  have hqw0 : q < W0.heap.size := Nat.lt_of_lt_of_le hqw hbw.size
  have hA0 : ∀ b off, A = some ⟨b, off, none⟩ → b < W0.heap.size := fun b off e => Nat.lt_of_lt_of_le (hA b off e) hbw.size
  have hE0 : Nds W0 W0.heap.size A Lk := (hE.below hbw).more hbw.size
  have hon0 : ∀ y ∈ Lk, OwnNd W0 base y := fun y hy => ((hon y hy).below hW).below hb0
  have HWS := Lib.hid hW.size; have HS0 := Lib.hid hs0; have HON := Lib.hid hon0; have HPL := Lib.hid hpl; have HSM := Lib.hid hs; have HY := Lib.hid (fun pre x W1 => hY pre x W1); have HJ := Lib.hid hJ; have HJ0 := Lib.hid hJ0; have HC0 := Lib.hid hc0
  have HQ := Lib.hid hqw0; have HA := Lib.hid hA0
  refine callsIn_of_wp_marks Tryz.func71 rfl trivial ?_ rfl
  simp only [Tryz.ntmps71, List.size_toArray, List.length_cons, List.length_nil, Nat.reduceAdd, Nat.reduceSub, Array.replicate_succ, Array.replicate_zero, List.push_toArray, List.append_toArray, List.nil_append, List.cons_append]
  clear hp hcp hq hE hon hW h0 hJ hY hpl hs hJ0 hc0 hb0 hon0 hs0
  gi_wp2
  have h1 : 1 ≤ n := by omega
  refine wp_inOrder (L := Lk) (q := q) (cap := c) (A := A) hn rfl rfl hq0 hqw0 hA0 hE0 hm
    (NtRel w W0 base W.heap.size lp Lk J) (NtRel.from (ownFrom_mono HJ.out (by rw [HS0.out]; omega))) ⟨⟨[], rfl, HJ0.out, fun x hx => absurd hx (by simp)⟩, HON.out, HC0.out, Nat.le_refl _⟩
    (fun x a' V => ∃ Bx, W0.heap.size ≤ Bx ∧ Cells V Bx 51 (ndc x.1) ∧ a' = { tmps := #[.func (.yield lp) #[] #[], .pointer (some ⟨p, 0, none⟩), .pointer (some ⟨W.heap.size, 0, none⟩), .int .i64 x.1.ino, .pointer (some ⟨Bx, 0, none⟩), .func (.func 85) #[] #[.pointer (some ⟨q, 0, none⟩)], .int .i64 x.1.ino, x.1.val, undef, undef, undef, undef, undef, undef], defers := [] })
    (fun x a' _ X Y row hs hg hr => by obtain ⟨Bx, g1, g2, g3⟩ := hs; exact ⟨Bx, g1, (grownBy_keeps_cells hg (fun r e => (hr r e).2) g2 rfl).trans g2, g3⟩)
    ?assign ?body ?done
  case assign =>
    rintro l2 pre ⟨⟨j, ki, lk, t, u, A0, ac, P, B0, bc, N⟩, hx⟩ V K hrel hK
    have hsz := hrel.2.2.2
    have hK' := hK { tmps := #[.func (.yield lp) #[] #[], .pointer (some ⟨p, 0, none⟩), .pointer (some ⟨W.heap.size, 0, none⟩), .int .i64 j, .pointer (some ⟨V.heap.size, 0, none⟩), .func (.func 85) #[] #[.pointer (some ⟨q, 0, none⟩)], .int .i64 j, Nd.val ⟨j, ki, lk, t, u, A0, ac, P, B0, bc, N⟩, undef, undef, undef, undef, undef, undef], defers := [] } (V.alloc (.cells (ndc ⟨j, ki, lk, t, u, A0, ac, P, B0, bc, N⟩) 51)) ((KeepsOthers.alloc _ _).from _)
      (Kq.grow (below_of_grown (World.grownBy_alloc V _ none)) (Nat.lt_of_lt_of_le HQ.out hsz) (fun b off e => Nat.lt_of_lt_of_le (HA.out b off e) hsz)) ((NtRel.from (ownFrom_mono HJ.out (by rw [HS0.out]; omega : W.heap.size ≤ W0.heap.size))).alloc _ hrel) ⟨V.heap.size, hsz, Cells.new _ _ _, rfl⟩
    unfold Nd.val ndc ncells at hK'
    unfold Nd.val
    dsimp only at hK' ⊢
    clear hK
    gi_wp2
    exact hK'
  case body =>
    rintro l2 pre ⟨⟨j, ki, lk, t, u, A0, ac, P, B0, bc, N⟩, hx⟩ a' V hl hrel ⟨Bx, hBx, cX, rfl⟩ hlt
    obtain ⟨⟨xs, e1, hj, hxs⟩, hon, hcb, hsz⟩ := hrel
    unfold ndc at cX
    dsimp only at cX
    obtain ⟨z0, z1, z2, z3, z4, z5, z6⟩ := cells7 cX
    have hmem : Nd.plain ⟨j, ki, lk, t, u, A0, ac, P, B0, bc, N⟩ ∈ l := by rw [← HPL.out]; exact List.mem_map_of_mem hx
    have hsm := HSM.out _ hmem
    have how := hon _ hx
    have KC := Lib.hid (fun wx (hb : Below V.heap.size V wx) => iCopy ⟨j, ki, lk, t, u, A0, ac, P, B0, bc, N⟩ wx (how.below hb).in_ hsm.p (Nat.le_trans hsm.q (by decide)) hsm.sz)
    have b0 : Below V.heap.size V V.drew := below_drewN (Below.refl _ _) 1
    have cb0 := hcb.cell 0
    simp only [List.getElem?_toArray, List.getElem?_cons_zero] at cb0
    have HCB := Lib.hid hcb; have HXS := Lib.hid hxs; have HON2 := Lib.hid hon; have HSZ := Lib.hid hsz; have HE1 := Lib.hid e1; have HJV := Lib.hid hj; have HMEM := Lib.hid hmem
    have HLT := Lib.hid (show xs.length < Lk.length by rw [row_copy e1]; exact hlt)
    have h1' : 1 ≤ n - 1 - 1 := by omega
    unfold Nd.val at KC ⊢
    dsimp only at KC ⊢
    clear hcb hxs hon hsz e1 hj hmem how cX hsm
    gi_upto_region 4 with fail
    refine wpIn_region_any hfol ?_
    change wpAnyIn _ _ _ _ _ _ _ _ _ (World.drew _)
    refine wpAnyIn_ready (rs := [0, 1, 2]) (by kernel_rfl) (by simp) ?_
    refine AllReadyIn.cons rfl (fun K hK => ?_) ?_
    · go_simp
      refine hK _ _ ?_
      clear hK K
      refine wpAnyIn_ready (rs := [1, 2]) (by kernel_rfl) (by simp) ?_
      refine AllReadyIn.cons rfl (fun K hK => ?_) ?_
      · go_simp
        refine hK _ _ ?_
        clear hK K
        refine wpAnyIn_ready (rs := [2]) (by kernel_rfl) (by simp) ?_
        refine AllReadyIn.cons rfl (fun K hK => ?_) ?_
        · go_simp
          refine hK _ _ ?_
          clear hK K
          refine wpAnyIn_ready (rs := [3]) (by kernel_rfl) (by simp) ?_
          refine AllReadyIn.cons rfl (fun K hK => ?_) ?_
          · go_simp
            gi_wp2_with (refine ⟨trivial, ?_⟩; gi_at_call 72; refine (CallsIn.inRound l2 (callsIn_wide.2 (KC.out _ b0))).mono ?_; rintro e w6 ⟨V6, A6, ac6, B6, bc6, rfl, own6, hb6⟩; obtain rfl := own6.val; unfold nv; have b6 := b0.trans (hb6.mono b0.size); have cb6 := (HCB.out.below' b6).cell 0; simp only [List.getElem?_toArray, List.getElem?_cons_zero] at cb6; have hown6 : OwnNd w6 w.heap.size ⟨j, ki, lk, t, u, A6, ac6, P, B6, bc6, N⟩ := ⟨own6.pages.mono (Nat.le_trans (Nat.le_trans hbw.size HSZ.out) b0.size), own6.names.mono (Nat.le_trans (Nat.le_trans hbw.size HSZ.out) b0.size)⟩; obtain ⟨fn, tmps, assign, body, hy, hR⟩ := yield_any (lp := l2) (m := n - 1 - 1 - 1) (HY.out xs ⟨j, ki, lk, t, u, A6, ac6, P, B6, bc6, N⟩ w6 (HJ.out _ _ _ none HJV.out (grown_of_below b6 none) (fun r e => by cases e)) ⟨hown6, HMEM.out⟩ HLT.out); unfold Nd.val at hy; dsimp only at hy)
            refine wpAnyIn_ready (rs := [4]) (by kernel_rfl) (by simp) ?_
            refine AllReadyIn.cons rfl (fun K hK => ?_) ?_
            · go_simp
              refine hR.mono ?_
              rintro e W3 ⟨rfl, hj3, ⟨kc3, kq3⟩, kf3⟩
              dsimp only
              refine hK _ _ ?_
              clear hK K
              refine wpAnyIn_ready (rs := [5]) (by kernel_rfl) (by simp) ?_
              refine AllReadyIn.cons rfl (fun K hK => ?_) ?_
              · go_simp
                refine hK _ _ ?_
                clear hK K
                refine wpAnyIn_done (by kernel_rfl) ?_ _
                have HB6 := Lib.hid b6; have HKQ := Lib.hid kq3; have HKC := Lib.hid kc3; have HKF := Lib.hid kf3; have HO6 := Lib.hid hown6; have HJ3 := Lib.hid hj3
                clear hR hy hown6 own6 hb6 b6 cb6 hj3 kc3 kq3 kf3
                gi_wp2
                exact nt_end HB6.out HKQ.out HKC.out HKF.out HO6.out HJ3.out HCB.out HXS.out HON2.out HSZ.out HE1.out HQ.out HA.out HS0.out t1 t2 t3 HWS.out
              exact AllReadyIn.nil
            exact AllReadyIn.nil
          exact AllReadyIn.nil
        exact AllReadyIn.nil
      refine AllReadyIn.cons rfl (fun K hK => ?_) ?_
      · go_simp
        refine hK _ _ ?_
        clear hK K
        refine wpAnyIn_ready (rs := [1, 3]) (by kernel_rfl) (by simp) ?_
        refine AllReadyIn.cons rfl (fun K hK => ?_) ?_
        · go_simp
          refine hK _ _ ?_
          clear hK K
          refine wpAnyIn_ready (rs := [3]) (by kernel_rfl) (by simp) ?_
          refine AllReadyIn.cons rfl (fun K hK => ?_) ?_
          · go_simp
            gi_wp2_with (refine ⟨trivial, ?_⟩; gi_at_call 72; refine (CallsIn.inRound l2 (callsIn_wide.2 (KC.out _ b0))).mono ?_; rintro e w6 ⟨V6, A6, ac6, B6, bc6, rfl, own6, hb6⟩; obtain rfl := own6.val; unfold nv; have b6 := b0.trans (hb6.mono b0.size); have cb6 := (HCB.out.below' b6).cell 0; simp only [List.getElem?_toArray, List.getElem?_cons_zero] at cb6; have hown6 : OwnNd w6 w.heap.size ⟨j, ki, lk, t, u, A6, ac6, P, B6, bc6, N⟩ := ⟨own6.pages.mono (Nat.le_trans (Nat.le_trans hbw.size HSZ.out) b0.size), own6.names.mono (Nat.le_trans (Nat.le_trans hbw.size HSZ.out) b0.size)⟩; obtain ⟨fn, tmps, assign, body, hy, hR⟩ := yield_any (lp := l2) (m := n - 1 - 1 - 1) (HY.out xs ⟨j, ki, lk, t, u, A6, ac6, P, B6, bc6, N⟩ w6 (HJ.out _ _ _ none HJV.out (grown_of_below b6 none) (fun r e => by cases e)) ⟨hown6, HMEM.out⟩ HLT.out); unfold Nd.val at hy; dsimp only at hy)
            refine wpAnyIn_ready (rs := [4]) (by kernel_rfl) (by simp) ?_
            refine AllReadyIn.cons rfl (fun K hK => ?_) ?_
            · go_simp
              refine hR.mono ?_
              rintro e W3 ⟨rfl, hj3, ⟨kc3, kq3⟩, kf3⟩
              dsimp only
              refine hK _ _ ?_
              clear hK K
              refine wpAnyIn_ready (rs := [5]) (by kernel_rfl) (by simp) ?_
              refine AllReadyIn.cons rfl (fun K hK => ?_) ?_
              · go_simp
                refine hK _ _ ?_
                clear hK K
                refine wpAnyIn_done (by kernel_rfl) ?_ _
                have HB6 := Lib.hid b6; have HKQ := Lib.hid kq3; have HKC := Lib.hid kc3; have HKF := Lib.hid kf3; have HO6 := Lib.hid hown6; have HJ3 := Lib.hid hj3
                clear hR hy hown6 own6 hb6 b6 cb6 hj3 kc3 kq3 kf3
                gi_wp2
                exact nt_end HB6.out HKQ.out HKC.out HKF.out HO6.out HJ3.out HCB.out HXS.out HON2.out HSZ.out HE1.out HQ.out HA.out HS0.out t1 t2 t3 HWS.out
              exact AllReadyIn.nil
            exact AllReadyIn.nil
          exact AllReadyIn.nil
        refine AllReadyIn.cons rfl (fun K hK => ?_) ?_
        · go_simp
          gi_wp2_with (refine ⟨trivial, ?_⟩; gi_at_call 72; refine (CallsIn.inRound l2 (callsIn_wide.2 (KC.out _ b0))).mono ?_; rintro e w6 ⟨V6, A6, ac6, B6, bc6, rfl, own6, hb6⟩; obtain rfl := own6.val; unfold nv; have b6 := b0.trans (hb6.mono b0.size); have cb6 := (HCB.out.below' b6).cell 0; simp only [List.getElem?_toArray, List.getElem?_cons_zero] at cb6; have hown6 : OwnNd w6 w.heap.size ⟨j, ki, lk, t, u, A6, ac6, P, B6, bc6, N⟩ := ⟨own6.pages.mono (Nat.le_trans (Nat.le_trans hbw.size HSZ.out) b0.size), own6.names.mono (Nat.le_trans (Nat.le_trans hbw.size HSZ.out) b0.size)⟩; obtain ⟨fn, tmps, assign, body, hy, hR⟩ := yield_any (lp := l2) (m := n - 1 - 1 - 1) (HY.out xs ⟨j, ki, lk, t, u, A6, ac6, P, B6, bc6, N⟩ w6 (HJ.out _ _ _ none HJV.out (grown_of_below b6 none) (fun r e => by cases e)) ⟨hown6, HMEM.out⟩ HLT.out); unfold Nd.val at hy; dsimp only at hy)
          refine wpAnyIn_ready (rs := [1]) (by kernel_rfl) (by simp) ?_
          refine AllReadyIn.cons rfl (fun K hK => ?_) ?_
          · go_simp
            refine hK _ _ ?_
            clear hK K
            refine wpAnyIn_ready (rs := [4]) (by kernel_rfl) (by simp) ?_
            refine AllReadyIn.cons rfl (fun K hK => ?_) ?_
            · go_simp
              refine hR.mono ?_
              rintro e W3 ⟨rfl, hj3, ⟨kc3, kq3⟩, kf3⟩
              dsimp only
              refine hK _ _ ?_
              clear hK K
              refine wpAnyIn_ready (rs := [5]) (by kernel_rfl) (by simp) ?_
              refine AllReadyIn.cons rfl (fun K hK => ?_) ?_
              · go_simp
                refine hK _ _ ?_
                clear hK K
                refine wpAnyIn_done (by kernel_rfl) ?_ _
                have HB6 := Lib.hid b6; have HKQ := Lib.hid kq3; have HKC := Lib.hid kc3; have HKF := Lib.hid kf3; have HO6 := Lib.hid hown6; have HJ3 := Lib.hid hj3
                clear hR hy hown6 own6 hb6 b6 cb6 hj3 kc3 kq3 kf3
                gi_wp2
                exact nt_end HB6.out HKQ.out HKC.out HKF.out HO6.out HJ3.out HCB.out HXS.out HON2.out HSZ.out HE1.out HQ.out HA.out HS0.out t1 t2 t3 HWS.out
              exact AllReadyIn.nil
            exact AllReadyIn.nil
          exact AllReadyIn.nil
        exact AllReadyIn.nil
      exact AllReadyIn.nil
    refine AllReadyIn.cons rfl (fun K hK => ?_) ?_
    · go_simp
      refine hK _ _ ?_
      clear hK K
      refine wpAnyIn_ready (rs := [0, 2]) (by kernel_rfl) (by simp) ?_
      refine AllReadyIn.cons rfl (fun K hK => ?_) ?_
      · go_simp
        refine hK _ _ ?_
        clear hK K
        refine wpAnyIn_ready (rs := [2]) (by kernel_rfl) (by simp) ?_
        refine AllReadyIn.cons rfl (fun K hK => ?_) ?_
        · go_simp
          refine hK _ _ ?_
          clear hK K
          refine wpAnyIn_ready (rs := [3]) (by kernel_rfl) (by simp) ?_
          refine AllReadyIn.cons rfl (fun K hK => ?_) ?_
          · go_simp
            gi_wp2_with (refine ⟨trivial, ?_⟩; gi_at_call 72; refine (CallsIn.inRound l2 (callsIn_wide.2 (KC.out _ b0))).mono ?_; rintro e w6 ⟨V6, A6, ac6, B6, bc6, rfl, own6, hb6⟩; obtain rfl := own6.val; unfold nv; have b6 := b0.trans (hb6.mono b0.size); have cb6 := (HCB.out.below' b6).cell 0; simp only [List.getElem?_toArray, List.getElem?_cons_zero] at cb6; have hown6 : OwnNd w6 w.heap.size ⟨j, ki, lk, t, u, A6, ac6, P, B6, bc6, N⟩ := ⟨own6.pages.mono (Nat.le_trans (Nat.le_trans hbw.size HSZ.out) b0.size), own6.names.mono (Nat.le_trans (Nat.le_trans hbw.size HSZ.out) b0.size)⟩; obtain ⟨fn, tmps, assign, body, hy, hR⟩ := yield_any (lp := l2) (m := n - 1 - 1 - 1) (HY.out xs ⟨j, ki, lk, t, u, A6, ac6, P, B6, bc6, N⟩ w6 (HJ.out _ _ _ none HJV.out (grown_of_below b6 none) (fun r e => by cases e)) ⟨hown6, HMEM.out⟩ HLT.out); unfold Nd.val at hy; dsimp only at hy)
            refine wpAnyIn_ready (rs := [4]) (by kernel_rfl) (by simp) ?_
            refine AllReadyIn.cons rfl (fun K hK => ?_) ?_
            · go_simp
              refine hR.mono ?_
              rintro e W3 ⟨rfl, hj3, ⟨kc3, kq3⟩, kf3⟩
              dsimp only
              refine hK _ _ ?_
              clear hK K
              refine wpAnyIn_ready (rs := [5]) (by kernel_rfl) (by simp) ?_
              refine AllReadyIn.cons rfl (fun K hK => ?_) ?_
              · go_simp
                refine hK _ _ ?_
                clear hK K
                refine wpAnyIn_done (by kernel_rfl) ?_ _
                have HB6 := Lib.hid b6; have HKQ := Lib.hid kq3; have HKC := Lib.hid kc3; have HKF := Lib.hid kf3; have HO6 := Lib.hid hown6; have HJ3 := Lib.hid hj3
                clear hR hy hown6 own6 hb6 b6 cb6 hj3 kc3 kq3 kf3
                gi_wp2
                exact nt_end HB6.out HKQ.out HKC.out HKF.out HO6.out HJ3.out HCB.out HXS.out HON2.out HSZ.out HE1.out HQ.out HA.out HS0.out t1 t2 t3 HWS.out
              exact AllReadyIn.nil
            exact AllReadyIn.nil
          exact AllReadyIn.nil
        exact AllReadyIn.nil
      refine AllReadyIn.cons rfl (fun K hK => ?_) ?_
      · go_simp
        refine hK _ _ ?_
        clear hK K
        refine wpAnyIn_ready (rs := [0, 3]) (by kernel_rfl) (by simp) ?_
        refine AllReadyIn.cons rfl (fun K hK => ?_) ?_
        · go_simp
          refine hK _ _ ?_
          clear hK K
          refine wpAnyIn_ready (rs := [3]) (by kernel_rfl) (by simp) ?_
          refine AllReadyIn.cons rfl (fun K hK => ?_) ?_
          · go_simp
            gi_wp2_with (refine ⟨trivial, ?_⟩; gi_at_call 72; refine (CallsIn.inRound l2 (callsIn_wide.2 (KC.out _ b0))).mono ?_; rintro e w6 ⟨V6, A6, ac6, B6, bc6, rfl, own6, hb6⟩; obtain rfl := own6.val; unfold nv; have b6 := b0.trans (hb6.mono b0.size); have cb6 := (HCB.out.below' b6).cell 0; simp only [List.getElem?_toArray, List.getElem?_cons_zero] at cb6; have hown6 : OwnNd w6 w.heap.size ⟨j, ki, lk, t, u, A6, ac6, P, B6, bc6, N⟩ := ⟨own6.pages.mono (Nat.le_trans (Nat.le_trans hbw.size HSZ.out) b0.size), own6.names.mono (Nat.le_trans (Nat.le_trans hbw.size HSZ.out) b0.size)⟩; obtain ⟨fn, tmps, assign, body, hy, hR⟩ := yield_any (lp := l2) (m := n - 1 - 1 - 1) (HY.out xs ⟨j, ki, lk, t, u, A6, ac6, P, B6, bc6, N⟩ w6 (HJ.out _ _ _ none HJV.out (grown_of_below b6 none) (fun r e => by cases e)) ⟨hown6, HMEM.out⟩ HLT.out); unfold Nd.val at hy; dsimp only at hy)
            refine wpAnyIn_ready (rs := [4]) (by kernel_rfl) (by simp) ?_
            refine AllReadyIn.cons rfl (fun K hK => ?_) ?_
            · go_simp
              refine hR.mono ?_
              rintro e W3 ⟨rfl, hj3, ⟨kc3, kq3⟩, kf3⟩
              dsimp only
              refine hK _ _ ?_
              clear hK K
              refine wpAnyIn_ready (rs := [5]) (by kernel_rfl) (by simp) ?_
              refine AllReadyIn.cons rfl (fun K hK => ?_) ?_
              · go_simp
                refine hK _ _ ?_
                clear hK K
                refine wpAnyIn_done (by kernel_rfl) ?_ _
                have HB6 := Lib.hid b6; have HKQ := Lib.hid kq3; have HKC := Lib.hid kc3; have HKF := Lib.hid kf3; have HO6 := Lib.hid hown6; have HJ3 := Lib.hid hj3
                clear hR hy hown6 own6 hb6 b6 cb6 hj3 kc3 kq3 kf3
                gi_wp2
                exact nt_end HB6.out HKQ.out HKC.out HKF.out HO6.out HJ3.out HCB.out HXS.out HON2.out HSZ.out HE1.out HQ.out HA.out HS0.out t1 t2 t3 HWS.out
              exact AllReadyIn.nil
            exact AllReadyIn.nil
          exact AllReadyIn.nil
        refine AllReadyIn.cons rfl (fun K hK => ?_) ?_
        · go_simp
          gi_wp2_with (refine ⟨trivial, ?_⟩; gi_at_call 72; refine (CallsIn.inRound l2 (callsIn_wide.2 (KC.out _ b0))).mono ?_; rintro e w6 ⟨V6, A6, ac6, B6, bc6, rfl, own6, hb6⟩; obtain rfl := own6.val; unfold nv; have b6 := b0.trans (hb6.mono b0.size); have cb6 := (HCB.out.below' b6).cell 0; simp only [List.getElem?_toArray, List.getElem?_cons_zero] at cb6; have hown6 : OwnNd w6 w.heap.size ⟨j, ki, lk, t, u, A6, ac6, P, B6, bc6, N⟩ := ⟨own6.pages.mono (Nat.le_trans (Nat.le_trans hbw.size HSZ.out) b0.size), own6.names.mono (Nat.le_trans (Nat.le_trans hbw.size HSZ.out) b0.size)⟩; obtain ⟨fn, tmps, assign, body, hy, hR⟩ := yield_any (lp := l2) (m := n - 1 - 1 - 1) (HY.out xs ⟨j, ki, lk, t, u, A6, ac6, P, B6, bc6, N⟩ w6 (HJ.out _ _ _ none HJV.out (grown_of_below b6 none) (fun r e => by cases e)) ⟨hown6, HMEM.out⟩ HLT.out); unfold Nd.val at hy; dsimp only at hy)
          refine wpAnyIn_ready (rs := [0]) (by kernel_rfl) (by simp) ?_
          refine AllReadyIn.cons rfl (fun K hK => ?_) ?_
          · go_simp
            refine hK _ _ ?_
            clear hK K
            refine wpAnyIn_ready (rs := [4]) (by kernel_rfl) (by simp) ?_
            refine AllReadyIn.cons rfl (fun K hK => ?_) ?_
            · go_simp
              refine hR.mono ?_
              rintro e W3 ⟨rfl, hj3, ⟨kc3, kq3⟩, kf3⟩
              dsimp only
              refine hK _ _ ?_
              clear hK K
              refine wpAnyIn_ready (rs := [5]) (by kernel_rfl) (by simp) ?_
              refine AllReadyIn.cons rfl (fun K hK => ?_) ?_
              · go_simp
                refine hK _ _ ?_
                clear hK K
                refine wpAnyIn_done (by kernel_rfl) ?_ _
                have HB6 := Lib.hid b6; have HKQ := Lib.hid kq3; have HKC := Lib.hid kc3; have HKF := Lib.hid kf3; have HO6 := Lib.hid hown6; have HJ3 := Lib.hid hj3
                clear hR hy hown6 own6 hb6 b6 cb6 hj3 kc3 kq3 kf3
                gi_wp2
                exact nt_end HB6.out HKQ.out HKC.out HKF.out HO6.out HJ3.out HCB.out HXS.out HON2.out HSZ.out HE1.out HQ.out HA.out HS0.out t1 t2 t3 HWS.out
              exact AllReadyIn.nil
            exact AllReadyIn.nil
          exact AllReadyIn.nil
        exact AllReadyIn.nil
      exact AllReadyIn.nil
    refine AllReadyIn.cons rfl (fun K hK => ?_) ?_
    · go_simp
      refine hK _ _ ?_
      clear hK K
      refine wpAnyIn_ready (rs := [0, 1, 3]) (by kernel_rfl) (by simp) ?_
      refine AllReadyIn.cons rfl (fun K hK => ?_) ?_
      · go_simp
        refine hK _ _ ?_
        clear hK K
        refine wpAnyIn_ready (rs := [1, 3]) (by kernel_rfl) (by simp) ?_
        refine AllReadyIn.cons rfl (fun K hK => ?_) ?_
        · go_simp
          refine hK _ _ ?_
          clear hK K
          refine wpAnyIn_ready (rs := [3]) (by kernel_rfl) (by simp) ?_
          refine AllReadyIn.cons rfl (fun K hK => ?_) ?_
          · go_simp
            gi_wp2_with (refine ⟨trivial, ?_⟩; gi_at_call 72; refine (CallsIn.inRound l2 (callsIn_wide.2 (KC.out _ b0))).mono ?_; rintro e w6 ⟨V6, A6, ac6, B6, bc6, rfl, own6, hb6⟩; obtain rfl := own6.val; unfold nv; have b6 := b0.trans (hb6.mono b0.size); have cb6 := (HCB.out.below' b6).cell 0; simp only [List.getElem?_toArray, List.getElem?_cons_zero] at cb6; have hown6 : OwnNd w6 w.heap.size ⟨j, ki, lk, t, u, A6, ac6, P, B6, bc6, N⟩ := ⟨own6.pages.mono (Nat.le_trans (Nat.le_trans hbw.size HSZ.out) b0.size), own6.names.mono (Nat.le_trans (Nat.le_trans hbw.size HSZ.out) b0.size)⟩; obtain ⟨fn, tmps, assign, body, hy, hR⟩ := yield_any (lp := l2) (m := n - 1 - 1 - 1) (HY.out xs ⟨j, ki, lk, t, u, A6, ac6, P, B6, bc6, N⟩ w6 (HJ.out _ _ _ none HJV.out (grown_of_below b6 none) (fun r e => by cases e)) ⟨hown6, HMEM.out⟩ HLT.out); unfold Nd.val at hy; dsimp only at hy)
            refine wpAnyIn_ready (rs := [4]) (by kernel_rfl) (by simp) ?_
            refine AllReadyIn.cons rfl (fun K hK => ?_) ?_
            · go_simp
              refine hR.mono ?_
              rintro e W3 ⟨rfl, hj3, ⟨kc3, kq3⟩, kf3⟩
              dsimp only
              refine hK _ _ ?_
              clear hK K
              refine wpAnyIn_ready (rs := [5]) (by kernel_rfl) (by simp) ?_
              refine AllReadyIn.cons rfl (fun K hK => ?_) ?_
              · go_simp
                refine hK _ _ ?_
                clear hK K
                refine wpAnyIn_done (by kernel_rfl) ?_ _
                have HB6 := Lib.hid b6; have HKQ := Lib.hid kq3; have HKC := Lib.hid kc3; have HKF := Lib.hid kf3; have HO6 := Lib.hid hown6; have HJ3 := Lib.hid hj3
                clear hR hy hown6 own6 hb6 b6 cb6 hj3 kc3 kq3 kf3
                gi_wp2
                exact nt_end HB6.out HKQ.out HKC.out HKF.out HO6.out HJ3.out HCB.out HXS.out HON2.out HSZ.out HE1.out HQ.out HA.out HS0.out t1 t2 t3 HWS.out
              exact AllReadyIn.nil
            exact AllReadyIn.nil
          exact AllReadyIn.nil
        refine AllReadyIn.cons rfl (fun K hK => ?_) ?_
        · go_simp
          gi_wp2_with (refine ⟨trivial, ?_⟩; gi_at_call 72; refine (CallsIn.inRound l2 (callsIn_wide.2 (KC.out _ b0))).mono ?_; rintro e w6 ⟨V6, A6, ac6, B6, bc6, rfl, own6, hb6⟩; obtain rfl := own6.val; unfold nv; have b6 := b0.trans (hb6.mono b0.size); have cb6 := (HCB.out.below' b6).cell 0; simp only [List.getElem?_toArray, List.getElem?_cons_zero] at cb6; have hown6 : OwnNd w6 w.heap.size ⟨j, ki, lk, t, u, A6, ac6, P, B6, bc6, N⟩ := ⟨own6.pages.mono (Nat.le_trans (Nat.le_trans hbw.size HSZ.out) b0.size), own6.names.mono (Nat.le_trans (Nat.le_trans hbw.size HSZ.out) b0.size)⟩; obtain ⟨fn, tmps, assign, body, hy, hR⟩ := yield_any (lp := l2) (m := n - 1 - 1 - 1) (HY.out xs ⟨j, ki, lk, t, u, A6, ac6, P, B6, bc6, N⟩ w6 (HJ.out _ _ _ none HJV.out (grown_of_below b6 none) (fun r e => by cases e)) ⟨hown6, HMEM.out⟩ HLT.out); unfold Nd.val at hy; dsimp only at hy)
          refine wpAnyIn_ready (rs := [1]) (by kernel_rfl) (by simp) ?_
          refine AllReadyIn.cons rfl (fun K hK => ?_) ?_
          · go_simp
            refine hK _ _ ?_
            clear hK K
            refine wpAnyIn_ready (rs := [4]) (by kernel_rfl) (by simp) ?_
            refine AllReadyIn.cons rfl (fun K hK => ?_) ?_
            · go_simp
              refine hR.mono ?_
              rintro e W3 ⟨rfl, hj3, ⟨kc3, kq3⟩, kf3⟩
              dsimp only
              refine hK _ _ ?_
              clear hK K
              refine wpAnyIn_ready (rs := [5]) (by kernel_rfl) (by simp) ?_
              refine AllReadyIn.cons rfl (fun K hK => ?_) ?_
              · go_simp
                refine hK _ _ ?_
                clear hK K
                refine wpAnyIn_done (by kernel_rfl) ?_ _
                have HB6 := Lib.hid b6; have HKQ := Lib.hid kq3; have HKC := Lib.hid kc3; have HKF := Lib.hid kf3; have HO6 := Lib.hid hown6; have HJ3 := Lib.hid hj3
                clear hR hy hown6 own6 hb6 b6 cb6 hj3 kc3 kq3 kf3
                gi_wp2
                exact nt_end HB6.out HKQ.out HKC.out HKF.out HO6.out HJ3.out HCB.out HXS.out HON2.out HSZ.out HE1.out HQ.out HA.out HS0.out t1 t2 t3 HWS.out
              exact AllReadyIn.nil
            exact AllReadyIn.nil
          exact AllReadyIn.nil
        exact AllReadyIn.nil
      refine AllReadyIn.cons rfl (fun K hK => ?_) ?_
      · go_simp
        refine hK _ _ ?_
        clear hK K
        refine wpAnyIn_ready (rs := [0, 3]) (by kernel_rfl) (by simp) ?_
        refine AllReadyIn.cons rfl (fun K hK => ?_) ?_
        · go_simp
          refine hK _ _ ?_
          clear hK K
          refine wpAnyIn_ready (rs := [3]) (by kernel_rfl) (by simp) ?_
          refine AllReadyIn.cons rfl (fun K hK => ?_) ?_
          · go_simp
            gi_wp2_with (refine ⟨trivial, ?_⟩; gi_at_call 72; refine (CallsIn.inRound l2 (callsIn_wide.2 (KC.out _ b0))).mono ?_; rintro e w6 ⟨V6, A6, ac6, B6, bc6, rfl, own6, hb6⟩; obtain rfl := own6.val; unfold nv; have b6 := b0.trans (hb6.mono b0.size); have cb6 := (HCB.out.below' b6).cell 0; simp only [List.getElem?_toArray, List.getElem?_cons_zero] at cb6; have hown6 : OwnNd w6 w.heap.size ⟨j, ki, lk, t, u, A6, ac6, P, B6, bc6, N⟩ := ⟨own6.pages.mono (Nat.le_trans (Nat.le_trans hbw.size HSZ.out) b0.size), own6.names.mono (Nat.le_trans (Nat.le_trans hbw.size HSZ.out) b0.size)⟩; obtain ⟨fn, tmps, assign, body, hy, hR⟩ := yield_any (lp := l2) (m := n - 1 - 1 - 1) (HY.out xs ⟨j, ki, lk, t, u, A6, ac6, P, B6, bc6, N⟩ w6 (HJ.out _ _ _ none HJV.out (grown_of_below b6 none) (fun r e => by cases e)) ⟨hown6, HMEM.out⟩ HLT.out); unfold Nd.val at hy; dsimp only at hy)
            refine wpAnyIn_ready (rs := [4]) (by kernel_rfl) (by simp) ?_
            refine AllReadyIn.cons rfl (fun K hK => ?_) ?_
            · go_simp
              refine hR.mono ?_
              rintro e W3 ⟨rfl, hj3, ⟨kc3, kq3⟩, kf3⟩
              dsimp only
              refine hK _ _ ?_
              clear hK K
              refine wpAnyIn_ready (rs := [5]) (by kernel_rfl) (by simp) ?_
              refine AllReadyIn.cons rfl (fun K hK => ?_) ?_
              · go_simp
                refine hK _ _ ?_
                clear hK K
                refine wpAnyIn_done (by kernel_rfl) ?_ _
                have HB6 := Lib.hid b6; have HKQ := Lib.hid kq3; have HKC := Lib.hid kc3; have HKF := Lib.hid kf3; have HO6 := Lib.hid hown6; have HJ3 := Lib.hid hj3
                clear hR hy hown6 own6 hb6 b6 cb6 hj3 kc3 kq3 kf3
                gi_wp2
                exact nt_end HB6.out HKQ.out HKC.out HKF.out HO6.out HJ3.out HCB.out HXS.out HON2.out HSZ.out HE1.out HQ.out HA.out HS0.out t1 t2 t3 HWS.out
              exact AllReadyIn.nil
            exact AllReadyIn.nil
          exact AllReadyIn.nil
        refine AllReadyIn.cons rfl (fun K hK => ?_) ?_
        · go_simp
          gi_wp2_with (refine ⟨trivial, ?_⟩; gi_at_call 72; refine (CallsIn.inRound l2 (callsIn_wide.2 (KC.out _ b0))).mono ?_; rintro e w6 ⟨V6, A6, ac6, B6, bc6, rfl, own6, hb6⟩; obtain rfl := own6.val; unfold nv; have b6 := b0.trans (hb6.mono b0.size); have cb6 := (HCB.out.below' b6).cell 0; simp only [List.getElem?_toArray, List.getElem?_cons_zero] at cb6; have hown6 : OwnNd w6 w.heap.size ⟨j, ki, lk, t, u, A6, ac6, P, B6, bc6, N⟩ := ⟨own6.pages.mono (Nat.le_trans (Nat.le_trans hbw.size HSZ.out) b0.size), own6.names.mono (Nat.le_trans (Nat.le_trans hbw.size HSZ.out) b0.size)⟩; obtain ⟨fn, tmps, assign, body, hy, hR⟩ := yield_any (lp := l2) (m := n - 1 - 1 - 1) (HY.out xs ⟨j, ki, lk, t, u, A6, ac6, P, B6, bc6, N⟩ w6 (HJ.out _ _ _ none HJV.out (grown_of_below b6 none) (fun r e => by cases e)) ⟨hown6, HMEM.out⟩ HLT.out); unfold Nd.val at hy; dsimp only at hy)
          refine wpAnyIn_ready (rs := [0]) (by kernel_rfl) (by simp) ?_
          refine AllReadyIn.cons rfl (fun K hK => ?_) ?_
          · go_simp
            refine hK _ _ ?_
            clear hK K
            refine wpAnyIn_ready (rs := [4]) (by kernel_rfl) (by simp) ?_
            refine AllReadyIn.cons rfl (fun K hK => ?_) ?_
            · go_simp
              refine hR.mono ?_
              rintro e W3 ⟨rfl, hj3, ⟨kc3, kq3⟩, kf3⟩
              dsimp only
              refine hK _ _ ?_
              clear hK K
              refine wpAnyIn_ready (rs := [5]) (by kernel_rfl) (by simp) ?_
              refine AllReadyIn.cons rfl (fun K hK => ?_) ?_
              · go_simp
                refine hK _ _ ?_
                clear hK K
                refine wpAnyIn_done (by kernel_rfl) ?_ _
                have HB6 := Lib.hid b6; have HKQ := Lib.hid kq3; have HKC := Lib.hid kc3; have HKF := Lib.hid kf3; have HO6 := Lib.hid hown6; have HJ3 := Lib.hid hj3
                clear hR hy hown6 own6 hb6 b6 cb6 hj3 kc3 kq3 kf3
                gi_wp2
                exact nt_end HB6.out HKQ.out HKC.out HKF.out HO6.out HJ3.out HCB.out HXS.out HON2.out HSZ.out HE1.out HQ.out HA.out HS0.out t1 t2 t3 HWS.out
              exact AllReadyIn.nil
            exact AllReadyIn.nil
          exact AllReadyIn.nil
        exact AllReadyIn.nil
      refine AllReadyIn.cons rfl (fun K hK => ?_) ?_
      · go_simp
        gi_wp2_with (refine ⟨trivial, ?_⟩; gi_at_call 72; refine (CallsIn.inRound l2 (callsIn_wide.2 (KC.out _ b0))).mono ?_; rintro e w6 ⟨V6, A6, ac6, B6, bc6, rfl, own6, hb6⟩; obtain rfl := own6.val; unfold nv; have b6 := b0.trans (hb6.mono b0.size); have cb6 := (HCB.out.below' b6).cell 0; simp only [List.getElem?_toArray, List.getElem?_cons_zero] at cb6; have hown6 : OwnNd w6 w.heap.size ⟨j, ki, lk, t, u, A6, ac6, P, B6, bc6, N⟩ := ⟨own6.pages.mono (Nat.le_trans (Nat.le_trans hbw.size HSZ.out) b0.size), own6.names.mono (Nat.le_trans (Nat.le_trans hbw.size HSZ.out) b0.size)⟩; obtain ⟨fn, tmps, assign, body, hy, hR⟩ := yield_any (lp := l2) (m := n - 1 - 1 - 1) (HY.out xs ⟨j, ki, lk, t, u, A6, ac6, P, B6, bc6, N⟩ w6 (HJ.out _ _ _ none HJV.out (grown_of_below b6 none) (fun r e => by cases e)) ⟨hown6, HMEM.out⟩ HLT.out); unfold Nd.val at hy; dsimp only at hy)
        refine wpAnyIn_ready (rs := [0, 1]) (by kernel_rfl) (by simp) ?_
        refine AllReadyIn.cons rfl (fun K hK => ?_) ?_
        · go_simp
          refine hK _ _ ?_
          clear hK K
          refine wpAnyIn_ready (rs := [1]) (by kernel_rfl) (by simp) ?_
          refine AllReadyIn.cons rfl (fun K hK => ?_) ?_
          · go_simp
            refine hK _ _ ?_
            clear hK K
            refine wpAnyIn_ready (rs := [4]) (by kernel_rfl) (by simp) ?_
            refine AllReadyIn.cons rfl (fun K hK => ?_) ?_
            · go_simp
              refine hR.mono ?_
              rintro e W3 ⟨rfl, hj3, ⟨kc3, kq3⟩, kf3⟩
              dsimp only
              refine hK _ _ ?_
              clear hK K
              refine wpAnyIn_ready (rs := [5]) (by kernel_rfl) (by simp) ?_
              refine AllReadyIn.cons rfl (fun K hK => ?_) ?_
              · go_simp
                refine hK _ _ ?_
                clear hK K
                refine wpAnyIn_done (by kernel_rfl) ?_ _
                have HB6 := Lib.hid b6; have HKQ := Lib.hid kq3; have HKC := Lib.hid kc3; have HKF := Lib.hid kf3; have HO6 := Lib.hid hown6; have HJ3 := Lib.hid hj3
                clear hR hy hown6 own6 hb6 b6 cb6 hj3 kc3 kq3 kf3
                gi_wp2
                exact nt_end HB6.out HKQ.out HKC.out HKF.out HO6.out HJ3.out HCB.out HXS.out HON2.out HSZ.out HE1.out HQ.out HA.out HS0.out t1 t2 t3 HWS.out
              exact AllReadyIn.nil
            exact AllReadyIn.nil
          exact AllReadyIn.nil
        refine AllReadyIn.cons rfl (fun K hK => ?_) ?_
        · go_simp
          refine hK _ _ ?_
          clear hK K
          refine wpAnyIn_ready (rs := [0]) (by kernel_rfl) (by simp) ?_
          refine AllReadyIn.cons rfl (fun K hK => ?_) ?_
          · go_simp
            refine hK _ _ ?_
            clear hK K
            refine wpAnyIn_ready (rs := [4]) (by kernel_rfl) (by simp) ?_
            refine AllReadyIn.cons rfl (fun K hK => ?_) ?_
            · go_simp
              refine hR.mono ?_
              rintro e W3 ⟨rfl, hj3, ⟨kc3, kq3⟩, kf3⟩
              dsimp only
              refine hK _ _ ?_
              clear hK K
              refine wpAnyIn_ready (rs := [5]) (by kernel_rfl) (by simp) ?_
              refine AllReadyIn.cons rfl (fun K hK => ?_) ?_
              · go_simp
                refine hK _ _ ?_
                clear hK K
                refine wpAnyIn_done (by kernel_rfl) ?_ _
                have HB6 := Lib.hid b6; have HKQ := Lib.hid kq3; have HKC := Lib.hid kc3; have HKF := Lib.hid kf3; have HO6 := Lib.hid hown6; have HJ3 := Lib.hid hj3
                clear hR hy hown6 own6 hb6 b6 cb6 hj3 kc3 kq3 kf3
                gi_wp2
                exact nt_end HB6.out HKQ.out HKC.out HKF.out HO6.out HJ3.out HCB.out HXS.out HON2.out HSZ.out HE1.out HQ.out HA.out HS0.out t1 t2 t3 HWS.out
              exact AllReadyIn.nil
            exact AllReadyIn.nil
          exact AllReadyIn.nil
        exact AllReadyIn.nil
      exact AllReadyIn.nil
    exact AllReadyIn.nil
  case done =>
    rintro D ys V hD hys ⟨⟨xs, e1, hj, hxs⟩, hon, hcb, hsz⟩ hK
    have HXS := Lib.hid hxs; have HJV := Lib.hid hj; have HE1 := Lib.hid e1; have HK := Lib.hid hK; have HDD := Lib.hid hD
    clear hxs hon hcb hsz e1 hj hK hD
    gi_wp2
    refine ⟨by simp, .inl ⟨_, _, rfl, run_takeDeferred HK.out, ?_⟩⟩
    refine ⟨_, results_none rfl _ _ _, ⟨_, rfl⟩, xs, ⟨?_, ?_⟩, HJ.out.putObj _ HJV.out (by have := HDD.out; rw [HS0.out] at this; omega) HK.out rfl⟩
    · rw [HE1.out, ← lift_plain hys HPL.out]
    · exact (own_nds (β := Unit) 0 w.heap.size (fun _ => xs)).putObj (s := ()) _ HXS.out (Nat.zero_le _) HK.out rfl
end Go.Proofs.YtbejbiogabpmfaaGreat
