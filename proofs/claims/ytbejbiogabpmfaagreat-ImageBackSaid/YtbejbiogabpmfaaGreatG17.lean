import Derived.Test.YtbejbiogabpmfaaGreatG14
import Derived.Test.YtbejbiogabpmfaaGreatG15
import Derived.Test.YtbejbiogabpmfaaGreatG16
import Derived.Deep.RegionHeld3
import Derived.WalkMore
import Derived.Deep.RegionWith
import Derived.Test.YtbejbiogabpmfaaGreatG09

/-! The document's State: kind, named, put, cut. -/
namespace Go.Proofs.YtbejbiogabpmfaaGreat
open Wd Ino Sm Go.RowKit Go.ChangeShapes Go.WideShapes Go.Sort
set_option linter.unusedVariables false
set_option maxRecDepth 100000
section
variable {w w' : World} {base g : Nat} {Ls : List Nd} {v : Value} {S : Stt}
theorem DSx.at_ (h : DSx w base g Ls v S) {i : Int} {n0 : Nod} (h0 : atS S.l i = some n0) : ∃ (n : Nd) (k gL c : Nat), Ls[k]? = some n ∧ n.plain = n0 ∧ atI S.l i = (k : Int) ∧ v = .slice (some ⟨gL, 0, none⟩) Ls.length c ∧ Ls.length ≤ c ∧ base ≤ gL ∧ k < Ls.length ∧ OwnNd w base n ∧
    ∀ j u, n.cells[j]? = some u → w.cell? ⟨gL, k * 7 + j, none⟩ = some u ∧ w.frozen? ⟨gL, k * 7 + j, none⟩ = false := by
  obtain ⟨h1, h2'⟩ := idx_some h0
  have h2 : (Ls.map Nd.plain)[idxS S.l i]? = some n0 := by rw [h.eq]; exact h2'
  rw [List.getElem?_map] at h2
  obtain ⟨n, h3, h4⟩ := Option.map_eq_some_iff.1 h2
  obtain ⟨A, c, rfl, hc, hF⟩ := h.form
  obtain ⟨gL, rfl, hb, hx⟩ := hF _ n h3
  exact ⟨n, _, gL, c, h3, h4, atI_some h0, rfl, hc, hb, (List.getElem?_eq_some_iff.1 h3).1, h.own n (List.mem_of_getElem? h3), hx⟩
theorem rKind (h : DSx w base g Ls v S) (hlen : Ls.length ≤ 1000) (i : Int) : Calls Tryz.prog 100 #[SPtr g, .int .i64 i] w (Grows (.int .i64 (kindS S.l i)) w) := by
  have KA := Lib.hid (rAt h hlen i)
  have H := Lib.hid h
  cases hi : atS S.l i with
  | none =>
    rw [atI_none hi] at KA
    have HK := Lib.hid (show kindS S.l i = 0 by unfold kindS getS; rw [hi]; rfl)
    rw [HK.out]
    clear h hi
    unfold SPtr at *
    go_enter Tryz.func100, Tryz.ntmps100
    go_wp2_with fail
    refine (KA.out).mono ?_
    rintro e w1 ⟨rfl, hw1⟩
    have HG := Lib.hid hw1
    clear hw1
    go_wp2
    go_ret
    exact ⟨rfl, HG.out⟩
  | some n0 =>
    obtain ⟨n, k, gL, c, h1, h2, h3, rfl, hc, hb, hk, ho, _⟩ := h.at_ hi
    have HK := Lib.hid (show kindS S.l i = n.kind by unfold kindS; rw [getS_some hi, ← h2]; rfl)
    rw [h3] at KA
    rw [HK.out]
    have HI := Lib.hid hi
    obtain ⟨j, ki, l, t, u, A0, ac, P, B, bc, N⟩ := n
    dsimp only
    have hlt2 : (k : Int) < (Ls.length : Int) := Int.ofNat_lt.2 hk
    have HK1 := Lib.hid h1
    clear h hi h1 h2 h3 ho HK
    unfold SPtr at *
    go_enter Tryz.func100, Tryz.ntmps100
    go_wp2_with fail
    refine (KA.out).mono ?_
    rintro e w1 ⟨rfl, hw1⟩
    have HG := Lib.hid hw1
    have h5 := H.out.below (grown_b hw1)
    have c0 := h5.c0
    obtain ⟨A', c', hv, _, hF⟩ := h5.form
    injection hv with hv1 hv2 hv3
    obtain ⟨gL', hA, _, hx⟩ := hF k _ HK1.out
    rw [hA] at hv1
    injection hv1 with hv1
    injection hv1 with hv1
    subst hv1
    have x1 := (hx 1 _ rfl).1
    dsimp only at x1
    clear hw1 h5 hv2 hv3 hA hx hF
    go_wp2
    go_ret
    exact ⟨rfl, HG.out⟩
def namedS (l : List Nod) (d : Int) (s : ByteArray) : Int := if kindS l d = 2 then inoN s (namesS l d) else 0
theorem DSx.row_cells {c gL k : Nat} {n : Nd} (h : DSx w base g Ls (.slice (some ⟨gL, 0, none⟩) Ls.length c) S) (h1 : Ls[k]? = some n) : ∀ j u, n.cells[j]? = some u → w.cell? ⟨gL, k * 7 + j, none⟩ = some u ∧ w.frozen? ⟨gL, k * 7 + j, none⟩ = false := by
  obtain ⟨A', c', hv, _, hF⟩ := h.form
  injection hv with hv1 hv2 hv3
  obtain ⟨gL', hA, _, hx⟩ := hF k _ h1
  rw [hA] at hv1
  injection hv1 with hv1
  injection hv1 with hv1
  subst hv1
  exact hx
set_option maxHeartbeats 4000000 in
theorem rNamed (h : DSx w base g Ls v S) (hlen : Ls.length ≤ 1000) (hs : SmS S.l) (d : Int) (s : ByteArray) : Calls Tryz.prog 101 #[SPtr g, .int .i64 d, .string s] w (Grows (.int .i64 (namedS S.l d s)) w) := by
  have hfol : Tryz.prog.follows .mixedOrders = true := by kernel_rfl
  have KK := Lib.hid (rKind h hlen d)
  have H := Lib.hid h
  by_cases hk2 : kindS S.l d = 2
  · obtain ⟨n0, hi, _⟩ := at_of_kind (l := S.l) (i := d) (by rw [hk2]; decide)
    obtain ⟨n, k, gL, c, h1, h2, h3, rfl, hc, hb, hk, ho, _⟩ := h.at_ hi
    have hN : namedS S.l d s = inoN s n.names := by unfold namedS namesS; rw [if_pos hk2, getS_some hi, ← h2]; rfl
    rw [hN]
    rw [hk2] at KK
    have hq : n.names.length ≤ 1000 := by have := hs n0 (atS_mem hi); rw [← h2] at this; exact Nat.le_trans this.q (by decide)
    have hlt2 : (k : Int) < (Ls.length : Int) := Int.ofNat_lt.2 hk
    have HK1 := Lib.hid h1
    have H3 := Lib.hid h3; have HO := Lib.hid ho; have HL := Lib.hid hlen
    clear h hi h2 h3 hk2 h1 ho hN hs
    unfold SPtr at *
    go_enter Tryz.func101, Tryz.ntmps101
    go_wp2_with fail
    refine (KK.out).mono ?_
    rintro e w1 ⟨rfl, hw1⟩
    have HG := Lib.hid hw1
    have h5 := H.out.below (grown_b hw1)
    have KA := Lib.hid (fun n os => Grows.inAt (fun n os => by have := rAt (h5.below (below_grow' w1 n os)) HL.out d; rw [H3.out] at this; exact this) n os)
    have hE := (HO.out.below (grown_b hw1)).ens.2
    have KF := Lib.hid (fun nn os => Grows.inAt (fun nn os => rFind (c := n.bc) (hE.below (below_grow' w1 nn os)) (below_grow' w1 nn os).size hq s) nn os)
    have c0 := cell_grown (a := ⟨g, 0, none⟩) h5.cells.lt h5.c0
    obtain ⟨j, ki, l, t, u, A0, ac, P, B, bc, N⟩ := n
    have hx6 := (h5.row_cells HK1.out 6 _ rfl).1
    dsimp only at hx6 KF
    have x6 := cell_grown (a := ⟨gL, k * 7 + 6, none⟩) (World.block_lt_of_cell? _ _ hx6) hx6
    dsimp only
    unfold SPtr at KA
    clear hw1 h5 hE hx6 KK
    go_upto_region 3 with fail
    refine wp_region_quiet_grown hfol (by kernel_rfl) ?_
    repeat (go_big_quiet_step (first | (go_at_call 99; (with_reducible exact KA.out _ _)) | (go_at_call 144; (with_reducible exact KF.out _ _))))
    refine wpQuiet_nil ?_
    intro _ hw'
    obtain ⟨⟨nr, osr⟩, hw''⟩ := hw'
    subst hw''
    have HG2 := Lib.hid (grow_trans HG.out (show ∃ q os, grow (w1.drewN nr) osr = grow (w1.drewN q) os from ⟨nr, osr, rfl⟩))
    go_wp2
    go_ret
    exact ⟨rfl, HG2.out⟩
  · have q0 : (kindS S.l d != 2) = true := by simpa using hk2
    have hN : namedS S.l d s = 0 := by unfold namedS; rw [if_neg hk2]
    rw [hN]
    obtain ⟨kk, hkk⟩ : ∃ kk, kindS S.l d = kk := ⟨_, rfl⟩
    rw [hkk] at KK q0
    clear h hk2 hN hkk hs
    unfold SPtr at *
    go_enter Tryz.func101, Tryz.ntmps101
    go_wp2_with fail
    refine (KK.out).mono ?_
    rintro e w1 ⟨rfl, hw1⟩
    have HG := Lib.hid hw1
    clear hw1
    go_wp2
    go_ret
    exact ⟨rfl, HG.out⟩
end
end Go.Proofs.YtbejbiogabpmfaaGreat

/-! The document's State: put, cut. -/
namespace Go.Proofs.YtbejbiogabpmfaaGreat
open Wd Ino Sm Go.RowKit Go.ChangeShapes Go.WideShapes Go.Sort
set_option linter.unusedVariables false
set_option maxRecDepth 100000
theorem flat_set {α : Type} {f : α → List Value} {K : Nat} (hK : ∀ a, (f a).length = K) {x x' : α} {j : Nat} {u : Value} (hj : j < K) (hx : f x' = (f x).set j u) : ∀ (l : List α) (k : Nat), l[k]? = some x → (l.set k x').flatMap f = (l.flatMap f).set (k * K + j) u := by
  intro l
  induction l with
  | nil => intro k h; simp at h
  | cons a l ih =>
    intro k h
    cases k with
    | zero =>
      simp at h
      subst h
      rw [List.set_cons_zero, List.flatMap_cons, List.flatMap_cons, hx, Nat.zero_mul, Nat.zero_add, List.set_append_left _ _ (by rw [hK]; exact hj)]
    | succ k =>
      rw [List.set_cons_succ, List.flatMap_cons, List.flatMap_cons, ih k (by simpa using h), List.set_append_right _ _ (by rw [hK, Nat.add_mul]; omega), hK]
      congr 2
      rw [Nat.add_mul]; omega
theorem mod_set {l : List Nod} (hp : AscS l) {i : Int} {f : Nod → Nod} {n : Nod} : ∀ {k : Nat}, l[k]? = some n → n.ino = i → modS l i f = l.set k (f n) := by
  induction l with
  | nil => intro k h; simp at h
  | cons a l ih =>
    have hp' := List.pairwise_cons.1 hp
    intro k h hn
    have e : modS (a :: l) i f = (if a.ino = i then f a else a) :: modS l i f := rfl
    rw [e]
    cases k with
    | zero =>
      simp at h
      subst h
      rw [if_pos hn, List.set_cons_zero]
      congr 1
      unfold modS
      conv => rhs; rw [← List.map_id l]
      refine List.map_congr_left fun b hb => ?_
      have := hp'.1 b hb
      rw [if_neg (by omega)]; rfl
    | succ k =>
      have h' : l[k]? = some n := by simpa using h
      have := hp'.1 n (List.mem_of_getElem? h')
      rw [if_neg (by omega), List.set_cons_succ, ih hp'.2 h' hn]
theorem KeepC.set' {w : World} {g : Nat} {T : TypeId} {cs : Array Value} (hc : Cells w g T cs) (i : Nat) (u : Value) : KeepC [T] w (w.setCell ⟨g, i, none⟩ u) := fun q t cs' ht hc' => hc'.far (fun e => ht (by
    have e' : q = g := e
    subst e'
    have : t = T := Decidable.byContradiction fun hne => hc'.ne hc hne rfl
    rw [this]; exact List.mem_singleton.2 rfl)) _
/-- it returns nothing; the state is S' -/
def DGo (S' : Stt) (base g : Nat) (Ls : List Nd) (w : World) (e : Ending) (w' : World) : Prop := e = .returned (.tuple #[]) ∧ ∃ Ls' v', DSx w' base g Ls' v' S' ∧ Ls'.length ≤ Ls.length ∧ Below base w w' ∧ KeepC [51, 75] w w'
section
variable {w w' : World} {base g : Nat} {Ls : List Nd} {v : Value} {S : Stt}
theorem DSx.blk {c gL k : Nat} (h : DSx w base g Ls (.slice (some ⟨gL, 0, none⟩) Ls.length c) S) (hk : k < Ls.length) : ∃ cur, Cells w gL 51 cur ∧ base ≤ gL := by
  rcases h.row.2 with ⟨h0, _⟩ | ⟨g', cap', cur, hv, hb, hh, _⟩
  · cases h0
  · injection hv with hv _ _
    injection hv with hv
    injection hv with hv
    subst hv
    exact ⟨cur, hh, hb⟩
theorem DSx.set {c gL k : Nat} {n n' : Nd} (h : DSx w base g Ls (.slice (some ⟨gL, 0, none⟩) Ls.length c) S) (hk : Ls[k]? = some n) (ha : AscS S.l) {f : Nod → Nod} (hf : n'.plain = f n.plain) {j : Nat} {u : Value} (hj : j < 7) (hx : n'.cells = n.cells.set j u) (ho : OwnNd w base n') :
    DSx (w.setCell ⟨gL, k * 7 + j, none⟩ u) base g (Ls.set k n') (.slice (some ⟨gL, 0, none⟩) Ls.length c) ⟨modS S.l n.ino f, S.last⟩ := by
  have hkl := (List.getElem?_eq_some_iff.1 hk).1
  obtain ⟨cur, hc, hb⟩ := h.blk hkl
  have hkc : KeepC [51] w (w.setCell ⟨gL, k * 7 + j, none⟩ u) := fun q t cs ht hcs => hcs.far (fun e => ht (by
    have e' : q = gL := e
    subst e'
    have : t = 51 := Decidable.byContradiction fun hne => hcs.ne hc hne rfl
    rw [this]; exact List.mem_singleton.2 rfl)) _
  refine ⟨h.lo, hkc _ _ _ (by decide) h.cells, ?_, fun m hm => ?_, ?_⟩
  · have h1 := ownK_set h.row (k * 7 + j) u
    rw [show ndvals (Ls.set k n') = (ndvals Ls).set (k * 7 + j) u from flat_set cells_len hj hx Ls k hk, List.length_set]
    exact h1
  · rcases List.mem_or_eq_of_mem_set hm with hm | rfl
    · exact (h.own m hm).keep hkc (by decide) (by decide)
    · exact ho.keep hkc (by decide) (by decide)
  · show (Ls.set k n').map Nd.plain = modS S.l n.ino f
    rw [List.map_set, h.eq, hf]
    refine (mod_set ha ?_ rfl).symm
    rw [← h.eq, List.getElem?_map, hk]; rfl
set_option maxHeartbeats 4000000 in
theorem rPutS (h : DSx w base g Ls v S) (hlen : Ls.length ≤ 1000) (hs : SmS S.l) (ha : AscS S.l) (d : Int) {n0 : Nod} (h0 : atS S.l d = some n0) (s : ByteArray) (hno : hasN s n0.names = false) (i : Int) :
    Calls Tryz.prog 102 #[SPtr g, .int .i64 d, .string s, .int .i64 i] w (DGo ⟨enterS S.l d s i, S.last⟩ base g Ls w) := by
  have KA := Lib.hid (rAt h hlen d)
  have hd : n0.ino = d := atS_ino h0
  obtain ⟨n, k, gL, c, h1, h2, h3, rfl, hc, hb, hk, ho, _⟩ := h.at_ h0
  rw [h3] at KA
  have hsm := hs n0 (atS_mem h0)
  rw [← h2] at hsm
  have hq : n.names.length ≤ 1000 := Nat.le_trans hsm.q (by decide)
  have hnn : hasN s n.names = false := by have := hno; rw [← h2] at this; exact this
  have H := Lib.hid h; have HK1 := Lib.hid h1; have HO := Lib.hid ho; have HA := Lib.hid ha; have HLT := Lib.hid hk
  have HD := Lib.hid (show n.ino = d by rw [← hd, ← h2]; rfl)
  have hlt2 : (k : Int) < (Ls.length : Int) := Int.ofNat_lt.2 hk
  clear h h0 h1 h2 h3 ho ha hs hd hk
  clear hno
  unfold SPtr at *
  go_enter Tryz.func102, Tryz.ntmps102
  go_wp2_with fail
  refine (KA.out).mono ?_
  rintro e w2 ⟨rfl, hw1⟩
  have hb2 := grown_b hw1
  have h5 := H.out.below hb2
  obtain ⟨hbc, hE2⟩ := (HO.out.below hb2).ens
  have KP := Lib.hid (fun wx (b : Below w2.heap.size w2 wx) => rPutO (c := n.bc) (hE2.below (by exact b)) b.size hbc hq s i hnn)
  obtain ⟨cur, hcl, hbl⟩ := h5.blk HLT.out
  have HB2 := Lib.hid hb2; have H5 := Lib.hid h5; have HCL := Lib.hid hcl; have HBL := Lib.hid hbl
  have hx6 := h5.row_cells HK1.out 6 _ rfl
  have HBASE := Lib.hid (show base ≤ w2.heap.size by have := h5.lo; have := h5.cells.lt; omega)
  have HX6 := Lib.hid hx6
  obtain ⟨J, ki, l, t, u, A0, ac, P, B, bc, N⟩ := n
  dsimp only at KP HX6 hbc hq hsm hE2 hx6
  have b0 : Below w2.heap.size w2 w2.drew := below_drewN (Below.refl _ _) 1
  have s9 : ∀ w' : World, (∀ q, q < w2.heap.size → q ≠ gL → w'.heap[q]? = w2.heap[q]?) → w'.cell? ⟨g, 0, none⟩ = some (.slice (some ⟨gL, 0, none⟩) Ls.length c) := fun w' hb' => by
    have d1 : Cells w' g _ _ := (hb' g H5.out.cells.lt (fun e => by subst e; exact H5.out.cells.ne HCL.out (by decide) rfl)).trans H5.out.cells
    exact d1.cell 0
  have S9 := Lib.hid s9
  have x6 := HX6.out.1
  have c0 := H5.out.c0
  clear hw1 hb2 h5 hcl hbl hx6 s9 KA hE2 hsm hbc
  go_upto_region 1 with fail
  go_region_with
    (first
    | (go_at_call 145; (with_reducible refine (KP.out _ b0).mono ?_); rintro e' w3 ⟨B3, bc3, rfl, hc3, ho3, hb3⟩; have b3 := b0.trans (hb3.mono b0.size); have c3 := S9.out _ (fun q hq _ => b3.block q hq); have HO3 := Lib.hid ho3; have y6 := (HCL.out.below' b3).cell (k * 7 + 6); rw [← HCL.out.cell (k * 7 + 6), HX6.out.1] at y6; have z6 := (HCL.out.below' b3).free (k * 7 + 6)))
  all_goals
    have h6 := (H5.out.below b3).set HK1.out HA.out (n' := ⟨J, ki, l, t, u, A0, ac, P, B3, bc3, putR s i N⟩) (f := putNm s i) rfl (j := 6) (u := .slice B3 (putR s i N).length bc3) (by decide) rfl
      ⟨((HO.out.below HB2.out).below b3).1, HO3.out.mono HBASE.out⟩
    dsimp only at h6
    rw [show J = d from HD.out] at h6
    have H6 := Lib.hid h6
    have HB6 := Lib.hid (show Below base w (w3.setCell ⟨gL, k * 7 + 6, none⟩ (.slice B3 (putR s i N).length bc3)) from ((HB2.out.trans (b3.mono HB2.out.size)).mono (by have := H.out.lo; have := H.out.cells.lt; omega)).setCell (p := ⟨gL, k * 7 + 6, none⟩) HBL.out _)
    have HKC := Lib.hid (show KeepC [51, 75] w (w3.setCell ⟨gL, k * 7 + 6, none⟩ (.slice B3 (putR s i N).length bc3)) from
      ((KeepC.of HB2.out).trans (KeepC.of b3)).trans ((KeepC.set' (HCL.out.below' b3) (k * 7 + 6) _).more (fun x hx => List.mem_cons.2 (.inl (List.mem_singleton.1 hx)))))
    clear h6 hc3 ho3 hb3 x6 y6 z6
    go_end0
    exact ⟨rfl, _, _, H6.out, (by rw [List.length_set]; exact Nat.le_refl _), HB6.out, HKC.out⟩
set_option maxHeartbeats 4000000 in
theorem rCutS (h : DSx w base g Ls v S) (hlen : Ls.length ≤ 1000) (hs : SmS S.l) (ha : AscS S.l) (d : Int) {n0 : Nod} (h0 : atS S.l d = some n0) (s : ByteArray) :
    Calls Tryz.prog 146 #[SPtr g, .int .i64 d, .string s] w (DGo ⟨leaveS S.l d s, S.last⟩ base g Ls w) := by
  have KA := Lib.hid (rAt h hlen d)
  have hd : n0.ino = d := atS_ino h0
  obtain ⟨n, k, gL, c, h1, h2, h3, rfl, hc, hb, hk, ho, _⟩ := h.at_ h0
  rw [h3] at KA
  have hsm := hs n0 (atS_mem h0)
  rw [← h2] at hsm
  have hq : n.names.length ≤ 1000 := Nat.le_trans hsm.q (by decide)
  have hnn := True.intro
  have H := Lib.hid h; have HK1 := Lib.hid h1; have HO := Lib.hid ho; have HA := Lib.hid ha; have HLT := Lib.hid hk
  have HD := Lib.hid (show n.ino = d by rw [← hd, ← h2]; rfl)
  have hlt2 : (k : Int) < (Ls.length : Int) := Int.ofNat_lt.2 hk
  clear h h0 h1 h2 h3 ho ha hs hd hk
  skip
  unfold SPtr at *
  go_enter Tryz.func146, Tryz.ntmps146
  go_wp2_with fail
  refine (KA.out).mono ?_
  rintro e w2 ⟨rfl, hw1⟩
  have hb2 := grown_b hw1
  have h5 := H.out.below hb2
  obtain ⟨hbc, hE2⟩ := (HO.out.below hb2).ens
  have KP := Lib.hid (fun wx (b : Below w2.heap.size w2 wx) => rDropO (c := n.bc) (hE2.below (by exact b)) b.size hq s)
  obtain ⟨cur, hcl, hbl⟩ := h5.blk HLT.out
  have HB2 := Lib.hid hb2; have H5 := Lib.hid h5; have HCL := Lib.hid hcl; have HBL := Lib.hid hbl
  have hx6 := h5.row_cells HK1.out 6 _ rfl
  have HBASE := Lib.hid (show base ≤ w2.heap.size by have := h5.lo; have := h5.cells.lt; omega)
  have HX6 := Lib.hid hx6
  obtain ⟨J, ki, l, t, u, A0, ac, P, B, bc, N⟩ := n
  dsimp only at KP HX6 hbc hq hsm hE2 hx6
  have b0 : Below w2.heap.size w2 w2.drew := below_drewN (Below.refl _ _) 1
  have s9 : ∀ w' : World, (∀ q, q < w2.heap.size → q ≠ gL → w'.heap[q]? = w2.heap[q]?) → w'.cell? ⟨g, 0, none⟩ = some (.slice (some ⟨gL, 0, none⟩) Ls.length c) := fun w' hb' => by
    have d1 : Cells w' g _ _ := (hb' g H5.out.cells.lt (fun e => by subst e; exact H5.out.cells.ne HCL.out (by decide) rfl)).trans H5.out.cells
    exact d1.cell 0
  have S9 := Lib.hid s9
  have x6 := HX6.out.1
  have c0 := H5.out.c0
  clear hw1 hb2 h5 hcl hbl hx6 s9 KA hE2 hsm hbc
  go_upto_region 1 with fail
  go_region_with
    (first
    | (go_at_call 179; (with_reducible refine (KP.out _ b0).mono ?_); rintro e' w3 ⟨B3, bc3, rfl, hc3, ho3, hb3⟩; have b3 := b0.trans (hb3.mono b0.size); have c3 := S9.out _ (fun q hq _ => b3.block q hq); have HO3 := Lib.hid ho3; have y6 := (HCL.out.below' b3).cell (k * 7 + 6); rw [← HCL.out.cell (k * 7 + 6), HX6.out.1] at y6; have z6 := (HCL.out.below' b3).free (k * 7 + 6)))
  all_goals
    have h6 := (H5.out.below b3).set HK1.out HA.out (n' := ⟨J, ki, l, t, u, A0, ac, P, B3, bc3, dropN s N⟩) (f := cutNm s) rfl (j := 6) (u := .slice B3 (dropN s N).length bc3) (by decide) rfl
      ⟨((HO.out.below HB2.out).below b3).1, HO3.out.mono HBASE.out⟩
    dsimp only at h6
    rw [show J = d from HD.out] at h6
    have H6 := Lib.hid h6
    have HB6 := Lib.hid (show Below base w (w3.setCell ⟨gL, k * 7 + 6, none⟩ (.slice B3 (dropN s N).length bc3)) from ((HB2.out.trans (b3.mono HB2.out.size)).mono (by have := H.out.lo; have := H.out.cells.lt; omega)).setCell (p := ⟨gL, k * 7 + 6, none⟩) HBL.out _)
    have HKC := Lib.hid (show KeepC [51, 75] w (w3.setCell ⟨gL, k * 7 + 6, none⟩ (.slice B3 (dropN s N).length bc3)) from
      ((KeepC.of HB2.out).trans (KeepC.of b3)).trans ((KeepC.set' (HCL.out.below' b3) (k * 7 + 6) _).more (fun x hx => List.mem_cons.2 (.inl (List.mem_singleton.1 hx)))))
    clear h6 hc3 ho3 hb3 x6 y6 z6
    go_end0
    exact ⟨rfl, _, _, H6.out, (by rw [List.length_set]; exact Nat.le_refl _), HB6.out, HKC.out⟩
end
end Go.Proofs.YtbejbiogabpmfaaGreat

/-! Rows of nodes: append. -/
namespace Go.Proofs.YtbejbiogabpmfaaGreat
open Wd Ino Sm Go.RowKit Go.ChangeShapes Go.WideShapes Go.ChangeAt Go.Deep Go.Sort
set_option linter.unusedVariables false
set_option maxRecDepth 100000
theorem infoNd : (Tryz.prog.info? 51).map (fun i => (i.zero, i.size, i.bytes)) = some (some (nv 0 0 0 0 0 (.slice none 0 0) (.slice none 0 0)), 7, 88) := by kernel_rfl
def OwnNs (w : World) (base : Nat) (v : Value) (l : List Nd) : Prop := w.ownsRow base 51 7 v l.length (ndvals l)
def Nds (w : World) (hi : Nat) (A : Option Addr) (l : List Nd) : Prop := 0 < l.length → ∃ b off, A = some ⟨b, off, none⟩ ∧ b < hi ∧ ∀ (j : Nat) (n : Nd), l[j]? = some n → ∀ (k : Nat) (x : Value), n.cells[k]? = some x → w.cell? ⟨b, off + (j * 7 + k), none⟩ = some x
theorem ndvals_append (l m : List Nd) : ndvals (l ++ m) = ndvals l ++ ndvals m := by unfold ndvals; simp [List.flatMap_append]
theorem ndvals_len (l : List Nd) : (ndvals l).length = l.length * 7 := flat_len cells_len l
theorem ndvals_get {l : List Nd} : ∀ {J : Nat} {u : Value}, (ndvals l)[J]? = some u → ∃ e, l[J / 7]? = some e ∧ e.cells[J % 7]? = some u := by
  induction l with
  | nil => intro J u h; simp [ndvals] at h
  | cons e l ih =>
    intro J u h
    have e1 : ndvals (e :: l) = e.cells ++ ndvals l := by unfold ndvals; rw [List.flatMap_cons]
    rw [e1] at h
    by_cases hJ : J < 7
    · rw [List.getElem?_append_left (by rw [cells_len]; exact hJ)] at h
      exact ⟨e, by rw [Nat.div_eq_of_lt hJ]; rfl, by rw [Nat.mod_eq_of_lt hJ]; exact h⟩
    · rw [List.getElem?_append_right (by rw [cells_len]; omega)] at h
      obtain ⟨x, h1, h2⟩ := ih h
      rw [cells_len] at h1 h2
      refine ⟨x, ?_, ?_⟩
      · rw [show J / 7 = (J - 7) / 7 + 1 by omega]; exact h1
      · rw [show J % 7 = (J - 7) % 7 by omega]; exact h2
theorem one7 (e : Nd) : ∀ u ∈ e.cells, u.oneCell' = true := by
  intro u hu
  unfold Nd.cells at hu
  simp only [List.mem_cons, List.not_mem_nil, or_false] at hu
  rcases hu with rfl | rfl | rfl | rfl | rfl | rfl | rfl <;> rfl
theorem run_append_nds {w : World} {base hi : Nat} {v : Value} {l m : List Nd} {A : Option Addr} {c : Nat} (ty : TypeId) (hown : OwnNs w base v l) (hx : Nds w hi A m) (hl : l.length + m.length ≤ 100000) (hb : base ≤ w.heap.size) :
    ∃ v' w', (Builtin.append_ #[73, 73] ty #[v, .slice A m.length c]).run Tryz.prog w = .ok v' w' ∧ OwnNs w' base v' (l ++ m) ∧ w.grownBy w' v.ownBlock ∧ (v'.ownBlock = v.ownBlock ∨ v'.ownBlock = some w.heap.size) := by
  obtain ⟨i, i1, i2, i3, i4⟩ := info_parts infoNd
  have fin : ∀ v' (w' : World), w'.ownsRow base 51 7 v' (l.length + m.length) (ndvals l ++ ndvals m) → OwnNs w' base v' (l ++ m) := fun v' w' h => by
    unfold OwnNs; rw [List.length_append, ndvals_append]; exact h
  cases A with
  | none =>
    have hm : m = [] := by
      cases m with
      | nil => rfl
      | cons e m =>
        obtain ⟨b, off, h, _⟩ := hx (by simp)
        cases h
    subst hm
    refine ⟨v, w, ?_, by simpa using hown, World.grownBy.refl w _, .inl rfl⟩
    rcases hown.2 with ⟨rfl, h0⟩ | ⟨g, cap, cur, rfl, _, _, hnc, _⟩
    · simp [Builtin.append_, run_underlying Tryz.underlying73, Go.sizeOf, typeInfo, i1, Builtin.lenOf, Builtin.firstCells]
    · simp [Builtin.append_, run_underlying Tryz.underlying73, Go.sizeOf, typeInfo, i1, Builtin.lenOf, Builtin.firstCells, hnc, storeCells]
  | some ad =>
    obtain ⟨v', w', h2, h3, h4, _, h5⟩ := run_append_own_at (P := Tryz.prog) w base 73 ty 51 i (nv 0 0 0 0 0 (.slice none 0 0) (.slice none 0 0)) 7 88 Tryz.underlying73 i1 i2 i3 i4 rfl (by decide) v l.length (ndvals l) hown ad m.length c (ndvals m) (ndvals_len m) (fun j u hu => by
      obtain ⟨e, h1, h2⟩ := ndvals_get hu
      obtain ⟨b, off, h3, _, hc⟩ := hx (by have := (List.getElem?_eq_some_iff.1 h1).1; omega)
      cases h3
      have h4 := hc _ e h1 _ u h2
      have e1 : (⟨b, off, none⟩ : Addr).add j = ⟨b, off + j, none⟩ := by unfold Addr.add; split <;> simp_all
      rw [e1]
      rw [show j / 7 * 7 + j % 7 = j by omega] at h4
      exact h4) (fun u hu => by
      obtain ⟨e, _, he⟩ := List.mem_flatMap.1 hu
      exact one7 e u he) (by unfold maxLen; omega) (by omega) hb
    exact ⟨v', w', h2, fin _ _ h3, h4, h5⟩
theorem wpList_append_nds {ops : Array Oper} {rest : List Oper} {o : Oper} {a : Act} {Q : Exit → Act → World → Prop} {w : World} (hgd : o.guard = none) (s x : Operand)
    (ho : o.op = .call { callee := .builtin .append, args := #[s, x], argTypes := #[73, 73] })
    {base hi : Nat} {v : Value} {l m : List Nd} {A : Option Addr} {c : Nat} (hs : a.eval s = v) (hx' : a.eval x = .slice A m.length c) (hown : OwnNs w base v l) (hx : Nds w hi A m) (hl : l.length + m.length ≤ 100000) (hb : base ≤ w.heap.size)
    (h : ∀ v' w', OwnNs w' base v' (l ++ m) → w.grownBy w' v.ownBlock → (v'.ownBlock = v.ownBlock ∨ v'.ownBlock = some w.heap.size) → wpList Tryz.prog ops Q rest (a.put o.dst v') w') : wpList Tryz.prog ops Q (o :: rest) a w := by
  refine wpList_plain hgd fun _ hK => ?_
  obtain ⟨v', w', hrun, h2, h3, h4⟩ := run_append_nds (c := c) o.type hown hx hl hb
  unfold Oper.wp execOp
  simp only [ho, resolve, invoke, builtin, Sem.run_bind, Sem.run_pure, Result.andThen_ok, List.map_toArray, List.map_cons, List.map_nil, hs, hx', hrun]
  exact hK _ _ (h v' w' h2 h3 h4)

theorem nds_one (w : World) (n : Nd) : Nds (w.alloc (.cells #[.int .i64 n.ino, .int .i64 n.kind, .int .i64 n.links, .int .i64 n.size, .int .i64 n.up, .slice n.A n.pages.length n.ac, .slice n.B n.names.length n.bc] 51)) (w.heap.size + 1) (some ⟨w.heap.size, 0, none⟩) [n] := fun _ => by
  refine ⟨_, 0, rfl, by omega, fun j m hj k x hk => ?_⟩
  have hj0 : j = 0 := by have := (List.getElem?_eq_some_iff.1 hj).1; simpa using this
  subst hj0
  simp at hj
  subst hj
  rw [Nat.zero_mul, Nat.zero_add, Nat.zero_add, (Cells.new w 51 _).cell k, ← Array.getElem?_toList]
  exact hk
end Go.Proofs.YtbejbiogabpmfaaGreat

/-! The project's image: a row of nodes that are read where they are there. -/
namespace Go.Proofs.YtbejbiogabpmfaaGreat
open Wd Ino Sm U Go.RowKit Go.ChangeShapes Go.WideShapes Go.Sort
set_option linter.unusedVariables false
set_option maxRecDepth 100000
def RowN (W w : World) (g : Nat) (ns : List Nod) (rest : List Nat) (i v : Value) (wr : World) : Prop := ∃ (k : Nat) (ds : List Nd), k ≤ ns.length ∧ i = .int .i64 k ∧ ds.map Nd.plain = ns.take k ∧ OwnNs wr w.heap.size v ds ∧ (∀ d ∈ ds, OwnNd wr w.heap.size d) ∧ RdStI W g ((ns.drop k).flatMap nodeW ++ rest) false wr ∧ Trn w wr [g]
def GotNodes (W : World) (g : Nat) (ns : List Nod) (rest : List Nat) (w : World) (e : Ending) (w' : World) : Prop := ∃ A c ds, ds.map Nd.plain = ns ∧ e = .returned (.slice A ns.length c) ∧ OwnNs w' w.heap.size (.slice A ds.length c) ds ∧ (∀ d ∈ ds, OwnNd w' w.heap.size d) ∧ RdStI W g rest false w' ∧ Trn w w' [g]
theorem OwnNs.nilI (w : World) (base : Nat) : OwnNs w base (.slice none 0 0) [] := World.ownsRow_nil _ _ _ _
theorem OwnNs.sliceI {w : World} {base : Nat} {v : Value} {l : List Nd} (h : OwnNs w base v l) : ∃ A c, v = .slice A l.length c := by
  rcases h.2 with ⟨hv, h0⟩ | ⟨q, cap, cur, hv, _⟩
  · exact ⟨none, 0, by rw [hv, h0]⟩
  · exact ⟨_, _, hv⟩
set_option maxHeartbeats 8000000 in
theorem rowN_t {W w : World} {g : Nat} {ns : List Nod} {rest : List Nat} (h : RdStI W g (ns.flatMap nodeW ++ rest) false w) (hx : ∀ n ∈ ns, okN n) (hl : ns.length ≤ 1000) : Calls Tryz.prog 44 #[.pointer (some ⟨g, 0, none⟩), .int .i64 (ns.length : Nat), NodF g] w (GotNodes W g ns rest w) := by
  have H := Lib.hid h; have HX := Lib.hid hx; have HLN := Lib.hid hl
  obtain ⟨n, hn⟩ : ∃ n, ns.length = n := ⟨_, rfl⟩
  have HN := Lib.hid hn
  unfold NodF
  rw [hn]
  clear h hx hl hn
  go_enter Tryz.func44, Tryz.ntmps44
  go_wp2
  go_loopw [7, 9] (fun v i wr => RowN W w g ns rest i v wr) (fun v i _ => n - (intOf i).toNat)
  case atStart => exact ⟨0, [], Nat.zero_le _, rfl, rfl, OwnNs.nilI _ _, by simp, by simpa using H.out, Trn.refl _ _⟩
  case round =>
    obtain ⟨k, ds, hk, rfl, hpl, ho, hds, hr, ht⟩ := hrel
    rw [HN.out] at hk
    obtain ⟨v0, hc0, _⟩ := hr.v
    have c1 : wr.cell? ⟨g, 1, none⟩ = some (.bool false) := hc0.cell 1
    have hkl : ds.length = k := by have := congrArg List.length hpl; rw [List.length_map, List.length_take, HN.out] at this; omega
    clear hc0
    obtain ⟨A3, c3, rfl⟩ := ho.sliceI
    by_cases hlt : k < n
    · have hlt2 : (k : Int) < (n : Int) := Int.ofNat_lt.2 hlt
      obtain ⟨x, hxk⟩ : ∃ x, ns[k]? = some x := ⟨_, List.getElem?_eq_getElem (by rw [HN.out]; exact hlt)⟩
      have hdr : ns.drop k = x :: ns.drop (k + 1) := by
        have := (List.getElem?_eq_some_iff.1 hxk).2
        rw [← this]; exact List.drop_eq_getElem_cons (by rw [HN.out]; exact hlt)
      have hz := HX.out x (List.mem_of_getElem? hxk)
      have hr2 := hr
      rw [hdr, List.flatMap_cons, List.append_assoc] at hr2
      have KN' := Lib.hid (node_t hr2 hz)
      have HO := Lib.hid ho; have HR := Lib.hid hr; have HT := Lib.hid ht; have HK := Lib.hid hxk; have HLT := Lib.hid hlt
      have HKL := Lib.hid hkl; have HDS := Lib.hid hds; have HPL := Lib.hid hpl
      have hn1 : n ≤ 1000 := by rw [← HN.out]; exact HLN.out
      clear hr hr2 ho ht hxk hdr hlt hz hds hpl
      rw [hkl]
      go_wp2_with fail
      refine (KN'.out).mono ?_
      rintro e w1 ⟨nd, hnd, rfl, hod, h1, t1⟩
      have hT1 := HT.out.trans t1
      have hzw := HT.out.size
      have how1 : OwnNs w1 w.heap.size (.slice A3 ds.length c3) ds := (HR.out.keepC t1).own (by decide) HO.out
      have hds1 : ∀ d ∈ ds, OwnNd w1 w.heap.size d := fun d hd => (HDS.out d hd).keep (HR.out.keepC t1) (by decide) (by decide)
      rw [hkl] at how1
      have HND := Lib.hid hnd
      have hod1 := hod.mono hzw
      obtain ⟨w2, hw2⟩ : ∃ w2, w1.alloc (.cells #[.int .i64 nd.ino, .int .i64 nd.kind, .int .i64 nd.links, .int .i64 nd.size, .int .i64 nd.up, .slice nd.A nd.pages.length nd.ac, .slice nd.B nd.names.length nd.bc] 51) = w2 := ⟨_, rfl⟩
      have hb2 : Below w1.heap.size w1 w2 := by rw [← hw2]; exact below_of_grown (World.grownBy_alloc w1 _ none)
      have hx2 : Nds w2 (w1.heap.size + 1) (some ⟨w1.heap.size, 0, none⟩) [nd] := by rw [← hw2]; exact nds_one w1 nd
      have HO2 := Lib.hid (show OwnNs w2 w.heap.size (.slice A3 k c3) ds from own_below how1 hb2)
      have HX2 := Lib.hid hx2
      have HT1 := Lib.hid hT1; have H1 := Lib.hid h1; have HDS1 := Lib.hid hds1; have HOD1 := Lib.hid hod1; have HB2 := Lib.hid hb2
      have hz1 := hT1.size
      have HL2 := Lib.hid (show ds.length + [nd].length ≤ 100000 by rw [hkl, List.length_singleton]; omega)
      have HZ2 := Lib.hid (show w.heap.size ≤ w2.heap.size by have := hb2.size; omega)
      obtain ⟨i1, i2, i3, i4, i5, A7, a7, P7, B7, b7, N7⟩ := nd
      dsimp only at hw2
      unfold Nd.val
      dsimp only
      clear h1 t1 hT1 how1 hb2 hds1 hod hod1 hx2 hnd KN' hkl
      go_wp2_with (at_builtin; refine wpList_append_nds (m := [⟨i1, i2, i3, i4, i5, A7, a7, P7, B7, b7, N7⟩]) rfl (.tmp 15) (.tmp 18) rfl rfl rfl HO2.out HX2.out HL2.out HZ2.out ?_; intro v5 w5 hown5 hgr5 hat5; have HO5 := Lib.hid hown5; have HB5 := Lib.hid (show Below w.heap.size w1 w5 from (HB2.out.mono hz1).grown hgr5 (by have := HZ2.out; omega) (fun j e => own_base HO2.out j e)); have HG5 := Lib.hid hgr5; clear hown5 hgr5 hat5)
      go_roundw
      case rel =>
        have hk5 : KeepC [51] w1 w5 := ((KeepC.of (Ts := []) HB2.out).more (by simp)).trans (KeepC.grownI HO2.out HG5.out)
        refine ⟨k + 1, ds ++ [⟨i1, i2, i3, i4, i5, A7, a7, P7, B7, b7, N7⟩], by rw [HN.out]; exact HLT.out, by go_num, ?_, HO5.out, ?_, ?_, HT1.out.fresh HB5.out⟩
        · rw [take_two HK.out, List.map_append, HPL.out, List.map_singleton, HND.out]
        · intro d hd
          rcases List.mem_append.1 hd with hd | hd
          · exact (HDS1.out d hd).keep hk5 (by decide) (by decide)
          · rw [List.mem_singleton.1 hd]; exact HOD1.out.keep hk5 (by decide) (by decide)
        · exact H1.out.keep (HB5.out.mono H.out.b.size) hk5 (by decide) (by decide)
      case measure => simp [intOf]; have := HLT.out; omega
    · have hkn : k = n := by omega
      subst hkn
      have hlt2 : ¬ (k : Int) < (k : Int) := by omega
      rw [List.take_of_length_le (by rw [HN.out]; exact Nat.le_refl _)] at hpl
      rw [List.drop_of_length_le (by rw [HN.out]; exact Nat.le_refl _), List.flatMap_nil, List.nil_append] at hr
      have HO := Lib.hid ho; have HR := Lib.hid hr; have HT := Lib.hid ht; have HDS := Lib.hid hds; have HPL := Lib.hid hpl; have HKL := Lib.hid hkl
      rw [hkl]
      clear ho hr ht hlt hds hpl hkl
      go_wp2
      go_ret
      exact ⟨A3, c3, ds, HPL.out, by rw [HN.out]; rfl, HO.out, HDS.out, HR.out, HT.out⟩
end Go.Proofs.YtbejbiogabpmfaaGreat
