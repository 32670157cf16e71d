import Derived.Test.YtamndllolppmoaaGreatG13
import Derived.Test.YtamndllolppmoaaGreatG14
import Derived.Test.YtamndllolppmoaaGreatG15
import Derived.Deep.RegionHeld3
import Derived.WalkMore
import Derived.Deep.RegionWith

/-! The document's State: kind, named, put, cut. -/
namespace Go.Proofs.YtamndllolppmoaaGreat
open Wd Ino Sm Go.RowKit Go.ChangeShapes Go.WideShapes Go.Sort
set_option linter.unusedVariables false
set_option maxRecDepth 100000
section
variable {w w' : World} {base g : Nat} {Ls : List Nd} {v : Value} {S : Stt}
theorem DSx.at_ (h : DSx w base g Ls v S) {i : Int} {n0 : Nod} (h0 : atS S.l i = some n0) : ∃ (n : Nd) (k gL c : Nat), Ls[k]? = some n ∧ n.plain = n0 ∧ atI S.l i = (k : Int) ∧ v = .slice (some ⟨gL, 0, none⟩) Ls.length c ∧ Ls.length ≤ c ∧ base ≤ gL ∧ k < Ls.length ∧ OwnNd w base n ∧
    ∀ j u, n.cells[j]? = some u → w.cell? ⟨gL, k * 7 + j, none⟩ = some u ∧ w.frozen? ⟨gL, k * 7 + j, none⟩ = false := by
  obtain ⟨h1, h2'⟩ := idx_some h0
  have h2 : (Ls.map Nd.plain)[idxS S.l i]? = some n0 := by rw [h.eq]; exact h2'
  rw [List.getElem?_map] at h2
  obtain ⟨n, h3, h4⟩ := Option.map_eq_some_iff.1 h2
  obtain ⟨A, c, rfl, hc, hF⟩ := h.form
  obtain ⟨gL, rfl, hb, hx⟩ := hF _ n h3
  exact ⟨n, _, gL, c, h3, h4, atI_some h0, rfl, hc, hb, (List.getElem?_eq_some_iff.1 h3).1, h.own n (List.mem_of_getElem? h3), hx⟩
theorem rKind (h : DSx w base g Ls v S) (hlen : Ls.length ≤ 1000) (i : Int) : Calls Tryz.prog 106 #[SPtr g, .int .i64 i] w (Grows (.int .i64 (kindS S.l i)) w) := by
  have KA := Lib.hid (rAt h hlen i)
  have H := Lib.hid h
  cases hi : atS S.l i with
  | none =>
    rw [atI_none hi] at KA
    have HK := Lib.hid (show kindS S.l i = 0 by unfold kindS getS; rw [hi]; rfl)
    rw [HK.out]
    clear h hi
    unfold SPtr at *
    go_enter Tryz.func106, Tryz.ntmps106
    go_wp2_with fail
    refine (KA.out).mono ?_
    rintro e w1 ⟨rfl, hw1⟩
    have HG := Lib.hid hw1
    clear hw1
    go_wp2
    go_ret
    exact ⟨rfl, HG.out⟩
  | some n0 =>
    obtain ⟨n, k, gL, c, h1, h2, h3, rfl, hc, hb, hk, ho, _⟩ := h.at_ hi
    have HK := Lib.hid (show kindS S.l i = n.kind by unfold kindS; rw [getS_some hi, ← h2]; rfl)
    rw [h3] at KA
    rw [HK.out]
    have HI := Lib.hid hi
    obtain ⟨j, ki, l, t, u, A0, ac, P, B, bc, N⟩ := n
    dsimp only
    have hlt2 : (k : Int) < (Ls.length : Int) := Int.ofNat_lt.2 hk
    have HK1 := Lib.hid h1
    clear h hi h1 h2 h3 ho HK
    unfold SPtr at *
    go_enter Tryz.func106, Tryz.ntmps106
    go_wp2_with fail
    refine (KA.out).mono ?_
    rintro e w1 ⟨rfl, hw1⟩
    have HG := Lib.hid hw1
    have h5 := H.out.below (grown_b hw1)
    have c0 := h5.c0
    obtain ⟨A', c', hv, _, hF⟩ := h5.form
    injection hv with hv1 hv2 hv3
    obtain ⟨gL', hA, _, hx⟩ := hF k _ HK1.out
    rw [hA] at hv1
    injection hv1 with hv1
    injection hv1 with hv1
    subst hv1
    have x1 := (hx 1 _ rfl).1
    dsimp only at x1
    clear hw1 h5 hv2 hv3 hA hx hF
    go_wp2
    go_ret
    exact ⟨rfl, HG.out⟩
def namedS (l : List Nod) (d : Int) (s : ByteArray) : Int := if kindS l d = 2 then inoN s (namesS l d) else 0
theorem DSx.row_cells {c gL k : Nat} {n : Nd} (h : DSx w base g Ls (.slice (some ⟨gL, 0, none⟩) Ls.length c) S) (h1 : Ls[k]? = some n) : ∀ j u, n.cells[j]? = some u → w.cell? ⟨gL, k * 7 + j, none⟩ = some u ∧ w.frozen? ⟨gL, k * 7 + j, none⟩ = false := by
  obtain ⟨A', c', hv, _, hF⟩ := h.form
  injection hv with hv1 hv2 hv3
  obtain ⟨gL', hA, _, hx⟩ := hF k _ h1
  rw [hA] at hv1
  injection hv1 with hv1
  injection hv1 with hv1
  subst hv1
  exact hx
set_option maxHeartbeats 4000000 in
theorem rNamed (h : DSx w base g Ls v S) (hlen : Ls.length ≤ 1000) (hs : SmS S.l) (d : Int) (s : ByteArray) : Calls Tryz.prog 107 #[SPtr g, .int .i64 d, .string s] w (Grows (.int .i64 (namedS S.l d s)) w) := by
  have hfol : Tryz.prog.follows .mixedOrders = true := by kernel_rfl
  have KK := Lib.hid (rKind h hlen d)
  have H := Lib.hid h
  by_cases hk2 : kindS S.l d = 2
  · obtain ⟨n0, hi, _⟩ := at_of_kind (l := S.l) (i := d) (by rw [hk2]; decide)
    obtain ⟨n, k, gL, c, h1, h2, h3, rfl, hc, hb, hk, ho, _⟩ := h.at_ hi
    have hN : namedS S.l d s = inoN s n.names := by unfold namedS namesS; rw [if_pos hk2, getS_some hi, ← h2]; rfl
    rw [hN]
    rw [hk2] at KK
    have hq : n.names.length ≤ 1000 := by have := hs n0 (atS_mem hi); rw [← h2] at this; exact Nat.le_trans this.q (by decide)
    have hlt2 : (k : Int) < (Ls.length : Int) := Int.ofNat_lt.2 hk
    have HK1 := Lib.hid h1
    have H3 := Lib.hid h3; have HO := Lib.hid ho; have HL := Lib.hid hlen
    clear h hi h2 h3 hk2 h1 ho hN hs
    unfold SPtr at *
    go_enter Tryz.func107, Tryz.ntmps107
    go_wp2_with fail
    refine (KK.out).mono ?_
    rintro e w1 ⟨rfl, hw1⟩
    have HG := Lib.hid hw1
    have h5 := H.out.below (grown_b hw1)
    have KA := Lib.hid (fun n os => Grows.inAt (fun n os => by have := rAt (h5.below (below_grow' w1 n os)) HL.out d; rw [H3.out] at this; exact this) n os)
    have hE := (HO.out.below (grown_b hw1)).ens.2
    have KF := Lib.hid (fun nn os => Grows.inAt (fun nn os => rFind (c := n.bc) (hE.below (below_grow' w1 nn os)) (below_grow' w1 nn os).size hq s) nn os)
    have c0 := cell_grown (a := ⟨g, 0, none⟩) h5.cells.lt h5.c0
    obtain ⟨j, ki, l, t, u, A0, ac, P, B, bc, N⟩ := n
    have hx6 := (h5.row_cells HK1.out 6 _ rfl).1
    dsimp only at hx6 KF
    have x6 := cell_grown (a := ⟨gL, k * 7 + 6, none⟩) (World.block_lt_of_cell? _ _ hx6) hx6
    dsimp only
    unfold SPtr at KA
    clear hw1 h5 hE hx6 KK
    go_upto_region 3 with fail
    refine wp_region_quiet_grown hfol (by kernel_rfl) ?_
    repeat (go_big_quiet_step (first | (go_at_call 105; (with_reducible exact KA.out _ _)) | (go_at_call 148; (with_reducible exact KF.out _ _))))
    refine wpQuiet_nil ?_
    intro _ hw'
    obtain ⟨⟨nr, osr⟩, hw''⟩ := hw'
    subst hw''
    have HG2 := Lib.hid (grow_trans HG.out (show ∃ q os, grow (w1.drewN nr) osr = grow (w1.drewN q) os from ⟨nr, osr, rfl⟩))
    go_wp2
    go_ret
    exact ⟨rfl, HG2.out⟩
  · have q0 : (kindS S.l d != 2) = true := by simpa using hk2
    have hN : namedS S.l d s = 0 := by unfold namedS; rw [if_neg hk2]
    rw [hN]
    obtain ⟨kk, hkk⟩ : ∃ kk, kindS S.l d = kk := ⟨_, rfl⟩
    rw [hkk] at KK q0
    clear h hk2 hN hkk hs
    unfold SPtr at *
    go_enter Tryz.func107, Tryz.ntmps107
    go_wp2_with fail
    refine (KK.out).mono ?_
    rintro e w1 ⟨rfl, hw1⟩
    have HG := Lib.hid hw1
    clear hw1
    go_wp2
    go_ret
    exact ⟨rfl, HG.out⟩
end
end Go.Proofs.YtamndllolppmoaaGreat

/-! The document's State: put, cut. -/
namespace Go.Proofs.YtamndllolppmoaaGreat
open Wd Ino Sm Go.RowKit Go.ChangeShapes Go.WideShapes Go.Sort
set_option linter.unusedVariables false
set_option maxRecDepth 100000
theorem flat_set {α : Type} {f : α → List Value} {K : Nat} (hK : ∀ a, (f a).length = K) {x x' : α} {j : Nat} {u : Value} (hj : j < K) (hx : f x' = (f x).set j u) : ∀ (l : List α) (k : Nat), l[k]? = some x → (l.set k x').flatMap f = (l.flatMap f).set (k * K + j) u := by
  intro l
  induction l with
  | nil => intro k h; simp at h
  | cons a l ih =>
    intro k h
    cases k with
    | zero =>
      simp at h
      subst h
      rw [List.set_cons_zero, List.flatMap_cons, List.flatMap_cons, hx, Nat.zero_mul, Nat.zero_add, List.set_append_left _ _ (by rw [hK]; exact hj)]
    | succ k =>
      rw [List.set_cons_succ, List.flatMap_cons, List.flatMap_cons, ih k (by simpa using h), List.set_append_right _ _ (by rw [hK, Nat.add_mul]; omega), hK]
      congr 2
      rw [Nat.add_mul]; omega
theorem mod_set {l : List Nod} (hp : AscS l) {i : Int} {f : Nod → Nod} {n : Nod} : ∀ {k : Nat}, l[k]? = some n → n.ino = i → modS l i f = l.set k (f n) := by
  induction l with
  | nil => intro k h; simp at h
  | cons a l ih =>
    have hp' := List.pairwise_cons.1 hp
    intro k h hn
    have e : modS (a :: l) i f = (if a.ino = i then f a else a) :: modS l i f := rfl
    rw [e]
    cases k with
    | zero =>
      simp at h
      subst h
      rw [if_pos hn, List.set_cons_zero]
      congr 1
      unfold modS
      conv => rhs; rw [← List.map_id l]
      refine List.map_congr_left fun b hb => ?_
      have := hp'.1 b hb
      rw [if_neg (by omega)]; rfl
    | succ k =>
      have h' : l[k]? = some n := by simpa using h
      have := hp'.1 n (List.mem_of_getElem? h')
      rw [if_neg (by omega), List.set_cons_succ, ih hp'.2 h' hn]
theorem KeepC.set' {w : World} {g : Nat} {T : TypeId} {cs : Array Value} (hc : Cells w g T cs) (i : Nat) (u : Value) : KeepC [T] w (w.setCell ⟨g, i, none⟩ u) := fun q t cs' ht hc' => hc'.far (fun e => ht (by
    have e' : q = g := e
    subst e'
    have : t = T := Decidable.byContradiction fun hne => hc'.ne hc hne rfl
    rw [this]; exact List.mem_singleton.2 rfl)) _
/-- it returns nothing; the state is S' -/
def DGo (S' : Stt) (base g : Nat) (Ls : List Nd) (w : World) (e : Ending) (w' : World) : Prop := e = .returned (.tuple #[]) ∧ ∃ Ls' v', DSx w' base g Ls' v' S' ∧ Ls'.length ≤ Ls.length ∧ Below base w w' ∧ KeepC [55, 80] w w'
section
variable {w w' : World} {base g : Nat} {Ls : List Nd} {v : Value} {S : Stt}
theorem DSx.blk {c gL k : Nat} (h : DSx w base g Ls (.slice (some ⟨gL, 0, none⟩) Ls.length c) S) (hk : k < Ls.length) : ∃ cur, Cells w gL 55 cur ∧ base ≤ gL := by
  rcases h.row.2 with ⟨h0, _⟩ | ⟨g', cap', cur, hv, hb, hh, _⟩
  · cases h0
  · injection hv with hv _ _
    injection hv with hv
    injection hv with hv
    subst hv
    exact ⟨cur, hh, hb⟩
theorem DSx.set {c gL k : Nat} {n n' : Nd} (h : DSx w base g Ls (.slice (some ⟨gL, 0, none⟩) Ls.length c) S) (hk : Ls[k]? = some n) (ha : AscS S.l) {f : Nod → Nod} (hf : n'.plain = f n.plain) {j : Nat} {u : Value} (hj : j < 7) (hx : n'.cells = n.cells.set j u) (ho : OwnNd w base n') :
    DSx (w.setCell ⟨gL, k * 7 + j, none⟩ u) base g (Ls.set k n') (.slice (some ⟨gL, 0, none⟩) Ls.length c) ⟨modS S.l n.ino f, S.last⟩ := by
  have hkl := (List.getElem?_eq_some_iff.1 hk).1
  obtain ⟨cur, hc, hb⟩ := h.blk hkl
  have hkc : KeepC [55] w (w.setCell ⟨gL, k * 7 + j, none⟩ u) := fun q t cs ht hcs => hcs.far (fun e => ht (by
    have e' : q = gL := e
    subst e'
    have : t = 55 := Decidable.byContradiction fun hne => hcs.ne hc hne rfl
    rw [this]; exact List.mem_singleton.2 rfl)) _
  refine ⟨h.lo, hkc _ _ _ (by decide) h.cells, ?_, fun m hm => ?_, ?_⟩
  · have h1 := ownK_set h.row (k * 7 + j) u
    rw [show ndvals (Ls.set k n') = (ndvals Ls).set (k * 7 + j) u from flat_set cells_len hj hx Ls k hk, List.length_set]
    exact h1
  · rcases List.mem_or_eq_of_mem_set hm with hm | rfl
    · exact (h.own m hm).keep hkc (by decide) (by decide)
    · exact ho.keep hkc (by decide) (by decide)
  · show (Ls.set k n').map Nd.plain = modS S.l n.ino f
    rw [List.map_set, h.eq, hf]
    refine (mod_set ha ?_ rfl).symm
    rw [← h.eq, List.getElem?_map, hk]; rfl
set_option maxHeartbeats 4000000 in
theorem rPutS (h : DSx w base g Ls v S) (hlen : Ls.length ≤ 1000) (hs : SmS S.l) (ha : AscS S.l) (d : Int) {n0 : Nod} (h0 : atS S.l d = some n0) (s : ByteArray) (hno : hasN s n0.names = false) (i : Int) :
    Calls Tryz.prog 108 #[SPtr g, .int .i64 d, .string s, .int .i64 i] w (DGo ⟨enterS S.l d s i, S.last⟩ base g Ls w) := by
  have KA := Lib.hid (rAt h hlen d)
  have hd : n0.ino = d := atS_ino h0
  obtain ⟨n, k, gL, c, h1, h2, h3, rfl, hc, hb, hk, ho, _⟩ := h.at_ h0
  rw [h3] at KA
  have hsm := hs n0 (atS_mem h0)
  rw [← h2] at hsm
  have hq : n.names.length ≤ 1000 := Nat.le_trans hsm.q (by decide)
  have hnn : hasN s n.names = false := by have := hno; rw [← h2] at this; exact this
  have H := Lib.hid h; have HK1 := Lib.hid h1; have HO := Lib.hid ho; have HA := Lib.hid ha; have HLT := Lib.hid hk
  have HD := Lib.hid (show n.ino = d by rw [← hd, ← h2]; rfl)
  have hlt2 : (k : Int) < (Ls.length : Int) := Int.ofNat_lt.2 hk
  clear h h0 h1 h2 h3 ho ha hs hd hk
  clear hno
  unfold SPtr at *
  go_enter Tryz.func108, Tryz.ntmps108
  go_wp2_with fail
  refine (KA.out).mono ?_
  rintro e w2 ⟨rfl, hw1⟩
  have hb2 := grown_b hw1
  have h5 := H.out.below hb2
  obtain ⟨hbc, hE2⟩ := (HO.out.below hb2).ens
  have KP := Lib.hid (fun wx (b : Below w2.heap.size w2 wx) => rPutO (c := n.bc) (hE2.below (by exact b)) b.size hbc hq s i hnn)
  obtain ⟨cur, hcl, hbl⟩ := h5.blk HLT.out
  have HB2 := Lib.hid hb2; have H5 := Lib.hid h5; have HCL := Lib.hid hcl; have HBL := Lib.hid hbl
  have hx6 := h5.row_cells HK1.out 6 _ rfl
  have HBASE := Lib.hid (show base ≤ w2.heap.size by have := h5.lo; have := h5.cells.lt; omega)
  have HX6 := Lib.hid hx6
  obtain ⟨J, ki, l, t, u, A0, ac, P, B, bc, N⟩ := n
  dsimp only at KP HX6 hbc hq hsm hE2 hx6
  have b0 : Below w2.heap.size w2 w2.drew := below_drewN (Below.refl _ _) 1
  have s9 : ∀ w' : World, (∀ q, q < w2.heap.size → q ≠ gL → w'.heap[q]? = w2.heap[q]?) → w'.cell? ⟨g, 0, none⟩ = some (.slice (some ⟨gL, 0, none⟩) Ls.length c) := fun w' hb' => by
    have d1 : Cells w' g _ _ := (hb' g H5.out.cells.lt (fun e => by subst e; exact H5.out.cells.ne HCL.out (by decide) rfl)).trans H5.out.cells
    exact d1.cell 0
  have S9 := Lib.hid s9
  have x6 := HX6.out.1
  have c0 := H5.out.c0
  clear hw1 hb2 h5 hcl hbl hx6 s9 KA hE2 hsm hbc
  go_upto_region 1 with fail
  go_region_with
    (first
    | (go_at_call 149; (with_reducible refine (KP.out _ b0).mono ?_); rintro e' w3 ⟨B3, bc3, rfl, hc3, ho3, hb3⟩; have b3 := b0.trans (hb3.mono b0.size); have c3 := S9.out _ (fun q hq _ => b3.block q hq); have HO3 := Lib.hid ho3; have y6 := (HCL.out.below' b3).cell (k * 7 + 6); rw [← HCL.out.cell (k * 7 + 6), HX6.out.1] at y6; have z6 := (HCL.out.below' b3).free (k * 7 + 6)))
  all_goals
    have h6 := (H5.out.below b3).set HK1.out HA.out (n' := ⟨J, ki, l, t, u, A0, ac, P, B3, bc3, putR s i N⟩) (f := putNm s i) rfl (j := 6) (u := .slice B3 (putR s i N).length bc3) (by decide) rfl
      ⟨((HO.out.below HB2.out).below b3).1, HO3.out.mono HBASE.out⟩
    dsimp only at h6
    rw [show J = d from HD.out] at h6
    have H6 := Lib.hid h6
    have HB6 := Lib.hid (show Below base w (w3.setCell ⟨gL, k * 7 + 6, none⟩ (.slice B3 (putR s i N).length bc3)) from ((HB2.out.trans (b3.mono HB2.out.size)).mono (by have := H.out.lo; have := H.out.cells.lt; omega)).setCell (p := ⟨gL, k * 7 + 6, none⟩) HBL.out _)
    have HKC := Lib.hid (show KeepC [55, 80] w (w3.setCell ⟨gL, k * 7 + 6, none⟩ (.slice B3 (putR s i N).length bc3)) from
      ((KeepC.of HB2.out).trans (KeepC.of b3)).trans ((KeepC.set' (HCL.out.below' b3) (k * 7 + 6) _).more (fun x hx => List.mem_cons.2 (.inl (List.mem_singleton.1 hx)))))
    clear h6 hc3 ho3 hb3 x6 y6 z6
    go_end0
    exact ⟨rfl, _, _, H6.out, (by rw [List.length_set]; exact Nat.le_refl _), HB6.out, HKC.out⟩
set_option maxHeartbeats 4000000 in
theorem rCutS (h : DSx w base g Ls v S) (hlen : Ls.length ≤ 1000) (hs : SmS S.l) (ha : AscS S.l) (d : Int) {n0 : Nod} (h0 : atS S.l d = some n0) (s : ByteArray) :
    Calls Tryz.prog 150 #[SPtr g, .int .i64 d, .string s] w (DGo ⟨leaveS S.l d s, S.last⟩ base g Ls w) := by
  have KA := Lib.hid (rAt h hlen d)
  have hd : n0.ino = d := atS_ino h0
  obtain ⟨n, k, gL, c, h1, h2, h3, rfl, hc, hb, hk, ho, _⟩ := h.at_ h0
  rw [h3] at KA
  have hsm := hs n0 (atS_mem h0)
  rw [← h2] at hsm
  have hq : n.names.length ≤ 1000 := Nat.le_trans hsm.q (by decide)
  have hnn := True.intro
  have H := Lib.hid h; have HK1 := Lib.hid h1; have HO := Lib.hid ho; have HA := Lib.hid ha; have HLT := Lib.hid hk
  have HD := Lib.hid (show n.ino = d by rw [← hd, ← h2]; rfl)
  have hlt2 : (k : Int) < (Ls.length : Int) := Int.ofNat_lt.2 hk
  clear h h0 h1 h2 h3 ho ha hs hd hk
  skip
  unfold SPtr at *
  go_enter Tryz.func150, Tryz.ntmps150
  go_wp2_with fail
  refine (KA.out).mono ?_
  rintro e w2 ⟨rfl, hw1⟩
  have hb2 := grown_b hw1
  have h5 := H.out.below hb2
  obtain ⟨hbc, hE2⟩ := (HO.out.below hb2).ens
  have KP := Lib.hid (fun wx (b : Below w2.heap.size w2 wx) => rDropO (c := n.bc) (hE2.below (by exact b)) b.size hq s)
  obtain ⟨cur, hcl, hbl⟩ := h5.blk HLT.out
  have HB2 := Lib.hid hb2; have H5 := Lib.hid h5; have HCL := Lib.hid hcl; have HBL := Lib.hid hbl
  have hx6 := h5.row_cells HK1.out 6 _ rfl
  have HBASE := Lib.hid (show base ≤ w2.heap.size by have := h5.lo; have := h5.cells.lt; omega)
  have HX6 := Lib.hid hx6
  obtain ⟨J, ki, l, t, u, A0, ac, P, B, bc, N⟩ := n
  dsimp only at KP HX6 hbc hq hsm hE2 hx6
  have b0 : Below w2.heap.size w2 w2.drew := below_drewN (Below.refl _ _) 1
  have s9 : ∀ w' : World, (∀ q, q < w2.heap.size → q ≠ gL → w'.heap[q]? = w2.heap[q]?) → w'.cell? ⟨g, 0, none⟩ = some (.slice (some ⟨gL, 0, none⟩) Ls.length c) := fun w' hb' => by
    have d1 : Cells w' g _ _ := (hb' g H5.out.cells.lt (fun e => by subst e; exact H5.out.cells.ne HCL.out (by decide) rfl)).trans H5.out.cells
    exact d1.cell 0
  have S9 := Lib.hid s9
  have x6 := HX6.out.1
  have c0 := H5.out.c0
  clear hw1 hb2 h5 hcl hbl hx6 s9 KA hE2 hsm hbc
  go_upto_region 1 with fail
  go_region_with
    (first
    | (go_at_call 182; (with_reducible refine (KP.out _ b0).mono ?_); rintro e' w3 ⟨B3, bc3, rfl, hc3, ho3, hb3⟩; have b3 := b0.trans (hb3.mono b0.size); have c3 := S9.out _ (fun q hq _ => b3.block q hq); have HO3 := Lib.hid ho3; have y6 := (HCL.out.below' b3).cell (k * 7 + 6); rw [← HCL.out.cell (k * 7 + 6), HX6.out.1] at y6; have z6 := (HCL.out.below' b3).free (k * 7 + 6)))
  all_goals
    have h6 := (H5.out.below b3).set HK1.out HA.out (n' := ⟨J, ki, l, t, u, A0, ac, P, B3, bc3, dropN s N⟩) (f := cutNm s) rfl (j := 6) (u := .slice B3 (dropN s N).length bc3) (by decide) rfl
      ⟨((HO.out.below HB2.out).below b3).1, HO3.out.mono HBASE.out⟩
    dsimp only at h6
    rw [show J = d from HD.out] at h6
    have H6 := Lib.hid h6
    have HB6 := Lib.hid (show Below base w (w3.setCell ⟨gL, k * 7 + 6, none⟩ (.slice B3 (dropN s N).length bc3)) from ((HB2.out.trans (b3.mono HB2.out.size)).mono (by have := H.out.lo; have := H.out.cells.lt; omega)).setCell (p := ⟨gL, k * 7 + 6, none⟩) HBL.out _)
    have HKC := Lib.hid (show KeepC [55, 80] w (w3.setCell ⟨gL, k * 7 + 6, none⟩ (.slice B3 (dropN s N).length bc3)) from
      ((KeepC.of HB2.out).trans (KeepC.of b3)).trans ((KeepC.set' (HCL.out.below' b3) (k * 7 + 6) _).more (fun x hx => List.mem_cons.2 (.inl (List.mem_singleton.1 hx)))))
    clear h6 hc3 ho3 hb3 x6 y6 z6
    go_end0
    exact ⟨rfl, _, _, H6.out, (by rw [List.length_set]; exact Nat.le_refl _), HB6.out, HKC.out⟩
end
end Go.Proofs.YtamndllolppmoaaGreat

/-! Rows of nodes: append. -/
namespace Go.Proofs.YtamndllolppmoaaGreat
open Wd Ino Sm Go.RowKit Go.ChangeShapes Go.WideShapes Go.ChangeAt Go.Deep Go.Sort
set_option linter.unusedVariables false
set_option maxRecDepth 100000
theorem infoNd : (Tryz.prog.info? 55).map (fun i => (i.zero, i.size, i.bytes)) = some (some (nv 0 0 0 0 0 (.slice none 0 0) (.slice none 0 0)), 7, 88) := by kernel_rfl
def OwnNs (w : World) (base : Nat) (v : Value) (l : List Nd) : Prop := w.ownsRow base 55 7 v l.length (ndvals l)
def Nds (w : World) (hi : Nat) (A : Option Addr) (l : List Nd) : Prop := 0 < l.length → ∃ b off, A = some ⟨b, off, none⟩ ∧ b < hi ∧ ∀ (j : Nat) (n : Nd), l[j]? = some n → ∀ (k : Nat) (x : Value), n.cells[k]? = some x → w.cell? ⟨b, off + (j * 7 + k), none⟩ = some x
theorem ndvals_append (l m : List Nd) : ndvals (l ++ m) = ndvals l ++ ndvals m := by unfold ndvals; simp [List.flatMap_append]
theorem ndvals_len (l : List Nd) : (ndvals l).length = l.length * 7 := flat_len cells_len l
theorem ndvals_get {l : List Nd} : ∀ {J : Nat} {u : Value}, (ndvals l)[J]? = some u → ∃ e, l[J / 7]? = some e ∧ e.cells[J % 7]? = some u := by
  induction l with
  | nil => intro J u h; simp [ndvals] at h
  | cons e l ih =>
    intro J u h
    have e1 : ndvals (e :: l) = e.cells ++ ndvals l := by unfold ndvals; rw [List.flatMap_cons]
    rw [e1] at h
    by_cases hJ : J < 7
    · rw [List.getElem?_append_left (by rw [cells_len]; exact hJ)] at h
      exact ⟨e, by rw [Nat.div_eq_of_lt hJ]; rfl, by rw [Nat.mod_eq_of_lt hJ]; exact h⟩
    · rw [List.getElem?_append_right (by rw [cells_len]; omega)] at h
      obtain ⟨x, h1, h2⟩ := ih h
      rw [cells_len] at h1 h2
      refine ⟨x, ?_, ?_⟩
      · rw [show J / 7 = (J - 7) / 7 + 1 by omega]; exact h1
      · rw [show J % 7 = (J - 7) % 7 by omega]; exact h2
theorem one7 (e : Nd) : ∀ u ∈ e.cells, u.oneCell' = true := by
  intro u hu
  unfold Nd.cells at hu
  simp only [List.mem_cons, List.not_mem_nil, or_false] at hu
  rcases hu with rfl | rfl | rfl | rfl | rfl | rfl | rfl <;> rfl
theorem run_append_nds {w : World} {base hi : Nat} {v : Value} {l m : List Nd} {A : Option Addr} {c : Nat} (ty : TypeId) (hown : OwnNs w base v l) (hx : Nds w hi A m) (hl : l.length + m.length ≤ 100000) (hb : base ≤ w.heap.size) :
    ∃ v' w', (Builtin.append_ #[78, 78] ty #[v, .slice A m.length c]).run Tryz.prog w = .ok v' w' ∧ OwnNs w' base v' (l ++ m) ∧ w.grownBy w' v.ownBlock ∧ (v'.ownBlock = v.ownBlock ∨ v'.ownBlock = some w.heap.size) := by
  obtain ⟨i, i1, i2, i3, i4⟩ := info_parts infoNd
  have fin : ∀ v' (w' : World), w'.ownsRow base 55 7 v' (l.length + m.length) (ndvals l ++ ndvals m) → OwnNs w' base v' (l ++ m) := fun v' w' h => by
    unfold OwnNs; rw [List.length_append, ndvals_append]; exact h
  cases A with
  | none =>
    have hm : m = [] := by
      cases m with
      | nil => rfl
      | cons e m =>
        obtain ⟨b, off, h, _⟩ := hx (by simp)
        cases h
    subst hm
    refine ⟨v, w, ?_, by simpa using hown, World.grownBy.refl w _, .inl rfl⟩
    rcases hown.2 with ⟨rfl, h0⟩ | ⟨g, cap, cur, rfl, _, _, hnc, _⟩
    · simp [Builtin.append_, run_underlying Tryz.underlying78, Go.sizeOf, typeInfo, i1, Builtin.lenOf, Builtin.firstCells]
    · simp [Builtin.append_, run_underlying Tryz.underlying78, Go.sizeOf, typeInfo, i1, Builtin.lenOf, Builtin.firstCells, hnc, storeCells]
  | some ad =>
    obtain ⟨v', w', h2, h3, h4, _, h5⟩ := run_append_own_at (P := Tryz.prog) w base 78 ty 55 i (nv 0 0 0 0 0 (.slice none 0 0) (.slice none 0 0)) 7 88 Tryz.underlying78 i1 i2 i3 i4 rfl (by decide) v l.length (ndvals l) hown ad m.length c (ndvals m) (ndvals_len m) (fun j u hu => by
      obtain ⟨e, h1, h2⟩ := ndvals_get hu
      obtain ⟨b, off, h3, _, hc⟩ := hx (by have := (List.getElem?_eq_some_iff.1 h1).1; omega)
      cases h3
      have h4 := hc _ e h1 _ u h2
      have e1 : (⟨b, off, none⟩ : Addr).add j = ⟨b, off + j, none⟩ := by unfold Addr.add; split <;> simp_all
      rw [e1]
      rw [show j / 7 * 7 + j % 7 = j by omega] at h4
      exact h4) (fun u hu => by
      obtain ⟨e, _, he⟩ := List.mem_flatMap.1 hu
      exact one7 e u he) (by unfold maxLen; omega) (by omega) hb
    exact ⟨v', w', h2, fin _ _ h3, h4, h5⟩
theorem wpList_append_nds {ops : Array Oper} {rest : List Oper} {o : Oper} {a : Act} {Q : Exit → Act → World → Prop} {w : World} (hgd : o.guard = none) (s x : Operand)
    (ho : o.op = .call { callee := .builtin .append, args := #[s, x], argTypes := #[78, 78] })
    {base hi : Nat} {v : Value} {l m : List Nd} {A : Option Addr} {c : Nat} (hs : a.eval s = v) (hx' : a.eval x = .slice A m.length c) (hown : OwnNs w base v l) (hx : Nds w hi A m) (hl : l.length + m.length ≤ 100000) (hb : base ≤ w.heap.size)
    (h : ∀ v' w', OwnNs w' base v' (l ++ m) → w.grownBy w' v.ownBlock → (v'.ownBlock = v.ownBlock ∨ v'.ownBlock = some w.heap.size) → wpList Tryz.prog ops Q rest (a.put o.dst v') w') : wpList Tryz.prog ops Q (o :: rest) a w := by
  refine wpList_plain hgd fun _ hK => ?_
  obtain ⟨v', w', hrun, h2, h3, h4⟩ := run_append_nds (c := c) o.type hown hx hl hb
  unfold Oper.wp execOp
  simp only [ho, resolve, invoke, builtin, Sem.run_bind, Sem.run_pure, Result.andThen_ok, List.map_toArray, List.map_cons, List.map_nil, hs, hx', hrun]
  exact hK _ _ (h v' w' h2 h3 h4)

theorem nds_one (w : World) (n : Nd) : Nds (w.alloc (.cells #[.int .i64 n.ino, .int .i64 n.kind, .int .i64 n.links, .int .i64 n.size, .int .i64 n.up, .slice n.A n.pages.length n.ac, .slice n.B n.names.length n.bc] 55)) (w.heap.size + 1) (some ⟨w.heap.size, 0, none⟩) [n] := fun _ => by
  refine ⟨_, 0, rfl, by omega, fun j m hj k x hk => ?_⟩
  have hj0 : j = 0 := by have := (List.getElem?_eq_some_iff.1 hj).1; simpa using this
  subst hj0
  simp at hj
  subst hj
  rw [Nat.zero_mul, Nat.zero_add, Nat.zero_add, (Cells.new w 55 _).cell k, ← Array.getElem?_toList]
  exact hk
end Go.Proofs.YtamndllolppmoaaGreat

/-! The document's State: a name is put, and the row stays one that may grow; what the document's does leaves. -/
namespace Go.Proofs.YtamndllolppmoaaGreat
open Wd Ino Sm Go.RowKit Go.ChangeShapes Go.WideShapes Go.Sort
set_option linter.unusedVariables false
set_option maxRecDepth 100000
theorem OwnNs.set {w : World} {base gL c k : Nat} {Ls : List Nd} {n n' : Nd} (h : OwnNs w base (.slice (some ⟨gL, 0, none⟩) Ls.length c) Ls) (hk : Ls[k]? = some n) {j : Nat} {u : Value} (hj : j < 7) (hx : n'.cells = n.cells.set j u) :
    OwnNs (w.setCell ⟨gL, k * 7 + j, none⟩ u) base (.slice (some ⟨gL, 0, none⟩) Ls.length c) (Ls.set k n') := by
  rcases h with ⟨hl, h⟩
  unfold OwnNs
  rw [show ndvals (Ls.set k n') = (ndvals Ls).set (k * 7 + j) u from flat_set cells_len hj hx Ls k hk, List.length_set]
  refine ⟨by rw [List.length_set]; exact hl, ?_⟩
  rcases h with ⟨h0, _⟩ | ⟨g', cap, cur, hv, hb, hh, h1, h2, hs, ht⟩
  · cases h0
  · injection hv with hv _ hc
    injection hv with hv
    injection hv with hv
    subst hv hc
    refine .inr ⟨gL, c, cur.setIfInBounds (k * 7 + j) u, rfl, hb, Cells.set hh (k * 7 + j) u, h1, h2, by rw [Array.size_setIfInBounds]; exact hs, ?_⟩
    rw [Array.toList_setIfInBounds, List.take_set, ht]
theorem OwnNs.below {w w' : World} {base : Nat} {v : Value} {l : List Nd} (h : OwnNs w base v l) (hb : Below w.heap.size w w') : OwnNs w' base v l := (KeepC.of (Ts := []) hb).own (by simp) h
def DGoO (S' : Stt) (base g : Nat) (Ls : List Nd) (v : Value) (w : World) (e : Ending) (w' : World) : Prop := e = .returned (.tuple #[]) ∧ ∃ Ls' v', DSx w' base g Ls' v' S' ∧ OwnNs w' base v' Ls' ∧ Ls'.length ≤ Ls.length ∧ Below base w w' ∧ ∃ gL c, v = .slice (some ⟨gL, 0, none⟩) Ls.length c ∧ Trn w w' [gL]
section
variable {w w' : World} {base g : Nat} {Ls : List Nd} {v : Value} {S : Stt}
set_option maxHeartbeats 4000000 in
theorem rPutSO (h : DSx w base g Ls v S) (hown : OwnNs w base v Ls) (hlen : Ls.length ≤ 1000) (hs : SmS S.l) (ha : AscS S.l) (d : Int) {n0 : Nod} (h0 : atS S.l d = some n0) (s : ByteArray) (hno : hasN s n0.names = false) (i : Int) :
    Calls Tryz.prog 108 #[SPtr g, .int .i64 d, .string s, .int .i64 i] w (DGoO ⟨enterS S.l d s i, S.last⟩ base g Ls v w) := by
  have KA := Lib.hid (rAt h hlen d)
  have hd : n0.ino = d := atS_ino h0
  obtain ⟨n, k, gL, c, h1, h2, h3, rfl, hc, hb, hk, ho, _⟩ := h.at_ h0
  rw [h3] at KA
  have hsm := hs n0 (atS_mem h0)
  rw [← h2] at hsm
  have hq : n.names.length ≤ 1000 := Nat.le_trans hsm.q (by decide)
  have hnn : hasN s n.names = false := by have := hno; rw [← h2] at this; exact this
  have H := Lib.hid h; have HK1 := Lib.hid h1; have HO := Lib.hid ho; have HA := Lib.hid ha; have HLT := Lib.hid hk; have HOW := Lib.hid hown
  have HD := Lib.hid (show n.ino = d by rw [← hd, ← h2]; rfl)
  have hlt2 : (k : Int) < (Ls.length : Int) := Int.ofNat_lt.2 hk
  clear h h0 h1 h2 h3 ho ha hs hd hk hown
  clear hno
  unfold SPtr at *
  go_enter Tryz.func108, Tryz.ntmps108
  go_wp2_with fail
  refine (KA.out).mono ?_
  rintro e w2 ⟨rfl, hw1⟩
  have hb2 := grown_b hw1
  have h5 := H.out.below hb2
  obtain ⟨hbc, hE2⟩ := (HO.out.below hb2).ens
  have KP := Lib.hid (fun wx (b : Below w2.heap.size w2 wx) => rPutO (c := n.bc) (hE2.below (by exact b)) b.size hbc hq s i hnn)
  obtain ⟨cur, hcl, hbl⟩ := h5.blk HLT.out
  have HB2 := Lib.hid hb2; have H5 := Lib.hid h5; have HCL := Lib.hid hcl; have HBL := Lib.hid hbl
  have hx6 := h5.row_cells HK1.out 6 _ rfl
  have HBASE := Lib.hid (show base ≤ w2.heap.size by have := h5.lo; have := h5.cells.lt; omega)
  have HX6 := Lib.hid hx6
  obtain ⟨J, ki, l, t, u, A0, ac, P, B, bc, N⟩ := n
  dsimp only at KP HX6 hbc hq hsm hE2 hx6
  have b0 : Below w2.heap.size w2 w2.drew := below_drewN (Below.refl _ _) 1
  have s9 : ∀ w' : World, (∀ q, q < w2.heap.size → q ≠ gL → w'.heap[q]? = w2.heap[q]?) → w'.cell? ⟨g, 0, none⟩ = some (.slice (some ⟨gL, 0, none⟩) Ls.length c) := fun w' hb' => by
    have d1 : Cells w' g _ _ := (hb' g H5.out.cells.lt (fun e => by subst e; exact H5.out.cells.ne HCL.out (by decide) rfl)).trans H5.out.cells
    exact d1.cell 0
  have S9 := Lib.hid s9
  have x6 := HX6.out.1
  have c0 := H5.out.c0
  clear hw1 hb2 h5 hcl hbl hx6 s9 KA hE2 hsm hbc
  go_upto_region 1 with fail
  go_region_with
    (first
    | (go_at_call 149; (with_reducible refine (KP.out _ b0).mono ?_); rintro e' w3 ⟨B3, bc3, rfl, hc3, ho3, hb3⟩; have b3 := b0.trans (hb3.mono b0.size); have c3 := S9.out _ (fun q hq _ => b3.block q hq); have HO3 := Lib.hid ho3; have y6 := (HCL.out.below' b3).cell (k * 7 + 6); rw [← HCL.out.cell (k * 7 + 6), HX6.out.1] at y6; have z6 := (HCL.out.below' b3).free (k * 7 + 6)))
  all_goals
    have h6 := (H5.out.below b3).set HK1.out HA.out (n' := ⟨J, ki, l, t, u, A0, ac, P, B3, bc3, putR s i N⟩) (f := putNm s i) rfl (j := 6) (u := .slice B3 (putR s i N).length bc3) (by decide) rfl
      ⟨((HO.out.below HB2.out).below b3).1, HO3.out.mono HBASE.out⟩
    have h7 := ((HOW.out.below HB2.out).below b3).set HK1.out (n' := ⟨J, ki, l, t, u, A0, ac, P, B3, bc3, putR s i N⟩) (j := 6) (u := .slice B3 (putR s i N).length bc3) (by decide) rfl
    dsimp only at h6
    rw [show J = d from HD.out] at h6 h7
    have H6 := Lib.hid h6; have H7 := Lib.hid h7
    have HB6 := Lib.hid (show Below base w (w3.setCell ⟨gL, k * 7 + 6, none⟩ (.slice B3 (putR s i N).length bc3)) from ((HB2.out.trans (b3.mono HB2.out.size)).mono (by have := H.out.lo; have := H.out.cells.lt; omega)).setCell (p := ⟨gL, k * 7 + 6, none⟩) HBL.out _)
    have HKC := Lib.hid (show Trn w (w3.setCell ⟨gL, k * 7 + 6, none⟩ (.slice B3 (putR s i N).length bc3)) [gL] from
      ((Trn.of HB2.out).trans (Trn.of b3)).trans (Trn.set w3 (p := ⟨gL, k * 7 + 6, none⟩) (by simp) _))
    clear h6 h7 hc3 ho3 hb3 x6 y6 z6
    go_end0
    exact ⟨rfl, _, _, H6.out, H7.out, (by rw [List.length_set]; exact Nat.le_refl _), HB6.out, gL, c, rfl, HKC.out⟩
end
theorem KeepC.one {w w' : World} {gL : Nat} {T : TypeId} {cs : Array Value} (hc : Cells w gL T cs) (h : ∀ q, q ≠ gL → w'.heap[q]? = w.heap[q]?) : KeepC [T] w w' := fun b t cs' ht hc' => (h b (fun e => ht (by
    subst e
    have : t = T := Decidable.byContradiction fun hne => hc'.ne hc hne rfl
    rw [this]; exact List.mem_singleton.2 rfl))).trans hc'
/-- the seven cells of a node are stored into a row -/
def set7o (w : World) (g o : Nat) (n : Nd) : World :=
  ((((((w.setCell ⟨g, o, none⟩ (.int .i64 n.ino)).setCell ⟨g, o + 1, none⟩ (.int .i64 n.kind)).setCell ⟨g, o + 2, none⟩ (.int .i64 n.links)).setCell ⟨g, o + 3, none⟩ (.int .i64 n.size)).setCell ⟨g, o + 4, none⟩ (.int .i64 n.up)).setCell ⟨g, o + 5, none⟩ (.slice n.A n.pages.length n.ac)).setCell ⟨g, o + 6, none⟩ (.slice n.B n.names.length n.bc)
def sets7 (xs : List Value) (o : Nat) (n : Nd) : List Value :=
  ((((((xs.set o (.int .i64 n.ino)).set (o + 1) (.int .i64 n.kind)).set (o + 2) (.int .i64 n.links)).set (o + 3) (.int .i64 n.size)).set (o + 4) (.int .i64 n.up)).set (o + 5) (.slice n.A n.pages.length n.ac)).set (o + 6) (.slice n.B n.names.length n.bc)
theorem sets7_append (ys xs : List Value) (o : Nat) (n : Nd) : sets7 (ys ++ xs) (ys.length + o) n = ys ++ sets7 xs o n := by
  unfold sets7
  simp only [Nat.add_assoc]
  simp [List.set_append_right]
theorem ndvals_set (n' : Nd) : ∀ (l : List Nd) (k : Nat), k < l.length → ndvals (l.set k n') = sets7 (ndvals l) (k * 7) n' := by
  intro l
  induction l with
  | nil => intro k hk; simp at hk
  | cons x l ih =>
    intro k hk
    have e1 : ∀ (y : Nd) (m : List Nd), ndvals (y :: m) = y.cells ++ ndvals m := fun y m => by unfold ndvals; rw [List.flatMap_cons]
    cases k with
    | zero =>
      rw [List.set_cons_zero, e1, e1]
      simp [sets7, Nd.cells]
    | succ k =>
      rw [List.set_cons_succ, e1, e1, show (k + 1) * 7 = x.cells.length + k * 7 by rw [cells_len]; omega, sets7_append, ih k (by simpa using hk)]
theorem set7o_other {w : World} {g o q : Nat} {n : Nd} (h : q ≠ g) : (set7o w g o n).heap[q]? = w.heap[q]? := by
  unfold set7o
  simp only [Below.heap_setCell _ _ _ q (show q ≠ (⟨g, _, none⟩ : Addr).block from h)]
section
variable {w w' : World} {base g : Nat} {Ls : List Nd} {v : Value} {S : Stt}
theorem set7o_below {B : Nat} {w0 : World} {gL o : Nat} {n : Nd} (h : Below B w0 w) (hg : B ≤ gL) : Below B w0 (set7o w gL o n) := by
  unfold set7o
  exact ((((((h.setCell hg _).setCell hg _).setCell hg _).setCell hg _).setCell hg _).setCell hg _).setCell hg _
theorem DSx.set7 {c gL k : Nat} {n n' : Nd} (h : DSx w base g Ls (.slice (some ⟨gL, 0, none⟩) Ls.length c) S) (hk : Ls[k]? = some n) (ha : AscS S.l) {f : Nod → Nod} (hf : n'.plain = f n.plain) (ho : OwnNd w base n') :
    DSx (set7o w gL (k * 7) n') base g (Ls.set k n') (.slice (some ⟨gL, 0, none⟩) Ls.length c) ⟨modS S.l n.ino f, S.last⟩ := by
  have hkl := (List.getElem?_eq_some_iff.1 hk).1
  obtain ⟨cur, hc, hb⟩ := h.blk hkl
  have hkc : KeepC [55] w (set7o w gL (k * 7) n') := KeepC.one hc (fun q hq => set7o_other hq)
  refine ⟨h.lo, hkc _ _ _ (by decide) h.cells, ?_, fun m hm => ?_, ?_⟩
  · have h1 := ownK_set (ownK_set (ownK_set (ownK_set (ownK_set (ownK_set (ownK_set h.row (k * 7) (.int .i64 n'.ino)) (k * 7 + 1) (.int .i64 n'.kind)) (k * 7 + 2) (.int .i64 n'.links)) (k * 7 + 3) (.int .i64 n'.size)) (k * 7 + 4) (.int .i64 n'.up)) (k * 7 + 5) (.slice n'.A n'.pages.length n'.ac)) (k * 7 + 6) (.slice n'.B n'.names.length n'.bc)
    rw [ndvals_set n' Ls k hkl, List.length_set]
    exact h1
  · rcases List.mem_or_eq_of_mem_set hm with hm | rfl
    · exact (h.own m hm).keep hkc (by decide) (by decide)
    · exact ho.keep hkc (by decide) (by decide)
  · show (Ls.set k n').map Nd.plain = modS S.l n.ino f
    rw [List.map_set, h.eq, hf]
    refine (mod_set ha ?_ rfl).symm
    rw [← h.eq, List.getElem?_map, hk]; rfl
end
/-- what the document's does leaves -/
def DX (o : Option (Stt × List Int)) (S : Stt) (base g : Nat) (Ls : List Nd) (w : World) (en : Ending) (w' : World) : Prop :=
  ∃ A c l Ls' v', en = .returned (.tuple #[.slice A l c, .bool o.isSome]) ∧ DSx w' base g Ls' v' ((o.map Prod.fst).getD S) ∧ Ls'.length ≤ Ls.length + 1 ∧ Below base w w'
end Go.Proofs.YtamndllolppmoaaGreat
