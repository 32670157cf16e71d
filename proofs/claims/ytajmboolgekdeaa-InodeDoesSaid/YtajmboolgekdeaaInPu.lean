import Derived.Test.YtajmboolgekdeaaInRs
namespace Go.Proofs.Ytajmboolgekdeaa
open Wd Ino Go.RowKit Go.ChangeShapes Go.WideShapes Go.Sort
set_option linter.unusedVariables false
set_option maxRecDepth 100000

/-! a page put at a place -/
def putOk (i size : Int) : Bool := decide (size ≤ 16384) && inB i 0 (needP size - 1)
def putP (l : List Int) (i ref size : Int) : List Int := (fitP l (needP size).toNat).set i.toNat ref
def putV (l : List Int) (i size : Int) : Int := ((fitP l (needP size).toNat)[i.toNat]?).getD 0
def PutD (n : Nd) (i ref size : Int) (w : World) (e : Ending) (w' : World) : Prop := ∃ V A ac B bc, e = .returned (.tuple #[V, .int .i64 (if putOk i size = true then putV n.pages i size else 0)]) ∧
  OwnN w' w.heap.size V n.ino n.kind n.links (if putOk i size = true then size else n.size) n.up (if putOk i size = true then putP n.pages i ref size else n.pages) n.names A ac B bc ∧ Below w.heap.size w w'
theorem own_cells {w : World} {base g n c : Nat} {e : TypeId} {sz : Nat} {xs : List Value} (h : w.ownsRow base e sz (.slice (some ⟨g, 0, none⟩) n c) n xs) : ∃ cur, Cells w g e cur := by
  rcases h.2 with ⟨h0, _⟩ | ⟨g', cap, cur, hv, _, hh, _⟩
  · cases h0
  · injection hv with hv
    injection hv with hv
    injection hv with hv
    subst hv
    exact ⟨cur, hh⟩
theorem needP_bounds (n : Int) (h : i64R n) : 0 ≤ needP n ∧ needP n ≤ 36028797018963968 := by
  unfold i64R at h
  unfold needP
  split <;> omega
set_option maxHeartbeats 8000000 in
theorem iPut (n : Nd) (j ref size : Int) (hz : i64R size) (w : World) (h : n.Ok w w.heap.size) (hp : n.pages.length ≤ 1000) (hq : n.names.length ≤ 1000) (hsz : ∀ e ∈ n.names, e.s.size ≤ 1000) :
    Calls Try.prog 22 #[n.val, .int .i64 j, .int .i64 ref, .int .i64 size] w (PutD n j ref size w) := by
  have KC := Lib.hid (fun w1 (b : Below w.heap.size w w1) => iCopy n w1 (h.in_.at_ b) hp hq hsz)
  have KR := Lib.hid (fun w1 (b : Below w.heap.size w w1) => iResize n size hz w1 (h.at_ b) hp hq hsz)
  have KN := Lib.hid (fun w => iNeed_is size hz w)
  have hnb := needP_bounds size hz
  obtain ⟨i, ki, l, s, u, A, ac, P, B, bc, N⟩ := n
  unfold ResizeD at KR
  unfold PutD putOk
  dsimp only at hp hq hsz KR ⊢
  unfold Nd.val at KC KR ⊢
  dsimp only at KC KR ⊢
  obtain ⟨m, hm⟩ : ∃ m, needP size = m := ⟨_, rfl⟩
  rw [hm] at KN hnb ⊢
  have KW := Lib.hid (fun w => iWithin_is j 0 (m - 1) w)
  have HB0 := Lib.hid (((Below.refl w.heap.size w).alloc (Nat.le_refl _) (.cells (ncells i ki l s u (.slice A P.length ac) (.slice B N.length bc)) 25)).alloc (by simp) (.cells (ncells 0 0 0 0 0 (.slice none 0 0) (.slice none 0 0)) 25))
  have hr2 : Cells ((w.alloc (.cells (ncells i ki l s u (.slice A P.length ac) (.slice B N.length bc)) 25)).alloc (.cells (ncells 0 0 0 0 0 (.slice none 0 0) (.slice none 0 0)) 25)) (w.heap.size + 1) 25 (ncells 0 0 0 0 0 (.slice none 0 0) (.slice none 0 0)) := by
    have := Cells.new (w.alloc (.cells (ncells i ki l s u (.slice A P.length ac) (.slice B N.length bc)) 25)) 25 (ncells 0 0 0 0 0 (.slice none 0 0) (.slice none 0 0)); simpa using this
  have HR := Lib.hid hr2
  have hs2 : ((w.alloc (.cells (ncells i ki l s u (.slice A P.length ac) (.slice B N.length bc)) 25)).alloc (.cells (ncells 0 0 0 0 0 (.slice none 0 0) (.slice none 0 0)) 25)).heap.size = w.heap.size + 2 := by simp
  have HS2 := Lib.hid hs2
  unfold ncells at HB0 HR HS2
  have w1 : wrap64 (m - 1) = m - 1 := by unfold wrap64; omega
  have HM := Lib.hid hm
  clear hr2 hs2 hsz h hz hm
  by_cases h1 : 16384 < size
  · have q1 : decide (16384 < size) = true := decide_eq_true h1
    have q2 : decide (size ≤ 16384) = false := decide_eq_false (by omega)
    rw [q2, Bool.false_and]
    simp only [Bool.false_eq_true, if_false]
    clear h1 q2 w1 hnb KR KW KN
    go_enter Try.func22, Try.ntmps22
    go_wp2_with fail
    refine (KC.out _ HB0.out).mono ?_
    rintro e w2 ⟨V, A3, c3, B4, c4, rfl, ⟨rfl, oI, oE⟩, b2⟩
    have B2 := Lib.hid (HB0.out.trans (b2.mono HB0.out.size))
    have R2 := Lib.hid (HR.out.below' b2)
    rw [HS2.out] at oI oE
    have OI := Lib.hid oI; have OE := Lib.hid oE
    obtain ⟨d0, d1, d2, d3, d4, d5, d6⟩ := cells7 R2.out
    have z := fun j => Cells.free R2.out j
    unfold nv
    clear b2 oI oE KC
    go_wp2
    exact bodyPost_ret (results_node_tmp rfl _ _ (w.heap.size + 1) (ncells i ki l s u (.slice A3 P.length c3) (.slice B4 N.length c4)) rfl (set7_cells R2.out) rfl) rfl
      ⟨_, A3, c3, B4, c4, rfl, ⟨rfl, OwnI.mono (own_set7 OI.out (by omega)) (by omega), OwnE.mono (own_set7 OE.out (by omega)) (by omega)⟩, set7_below B2.out (by omega)⟩
  · have q1 : decide (16384 < size) = false := decide_eq_false h1
    have q2 : decide (size ≤ 16384) = true := decide_eq_true (by omega)
    rw [q2, Bool.true_and]
    cases hw : inB j 0 (m - 1)
    · rw [hw] at KW
      simp only [Bool.false_eq_true, if_false]
      clear h1 q2 KR
      go_enter Try.func22, Try.ntmps22
      go_wp2_with fail
      refine (KN.out _).mono ?_
      rintro e w1 ⟨rfl, rfl⟩
      go_wp2_with fail
      refine (KW.out _).mono ?_
      rintro e w1 ⟨rfl, rfl⟩
      go_wp2_with fail
      refine (KC.out _ HB0.out).mono ?_
      rintro e w2 ⟨V, A3, c3, B4, c4, rfl, ⟨rfl, oI, oE⟩, b2⟩
      have B2 := Lib.hid (HB0.out.trans (b2.mono HB0.out.size))
      have R2 := Lib.hid (HR.out.below' b2)
      rw [HS2.out] at oI oE
      have OI := Lib.hid oI; have OE := Lib.hid oE
      obtain ⟨d0, d1, d2, d3, d4, d5, d6⟩ := cells7 R2.out
      have z := fun j => Cells.free R2.out j
      unfold nv
      clear b2 oI oE KC
      go_wp2
      exact bodyPost_ret (results_node_tmp rfl _ _ (w.heap.size + 1) (ncells i ki l s u (.slice A3 P.length c3) (.slice B4 N.length c4)) rfl (set7_cells R2.out) rfl) rfl
        ⟨_, A3, c3, B4, c4, rfl, ⟨rfl, OwnI.mono (own_set7 OI.out (by omega)) (by omega), OwnE.mono (own_set7 OE.out (by omega)) (by omega)⟩, set7_below B2.out (by omega)⟩
    · rw [hw] at KW
      simp only [if_true]
      have hj : 0 ≤ j ∧ j ≤ m - 1 := by unfold inB at hw; simpa using hw
      have hsz : inB size 0 16384 = true := by
        have := HM.out
        unfold needP at this
        unfold inB
        rw [decide_eq_true (show size ≤ 16384 by omega), decide_eq_true (show 0 ≤ size by split at this <;> omega)]
        rfl
      obtain ⟨K, hK, hK64⟩ := needP_nat size (by unfold inB at hsz; simp at hsz; omega) (by omega)
      obtain ⟨jn, rfl⟩ : ∃ jn : Nat, j = (jn : Int) := ⟨j.toNat, by omega⟩
      have hjK : jn < K := by have := HM.out; omega
      have hPV : putV P (jn : Int) size = ((fitP P K)[jn]?).getD 0 := by unfold putV; rw [hK, Int.toNat_natCast, Int.toNat_natCast]
      have hPP : putP P (jn : Int) ref size = (fitP P K).set jn ref := by unfold putP; rw [hK, Int.toNat_natCast, Int.toNat_natCast]
      rw [hPV, hPP]
      rw [hsz] at KR
      simp only [if_true] at KR
      rw [hK, Int.toNat_natCast] at KR
      obtain ⟨F, hF⟩ : ∃ F, fitP P K = F := ⟨_, rfl⟩
      have hFl : F.length = K := by rw [← hF]; exact fit_len _ _
      rw [hF] at KR ⊢
      clear h1 q2 hw hj hsz hK hPV hPP KC hF
      have hjI : (jn : Int) < (K : Int) := Int.ofNat_lt.2 hjK
      have hj0 : (0 : Int) ≤ (jn : Int) := Int.natCast_nonneg jn
      obtain ⟨x, hx⟩ : ∃ x, F[jn]? = some x := ⟨_, List.getElem?_eq_getElem (by omega)⟩
      rw [hx, Option.getD_some]
      go_enter Try.func22, Try.ntmps22
      go_wp2_with fail
      refine (KN.out _).mono ?_
      rintro e w1 ⟨rfl, rfl⟩
      go_wp2_with fail
      refine (KW.out _).mono ?_
      rintro e w1 ⟨rfl, rfl⟩
      go_wp2_with fail
      refine (KR.out _ HB0.out).mono ?_
      rintro e w2 ⟨V, A3, c3, B4, c4, G, rfl, ⟨rfl, oI, oE⟩, oG, b2⟩
      rw [HS2.out] at oI oE
      unfold nv
      rw [hFl] at oI ⊢
      have o2 : w2.ownsRow (w.heap.size + 2) 3 1 (.slice A3 K c3) K (F.map iv) := by have h := oI; unfold OwnI at h; rwa [hFl] at h
      obtain ⟨g, cap, hA, hg, _, _, hgl⟩ := own_open o2 (by omega)
      injection hA with hA _ hcap
      subst hA
      subst hcap
      have b3 := (Below.refl w2.heap.size w2).alloc (Nat.le_refl _) (.cells (ncells i ki l size u (.slice (some ⟨g, 0, none⟩) K c3) (.slice B4 N.length c4)) 25)
      have o3 := own_below o2 b3
      have oE3 := oE.below b3
      have c3n := Cells.new w2 25 (ncells i ki l size u (.slice (some ⟨g, 0, none⟩) K c3) (.slice B4 N.length c4))
      have r3 := (HR.out.below' b2).below' b3
      have hb3 := HB0.out.trans (b2.mono HB0.out.size)
      have hB3 := hb3.trans (b3.mono hb3.size)
      have hs2 : w.heap.size + 2 ≤ w2.heap.size := by have := b2.size; rw [HS2.out] at this; exact this
      obtain ⟨hn, hhn⟩ : ∃ hn, w2.heap.size = hn := ⟨_, rfl⟩
      rw [hhn] at c3n hs2 hgl
      have HHN := Lib.hid hhn
      unfold ncells at b3 o3 oE3 c3n r3 hB3
      clear hhn b2 oI oE o2 b3 hb3 HR HB0 HS2 KR
      go_upto_region 4 with fail
      rw [HHN.out]
      obtain ⟨W3, hW3⟩ : ∃ W3, w2.alloc (.cells #[.int .i64 i, .int .i64 ki, .int .i64 l, .int .i64 size, .int .i64 u, .slice (some ⟨g, 0, none⟩) K c3, .slice B4 N.length c4] 25) = W3 := ⟨_, rfl⟩
      rw [hW3] at o3 oE3 c3n r3 hB3 ⊢
      obtain ⟨pc, pf⟩ := own_cell o3 (k := jn) (u := .int .i64 x) (by rw [List.getElem?_map, hx]; rfl)
      have c5 := c3n.cell 5
      simp at c5
      have O3 := Lib.hid o3; have OE3 := Lib.hid oE3; have C3n := Lib.hid c3n; have R3 := Lib.hid r3; have B3 := Lib.hid hB3
      clear hW3 o3 oE3 c3n r3 hB3 HHN
      go_upto_region 6 with fail
      obtain ⟨cur, hcur⟩ := own_cells O3.out
      have hgn : g < hn := hgl
      have OI4 := Lib.hid (own_set O3.out jn (.int .i64 ref))
      have OE4 := Lib.hid (own_apart OE3.out hcur (by decide) jn (.int .i64 ref))
      have C4n := Lib.hid (C3n.out.far (p := ⟨g, jn, none⟩) (by simp; omega) (.int .i64 ref))
      have R4 := Lib.hid (R3.out.far (p := ⟨g, jn, none⟩) (by simp; omega) (.int .i64 ref))
      have B4' := Lib.hid (B3.out.setCell (p := ⟨g, jn, none⟩) (by simp; omega) (.int .i64 ref))
      obtain ⟨W4, hW4⟩ : ∃ W4, W3.setCell ⟨g, jn, none⟩ (.int .i64 ref) = W4 := ⟨_, rfl⟩
      rw [hW4] at OI4 OE4 C4n R4 B4' ⊢
      obtain ⟨d0, d1, d2, d3, d4, d5, d6⟩ := cells7 R4.out
      obtain ⟨n0, n1, n2, n3, n4, n5, n6⟩ := cells7 C4n.out
      have z := fun j => Cells.free R4.out j
      clear hW4 hcur pc pf c5 O3 OE3 C3n R3 B3 hgn hgl
      go_wp2
      have hl2 : (F.set jn ref).length = K := by rw [List.length_set]; exact hFl
      have oI4 : OwnI W4 (w.heap.size + 2) (.slice (some ⟨g, 0, none⟩) (F.set jn ref).length c3) (F.set jn ref) := by
        unfold OwnI
        rw [hl2, List.map_set]
        exact OI4.out
      exact bodyPost_ret (results_node_tmp rfl _ _ (w.heap.size + 1) (ncells i ki l size u (.slice (some ⟨g, 0, none⟩) K c3) (.slice B4 N.length c4)) rfl (set7_cells R4.out) rfl) rfl
        ⟨_, some ⟨g, 0, none⟩, c3, B4, c4, rfl, ⟨by rw [hl2]; rfl, OwnI.mono (own_set7 oI4 (by omega)) (by omega), OwnE.mono (own_set7 OE4.out (by omega)) (by omega)⟩, set7_below B4'.out (by omega)⟩
end Go.Proofs.Ytajmboolgekdeaa
