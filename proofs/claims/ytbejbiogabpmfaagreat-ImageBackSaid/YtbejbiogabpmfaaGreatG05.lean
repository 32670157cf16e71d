import Derived.Test.YtbejbiogabpmfaaGreatG04
import Derived.Maps.OwnOps
import Derived.Maps.OwnSet
import Derived.Maps.RangeWalk
import Derived.Test.YtbejbiogabpmfaaGreatG00
import Derived.IntWalk
import Derived.Laws.Strings
import Derived.Test.YtbejbiogabpmfaaGreatG02

namespace Go.Proofs.YtbejbiogabpmfaaGreat
open Wd Ino Go.RowKit Go.ChangeShapes Go.WideShapes Go.Sort
set_option linter.unusedVariables false
set_option maxRecDepth 100000

/-! a page put at a place -/
def putOk (i size : Int) : Bool := decide (size ≤ 16384) && inB i 0 (needP size - 1)
def putP (l : List Int) (i ref size : Int) : List Int := (fitP l (needP size).toNat).set i.toNat ref
def putV (l : List Int) (i size : Int) : Int := ((fitP l (needP size).toNat)[i.toNat]?).getD 0
def PutD (n : Nd) (i ref size : Int) (w : World) (e : Ending) (w' : World) : Prop := ∃ V A ac B bc, e = .returned (.tuple #[V, .int .i64 (if putOk i size = true then putV n.pages i size else 0)]) ∧
  OwnN w' w.heap.size V n.ino n.kind n.links (if putOk i size = true then size else n.size) n.up (if putOk i size = true then putP n.pages i ref size else n.pages) n.names A ac B bc ∧ Below w.heap.size w w'
theorem own_cells {w : World} {base g n c : Nat} {e : TypeId} {sz : Nat} {xs : List Value} (h : w.ownsRow base e sz (.slice (some ⟨g, 0, none⟩) n c) n xs) : ∃ cur, Cells w g e cur := by
  rcases h.2 with ⟨h0, _⟩ | ⟨g', cap, cur, hv, _, hh, _⟩
  · cases h0
  · injection hv with hv
    injection hv with hv
    injection hv with hv
    subst hv
    exact ⟨cur, hh⟩
theorem needP_bounds (n : Int) (h : i64R n) : 0 ≤ needP n ∧ needP n ≤ 36028797018963968 := by
  unfold i64R at h
  unfold needP
  split <;> omega
set_option maxHeartbeats 8000000 in
theorem iPut (n : Nd) (j ref size : Int) (hz : i64R size) (w : World) (h : n.Ok w w.heap.size) (hp : n.pages.length ≤ 1000) (hq : n.names.length ≤ 1000) (hsz : ∀ e ∈ n.names, e.s.size ≤ 1000) :
    Calls Tryz.prog 143 #[n.val, .int .i64 j, .int .i64 ref, .int .i64 size] w (PutD n j ref size w) := by
  have KC := Lib.hid (fun w1 (b : Below w.heap.size w w1) => iCopy n w1 (h.in_.at_ b) hp hq hsz)
  have KR := Lib.hid (fun w1 (b : Below w.heap.size w w1) => iResize n size hz w1 (h.at_ b) hp hq hsz)
  have KN := Lib.hid (fun w => iNeed_is size hz w)
  have hnb := needP_bounds size hz
  obtain ⟨i, ki, l, s, u, A, ac, P, B, bc, N⟩ := n
  unfold ResizeD at KR
  unfold PutD putOk
  dsimp only at hp hq hsz KR ⊢
  unfold Nd.val at KC KR ⊢
  dsimp only at KC KR ⊢
  obtain ⟨m, hm⟩ : ∃ m, needP size = m := ⟨_, rfl⟩
  rw [hm] at KN hnb ⊢
  have KW := Lib.hid (fun w => iWithin_is j 0 (m - 1) w)
  have HB0 := Lib.hid (((Below.refl w.heap.size w).alloc (Nat.le_refl _) (.cells (ncells i ki l s u (.slice A P.length ac) (.slice B N.length bc)) 51)).alloc (by simp) (.cells (ncells 0 0 0 0 0 (.slice none 0 0) (.slice none 0 0)) 51))
  have hr2 : Cells ((w.alloc (.cells (ncells i ki l s u (.slice A P.length ac) (.slice B N.length bc)) 51)).alloc (.cells (ncells 0 0 0 0 0 (.slice none 0 0) (.slice none 0 0)) 51)) (w.heap.size + 1) 51 (ncells 0 0 0 0 0 (.slice none 0 0) (.slice none 0 0)) := by
    have := Cells.new (w.alloc (.cells (ncells i ki l s u (.slice A P.length ac) (.slice B N.length bc)) 51)) 51 (ncells 0 0 0 0 0 (.slice none 0 0) (.slice none 0 0)); simpa using this
  have HR := Lib.hid hr2
  have hs2 : ((w.alloc (.cells (ncells i ki l s u (.slice A P.length ac) (.slice B N.length bc)) 51)).alloc (.cells (ncells 0 0 0 0 0 (.slice none 0 0) (.slice none 0 0)) 51)).heap.size = w.heap.size + 2 := by simp
  have HS2 := Lib.hid hs2
  unfold ncells at HB0 HR HS2
  have w1 : wrap64 (m - 1) = m - 1 := by unfold wrap64; omega
  have HM := Lib.hid hm
  clear hr2 hs2 hsz h hz hm
  by_cases h1 : 16384 < size
  · have q1 : decide (16384 < size) = true := decide_eq_true h1
    have q2 : decide (size ≤ 16384) = false := decide_eq_false (by omega)
    rw [q2, Bool.false_and]
    simp only [Bool.false_eq_true, if_false]
    clear h1 q2 w1 hnb KR KW KN
    go_enter Tryz.func143, Tryz.ntmps143
    go_wp2_with fail
    refine (KC.out _ HB0.out).mono ?_
    rintro e w2 ⟨V, A3, c3, B4, c4, rfl, ⟨rfl, oI, oE⟩, b2⟩
    have B2 := Lib.hid (HB0.out.trans (b2.mono HB0.out.size))
    have R2 := Lib.hid (HR.out.below' b2)
    rw [HS2.out] at oI oE
    have OI := Lib.hid oI; have OE := Lib.hid oE
    obtain ⟨d0, d1, d2, d3, d4, d5, d6⟩ := cells7 R2.out
    have z := fun j => Cells.free R2.out j
    unfold nv
    clear b2 oI oE KC
    go_wp2
    exact bodyPost_ret (results_node_tmp rfl _ _ (w.heap.size + 1) (ncells i ki l s u (.slice A3 P.length c3) (.slice B4 N.length c4)) rfl (set7_cells R2.out) rfl) rfl
      ⟨_, A3, c3, B4, c4, rfl, ⟨rfl, OwnI.mono (own_set7 OI.out (by omega)) (by omega), OwnE.mono (own_set7 OE.out (by omega)) (by omega)⟩, set7_below B2.out (by omega)⟩
  · have q1 : decide (16384 < size) = false := decide_eq_false h1
    have q2 : decide (size ≤ 16384) = true := decide_eq_true (by omega)
    rw [q2, Bool.true_and]
    cases hw : inB j 0 (m - 1)
    · rw [hw] at KW
      simp only [Bool.false_eq_true, if_false]
      clear h1 q2 KR
      go_enter Tryz.func143, Tryz.ntmps143
      go_wp2_with fail
      refine (KN.out _).mono ?_
      rintro e w1 ⟨rfl, rfl⟩
      go_wp2_with fail
      refine (KW.out _).mono ?_
      rintro e w1 ⟨rfl, rfl⟩
      go_wp2_with fail
      refine (KC.out _ HB0.out).mono ?_
      rintro e w2 ⟨V, A3, c3, B4, c4, rfl, ⟨rfl, oI, oE⟩, b2⟩
      have B2 := Lib.hid (HB0.out.trans (b2.mono HB0.out.size))
      have R2 := Lib.hid (HR.out.below' b2)
      rw [HS2.out] at oI oE
      have OI := Lib.hid oI; have OE := Lib.hid oE
      obtain ⟨d0, d1, d2, d3, d4, d5, d6⟩ := cells7 R2.out
      have z := fun j => Cells.free R2.out j
      unfold nv
      clear b2 oI oE KC
      go_wp2
      exact bodyPost_ret (results_node_tmp rfl _ _ (w.heap.size + 1) (ncells i ki l s u (.slice A3 P.length c3) (.slice B4 N.length c4)) rfl (set7_cells R2.out) rfl) rfl
        ⟨_, A3, c3, B4, c4, rfl, ⟨rfl, OwnI.mono (own_set7 OI.out (by omega)) (by omega), OwnE.mono (own_set7 OE.out (by omega)) (by omega)⟩, set7_below B2.out (by omega)⟩
    · rw [hw] at KW
      simp only [if_true]
      have hj : 0 ≤ j ∧ j ≤ m - 1 := by unfold inB at hw; simpa using hw
      have hsz : inB size 0 16384 = true := by
        have := HM.out
        unfold needP at this
        unfold inB
        rw [decide_eq_true (show size ≤ 16384 by omega), decide_eq_true (show 0 ≤ size by split at this <;> omega)]
        rfl
      obtain ⟨K, hK, hK64⟩ := needP_nat size (by unfold inB at hsz; simp at hsz; omega) (by omega)
      obtain ⟨jn, rfl⟩ : ∃ jn : Nat, j = (jn : Int) := ⟨j.toNat, by omega⟩
      have hjK : jn < K := by have := HM.out; omega
      have hPV : putV P (jn : Int) size = ((fitP P K)[jn]?).getD 0 := by unfold putV; rw [hK, Int.toNat_natCast, Int.toNat_natCast]
      have hPP : putP P (jn : Int) ref size = (fitP P K).set jn ref := by unfold putP; rw [hK, Int.toNat_natCast, Int.toNat_natCast]
      rw [hPV, hPP]
      rw [hsz] at KR
      simp only [if_true] at KR
      rw [hK, Int.toNat_natCast] at KR
      obtain ⟨F, hF⟩ : ∃ F, fitP P K = F := ⟨_, rfl⟩
      have hFl : F.length = K := by rw [← hF]; exact fit_len _ _
      rw [hF] at KR ⊢
      clear h1 q2 hw hj hsz hK hPV hPP KC hF
      have hjI : (jn : Int) < (K : Int) := Int.ofNat_lt.2 hjK
      have hj0 : (0 : Int) ≤ (jn : Int) := Int.natCast_nonneg jn
      obtain ⟨x, hx⟩ : ∃ x, F[jn]? = some x := ⟨_, List.getElem?_eq_getElem (by omega)⟩
      rw [hx, Option.getD_some]
      go_enter Tryz.func143, Tryz.ntmps143
      go_wp2_with fail
      refine (KN.out _).mono ?_
      rintro e w1 ⟨rfl, rfl⟩
      go_wp2_with fail
      refine (KW.out _).mono ?_
      rintro e w1 ⟨rfl, rfl⟩
      go_wp2_with fail
      refine (KR.out _ HB0.out).mono ?_
      rintro e w2 ⟨V, A3, c3, B4, c4, G, rfl, ⟨rfl, oI, oE⟩, oG, b2⟩
      rw [HS2.out] at oI oE
      unfold nv
      rw [hFl] at oI ⊢
      have o2 : w2.ownsRow (w.heap.size + 2) 3 1 (.slice A3 K c3) K (F.map iv) := by have h := oI; unfold OwnI at h; rwa [hFl] at h
      obtain ⟨g, cap, hA, hg, _, _, hgl⟩ := own_open o2 (by omega)
      injection hA with hA _ hcap
      subst hA
      subst hcap
      have b3 := (Below.refl w2.heap.size w2).alloc (Nat.le_refl _) (.cells (ncells i ki l size u (.slice (some ⟨g, 0, none⟩) K c3) (.slice B4 N.length c4)) 51)
      have o3 := own_below o2 b3
      have oE3 := oE.below b3
      have c3n := Cells.new w2 51 (ncells i ki l size u (.slice (some ⟨g, 0, none⟩) K c3) (.slice B4 N.length c4))
      have r3 := (HR.out.below' b2).below' b3
      have hb3 := HB0.out.trans (b2.mono HB0.out.size)
      have hB3 := hb3.trans (b3.mono hb3.size)
      have hs2 : w.heap.size + 2 ≤ w2.heap.size := by have := b2.size; rw [HS2.out] at this; exact this
      obtain ⟨hn, hhn⟩ : ∃ hn, w2.heap.size = hn := ⟨_, rfl⟩
      rw [hhn] at c3n hs2 hgl
      have HHN := Lib.hid hhn
      unfold ncells at b3 o3 oE3 c3n r3 hB3
      clear hhn b2 oI oE o2 b3 hb3 HR HB0 HS2 KR
      go_upto_region 4 with fail
      rw [HHN.out]
      obtain ⟨W3, hW3⟩ : ∃ W3, w2.alloc (.cells #[.int .i64 i, .int .i64 ki, .int .i64 l, .int .i64 size, .int .i64 u, .slice (some ⟨g, 0, none⟩) K c3, .slice B4 N.length c4] 51) = W3 := ⟨_, rfl⟩
      rw [hW3] at o3 oE3 c3n r3 hB3 ⊢
      obtain ⟨pc, pf⟩ := own_cell o3 (k := jn) (u := .int .i64 x) (by rw [List.getElem?_map, hx]; rfl)
      have c5 := c3n.cell 5
      simp at c5
      have O3 := Lib.hid o3; have OE3 := Lib.hid oE3; have C3n := Lib.hid c3n; have R3 := Lib.hid r3; have B3 := Lib.hid hB3
      clear hW3 o3 oE3 c3n r3 hB3 HHN
      go_upto_region 6 with fail
      obtain ⟨cur, hcur⟩ := own_cells O3.out
      have hgn : g < hn := hgl
      have OI4 := Lib.hid (own_set O3.out jn (.int .i64 ref))
      have OE4 := Lib.hid (own_apart OE3.out hcur (by decide) jn (.int .i64 ref))
      have C4n := Lib.hid (C3n.out.far (p := ⟨g, jn, none⟩) (by simp; omega) (.int .i64 ref))
      have R4 := Lib.hid (R3.out.far (p := ⟨g, jn, none⟩) (by simp; omega) (.int .i64 ref))
      have B4' := Lib.hid (B3.out.setCell (p := ⟨g, jn, none⟩) (by simp; omega) (.int .i64 ref))
      obtain ⟨W4, hW4⟩ : ∃ W4, W3.setCell ⟨g, jn, none⟩ (.int .i64 ref) = W4 := ⟨_, rfl⟩
      rw [hW4] at OI4 OE4 C4n R4 B4' ⊢
      obtain ⟨d0, d1, d2, d3, d4, d5, d6⟩ := cells7 R4.out
      obtain ⟨n0, n1, n2, n3, n4, n5, n6⟩ := cells7 C4n.out
      have z := fun j => Cells.free R4.out j
      clear hW4 hcur pc pf c5 O3 OE3 C3n R3 B3 hgn hgl
      go_wp2
      have hl2 : (F.set jn ref).length = K := by rw [List.length_set]; exact hFl
      have oI4 : OwnI W4 (w.heap.size + 2) (.slice (some ⟨g, 0, none⟩) (F.set jn ref).length c3) (F.set jn ref) := by
        unfold OwnI
        rw [hl2, List.map_set]
        exact OI4.out
      exact bodyPost_ret (results_node_tmp rfl _ _ (w.heap.size + 1) (ncells i ki l size u (.slice (some ⟨g, 0, none⟩) K c3) (.slice B4 N.length c4)) rfl (set7_cells R4.out) rfl) rfl
        ⟨_, some ⟨g, 0, none⟩, c3, B4, c4, rfl, ⟨by rw [hl2]; rfl, OwnI.mono (own_set7 oI4 (by omega)) (by omega), OwnE.mono (own_set7 OE4.out (by omega)) (by omega)⟩, set7_below B4'.out (by omega)⟩
end Go.Proofs.YtbejbiogabpmfaaGreat

/-! A map from int to any values, as a function: what its block holds, and what each operation makes of it. -/
namespace Sm
open Go Go.RowKit Go.Maps Go.ChangeMaps Go.MapKept

abbrev KI (x : Int) : Lit := .int .i64 x
abbrev VFn := Int → Option Value
def HR : Value → Option (DataW Value × List MemPlace) := fun v => some (.held v, [])
theorem key_lit (x : Int) : WideAt.IsKeyLit (KI x) := trivial
def Views (D : DataW Value) (F : VFn) : Prop := ∀ x, Maps.has D (KI x) = (F x).isSome ∧ ∀ c, F x = some c → ∀ z, D.atKey (KI x) z = .held c
theorem views_empty : Views (.map []) (fun _ => none) := fun x => ⟨rfl, fun c h => by cases h⟩
theorem Views.put {D : DataW Value} {F : VFn} (h : Views D F) (hm : IsMap D) (x : Int) (c : Value) : Views (D.put (KI x) (.held c)) (fun y => if y = x then some c else F y) := by
  intro y
  by_cases e : y = x
  · subst e
    simp only [if_true]
    exact ⟨by rw [has_put_same hm (key_lit y)]; rfl, fun c' hc z => by rw [atKey_put_same hm (key_lit y)]; cases hc; rfl⟩
  · simp only [if_neg e]
    have hne : KI y ≠ KI x := fun h => e (by injection h)
    exact ⟨by rw [has_put_other hne]; exact (h y).1, fun c' hc z => by rw [atKey_put_other hne]; exact (h y).2 c' hc z⟩
theorem Views.del {D : DataW Value} {F : VFn} (h : Views D F) (x : Int) : Views (D.del (KI x)) (fun y => if y = x then none else F y) := by
  intro y
  by_cases e : y = x
  · subst e
    simp only [if_true]
    exact ⟨by rw [has_del_same]; rfl, fun c' hc z => by cases hc⟩
  · simp only [if_neg e]
    have hne : KI y ≠ KI x := fun h => e (by injection h)
    exact ⟨by rw [has_del_other hne]; exact (h y).1, fun c' hc z => by rw [atKey_del_other hne]; exact (h y).2 c' hc z⟩
/-- block b is a map from int, of at most n entries, that holds what F says -/
def Mv (P : Program) (k : TypeId) (w : World) (b n : Nat) (F : VFn) : Prop := ∃ D : DataW Value, w.ownsMap P k HR b n D ∧ Views D F
section
variable {P : Program} {k e t : TypeId} {w w' : World} {b n : Nat} {F : VFn}
theorem Mv.lt (h : Mv P k w b n F) : b < w.heap.size := let ⟨_, h, _⟩ := h; h.lt
theorem Mv.same (h : Mv P k w b n F) (hb : w'.heap[b]? = w.heap[b]?) : Mv P k w' b n F := by
  obtain ⟨D, ⟨es, clock, h1, F1, h2, h3⟩, v⟩ := h
  exact ⟨D, ⟨es, clock, hb.trans h1, F1, h2, h3⟩, v⟩
theorem Mv.mono (h : Mv P k w b n F) {m : Nat} (hn : n ≤ m) : Mv P k w b m F := let ⟨D, h, v⟩ := h; ⟨D, h.mono hn, v⟩
theorem Mv.congr {G : VFn} (h : Mv P k w b n F) (hg : ∀ x, F x = G x) : Mv P k w b n G := by rw [← (funext hg : F = G)]; exact h
theorem Mv.made (w : World) (P : Program) (k : TypeId) : Mv P k (w.alloc (.map #[] 0)) w.heap.size 0 (fun _ => none) := ⟨_, World.ownsMap_made w P k _, views_empty⟩
theorem Mv.cells {c : Array Value} {T : TypeId} {g : Nat} (h : Mv P k w b n F) (hc : Wd.Cells w g T c) : b ≠ g := by
  rintro rfl
  obtain ⟨D, ⟨es, clock, h1, _⟩, _⟩ := h
  unfold Wd.Cells at hc
  rw [hc] at h1
  cases h1
theorem Mv.block (h : Mv P k w b n F) : ∃ es clock, w.heap[b]? = some (.map es clock) := let ⟨_, ⟨es, clock, h1, _⟩, _⟩ := h; ⟨es, clock, h1⟩
theorem Views.at {D : DataW Value} {F : VFn} (v : Views D F) (x : Int) (z : Value) : D.atKey (KI x) (.held z) = .held ((F x).getD z) := by
  cases hx : F x with
  | none => exact atKey_of_not_has (by rw [(v x).1, hx]; rfl) _
  | some c => exact (v x).2 c hx _
theorem Mv.look (h : Mv P k w b n F) (K : Keyed P k) (ht : P.underlying t = some (.map k e)) (hk : P.underlying k = some (.int .i64)) {z : Value} (hz : (zeroValue e).run P w = .ok z w) (x : Int) (hx : (Lit.int .i64 x).wf = true) :
    (Instr.lookup t (.map (some b)) (.int .i64 x) false).run P w = .ok ((F x).getD z) w := by
  obtain ⟨D, h, v⟩ := h
  obtain ⟨c, ps, h1, h2⟩ := h.lookup K ht hz (show HR z = some (.held z, []) from rfl) (keyOf_int_mk hk hx)
  rw [v.at x] at h2
  unfold HR at h2
  injection h2 with h2
  injection h2 with h2 _
  injection h2 with h2
  rw [h1, h2]
theorem Mv.store (h : Mv P k w b n F) (K : Keyed P k) (ht : P.underlying t = some (.map k e)) (hk : P.underlying k = some (.int .i64)) (hn : n < maxLen) (x : Int) (c : Value) (hx : (Lit.int .i64 x).wf = true) :
    ∃ w', (Instr.mapUpdate t (.map (some b)) (.int .i64 x) c).run P w = .ok () w' ∧ Mv P k w' b (n + 1) (fun y => if y = x then some c else F y) ∧ w.mapTurned w' b := by
  obtain ⟨D, h, v⟩ := h
  obtain ⟨w', h1, h2, h3⟩ := h.store K ht hn (keyOf_int_mk hk hx) (show HR c = some (.held c, []) from rfl)
  exact ⟨w', h1, ⟨_, h2, v.put h.isMap x c⟩, h3⟩
theorem Mv.drop (h : Mv P k w b n F) (K : Keyed P k) (ht : P.underlying t = some (.map k e)) (hk : P.underlying k = some (.int .i64)) (x : Int) (hx : (Lit.int .i64 x).wf = true) (ty : TypeId) :
    ∃ w', (Builtin.delete_ #[t, k] ty #[.map (some b), .int .i64 x]).run P w = .ok (.tuple #[]) w' ∧ Mv P k w' b n (fun y => if y = x then none else F y) ∧ w.mapTurned w' b := by
  obtain ⟨D, h, v⟩ := h
  obtain ⟨w', h1, h2, h3⟩ := h.drop K ht (keyOf_int_mk hk hx) ty
  exact ⟨w', h1, ⟨_, h2, v.del x⟩, h3⟩
theorem turned_block (h : w.mapTurned w' b) {q : Nat} (hq : q ≠ b) : w'.heap[q]? = w.heap[q]? := by
  obtain ⟨es, clock, es', clock', hb, rfl⟩ := h
  exact heap_setBlock_other hb _ hq
theorem turned_size (h : w.mapTurned w' b) : w'.heap.size = w.heap.size := by
  obtain ⟨es, clock, es', clock', hb, rfl⟩ := h
  simp [setBlock]
theorem turned_below (h : w.mapTurned w' b) {B : Nat} {w0 : World} (h0 : Below B w0 w) (hb : B ≤ b) : Below B w0 w' := by
  have hs := turned_size h
  have hk := fun q hq => turned_block h (q := q) hq
  obtain ⟨es, clock, es', clock', hb', rfl⟩ := h
  exact ⟨h0.os, h0.tape, h0.output, by rw [hs]; exact h0.size, fun q hq => (hk q (by omega)).trans (h0.block q hq)⟩
end
end Sm

/-! A map from int to any values, as a function: it lies in MpAny since round 20. -/
namespace Sm
end Sm

namespace Go.Proofs.YtbejbiogabpmfaaGreat
open Wd Go.ChangeShapes Go.WideShapes Go.RowKit Go.Sort
set_option linter.unusedVariables false

/-- a byte that no name has -/
def badC (c : UInt8) : Bool := c == 47 || c == 0
/-- the error's number of a name -/
def plainN (l : List UInt8) : Int := if l.any badC then 22 else if 24 < l.length then 36 else 0
def nameN (l : List UInt8) : Int := if l = [] ∨ l = [46] ∨ l = [46, 46] then 22 else plainN l
def IntIs (v : Int) (w : World) (e : Ending) (w' : World) : Prop := e = .returned (.int .i64 v) ∧ w = w'

theorem size_list (s : ByteArray) : s.toList.length = s.size := by
  rw [ByteArray.toList_eq]; simp

def NameRel (s : ByteArray) (W : World) (i : Value) (w : World) : Prop := ∃ k : Nat, k ≤ s.size ∧ i = .int .i64 k ∧ (∀ c ∈ s.toList.take k, badC c = false) ∧ w = W

theorem name_odd (s : ByteArray) (w : World) (h : s.toList = [] ∨ s.toList = [46] ∨ s.toList = [46, 46]) : Calls Tryz.prog 98 #[.string s] w (IntIs 22 w) := by
  rcases h with h | h | h
  · have h1 : s.toList.isEmpty = true := by rw [h]; rfl
    go_enter Tryz.func98, Tryz.ntmps98
    go_wp2
    go_ret
    exact ⟨rfl, rfl⟩
  · have h1 : s.toList.isEmpty = false := by rw [h]; rfl
    have h2 : (s.toList == [46]) = true := by rw [h]; rfl
    clear h
    go_enter Tryz.func98, Tryz.ntmps98
    go_wp2
    go_ret
    exact ⟨rfl, rfl⟩
  · have h1 : s.toList.isEmpty = false := by rw [h]; rfl
    have h2 : (s.toList == [46]) = false := by rw [h]; rfl
    have h3 : (s.toList == [46, 46]) = true := by rw [h]; rfl
    clear h
    go_enter Tryz.func98, Tryz.ntmps98
    go_wp2
    go_ret
    exact ⟨rfl, rfl⟩

set_option maxHeartbeats 1000000 in
theorem name_plain (s : ByteArray) (w : World) (hs : s.size ≤ 1000) (h1 : s.toList.isEmpty = false) (h2 : (s.toList == [46]) = false) (h3 : (s.toList == [46, 46]) = false) : Calls Tryz.prog 98 #[.string s] w (IntIs (plainN s.toList) w) := by
  have hn : s.toList ≠ [] := by intro h; rw [h] at h1; cases h1
  go_enter Tryz.func98, Tryz.ntmps98
  go_wp2
  go_loopw [3] (fun i wr => NameRel s w i wr) (fun i _ => s.size - (intOf i).toNat)
  case atStart => exact ⟨0, Nat.zero_le _, rfl, by simp, rfl⟩
  case round =>
    obtain ⟨k, hk, rfl, hg, rfl⟩ := hrel
    have HG := Lib.hid hg
    clear hg
    by_cases hlt : k < s.size
    · have hl : k < s.toList.length := by rw [size_list]; exact hlt
      have hget : s.toList[k]? = some s[k] := by
        rw [List.getElem?_eq_getElem hl]
        congr 1
        simp [ByteArray.toList_eq]
        rfl
      have hmem : s[k] ∈ s.toList := List.mem_of_getElem? hget
      have ht : s.toList.take (k + 1) = s.toList.take k ++ [s[k]] := by rw [List.take_add_one, hget]; rfl
      by_cases hb : badC s[k] = true
      · have hany : s.toList.any badC = true := List.any_eq_true.2 ⟨_, hmem, hb⟩
        have HANY := Lib.hid (show plainN s.toList = 22 by unfold plainN; rw [if_pos hany])
        have hc : (s[k].toNat : Int) = 47 ∨ (s[k].toNat : Int) ≠ 47 ∧ (s[k].toNat : Int) = 0 := by
          unfold badC at hb
          simp only [Bool.or_eq_true, beq_iff_eq] at hb
          rcases hb with h | h
          · left; rw [h]; rfl
          · right; rw [h]; exact ⟨by decide, rfl⟩
        have HC := Lib.hid hc
        clear hany hb hget hmem ht hl hc
        rcases HC.out with hc | ⟨hc1, hc2⟩
        · have q1 : ((s[k].toNat : Int) == 47) = true := by simpa using hc
          clear hc
          go_wp2
          go_ret
          exact ⟨by rw [HANY.out]; rfl, rfl⟩
        · have q1 : ((s[k].toNat : Int) == 47) = false := by simpa using hc1
          have q2 : ((s[k].toNat : Int) == 0) = true := by simpa using hc2
          clear hc1 hc2
          go_wp2
          go_ret
          exact ⟨by rw [HANY.out]; rfl, rfl⟩
      · have hb' : badC s[k] = false := by simpa using hb
        have hq : ((s[k].toNat : Int) == 47) = false ∧ ((s[k].toNat : Int) == 0) = false := by
          unfold badC at hb'
          rw [Bool.or_eq_false_iff] at hb'
          refine ⟨?_, ?_⟩
          · rw [beq_eq_false_iff_ne]
            intro h
            have h47 : s[k].toNat = 47 := by omega
            have : s[k] = 47 := UInt8.toNat_inj.1 h47
            rw [this] at hb'
            exact absurd hb'.1 (by decide)
          · rw [beq_eq_false_iff_ne]
            intro h
            have h00 : s[k].toNat = 0 := by omega
            have : s[k] = 0 := UInt8.toNat_inj.1 h00
            rw [this] at hb'
            exact absurd hb'.2 (by decide)
        obtain ⟨q1, q2⟩ := hq
        have HT := Lib.hid ht; have HBB := Lib.hid hb'
        clear hb hb' hget hmem ht hl
        go_wp2
        go_roundw
        case rel =>
          refine ⟨k + 1, by omega, by go_num, ?_, rfl⟩
          rw [HT.out]
          intro c hc
          rcases List.mem_append.1 hc with h | h
          · exact HG.out c h
          · rw [List.mem_singleton.1 h]; exact HBB.out
        case measure => simp [intOf]; omega
    · obtain rfl : k = s.size := by omega
      have hany : ¬ s.toList.any badC = true := by
        intro h
        obtain ⟨c, hc, hb⟩ := List.any_eq_true.1 h
        have := HG.out c (by rw [List.take_of_length_le (by rw [size_list]; exact Nat.le_refl _)]; exact hc)
        rw [this] at hb; cases hb
      have hv : plainN s.toList = if 24 < s.size then 36 else 0 := by unfold plainN; rw [if_neg hany, size_list]
      have HV := Lib.hid hv
      clear hany hv
      by_cases h24 : 24 < s.size
      · go_wp2
        go_ret
        exact ⟨by rw [HV.out, if_pos h24]; rfl, rfl⟩
      · go_wp2
        go_ret
        exact ⟨by rw [HV.out, if_neg h24]; rfl, rfl⟩

theorem refName_any (s : ByteArray) (hs : s.size ≤ 1000) (w : World) : Calls Tryz.prog 98 #[.string s] w (IntIs (nameN s.toList) w) := by
  by_cases h : s.toList = [] ∨ s.toList = [46] ∨ s.toList = [46, 46]
  · have := name_odd s w h
    rwa [show nameN s.toList = 22 by unfold nameN; rw [if_pos h]]
  · have e : nameN s.toList = plainN s.toList := by unfold nameN; rw [if_neg h]
    rw [e]
    refine name_plain s w hs ?_ ?_ ?_
    · cases hl : s.toList with
      | nil => exact absurd (.inl hl) h
      | cons a t => rfl
    · rw [beq_eq_false_iff_ne]; exact fun h' => h (.inr (.inl h'))
    · rw [beq_eq_false_iff_ne]; exact fun h' => h (.inr (.inr h'))
end Go.Proofs.YtbejbiogabpmfaaGreat

namespace Ino
open Go
set_option linter.unusedVariables false
/-! names in a directory, plainly -/
def lessN (a b : ByteArray) : Bool := Op.bytesLess a.toList b.toList
def nameIs (s : ByteArray) (e : Ent) : Bool := e.s.toList == s.toList
def foreE (s : ByteArray) (e : Ent) : Bool := lessN s e.s
def hasN (s : ByteArray) (l : List Ent) : Bool := l.any (nameIs s)
def inoN (s : ByteArray) : List Ent → Int
  | [] => 0
  | e :: l => if nameIs s e then e.n else inoN s l
def lookN (s : ByteArray) (l : List Ent) : Nat := if hasN s l then l.findIdx (nameIs s) else l.findIdx (foreE s)
def putN (s : ByteArray) (n : Int) (l : List Ent) : List Ent := l.take (l.findIdx (foreE s)) ++ ⟨s, n⟩ :: l.drop (l.findIdx (foreE s))
def dropN (s : ByteArray) (l : List Ent) : List Ent := l.filter (fun e => !nameIs s e)
def okE (e : Ent) : Bool := decide (Go.Proofs.YtbejbiogabpmfaaGreat.nameN e.s.toList = 0) && (decide (1 ≤ e.n) && decide (e.n ≤ 1048576))
def RightN (l : List Ent) : Prop := (∀ e ∈ l, okE e = true) ∧ l.Pairwise (fun a b => lessN a.s b.s = true)
instance (l : List Ent) : Decidable (RightN l) := by unfold RightN; infer_instance
def countN (n : Int) (l : List Ent) : Nat := l.countP (fun e => decide (e.n = n))

theorem bytes_less : ∀ (x y : List UInt8), Op.bytesLess x y = decide (x < y)
  | [], [] => by simp [Op.bytesLess]
  | _ :: _, [] => by simp [Op.bytesLess]
  | [], _ :: _ => by simp [Op.bytesLess]
  | a :: x, b :: y => by
    rw [Op.bytesLess, bytes_less x y]
    simp only [List.cons_lt_cons_iff]
    by_cases h1 : a < b <;> by_cases h2 : a = b <;> by_cases h3 : x < y <;> simp [h1, h2, h3]
theorem lessN_iff {a b : ByteArray} : lessN a b = true ↔ a.toList < b.toList := by
  unfold lessN; rw [bytes_less]; exact decide_eq_true_iff
theorem lessN_trans {a b c : ByteArray} (h : lessN a b = true) (k : lessN b c = true) : lessN a c = true :=
  lessN_iff.2 (List.lt_trans (lessN_iff.1 h) (lessN_iff.1 k))
theorem lessN_irrefl (a : ByteArray) : lessN a a = false := by
  cases h : lessN a a with
  | false => rfl
  | true => exact absurd (lessN_iff.1 h) (List.lt_irrefl _)
theorem bytes_inj {a b : ByteArray} (h : a.toList = b.toList) : a = b := by
  rw [ByteArray.toList_eq, ByteArray.toList_eq] at h
  cases a with | mk x => cases b with | mk y => exact congrArg ByteArray.mk (Array.toList_inj.1 h)
theorem nameIs_iff {s : ByteArray} {e : Ent} : nameIs s e = true ↔ e.s = s := by
  unfold nameIs
  rw [beq_iff_eq]
  exact ⟨bytes_inj, fun h => by rw [h]⟩
theorem less_or {a b : ByteArray} (h : lessN a b = false) : b = a ∨ lessN b a = true := by
  have h1 : ¬ a.toList < b.toList := fun h2 => by rw [lessN_iff.2 h2] at h; cases h
  have h2 : b.toList ≤ a.toList := List.not_lt.1 h1
  by_cases h3 : b.toList < a.toList
  · exact .inr (lessN_iff.2 h3)
  · exact .inl (bytes_inj (List.le_antisymm h2 (List.not_lt.1 h3)))

theorem RightN.nil : RightN [] := ⟨fun e h => absurd h (List.not_mem_nil), List.Pairwise.nil⟩
theorem RightN.take {l : List Ent} (h : RightN l) (k : Nat) : RightN (l.take k) := ⟨fun e he => h.1 e (List.mem_of_mem_take he), h.2.take⟩
theorem RightN.snoc {l : List Ent} {e : Ent} (h : RightN l) (ho : okE e = true) (hl : ∀ d, l.getLast? = some d → lessN d.s e.s = true) : RightN (l ++ [e]) := by
  refine ⟨fun x hx => ?_, ?_⟩
  · rcases List.mem_append.1 hx with hx | hx
    · exact h.1 x hx
    · rw [List.mem_singleton.1 hx]; exact ho
  · rw [List.pairwise_append]
    refine ⟨h.2, List.pairwise_singleton _ _, fun a ha b hb => ?_⟩
    rw [List.mem_singleton.1 hb]
    rcases List.eq_nil_or_concat l with rfl | ⟨r, d, rfl⟩
    · cases ha
    · rw [List.concat_eq_append] at ha h hl
      have hd : lessN d.s e.s = true := hl d (by simp)
      rcases List.mem_append.1 ha with ha | ha
      · exact lessN_trans ((List.pairwise_append.1 h.2).2.2 a ha d (by simp)) hd
      · rw [List.mem_singleton.1 ha]; exact hd
theorem RightN.dropN {l : List Ent} (h : RightN l) (s : ByteArray) : RightN (dropN s l) := by
  unfold Ino.dropN
  exact ⟨fun e he => h.1 e (List.mem_filter.1 he).1, h.2.filter _⟩
theorem RightN.step {l : List Ent} {k : Nat} {e : Ent} (h : RightN (l.take k)) (he : l[k]? = some e) (ho : okE e = true) (hl : ∀ d, 0 < k → l[k - 1]? = some d → lessN d.s e.s = true) : RightN (l.take (k + 1)) := by
  rw [List.take_add_one, he]
  refine h.snoc ho fun d hd => ?_
  have hk : k < l.length := (List.getElem?_eq_some_iff.1 he).1
  rw [List.getLast?_take] at hd
  cases k with
  | zero => simp at hd
  | succ k =>
    rw [if_neg (by omega)] at hd
    refine hl d (by omega) ?_
    simp only [Nat.add_sub_cancel] at hd ⊢
    rw [List.getElem?_eq_getElem (show k < l.length by omega)] at hd ⊢
    simpa using hd
theorem RightN.not_ok {l : List Ent} {k : Nat} {e : Ent} (he : l[k]? = some e) (ho : okE e = false) : ¬ RightN l := fun h => by
  rw [h.1 e (List.mem_of_getElem? he)] at ho; cases ho
theorem RightN.not_less {l : List Ent} {k : Nat} {d e : Ent} (hd : l[k]? = some d) (he : l[k + 1]? = some e) (ho : lessN d.s e.s = false) : ¬ RightN l := fun h => by
  obtain ⟨hk, hd⟩ := List.getElem?_eq_some_iff.1 hd
  obtain ⟨hk2, he⟩ := List.getElem?_eq_some_iff.1 he
  have := List.pairwise_iff_getElem.1 h.2 k (k + 1) hk hk2 (by omega)
  rw [hd, he, ho] at this; cases this

theorem has_false {s : ByteArray} {l : List Ent} : hasN s l = false ↔ ∀ e ∈ l, nameIs s e = false := by
  unfold hasN
  rw [List.any_eq_false]
  exact ⟨fun h e he => by simpa using h e he, fun h e he => by simpa using h e he⟩
theorem dropN_none {s : ByteArray} {l : List Ent} (h : hasN s l = false) : dropN s l = l := by
  unfold dropN
  rw [List.filter_eq_self]
  intro e he
  rw [has_false.1 h e he]; rfl
theorem has_dropN (s : ByteArray) (l : List Ent) : hasN s (dropN s l) = false := by
  rw [has_false]
  intro e he
  have := (List.mem_filter.1 he).2
  simpa using this
theorem hasN_cons (s : ByteArray) (e : Ent) (l : List Ent) : hasN s (e :: l) = (nameIs s e || hasN s l) := rfl
theorem dropN_cons (s : ByteArray) (e : Ent) (l : List Ent) : dropN s (e :: l) = if nameIs s e then dropN s l else e :: dropN s l := by
  unfold dropN
  rw [List.filter_cons]
  cases nameIs s e <;> rfl
theorem dropN_len (s : ByteArray) (l : List Ent) : (dropN s l).length ≤ l.length := List.length_filter_le _ _
theorem drop_less (s : ByteArray) (l : List Ent) : decide ((dropN s l).length < l.length) = hasN s l := by
  induction l with
  | nil => rfl
  | cons e l ih =>
    rw [dropN_cons, hasN_cons]
    cases h : nameIs s e with
    | true =>
      have := dropN_len s l
      simp
      omega
    | false =>
      rw [Bool.false_or, ← ih]
      simp
theorem RightN.putN {s : ByteArray} {n : Int} {l : List Ent} (h : RightN l) (hn : hasN s l = false) (ho : okE ⟨s, n⟩ = true) : RightN (putN s n l) := by
  unfold Ino.putN
  obtain ⟨k, hk⟩ : ∃ k, l.findIdx (foreE s) = k := ⟨_, rfl⟩
  rw [hk]
  have hlow : ∀ e ∈ l.take k, lessN e.s s = true := fun e he => by
    have hf : foreE s e = false := by
      obtain ⟨i, hi, rfl⟩ := List.mem_take_iff_getElem.1 he
      have hi' : i < l.findIdx (foreE s) := by omega
      simpa using List.not_of_lt_findIdx hi'
    rcases less_or hf with h1 | h1
    · have := has_false.1 hn e (List.mem_of_mem_take he)
      rw [nameIs_iff.2 h1] at this; cases this
    · exact h1
  have hpw : (l.take k ++ l.drop k).Pairwise (fun a b => lessN a.s b.s = true) := by rw [List.take_append_drop]; exact h.2
  have hp := List.pairwise_append.1 hpw
  have hhigh : ∀ e ∈ l.drop k, lessN s e.s = true := fun e he => by
    cases hd : l.drop k with
    | nil => rw [hd] at he; cases he
    | cons f r =>
      have hkl : k < l.length := by
        apply Classical.byContradiction
        intro hc
        rw [List.drop_eq_nil_of_le (by omega)] at hd; cases hd
      have hf : l[k] = f := by
        rw [List.drop_eq_getElem_cons hkl] at hd
        exact (List.cons.inj hd).1
      have h1 : foreE s f = true := by
        have := List.findIdx_getElem (p := foreE s) (xs := l) (w := by rw [hk]; exact hkl)
        simp only [hk] at this
        rw [← hf]; exact this
      rw [hd] at he
      rcases List.mem_cons.1 he with rfl | he
      · exact h1
      · have h2 := hp.2.1
        rw [hd] at h2
        exact lessN_trans h1 ((List.pairwise_cons.1 h2).1 e he)
  refine ⟨fun e he => ?_, ?_⟩
  · rcases List.mem_append.1 he with he | he
    · exact h.1 e (List.mem_of_mem_take he)
    · rcases List.mem_cons.1 he with rfl | he
      · exact ho
      · exact h.1 e (List.mem_of_mem_drop he)
  · rw [List.pairwise_append]
    refine ⟨hp.1, List.pairwise_cons.2 ⟨hhigh, hp.2.1⟩, fun a ha b hb => ?_⟩
    rcases List.mem_cons.1 hb with rfl | hb
    · exact hlow a ha
    · exact hp.2.2 a ha b hb
theorem RightN.ino {l : List Ent} (h : RightN l) {e : Ent} (he : e ∈ l) : hasN e.s l = true ∧ inoN e.s l = e.n := by
  refine ⟨List.any_eq_true.2 ⟨e, he, nameIs_iff.2 rfl⟩, ?_⟩
  induction l with
  | nil => cases he
  | cons f l ih =>
    rw [inoN]
    rcases List.mem_cons.1 he with rfl | he
    · rw [if_pos (nameIs_iff.2 rfl)]
    · have hp := List.pairwise_cons.1 h.2
      have hne : nameIs e.s f = false := by
        cases hc : nameIs e.s f with
        | false => rfl
        | true =>
          have := hp.1 e he
          rw [nameIs_iff.1 hc, lessN_irrefl] at this; cases this
      rw [if_neg (by rw [hne]; decide)]
      exact ih ⟨fun x hx => h.1 x (List.mem_cons_of_mem _ hx), hp.2⟩ he
theorem inoN_none {s : ByteArray} {l : List Ent} (h : hasN s l = false) : inoN s l = 0 := by
  induction l with
  | nil => rfl
  | cons e l ih =>
    rw [hasN_cons, Bool.or_eq_false_iff] at h
    rw [inoN, h.1]
    exact ih h.2
/-! what the loops say -/
theorem look_yes {s : ByteArray} {l : List Ent} {k : Nat} {e : Ent} (h0 : ∀ x ∈ l.take k, nameIs s x = false) (he : l[k]? = some e) (hs : nameIs s e = true) : hasN s l = true ∧ lookN s l = k ∧ inoN s l = e.n := by
  obtain ⟨hk, hke⟩ := List.getElem?_eq_some_iff.1 he
  have h1 : hasN s l = true := List.any_eq_true.2 ⟨e, List.mem_of_getElem? he, hs⟩
  refine ⟨h1, ?_, ?_⟩
  · unfold lookN
    rw [if_pos h1]
    rw [List.findIdx_eq hk]
    refine ⟨by rw [hke]; exact hs, fun j hj => ?_⟩
    exact h0 _ (List.mem_take_iff_getElem.2 ⟨j, by omega, rfl⟩)
  · have hl : l = l.take k ++ e :: l.drop (k + 1) := by
      rw [← hke, ← List.drop_eq_getElem_cons hk, List.take_append_drop]
    have gen : ∀ (m r : List Ent), (∀ x ∈ m, nameIs s x = false) → inoN s (m ++ e :: r) = e.n := by
      intro m
      induction m with
      | nil => intro r _; rw [List.nil_append, inoN, if_pos hs]
      | cons x m ih =>
        intro r hm
        rw [List.cons_append, inoN, if_neg (by rw [hm x (by simp)]; decide)]
        exact ih r fun y hy => hm y (List.mem_cons_of_mem _ hy)
    rw [hl]
    exact gen _ _ h0
theorem look_no {s : ByteArray} {l : List Ent} (h0 : ∀ x ∈ l, nameIs s x = false) : hasN s l = false ∧ lookN s l = l.findIdx (foreE s) ∧ inoN s l = 0 := by
  have h1 := has_false.2 h0
  exact ⟨h1, by unfold lookN; rw [if_neg (by rw [h1]; decide)], inoN_none h1⟩
theorem lookN_le (s : ByteArray) (l : List Ent) : lookN s l ≤ l.length := by
  unfold lookN
  split <;> exact List.findIdx_le_length
theorem findIdx_all {p : Ent → Bool} {l : List Ent} (h : ∀ x ∈ l, p x = false) : l.findIdx p = l.length :=
  List.findIdx_eq_length.2 h
theorem findIdx_at {p : Ent → Bool} {l : List Ent} {k : Nat} {e : Ent} (h0 : ∀ x ∈ l.take k, p x = false) (he : l[k]? = some e) (hs : p e = true) : l.findIdx p = k := by
  obtain ⟨hk, hke⟩ := List.getElem?_eq_some_iff.1 he
  rw [List.findIdx_eq hk]
  exact ⟨by rw [hke]; exact hs, fun j hj => h0 _ (List.mem_take_iff_getElem.2 ⟨j, by omega, rfl⟩)⟩
theorem take_snoc {l : List Ent} {k : Nat} {e : Ent} (he : l[k]? = some e) : l.take (k + 1) = l.take k ++ [e] := by
  rw [List.take_add_one, he]; rfl
theorem none_snoc {p : Ent → Bool} {l : List Ent} {k : Nat} {e : Ent} (he : l[k]? = some e) (h0 : ∀ x ∈ l.take k, p x = false) (h1 : p e = false) : ∀ x ∈ l.take (k + 1), p x = false := by
  rw [take_snoc he]
  intro x hx
  rcases List.mem_append.1 hx with hx | hx
  · exact h0 x hx
  · rw [List.mem_singleton.1 hx]; exact h1
end Ino
