import Derived.Test.YtbejbiogabpmfaaGreatG03
import Derived.Deep.RegionWith
import Derived.Deep.RegionHeld3
import Derived.Deep.RegionLaw
import Derived.Deep.CutRange
import Derived.Deep.DeepCutAuto
import Derived.Laws.CopyOwn

namespace Go.Proofs.YtbejbiogabpmfaaGreat
open Wd Ino Go.RowKit Go.ChangeShapes Go.WideShapes Go.Sort
set_option linter.unusedVariables false
set_option maxRecDepth 100000

/-- a node of that: its numbers, its pages and its names in rows of their own -/
structure OwnN (w : World) (base : Nat) (V : Value) (i k l s u : Int) (P : List Int) (N : List Ent) (A : Option Addr) (ac : Nat) (B : Option Addr) (bc : Nat) : Prop where
  val : V = nv i k l s u (.slice A P.length ac) (.slice B N.length bc)
  pages : OwnI w base (.slice A P.length ac) P
  names : OwnE w base (.slice B N.length bc) N
theorem fill2 {w : World} {g : Nat} {i k l s u : Int} {pv mv : Value} (h : Cells w g 51 (ncells i k l s u pv mv)) (p m : Value) : Cells ((w.setCell ⟨g, 5, none⟩ p).setCell ⟨g, 6, none⟩ m) g 51 (ncells i k l s u p m) := by
  have h1 := Cells.set h 5 p
  have h2 := Cells.set h1 6 m
  exact h2
theorem own_far {w : World} {base : Nat} {e : TypeId} {sz n : Nat} {v : Value} {xs : List Value} (h : w.ownsRow base e sz v n xs) {p : Addr} (hp : p.block < base) (u : Value) : (w.setCell p u).ownsRow base e sz v n xs := by
  rcases h with ⟨hl, h⟩
  refine ⟨hl, ?_⟩
  rcases h with h | ⟨g, cap, cur, hv, hb, hh, h1⟩
  · exact .inl h
  · exact .inr ⟨g, cap, cur, hv, hb, (Below.heap_setCell _ _ _ g (by omega)).trans hh, h1⟩
/-- a node's seven cells written -/
def set7 (w : World) (g : Nat) (i k l s u : Int) (p m : Value) : World :=
  ((((((w.setCell ⟨g, 0, none⟩ (.int .i64 i)).setCell ⟨g, 1, none⟩ (.int .i64 k)).setCell ⟨g, 2, none⟩ (.int .i64 l)).setCell ⟨g, 3, none⟩ (.int .i64 s)).setCell ⟨g, 4, none⟩ (.int .i64 u)).setCell ⟨g, 5, none⟩ p).setCell ⟨g, 6, none⟩ m
theorem set7_cells {w : World} {g : Nat} {i k l s u i' k' l' s' u' : Int} {p m p' m' : Value} (h : Cells w g 51 (ncells i' k' l' s' u' p' m')) : Cells (set7 w g i k l s u p m) g 51 (ncells i k l s u p m) := by
  have h0 : Cells _ g 51 (ncells i k' l' s' u' p' m') := Cells.set h 0 (.int .i64 i)
  have h1 : Cells _ g 51 (ncells i k l' s' u' p' m') := Cells.set h0 1 (.int .i64 k)
  have h2 : Cells _ g 51 (ncells i k l s' u' p' m') := Cells.set h1 2 (.int .i64 l)
  have h3 : Cells _ g 51 (ncells i k l s u' p' m') := Cells.set h2 3 (.int .i64 s)
  have h4 : Cells _ g 51 (ncells i k l s u p' m') := Cells.set h3 4 (.int .i64 u)
  have h5 : Cells _ g 51 (ncells i k l s u p m') := Cells.set h4 5 p
  have h6 : Cells _ g 51 (ncells i k l s u p m) := Cells.set h5 6 m
  exact h6
theorem set7_heap {w : World} {g : Nat} {i k l s u : Int} {p m : Value} {b : Nat} (h : b ≠ g) : (set7 w g i k l s u p m).heap[b]? = w.heap[b]? := by
  unfold set7
  have f := fun (w : World) (j : Nat) (x : Value) => Below.heap_setCell w ⟨g, j, none⟩ x b h
  rw [f, f, f, f, f, f, f]
theorem set7_below {B : Nat} {w0 w : World} {g : Nat} {i k l s u : Int} {p m : Value} (h : Below B w0 w) (hg : B ≤ g) : Below B w0 (set7 w g i k l s u p m) := by
  unfold set7
  have f := fun (w : World) (j : Nat) (x : Value) (h : Below B w0 w) => Below.setCell h (p := ⟨g, j, none⟩) hg x
  exact f _ _ _ (f _ _ _ (f _ _ _ (f _ _ _ (f _ _ _ (f _ _ _ (f _ _ _ h))))))
theorem own_set7 {w : World} {base : Nat} {e : TypeId} {sz n : Nat} {v : Value} {xs : List Value} (h : w.ownsRow base e sz v n xs) {g : Nat} (hp : g < base) {i k l s u : Int} {p m : Value} : (set7 w g i k l s u p m).ownsRow base e sz v n xs := by
  rcases h with ⟨hl, h⟩
  refine ⟨hl, ?_⟩
  rcases h with h | ⟨g', cap, cur, hv, hb, hh, h1⟩
  · exact .inl h
  · exact .inr ⟨g', cap, cur, hv, hb, (set7_heap (by omega)).trans hh, h1⟩
theorem own_apart {w : World} {base g : Nat} {e t : TypeId} {sz n : Nat} {v : Value} {xs : List Value} {cs : Array Value} (h : w.ownsRow base e sz v n xs) (hc : Cells w g t cs) (hne : t ≠ e) (k : Nat) (u : Value) : (w.setCell ⟨g, k, none⟩ u).ownsRow base e sz v n xs := by
  rcases h with ⟨hl, h⟩
  refine ⟨hl, ?_⟩
  rcases h with h | ⟨g', cap, cur, hv, hb, hh, h1⟩
  · exact .inl h
  · have hn : g' ≠ g := fun e' => Cells.ne hc (show Cells w g' e cur from hh) hne e'.symm
    exact .inr ⟨g', cap, cur, hv, hb, (Below.heap_setCell _ _ _ g' hn).trans hh, h1⟩
theorem ownE_open {w : World} {base : Nat} {v : Value} {N : List Ent} (h : OwnE w base v N) (hn : 0 < N.length) : ∃ g cap cur, v = .slice (some ⟨g, 0, none⟩) N.length cap ∧ base ≤ g ∧ Cells w g 103 cur ∧
    ∀ (j : Nat) (e : Ent), N[j]? = some e → cur[j * 2]? = some (.string e.s) ∧ cur[j * 2 + 1]? = some (.int .i64 e.n) := by
  rcases h.2 with ⟨_, h0⟩ | ⟨g, cap, cur, hv, hb, hh, hc, hm, _, ht⟩
  · omega
  · refine ⟨g, cap, cur, hv, hb, hh, fun j e hj => ?_⟩
    have get : ∀ (k : Nat) (x : Value), (ev e)[k]? = some x → cur[j * 2 + k]? = some x := fun k x hk => by
      have hx := evals_at N j k e x hj hk
      rw [← ht, List.getElem?_take] at hx
      split at hx
      · rw [← Array.getElem?_toList]; exact hx
      · cases hx
    exact ⟨get 0 _ rfl, get 1 _ rfl⟩
theorem ownE_same {w : World} {base g n cap : Nat} {N : List Ent} {cur : Array Value} (h : OwnE w base (.slice (some ⟨g, 0, none⟩) n cap) N) (hc : Cells w g 103 cur) {j : Nat} {u : Value} (hj : cur[j]? = some u) : OwnE (w.setCell ⟨g, j, none⟩ u) base (.slice (some ⟨g, 0, none⟩) n cap) N := by
  have h1 := Cells.set hc j u
  have h2 : cur.setIfInBounds j u = cur := by
    apply Array.ext_getElem?
    intro i
    rw [Array.getElem?_setIfInBounds]
    by_cases hi : j = i
    · subst hi
      have := (Array.getElem?_eq_some_iff.1 hj).1
      rw [if_pos rfl, if_pos this, hj]
    · rw [if_neg hi]
  rw [h2] at h1
  refine ⟨h.1, ?_⟩
  rcases h.2 with ⟨h0, _⟩ | ⟨g', cap', cur', hv, hb, hh, h3⟩
  · cases h0
  · injection hv with hv hn hcap
    injection hv with hv
    injection hv with hv
    subst hv
    have : cur' = cur := by
      have e : (some (Obj.cells cur' 103 (0, 0)) : Option Obj) = some (Obj.cells cur 103 (0, 0)) := hh.symm.trans hc
      injection e with e
      injection e
    subst this
    exact .inr ⟨g, cap', cur', by rw [hn, hcap], hb, h1, h3⟩
def CopyI (n : Nd) (w : World) (A3 : Option Addr) (c3 : Nat) (B4 : Option Addr) (c4 : Nat) (wx : World) : Prop := OwnI wx (w.heap.size + 2) (.slice A3 n.pages.length c3) n.pages ∧ OwnE wx (w.heap.size + 2) (.slice B4 n.names.length c4) n.names ∧
  Cells wx w.heap.size 51 (ncells n.ino n.kind n.links n.size n.up (.slice A3 n.pages.length c3) (.slice B4 n.names.length c4)) ∧ Cells wx (w.heap.size + 1) 51 (ncells 0 0 0 0 0 (.slice none 0 0) (.slice none 0 0)) ∧ Below w.heap.size w wx
set_option maxHeartbeats 8000000 in
theorem iCopy (n : Nd) (w : World) (h : n.In w) (hp : n.pages.length ≤ 1000) (hq : n.names.length ≤ 1000) (hsz : ∀ e ∈ n.names, e.s.size ≤ 1000) :
    Calls Tryz.prog 72 #[n.val] w fun e w' => ∃ V A ac B bc, e = .returned V ∧ OwnN w' w.heap.size V n.ino n.kind n.links n.size n.up n.pages n.names A ac B bc ∧ Below w.heap.size w w' := by
  obtain ⟨i, ki, l, s, u, A, ac, P, B, bc, N⟩ := n
  dsimp only at hp hq hsz ⊢
  have hr := h.row
  have he := h.ens
  dsimp only at hr he
  have HRow := Lib.hid hr; have HEns := Lib.hid he; have HS := Lib.hid hsz
  unfold Nd.val
  dsimp only
  clear h hr he hsz
  go_enter Tryz.func72, Tryz.ntmps72
  go_upto_region 1 with fail
  obtain ⟨W2, hW2⟩ : ∃ W2, (w.alloc (.cells (ncells i ki l s u (.slice A P.length ac) (.slice B N.length bc)) 51)).alloc (.cells (ncells 0 0 0 0 0 (.slice none 0 0) (.slice none 0 0)) 51) = W2 := ⟨_, rfl⟩
  have hc : Cells W2 w.heap.size 51 (ncells i ki l s u (.slice A P.length ac) (.slice B N.length bc)) := by rw [← hW2]; exact (Cells.new _ _ _).alloc _
  have hr : Cells W2 (w.heap.size + 1) 51 (ncells 0 0 0 0 0 (.slice none 0 0) (.slice none 0 0)) := by rw [← hW2]; have := Cells.new (w.alloc (.cells (ncells i ki l s u (.slice A P.length ac) (.slice B N.length bc)) 51)) 51 (ncells 0 0 0 0 0 (.slice none 0 0) (.slice none 0 0)); simpa using this
  have hb : Below w.heap.size w W2 := by rw [← hW2]; exact ((Below.refl _ _).alloc (Nat.le_refl _) _).alloc (by simp) _
  unfold ncells at hW2
  rw [hW2]
  have HC := Lib.hid hc; have HR := Lib.hid hr; have HB := Lib.hid hb
  have hs2 : W2.heap.size = w.heap.size + 2 := by rw [← hW2]; simp
  have HS2 := Lib.hid hs2
  have KI := Lib.hid (fun w1 (b : Below w.heap.size w w1) => cloneI (c := ac) rfl (HRow.out.below b) b.size (by omega))
  have KE := Lib.hid (fun w1 (b : Below w.heap.size w w1) => cloneE (c := bc) rfl (HEns.out.below b) b.size (by omega))
  obtain ⟨_, _, _, _, _, c5, c6⟩ := cells7 hc
  have b0 : Below W2.heap.size W2 W2.drew := below_drewN (Below.refl _ _) 1
  clear hW2 hc hr hb hs2
  go_cut [7] from 5 to 12 (fun x wx => ∃ A3 c3 B4 c4, CopyI ⟨i, ki, l, s, u, A, ac, P, B, bc, N⟩ w A3 c3 B4 c4 wx)
  case first =>
    go_region_with (first
      | (go_at_call 112; (with_reducible refine (KI.out _ (HB.out.trans (b0.mono HB.out.size))).mono ?_); rintro e' w3 ⟨vI, rfl, oI, bI⟩; obtain ⟨A3, c3, rfl, _⟩ := oI.row; have kI : Below W2.heap.size W2 w3 := b0.trans (bI.mono b0.size); have x6 := (HC.out.below' kI).cell 6; simp [ncells] at x6)
      | (go_at_call 113; (with_reducible refine (KE.out _ (HB.out.trans (kI.mono HB.out.size))).mono ?_); rintro e' w4 ⟨vE, rfl, oE, bE⟩; obtain ⟨A4, c4, rfl, _, _⟩ := oE.form; have kE : Below W2.heap.size W2 w4 := kI.trans (bE.mono kI.size); have z5 := (HC.out.below' kE).free 5; have z6 := (HC.out.below' kE).free 6; have y5 := (HC.out.below' kE).cell 5; have y6 := (HC.out.below' kE).cell 6; simp [ncells] at y5 y6))
    all_goals
      have hs := HS2.out
      have oI4 : OwnI w4 (w.heap.size + 2) (.slice A3 P.length c3) P := (oI.below bE).mono (by show w.heap.size + 2 ≤ W2.heap.size; omega)
      have oE4 : OwnE w4 (w.heap.size + 2) (.slice A4 N.length c4) N := oE.mono (by have := kI.size; omega)
      have OI5 := Lib.hid (own_far (own_far oI4 (p := ⟨w.heap.size, 5, none⟩) (by simp) (.slice A3 P.length c3)) (p := ⟨w.heap.size, 6, none⟩) (by simp) (.slice A4 N.length c4))
      have OE5 := Lib.hid (own_far (own_far oE4 (p := ⟨w.heap.size, 5, none⟩) (by simp) (.slice A3 P.length c3)) (p := ⟨w.heap.size, 6, none⟩) (by simp) (.slice A4 N.length c4))
      have HC5 := Lib.hid (fill2 (HC.out.below' kE) (.slice A3 P.length c3) (.slice A4 N.length c4))
      have HR5 := Lib.hid (((HR.out.below' kE).far (p := ⟨w.heap.size, 5, none⟩) (by simp) (.slice A3 P.length c3)).far (p := ⟨w.heap.size, 6, none⟩) (by simp) (.slice A4 N.length c4))
      have HB5 := Lib.hid (((HB.out.trans (kE.mono HB.out.size)).setCell (p := ⟨w.heap.size, 5, none⟩) (Nat.le_refl _) (.slice A3 P.length c3)).setCell (p := ⟨w.heap.size, 6, none⟩) (Nat.le_refl _) (.slice A4 N.length c4))
      clear oI4 oE4 z5 z6 y5 y6 oI oE bI bE kI kE hs c5 c6
      go_wp2_with fail
      go_meet
      exact ⟨A3, c3, A4, c4, OI5.out, OE5.out, HC5.out, HR5.out, HB5.out⟩
  case rest =>
  obtain ⟨A3, c3, B4, c4, hI⟩ := hcut
  have HI := Lib.hid hI
  obtain ⟨_, _, hc3, _, _⟩ := hI
  have c6 := (cells7 hc3).2.2.2.2.2.2
  dsimp only at c6
  clear hc3 HC HR HB HS2 KI KE HRow HEns b0
  go_wp2
  go_loopw [16] (fun v wr => ∃ k : Nat, k ≤ N.length ∧ v = .int .i64 k ∧ CopyI ⟨i, ki, l, s, u, A, ac, P, B, bc, N⟩ w A3 c3 B4 c4 wr) (fun v _ => N.length - (intOf v).toNat)
  case atStart => exact ⟨0, Nat.zero_le _, rfl, HI.out⟩
  case round =>
    obtain ⟨k, hk, rfl, hJ⟩ := hrel
    have HJ := Lib.hid hJ
    obtain ⟨oI, oE, hc, hr, hb⟩ := hJ
    dsimp only at oI oE hc hr
    by_cases hlt : k < N.length
    · obtain ⟨e, he⟩ : ∃ e, N[k]? = some e := ⟨_, List.getElem?_eq_getElem hlt⟩
      obtain ⟨g, cap, cur, hv, hg, hcur, hat⟩ := ownE_open oE (by omega)
      obtain ⟨x0, x1⟩ := hat k e he
      injection hv with hv1 _ hv2
      subst hv1
      subst hv2
      have y0 : wr.cell? ⟨g, k * 2, none⟩ = some (.string e.s) := (hcur.cell _).trans x0
      have y1 : wr.cell? ⟨g, k * 2 + 1, none⟩ = some (.int .i64 e.n) := (hcur.cell _).trans x1
      have hlt2 : (k : Int) < (N.length : Int) := Int.ofNat_lt.2 hlt
      have KC := Lib.hid (fun w => cloneG e.s (by have := HS.out e (List.mem_of_getElem? he); omega) w)
      have HE := Lib.hid he
      clear hc hr hb oI oE hat c6
      go_upto_region 5 with fail
      obtain ⟨W3, hW3⟩ : ∃ W3, wr.alloc (.cells #[.string e.s, .int .i64 e.n] 103) = W3 := ⟨_, rfl⟩
      rw [hW3]
      have hx : CopyI ⟨i, ki, l, s, u, A, ac, P, B, bc, N⟩ w A3 c3 (some ⟨g, 0, none⟩) c4 W3 := by
        obtain ⟨oI, oE, hc, hr, hb⟩ := HJ.out
        have b1 := (Below.refl wr.heap.size wr).alloc (Nat.le_refl _) (.cells #[.string e.s, .int .i64 e.n] 103)
        rw [hW3] at b1
        exact ⟨oI.below b1, oE.below b1, hc.below' b1, hr.below' b1, hb.trans (b1.mono hb.size)⟩
      have hbox : Cells W3 wr.heap.size 103 #[.string e.s, .int .i64 e.n] := by rw [← hW3]; exact Cells.new _ _ _
      have hcur3 : Cells W3 g 103 cur := by rw [← hW3]; exact hcur.alloc _
      have HX := Lib.hid hx
      have hc6 := (cells7 hx.2.2.1).2.2.2.2.2.2
      dsimp only at hc6
      have hb0 := hbox.cell 0
      have hz := hcur3.free (k * 2)
      have hy := (hcur3.cell (k * 2)).trans x0
      have hb1 := hbox.cell 0
      simp at hb0
      have HCur := Lib.hid hcur3
      have hk0 : (0 : Int) ≤ (k : Int) := Int.natCast_nonneg k
      have b0 : Below W3.heap.size W3 W3.drew := below_drewN (Below.refl _ _) 1
      have HX0 := Lib.hid x0
      clear hW3 hx hbox hcur3 y0 y1 x0 x1 hcur hb1 HJ hg
      go_region_with (first
        | (go_at_call 114; (with_reducible refine (KC.out _).mono ?_); rintro e' w5 hG; obtain ⟨rfl, bG⟩ := hG.below; clear hG; have kG : Below W3.heap.size W3 w5 := b0.trans (bG.mono b0.size); have z6 := (cells7 (HX.out.2.2.1.below' kG)).2.2.2.2.2.2; have z7 := (HCur.out.below' kG).free (k * 2); have z8 := ((HCur.out.below' kG).cell (k * 2)).trans HX0.out; (dsimp only at z6)))
      all_goals
        have hJ5 : CopyI ⟨i, ki, l, s, u, A, ac, P, B, bc, N⟩ w A3 c3 (some ⟨g, 0, none⟩) c4 (w5.setCell ⟨g, k * 2, none⟩ (.string e.s)) := by
          obtain ⟨oI, oE, hc, hr, hb⟩ := HX.out
          have hg := own_base oE g rfl
          exact ⟨own_apart (oI.below kG) (HCur.out.below' kG) (by decide) _ _, ownE_same (oE.below kG) (HCur.out.below' kG) HX0.out, (hc.below' kG).far (p := ⟨g, k * 2, none⟩) (by simp; omega) _, (hr.below' kG).far (p := ⟨g, k * 2, none⟩) (by simp; omega) _, (hb.trans (kG.mono hb.size)).setCell (p := ⟨g, k * 2, none⟩) (by simp; omega) _⟩
        have HJ5 := Lib.hid hJ5
        clear hJ5 bG kG z6 z7 z8 hc6 hb0 hz hy b0
        go_wp2
        go_roundw
        case rel => exact ⟨k + 1, by omega, by go_num, HJ5.out⟩
        case measure => simp [intOf]; omega
    · obtain rfl : k = N.length := by omega
      obtain ⟨e0, e1, e2, e3, e4, e5, e6⟩ := cells7 hc
      obtain ⟨d0, d1, d2, d3, d4, d5, d6⟩ := cells7 hr
      have z := fun j => Cells.free hr j
      clear hc hr hb oI oE c6 hlt
      go_wp2
      obtain ⟨oI, oE, hc, hr, hb⟩ := HJ.out
      dsimp only at oI oE hr
      exact bodyPost_ret (results_cell_row rfl _ _ (w.heap.size + 1) 51 (ncells i ki l s u (.slice A3 P.length c3) (.slice B4 N.length c4)) (0, 0) _ rfl (set7_cells hr) Tryz.underlying51 rfl (by kernel_rfl)) rfl
        ⟨_, A3, c3, B4, c4, rfl, ⟨rfl, OwnI.mono (own_set7 oI (by omega)) (by omega), OwnE.mono (own_set7 oE (by omega)) (by omega)⟩, set7_below hb (by omega)⟩
end Go.Proofs.YtbejbiogabpmfaaGreat

namespace Go.Proofs.YtbejbiogabpmfaaGreat
open Wd Ino Go.RowKit Go.ChangeShapes Go.WideShapes Go.Sort
set_option linter.unusedVariables false
set_option maxRecDepth 100000

/-! of that size -/
def fitP (l : List Int) (K : Nat) : List Int := l.take K ++ List.replicate (K - l.length) 0
theorem fit_len (l : List Int) (K : Nat) : (fitP l K).length = K := by unfold fitP; rw [List.length_append, List.length_take, List.length_replicate]; omega
theorem needP_nat (n : Int) (h0 : 0 ≤ n) (h1 : n ≤ 16384) : ∃ K : Nat, needP n = (K : Int) ∧ K ≤ 64 := by
  unfold needP
  split
  · exact ⟨0, rfl, by omega⟩
  · exact ⟨((n - 1) / 256 + 1).toNat, by omega, by omega⟩
theorem sizeI : (Tryz.prog.info? 3).map (·.size) = some 1 := by kernel_rfl
def zeroI (W : World) (n : Nat) : World := W.alloc (.cells (Array.replicate n (Value.int .i64 0)) 3)
theorem zero_cells (W : World) (n : Nat) : (zeroI W n).heap[W.heap.size]? = some (.cells (List.replicate n (Value.int .i64 0)).toArray 3 (0, 0)) := by
  unfold zeroI; rw [List.toArray_replicate]; exact Cells.new _ _ _
theorem zero_below (W : World) (n : Nat) : Below W.heap.size W (zeroI W n) := (Below.refl _ _).alloc (Nat.le_refl _) _
theorem zero_src {W : World} {B n m : Nat} {A : Option Addr} {xs ys : List Value} (hr : Row W B A n xs) (hB : B ≤ W.heap.size) (hy : ∀ (j : Nat) (v : Value), ys[j]? = some v → xs[j]? = some v) :
    0 < ys.length → (some ⟨W.heap.size, 0, none⟩ : Option Addr) = some ⟨W.heap.size, 0, none⟩ ∧ ∃ ad, A = some ad ∧ ∀ j v, ys[j]? = some v → (zeroI W m).cell? (ad.add j) = some v := by
  intro h
  have h0 := hy 0 _ (List.getElem?_eq_getElem h)
  have hx := (List.getElem?_eq_some_iff.1 h0).1
  obtain ⟨b, off, rfl, hb, hc⟩ := hr.2 (by rw [← hr.1]; exact hx)
  refine ⟨rfl, _, rfl, fun j v hv => ?_⟩
  obtain ⟨hj, rfl⟩ := List.getElem?_eq_some_iff.1 (hy j v hv)
  have e : (⟨b, off, none⟩ : Addr).add j = ⟨b, off + j, none⟩ := by unfold Addr.add; split <;> simp_all
  rw [e]
  unfold zeroI
  rw [World.cell?_alloc_lt _ _ _ (by show b < W.heap.size; omega)]
  exact hc j hj
theorem make_ints (n : Nat) (W : World) (hn : n ≤ 10000) : (Instr.makeSlice 40 (.int .i64 (n : Int)) (.int .i64 (n : Int))).run Tryz.prog W = .ok (.slice (some ⟨W.heap.size, 0, none⟩) n n) (zeroI W n) := by
  have h := make_row (P := Tryz.prog) 40 3 (.int .i64 0) 8 Tryz.underlying40 infoI rfl n (by omega) (by omega) W
  rw [List.toArray_replicate] at h
  exact h
theorem fit_splice (l : List Int) (K : Nat) : splice (List.replicate K (Value.int .i64 0)) 0 ((l.take K).map iv) = (fitP l K).map iv := by
  unfold splice fitP
  rw [List.take_zero, List.nil_append, Nat.zero_add, List.drop_replicate, List.map_append, List.map_replicate, List.length_map, List.length_take]
  congr 2
  omega
theorem copy_ints (P : List Int) (n K : Nat) (hL : P.length = n) (A : Option Addr) (c : Nat) (W : World) (hr : Row W W.heap.size A n (P.map iv)) :
    ∃ w5, (Builtin.copy_ #[40, 40] 3 #[.slice (some ⟨W.heap.size, 0, none⟩) K K, .slice A n c]).run Tryz.prog (zeroI W K) = .ok (.int .i64 ((P.take K).length : Nat)) w5 ∧ Cells w5 W.heap.size 3 ((fitP P K).map iv).toArray ∧ Below W.heap.size W w5 := by
  have hcl : ((P.take K).map iv).length = Nat.min n K := by rw [List.length_map, List.length_take, hL]; exact Nat.min_comm _ _
  by_cases h0 : Nat.min n K = 0
  · refine ⟨zeroI W K, ?_, ?_, zero_below W K⟩
    · rw [run_copy_none (P := Tryz.prog) _ 40 40 3 3 _ A K K n c Tryz.underlying40 sizeI h0]
      have : (P.take K).length = 0 := by rw [List.length_map, h0] at hcl; exact hcl
      rw [this]; rfl
    · have hz := zero_cells W K
      have e := fit_splice P K
      have : (P.take K).map iv = [] := List.eq_nil_of_length_eq_zero (by rw [hcl, h0])
      rw [this] at e
      have e2 : splice (List.replicate K (Value.int .i64 0)) 0 [] = List.replicate K (Value.int .i64 0) := by simp [splice]
      rw [e2] at e
      rw [← e]
      exact hz
  · have hsrc := zero_src (m := K) (ys := (P.take K).map iv) hr (Nat.le_refl _) (fun j v hj => by rw [List.getElem?_map] at hj ⊢; rw [List.getElem?_take] at hj; split at hj; exact hj; cases hj)
    obtain ⟨_, ad, rfl, hs⟩ := hsrc (by rw [hcl]; omega)
    have hfit : 0 + ((P.take K).map iv).length ≤ (List.replicate K (Value.int .i64 0)).toArray.size := by rw [hcl]; simp; exact Nat.min_le_right _ _
    have h := run_copy_row (P := Tryz.prog) (zeroI W K) 40 40 3 3 W.heap.size 0 K K ad n c _ 3 ((P.take K).map iv) Tryz.underlying40 sizeI (zero_cells W K) hcl hs hfit (oneI _)
    have e : (((List.replicate K (Value.int .i64 0)).toArray.toList.take 0 ++ (P.take K).map iv ++ (List.replicate K (Value.int .i64 0)).toArray.toList.drop (0 + ((P.take K).map iv).length)).toArray) = ((fitP P K).map iv).toArray := by
      rw [← fit_splice P K]
      simp [splice]
    rw [e, List.length_map] at h
    exact ⟨_, h, setRow_heap (zeroI W K) W.heap.size _ _ 3 (0, 0) (zero_cells W K), below_setRow (zero_below W K) (Nat.le_refl _) _⟩
/-- what is left of a row from a place on -/
theorem drop_row {w : World} {B n m : Nat} {b off : Nat} {l : List Int} (h : Row w B (some ⟨b, off, none⟩) n (l.map iv)) (hm : m ≤ n) : Row w B (some ⟨b, off + m, none⟩) (n - m) ((l.drop m).map iv) := by
  refine ⟨by rw [List.length_map, List.length_drop]; have := h.1; rw [List.length_map] at this; omega, fun hp => ?_⟩
  have hl := h.1
  rw [List.length_map] at hl
  obtain ⟨b', off', e, hb, hc⟩ := h.2 (by omega)
  cases e
  refine ⟨b, off + m, rfl, hb, fun j hj => ?_⟩
  rw [List.length_map, List.length_drop] at hj
  have := hc (m + j) (by rw [List.length_map]; omega)
  rw [Nat.add_assoc]
  rw [this]
  simp
theorem sliced_row {w : World} {B n m c : Nat} {A : Option Addr} {l : List Int} (h : Row w B A n (l.map iv)) (hm : m ≤ n) (hc : n ≤ c) : Row w B (if c = m then A else A.map (·.add (m * 1))) (n - m) ((l.drop m).map iv) := by
  have hl := h.1
  rw [List.length_map] at hl
  by_cases hp : n - m = 0
  · exact ⟨by rw [List.length_map, List.length_drop]; omega, fun h0 => by omega⟩
  · obtain ⟨b, off, rfl, _⟩ := h.2 (by omega)
    rw [if_neg (by omega)]
    have e : (⟨b, off, none⟩ : Addr).add (m * 1) = ⟨b, off + m, none⟩ := by rw [Nat.mul_one]; unfold Addr.add; split <;> simp_all
    show Row w B (some ((⟨b, off, none⟩ : Addr).add (m * 1))) (n - m) ((l.drop m).map iv)
    rw [e]
    exact drop_row h hm
theorem run_sliced (A : Option Addr) (n m c : Nat) (hm : m ≤ n) (hc : n ≤ c) (w : World) : (Instr.slice 40 (.slice A n c) (some (.int .i64 (m : Int))) none none).run Tryz.prog w = .ok (.slice (if c = m then A else A.map (·.add (m * 1))) (n - m) (c - m)) w := by
  have he : Tryz.prog.elem 40 = 3 := by kernel_rfl
  have hs : (sizeOf 3).run Tryz.prog w = .ok 1 w := by
    have := sizeI
    obtain ⟨i, hi, _⟩ := info_parts infoI
    rw [hi] at this
    simp at this
    simp [sizeOf, typeInfo, hi, this]
  rw [run_slice_l (P := Tryz.prog) (t := 40) (a := A) (len := n) (cap := c) (ht := by rw [he]; exact Tryz.underlying40) (kl := .i64) (l := (m : Int)) (h0 := by omega) (h1 := by omega), he, hs, Int.toNat_natCast]
  rfl
/-- a node of that, and what was cut off -/
def ResizeD (n : Nd) (size : Int) (w : World) (e : Ending) (w' : World) : Prop := ∃ V A ac B bc G, e = .returned (.tuple #[V, G]) ∧ OwnN w' w.heap.size V n.ino n.kind n.links (if inB size 0 16384 = true then size else n.size) n.up (if inB size 0 16384 = true then fitP n.pages (needP size).toNat else n.pages) n.names A ac B bc ∧
  OwnI w' w.heap.size G (if inB size 0 16384 = true then refsP (n.pages.drop (needP size).toNat) else []) ∧ Below w.heap.size w w'
theorem results_node_tmp {fn : Func} {p u : Tmp} (h : fn.results = #[.cell p 51, .tmp u]) (tmps : Array Value) (w : World) (g : Nat) (cs : Array Value)
    (hp : tmps.getD p undef = .pointer (some ⟨g, 0, none⟩)) (hg : w.heap[g]? = some (.cells cs 51 (0, 0))) (hs : cs.size = 7) :
    (results fn tmps).run Tryz.prog w = .ok (.tuple #[.agg cs, tmps.getD u undef]) w := by
  have hi : (Tryz.prog.info? 51).map (·.size) = some cs.size := by rw [hs]; kernel_rfl
  have hp' : tmps[p]?.getD undef = .pointer (some ⟨g, 0, none⟩) := by simpa using hp
  simp [results, h, hp', asAddr, run_loadVar_row w g 51 51 cs (0, 0) _ hg Tryz.underlying51 rfl hi]
set_option maxHeartbeats 8000000 in
theorem iResize (n : Nd) (size : Int) (hz : i64R size) (w : World) (h : n.Ok w w.heap.size) (hp : n.pages.length ≤ 1000) (hq : n.names.length ≤ 1000) (hsz : ∀ e ∈ n.names, e.s.size ≤ 1000) :
    Calls Tryz.prog 142 #[n.val, .int .i64 size] w (ResizeD n size w) := by
  have KC := Lib.hid (fun w1 (b : Below w.heap.size w w1) => iCopy n w1 (h.in_.at_ b) hp hq hsz)
  obtain ⟨i, ki, l, s, u, A, ac, P, B, bc, N⟩ := n
  have hr := h.row
  have hcap := h.cap
  have hcle := h.cle
  unfold ResizeD
  dsimp only at hp hq hsz hr hcap hcle ⊢
  unfold Nd.val at KC ⊢
  dsimp only at KC ⊢
  have KW := Lib.hid (fun w => iWithin_is size 0 16384 w)
  obtain ⟨b1, hb1⟩ : ∃ b, inB size 0 16384 = b := ⟨_, rfl⟩
  rw [hb1] at KW ⊢
  have HRow := Lib.hid hr
  have HB0 := Lib.hid (((Below.refl w.heap.size w).alloc (Nat.le_refl _) (.cells (ncells i ki l s u (.slice A P.length ac) (.slice B N.length bc)) 51)).alloc (by simp) (.cells (ncells 0 0 0 0 0 (.slice none 0 0) (.slice none 0 0)) 51))
  have hc : Cells ((w.alloc (.cells (ncells i ki l s u (.slice A P.length ac) (.slice B N.length bc)) 51)).alloc (.cells (ncells 0 0 0 0 0 (.slice none 0 0) (.slice none 0 0)) 51)) w.heap.size 51 (ncells i ki l s u (.slice A P.length ac) (.slice B N.length bc)) := (Cells.new _ _ _).alloc _
  have hr2 : Cells ((w.alloc (.cells (ncells i ki l s u (.slice A P.length ac) (.slice B N.length bc)) 51)).alloc (.cells (ncells 0 0 0 0 0 (.slice none 0 0) (.slice none 0 0)) 51)) (w.heap.size + 1) 51 (ncells 0 0 0 0 0 (.slice none 0 0) (.slice none 0 0)) := by
    have := Cells.new (w.alloc (.cells (ncells i ki l s u (.slice A P.length ac) (.slice B N.length bc)) 51)) 51 (ncells 0 0 0 0 0 (.slice none 0 0) (.slice none 0 0)); simpa using this
  have HC := Lib.hid hc; have HR := Lib.hid hr2
  have hs2 : ((w.alloc (.cells (ncells i ki l s u (.slice A P.length ac) (.slice B N.length bc)) 51)).alloc (.cells (ncells 0 0 0 0 0 (.slice none 0 0) (.slice none 0 0)) 51)).heap.size = w.heap.size + 2 := by simp
  have HS2 := Lib.hid hs2
  unfold ncells at HB0 HC HR HS2
  clear hr hc hr2 hs2 hsz h
  cases b1
  · clear HRow hcap hcle hb1
    simp only [Bool.false_eq_true, if_false]
    go_enter Tryz.func142, Tryz.ntmps142
    go_wp2_with fail
    refine (KC.out _ HB0.out).mono ?_
    rintro e w2 ⟨V, A3, c3, B4, c4, rfl, ⟨rfl, oI, oE⟩, b2⟩
    have B2 := Lib.hid (HB0.out.trans (b2.mono HB0.out.size))
    have R2 := Lib.hid (HR.out.below' b2)
    rw [HS2.out] at oI oE
    have OI := Lib.hid oI; have OE := Lib.hid oE
    have hs : w.heap.size + 2 ≤ w2.heap.size := by have := b2.size; rw [HS2.out] at this; exact this
    unfold nv
    clear b2 oI oE KC
    go_wp2_with fail
    refine (KW.out _).mono ?_
    rintro e w3 ⟨rfl, rfl⟩
    have R3 := Lib.hid (R2.out.alloc (.cells (ncells i ki l s u (.slice A3 P.length c3) (.slice B4 N.length c4)) 51))
    have B3 := Lib.hid (B2.out.alloc B2.out.size (.cells (ncells i ki l s u (.slice A3 P.length c3) (.slice B4 N.length c4)) 51))
    have b3 := (Below.refl w2.heap.size w2).alloc (Nat.le_refl _) (.cells (ncells i ki l s u (.slice A3 P.length c3) (.slice B4 N.length c4)) 51)
    have OI3 := Lib.hid (OI.out.below b3)
    have OE3 := Lib.hid (OE.out.below b3)
    obtain ⟨d0, d1, d2, d3, d4, d5, d6⟩ := cells7 R3.out
    have z := fun j => Cells.free R3.out j
    unfold ncells at d0 d1 d2 d3 d4 d5 d6 z OI3 OE3 B3 R3
    clear b3 R2 B2 OI OE HS2 HR HC HB0
    go_wp2
    exact bodyPost_ret (results_node_tmp rfl _ _ (w.heap.size + 1) (ncells i ki l s u (.slice A3 P.length c3) (.slice B4 N.length c4)) rfl (set7_cells R3.out) rfl) rfl
      ⟨_, A3, c3, B4, c4, _, rfl, ⟨rfl, OwnI.mono (own_set7 OI3.out (by omega)) (by omega), OwnE.mono (own_set7 OE3.out (by omega)) (by omega)⟩, OwnI.nil _ _, set7_below B3.out (by omega)⟩
  · simp only [if_true]
    have hin : 0 ≤ size ∧ size ≤ 16384 := by unfold inB at hb1; simpa using hb1
    obtain ⟨K, hK, hK64⟩ := needP_nat size hin.1 hin.2
    rw [hK, Int.toNat_natCast]
    have KN := Lib.hid (fun w => iNeed_is size hz w)
    rw [hK] at KN
    clear hb1 hK hin hz
    go_enter Tryz.func142, Tryz.ntmps142
    go_wp2_with fail
    refine (KC.out _ HB0.out).mono ?_
    rintro e w2 ⟨V, A3, c3, B4, c4, rfl, ⟨rfl, oI, oE⟩, b2⟩
    rw [HS2.out] at oI oE
    have hs : w.heap.size + 2 ≤ w2.heap.size := by have := b2.size; rw [HS2.out] at this; exact this
    obtain ⟨hn, hhn⟩ : ∃ hn, w2.heap.size = hn := ⟨_, rfl⟩
    have b3 := (Below.refl w2.heap.size w2).alloc (Nat.le_refl _) (.cells (ncells i ki l s u (.slice A3 P.length c3) (.slice B4 N.length c4)) 51)
    have c3n := Cells.new w2 51 (ncells i ki l s u (.slice A3 P.length c3) (.slice B4 N.length c4))
    have hs3 : (w2.alloc (.cells (ncells i ki l s u (.slice A3 P.length c3) (.slice B4 N.length c4)) 51)).heap.size = w2.heap.size + 1 := by simp
    have hB2 := HB0.out.trans (b2.mono HB0.out.size)
    have hB3 := hB2.trans (b3.mono hB2.size)
    have c3g := (HC.out.below' b2).below' b3
    have c3r := (HR.out.below' b2).below' b3
    have oE3 := oE.below b3
    have hrow3 := (HRow.out.below hB3).more hB3.size
    unfold ncells at c3n hs3 hB3 oE3 hrow3 c3g c3r
    rw [hhn] at c3n hs3 hs
    unfold nv
    go_wp2_with fail
    refine (KW.out _).mono ?_
    rintro e w3 ⟨rfl, rfl⟩
    obtain ⟨W3, hW3⟩ : ∃ W3, w2.alloc (.cells #[.int .i64 i, .int .i64 ki, .int .i64 l, .int .i64 s, .int .i64 u, .slice A3 P.length c3, .slice B4 N.length c4] 51) = W3 := ⟨_, rfl⟩
    rw [hW3] at c3n hs3 hB3 oE3 hrow3 c3g c3r ⊢
    have C3n := Lib.hid c3n; have C3g := Lib.hid c3g; have C3r := Lib.hid c3r; have HS3 := Lib.hid hs3; have B3 := Lib.hid hB3; have OE3 := Lib.hid oE3; have Row3 := Lib.hid hrow3
    have hmk := fun W => make_ints K W (by omega)
    obtain ⟨w5, hcp, hc5, hb5⟩ := copy_ints P _ K rfl A ac W3 hrow3
    have B5 := Lib.hid hb5; have C5 := Lib.hid hc5
    have e5 := (cells7 (C3g.out.below' (zero_below W3 K))).2.2.2.2.2.1
    have f5 := (C3n.out.below' hb5).free 5
    have f3 := (C3n.out.below' hb5).free 3
    have g3 := (C3n.out.below' hb5).cell 3
    have g5 := (C3n.out.below' hb5).cell 5
    simp at g3 g5
    clear hs3 hB3 oE3 hrow3 c3r oI oE hW3 hhn b2 b3 hB2 HC HR HB0 HS2 KC KW c3n c3g hb5 hc5
    obtain ⟨m, hm⟩ : ∃ m, (P.take K).length = m := ⟨_, rfl⟩
    rw [hm] at hcp
    go_wp2_with (go_at_call 178; refine (KN.out _).mono ?_; rintro e w4 ⟨rfl, rfl⟩)
    have hmle : m ≤ P.length := by rw [← hm, List.length_take]; exact Nat.min_le_right _ _
    have hdrop : P.drop m = P.drop K := by
      rw [← hm, List.length_take]
      by_cases hk : K ≤ P.length
      · rw [Nat.min_eq_left hk]
      · rw [Nat.min_eq_right (by omega), List.drop_of_length_le (Nat.le_refl _), List.drop_of_length_le (by omega)]
    obtain ⟨W6, hW6⟩ : ∃ W6, (w5.setCell ⟨hn, 3, none⟩ (.int .i64 size)).setCell ⟨hn, 5, none⟩ (.slice (some ⟨W3.heap.size, 0, none⟩) K K) = W6 := ⟨_, rfl⟩
    have hs3 := HS3.out
    have hB5 := B5.out
    have c6n : Cells W6 hn 51 (ncells i ki l size u (.slice (some ⟨W3.heap.size, 0, none⟩) K K) (.slice B4 N.length c4)) := by
      rw [← hW6]
      have h0 : Cells _ hn 51 (ncells i ki l size u (.slice A3 P.length c3) (.slice B4 N.length c4)) := Cells.set (C3n.out.below' hB5) 3 (.int .i64 size)
      have h1 : Cells _ hn 51 (ncells i ki l size u (.slice (some ⟨W3.heap.size, 0, none⟩) K K) (.slice B4 N.length c4)) := Cells.set h0 5 (.slice (some ⟨W3.heap.size, 0, none⟩) K K)
      exact h1
    have c6g : Cells W6 w.heap.size 51 (ncells i ki l s u (.slice A P.length ac) (.slice B N.length bc)) := by
      rw [← hW6]
      exact ((C3g.out.below' hB5).far (p := ⟨hn, 3, none⟩) (by simp; omega) _).far (p := ⟨hn, 5, none⟩) (by simp; omega) _
    have c6r : Cells W6 (w.heap.size + 1) 51 (ncells 0 0 0 0 0 (.slice none 0 0) (.slice none 0 0)) := by
      rw [← hW6]
      exact ((C3r.out.below' hB5).far (p := ⟨hn, 3, none⟩) (by simp; omega) _).far (p := ⟨hn, 5, none⟩) (by simp; omega) _
    have c6p : Cells W6 W3.heap.size 3 ((fitP P K).map iv).toArray := by
      rw [← hW6]
      exact (C5.out.far (p := ⟨hn, 3, none⟩) (by simp; omega) _).far (p := ⟨hn, 5, none⟩) (by simp; omega) _
    have oE6 : OwnE W6 (w.heap.size + 2) (.slice B4 N.length c4) N := by
      rw [← hW6]
      exact own_apart (own_apart (OE3.out.below hB5) (C3n.out.below' hB5) (by decide) _ _) (Cells.set (C3n.out.below' hB5) 3 (.int .i64 size)) (by decide) _ _
    have b6 : Below w.heap.size w W6 := by
      rw [← hW6]
      exact ((B3.out.trans (hB5.mono B3.out.size)).setCell (p := ⟨hn, 3, none⟩) (by simp; omega) _).setCell (p := ⟨hn, 5, none⟩) (by simp; omega) _
    rw [hW6]
    have C6n := Lib.hid c6n; have C6g := Lib.hid c6g; have C6r := Lib.hid c6r; have C6p := Lib.hid c6p; have OE6 := Lib.hid oE6; have B6 := Lib.hid b6
    have hrow6 := (HRow.out.below b6).more b6.size
    have HP3 := Lib.hid (show w.heap.size + 2 ≤ W3.heap.size by omega)
    have hsr := sliced_row hrow6 hmle hcap
    have hsl := fun w => run_sliced A P.length m ac hmle hcap w
    have hql : (P.drop K).length = P.length - m := by rw [← hdrop, List.length_drop]
    rw [hdrop] at hsr
    obtain ⟨A', hA'⟩ : ∃ A', (if ac = m then A else A.map (·.add (m * 1))) = A' := ⟨_, rfl⟩
    obtain ⟨q, hq'⟩ : ∃ q, P.length - m = q := ⟨_, rfl⟩
    obtain ⟨qc, hqc⟩ : ∃ qc, ac - m = qc := ⟨_, rfl⟩
    rw [hA', hq'] at hsr hsl
    rw [hqc] at hsl
    rw [hq'] at hql
    have hq1 : q ≤ 1000 := by omega
    have HSR := Lib.hid hsr
    have KG := Lib.hid (fun w1 (b : Below W6.heap.size W6 w1) => iGather (P.drop K) q hql A' qc w1 hq1 ((HSR.out.below b).more b.size))
    obtain ⟨n0, n1, n2, n3, n4, n5, n6⟩ := cells7 c6n
    have g5' := (cells7 c6g).2.2.2.2.2.1
    have hm0 : (0 : Int) ≤ (m : Int) := Int.natCast_nonneg m
    have b0 : Below W6.heap.size W6 W6.drew := below_drewN (Below.refl _ _) 1
    clear hsr hW6 c6n c6g c6r c6p oE6 b6 hB5 hs3 hrow6 hA' hq' hqc hql hdrop g3 g5 f3 f5 e5 hcp hm hs HRow C3n C3g C3r B3 OE3 Row3 B5 C5 HS3 hmk hcap hcle hmle
    go_region_with (first
      | (go_at_call 107; (with_reducible refine (KG.out _ b0).mono ?_); rintro e' w7 ⟨vG, rfl, oG, bG⟩; obtain ⟨A7, c7, rfl, _⟩ := oG.row; have k7 : Below W6.heap.size W6 w7 := b0.trans (bG.mono b0.size); have x7 := cells7 (C6n.out.below' k7); obtain ⟨x0, x1, x2, x3, x4, x5, x6⟩ := x7; obtain ⟨d0, d1, d2, d3, d4, d5, d6⟩ := cells7 (C6r.out.below' k7); have z := fun j => Cells.free (C6r.out.below' k7) j))
    all_goals
      have hp3 := HP3.out
      have h7 := B6.out.trans (k7.mono B6.out.size)
      have hrow7 : OwnI w7 (w.heap.size + 2) (.slice (some ⟨W3.heap.size, 0, none⟩) K K) (fitP P K) :=
        ⟨by rw [List.length_map, Nat.mul_one], .inr ⟨W3.heap.size, K, ((fitP P K).map iv).toArray, by rw [fit_len], hp3, C6p.out.below' k7, by rw [fit_len]; exact Nat.le_refl _, by unfold maxLen; omega, by simp [fit_len], by rw [Nat.mul_one]; exact List.take_of_length_le (by simp)⟩⟩
      have oE7 := OE6.out.below k7
      have oG7 := OwnI.mono oG (show w.heap.size + 2 ≤ W6.drew.heap.size from (by have := B6.out.size; have := C6p.out.lt; show _ ≤ W6.heap.size; omega))
      have R7 := Lib.hid (C6r.out.below' k7)
      have E1 := Lib.hid (OwnI.mono (own_set7 hrow7 (g := w.heap.size + 1) (by omega) (i := i) (k := ki) (l := l) (s := size) (u := u) (p := .slice (some ⟨W3.heap.size, 0, none⟩) K K) (m := .slice B4 N.length c4)) (Nat.le_add_right w.heap.size 2))
      have E2 := Lib.hid (OwnE.mono (own_set7 oE7 (g := w.heap.size + 1) (by omega) (i := i) (k := ki) (l := l) (s := size) (u := u) (p := .slice (some ⟨W3.heap.size, 0, none⟩) K K) (m := .slice B4 N.length c4)) (Nat.le_add_right w.heap.size 2))
      have E3 := Lib.hid (OwnI.mono (own_set7 oG7 (g := w.heap.size + 1) (by omega) (i := i) (k := ki) (l := l) (s := size) (u := u) (p := .slice (some ⟨W3.heap.size, 0, none⟩) K K) (m := .slice B4 N.length c4)) (Nat.le_add_right w.heap.size 2))
      have E4 := Lib.hid (set7_below h7 (g := w.heap.size + 1) (Nat.le_add_right w.heap.size 1) (i := i) (k := ki) (l := l) (s := size) (u := u) (p := .slice (some ⟨W3.heap.size, 0, none⟩) K K) (m := .slice B4 N.length c4))
      clear oG7 oE7 hrow7 h7 hp3 hsl bG k7 oG z b0 n0 n1 n2 n3 n4 n5 n6 g5'
      go_wp2
      exact bodyPost_ret (results_node_tmp rfl _ _ (w.heap.size + 1) (ncells i ki l size u (.slice (some ⟨W3.heap.size, 0, none⟩) K K) (.slice B4 N.length c4)) rfl (set7_cells R7.out) rfl) rfl
        ⟨_, some ⟨W3.heap.size, 0, none⟩, K, B4, c4, .slice A7 (refsP (P.drop K)).length c7, rfl, ⟨by rw [fit_len]; rfl, by rw [fit_len]; exact E1.out, E2.out⟩, E3.out, E4.out⟩
end Go.Proofs.YtbejbiogabpmfaaGreat
