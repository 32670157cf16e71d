import Derived.Test.YtamndllolppmoaaGreatG06
import Derived.Test.YtamndllolppmoaaGreatG03
import Derived.Test.YtamndllolppmoaaGreatG00

namespace Go.Proofs.YtamndllolppmoaaGreat
open Wd Ino Go.RowKit Go.ChangeShapes Go.WideShapes Go.Sort
set_option linter.unusedVariables false
set_option maxRecDepth 100000

/-! the document's Resize -/
theorem own_grown {w w' : World} {base : Nat} {e : TypeId} {sz n : Nat} {v : Value} {xs : List Value} {row : Option Nat} (h : w.ownsRow base e sz v n xs) (hgr : w.grownBy w' row) (hne : ∀ b, v.ownBlock = some b → row ≠ some b) : w'.ownsRow base e sz v n xs := by
  rcases h with ⟨hl, h⟩
  refine ⟨hl, ?_⟩
  rcases h with h | ⟨g, cap, cur, rfl, hb, hh, h1⟩
  · exact .inl h
  · exact .inr ⟨g, cap, cur, rfl, hb, (hgr.block g (lt_of_block hh) (fun e => hne g rfl e.symm)).trans hh, h1⟩
theorem own_ne {w : World} {base : Nat} {e t : TypeId} {sz n g : Nat} {v : Value} {xs : List Value} {cs : Array Value} (h : w.ownsRow base e sz v n xs) (hc : Cells w g t cs) (ht : t ≠ e) : some g ≠ v.ownBlock := by
  rcases h.2 with ⟨rfl, _⟩ | ⟨g', cap, cur, rfl, _, hh, _⟩
  · intro e; cases e
  · intro e'
    have : g = g' := by simpa [Value.ownBlock] using e'
    subst this
    exact Cells.ne hc (show Cells w g e cur from hh) ht rfl
theorem own_ne' {w : World} {b1 b2 : Nat} {e t : TypeId} {s1 s2 n1 n2 : Nat} {v u : Value} {xs ys : List Value} (h : w.ownsRow b1 e s1 v n1 xs) (k : w.ownsRow b2 t s2 u n2 ys) (ht : t ≠ e) : ∀ b, u.ownBlock = some b → v.ownBlock ≠ some b := by
  intro b hb e'
  rcases k.2 with ⟨rfl, _⟩ | ⟨g', cap, cur, rfl, _, hh, _⟩
  · cases hb
  · have : g' = b := by simpa [Value.ownBlock] using hb
    subst this
    exact own_ne h (show Cells w g' t cur from hh) ht e'.symm
theorem fit_at (P : List Int) (K k : Nat) (hk : k < K) : (fitP P K)[k]? = some ((P[k]?).getD 0) := by
  unfold fitP
  by_cases h : k < P.length
  · rw [List.getElem?_append_left (by rw [List.length_take]; omega), List.getElem?_take_of_lt hk, List.getElem?_eq_getElem h, Option.getD_some]
  · rw [List.getElem?_append_right (by rw [List.length_take]; omega), show P[k]? = none from List.getElem?_eq_none (by omega), Option.getD_none, List.length_take, List.getElem?_replicate, if_pos (by omega)]
theorem fit_grow (P : List Int) (K k : Nat) (hk : k < K) : (fitP P K).take (k + 1) = (fitP P K).take k ++ [(P[k]?).getD 0] := take_two (fit_at P K k hk)
theorem fit_full (P : List Int) (K k : Nat) (hk : K ≤ k) : (fitP P K).take k = fitP P K := List.take_of_length_le (by rw [fit_len]; exact hk)
theorem fit_part (P : List Int) (K k : Nat) : ((fitP P K).take k).length ≤ K := by rw [List.length_take, fit_len]; omega
theorem gone_none (P : List Int) (K k : Nat) (hk : k ≤ K) : (P.take k).drop K = [] := List.drop_of_length_le (by rw [List.length_take]; omega)
theorem gone_grow {P : List Int} {K k : Nat} {x : Int} (hk : K ≤ k) (hx : P[k]? = some x) : refsP ((P.take (k + 1)).drop K) = refsP ((P.take k).drop K) ++ (if x = 0 then [] else [x]) := by
  have hkl := (List.getElem?_eq_some_iff.1 hx).1
  rw [take_two hx, List.drop_append_of_le_length (by rw [List.length_take]; omega)]
  unfold refsP
  rw [List.filter_append]
  by_cases h : x = 0
  · simp [h]
  · simp [h]
theorem gone_len (P : List Int) (K k : Nat) : (refsP ((P.take k).drop K)).length ≤ P.length := by
  refine Nat.le_trans (refs_len _) ?_
  rw [List.length_drop, List.length_take]; omega
structure RzAt (n : Nd) (size : Int) (K hn : Nat) (B4 : Option Addr) (c4 : Nat) (w : World) (k : Nat) (A3 : Option Addr) (c3 : Nat) (G : Value) (wr : World) : Prop where
  row : OwnI wr (w.heap.size + 2) (.slice A3 ((fitP n.pages K).take k).length c3) ((fitP n.pages K).take k)
  gone : OwnI wr (w.heap.size + 2) G (refsP ((n.pages.take k).drop K))
  apart : ∀ b, (Value.slice A3 ((fitP n.pages K).take k).length c3).ownBlock = some b → G.ownBlock ≠ some b
  names : OwnE wr (w.heap.size + 2) (.slice B4 n.names.length c4) n.names
  own : Cells wr hn 55 (ncells n.ino n.kind n.links size n.up (.slice A3 ((fitP n.pages K).take k).length c3) (.slice B4 n.names.length c4))
  arg : Cells wr w.heap.size 55 (ncells n.ino n.kind n.links n.size n.up (.slice n.A n.pages.length n.ac) (.slice n.B n.names.length n.bc))
  res : Cells wr (w.heap.size + 1) 55 (ncells 0 0 0 0 0 (.slice none 0 0) (.slice none 0 0))
  hn : w.heap.size + 2 ≤ hn
  below : Below w.heap.size w wr
  nil : k ≤ K → G = .slice none 0 0
theorem RzAt.grown {n : Nd} {size : Int} {K hn : Nat} {B4 : Option Addr} {c4 : Nat} {w : World} {k : Nat} {A3 : Option Addr} {c3 : Nat} {G : Value} {wr : World} (h : RzAt n size K hn B4 c4 w k A3 c3 G wr) {wx : World} (hb : Below wr.heap.size wr wx) : RzAt n size K hn B4 c4 w k A3 c3 G wx :=
  ⟨h.row.below hb, h.gone.below hb, h.apart, h.names.below hb, h.own.below' hb, h.arg.below' hb, h.res.below' hb, h.hn, h.below.trans (hb.mono h.below.size), h.nil⟩
/-- one page more: the row grew -/
theorem RzAt.put {n : Nd} {size : Int} {K hn : Nat} {B4 : Option Addr} {c4 : Nat} {w : World} {k : Nat} {A3 : Option Addr} {c3 : Nat} {G : Value} {wr wx : World} (h : RzAt n size K hn B4 c4 w k A3 c3 G wr) (hk : k < K)
    {A5 : Option Addr} {c5 : Nat} (ho : wx.ownsRow (w.heap.size + 2) 3 1 (.slice A5 (((fitP n.pages K).take k).length + 1) c5) (((fitP n.pages K).take k).length + 1) (((fitP n.pages K).take k).map iv ++ [iv ((n.pages[k]?).getD 0)]))
    (hgr : wr.grownBy wx (Value.slice A3 ((fitP n.pages K).take k).length c3).ownBlock) :
    RzAt n size K hn B4 c4 w (k + 1) A5 c5 (.slice none 0 0) (wx.setCell ⟨hn, 5, none⟩ (.slice A5 (((fitP n.pages K).take k).length + 1) c5)) := by
  have hl : ((fitP n.pages K).take (k + 1)).length = ((fitP n.pages K).take k).length + 1 := by rw [fit_grow _ _ _ hk, List.length_append]; rfl
  have hx : OwnI wx (w.heap.size + 2) (.slice A5 ((fitP n.pages K).take (k + 1)).length c5) ((fitP n.pages K).take (k + 1)) := by
    unfold OwnI
    rw [hl, fit_grow _ _ _ hk, List.map_append]
    exact ho
  have hown := h.own.grown hgr (own_ne h.row h.own (by decide))
  have hnm : OwnE wx (w.heap.size + 2) (.slice B4 n.names.length c4) n.names := own_grown h.names hgr (own_ne' h.row h.names (by decide))
  have harg := h.arg.grown hgr (own_ne h.row h.arg (by decide))
  have hres := h.res.grown hgr (own_ne h.row h.res (by decide))
  have h2 := h.hn
  have hbl : Below w.heap.size w wx := h.below.grown hgr h.below.size (fun q e => Nat.le_trans (Nat.le_add_right _ 2) (own_base h.row q e))
  refine ⟨?_, ?_, (fun b _ e => by cases e), ?_, ?_, ?_, ?_, h2, hbl.setCell (p := ⟨hn, 5, none⟩) (by simp; omega) _, fun _ => rfl⟩
  · exact own_apart hx hown (by decide) _ _
  · rw [gone_none _ _ _ (by omega)]
    exact OwnI.nil _ _
  · exact own_apart hnm hown (by decide) _ _
  · have h3 : Cells _ hn 55 (ncells n.ino n.kind n.links size n.up (.slice A5 (((fitP n.pages K).take k).length + 1) c5) (.slice B4 n.names.length c4)) := Cells.set hown 5 (.slice A5 (((fitP n.pages K).take k).length + 1) c5)
    rw [hl]
    exact h3
  · exact harg.far (p := ⟨hn, 5, none⟩) (by simp; omega) _
  · exact hres.far (p := ⟨hn, 5, none⟩) (by simp; omega) _
/-- one page less, and it isn't told -/
theorem RzAt.skip {n : Nd} {size : Int} {K hn : Nat} {B4 : Option Addr} {c4 : Nat} {w : World} {k : Nat} {A3 : Option Addr} {c3 : Nat} {G : Value} {wr : World} (h : RzAt n size K hn B4 c4 w k A3 c3 G wr) (hk : K ≤ k) (hx : n.pages[k]? = some 0) :
    RzAt n size K hn B4 c4 w (k + 1) A3 c3 G wr := by
  have e1 : (fitP n.pages K).take (k + 1) = (fitP n.pages K).take k := by rw [fit_full _ _ _ hk, fit_full _ _ _ (by omega)]
  refine ⟨by rw [e1]; exact h.row, ?_, by rw [e1]; exact h.apart, h.names, by rw [e1]; exact h.own, h.arg, h.res, h.hn, h.below, fun h0 => by omega⟩
  rw [gone_grow hk hx, if_pos rfl, List.append_nil]
  exact h.gone
/-- one page cut off -/
theorem RzAt.cut {n : Nd} {size : Int} {K hn : Nat} {B4 : Option Addr} {c4 : Nat} {w : World} {k : Nat} {A3 : Option Addr} {c3 : Nat} {G G' : Value} {wr wx : World} {x : Int} (h : RzAt n size K hn B4 c4 w k A3 c3 G wr) (hk : K ≤ k) (hx : n.pages[k]? = some x) (hx0 : x ≠ 0)
    (ho : wx.ownsRow (w.heap.size + 2) 3 1 G' ((refsP ((n.pages.take k).drop K)).length + 1) ((refsP ((n.pages.take k).drop K)).map iv ++ [iv x])) (hgr : wr.grownBy wx G.ownBlock) (hat : G'.ownBlock = G.ownBlock ∨ G'.ownBlock = some wr.heap.size) :
    RzAt n size K hn B4 c4 w (k + 1) A3 c3 G' wx := by
  have e1 : (fitP n.pages K).take (k + 1) = (fitP n.pages K).take k := by rw [fit_full _ _ _ hk, fit_full _ _ _ (by omega)]
  have hap : ∀ b, (Value.slice A3 ((fitP n.pages K).take k).length c3).ownBlock = some b → G'.ownBlock ≠ some b := by
    intro b hb e'
    rcases hat with h1 | h1
    · exact h.apart b hb (by rw [← h1]; exact e')
    · rw [h1] at e'
      have hbb : wr.heap.size = b := by simpa using e'
      rcases h.row.2 with ⟨h0, _⟩ | ⟨g', cap, cur, hv, _, hh, _⟩
      · rw [h0] at hb; cases hb
      · rw [hv] at hb
        have : g' = b := by simpa [Value.ownBlock] using hb
        have := lt_of_block hh
        omega
  refine ⟨by rw [e1]; exact own_grown h.row hgr (fun b hb => h.apart b hb), ?_, by rw [e1]; exact hap, own_grown h.names hgr (own_ne' h.gone h.names (by decide)), by rw [e1]; exact h.own.grown hgr (own_ne h.gone h.own (by decide)), h.arg.grown hgr (own_ne h.gone h.arg (by decide)), h.res.grown hgr (own_ne h.gone h.res (by decide)), h.hn, h.below.grown hgr h.below.size (fun q e => Nat.le_trans (Nat.le_add_right _ 2) (own_base h.gone q e)), fun h0 => by omega⟩
  rw [gone_grow hk hx, if_neg hx0]
  unfold OwnI
  rw [List.length_append, List.map_append]
  exact ho
end Go.Proofs.YtamndllolppmoaaGreat

namespace Go.Proofs.YtamndllolppmoaaGreat
open Wd Ino Go.RowKit Go.ChangeShapes Go.WideShapes Go.Sort
set_option linter.unusedVariables false
set_option maxRecDepth 100000

set_option maxHeartbeats 8000000 in
theorem rResize (n : Nd) (size : Int) (hz : i64R size) (w : World) (h : n.In w) (hp : n.pages.length ≤ 1000) (hq : n.names.length ≤ 1000) :
    Calls Tryz.prog 111 #[n.val, .int .i64 size] w (ResizeD n size w) := by
  have KC := Lib.hid (fun w1 (b : Below w.heap.size w w1) => rCopy n w1 (h.at_ b) hp hq)
  obtain ⟨i, ki, l, s, u, A, ac, P, B, bc, N⟩ := n
  have hr := h.row
  unfold ResizeD
  dsimp only at hp hq hr ⊢
  unfold Nd.val at KC ⊢
  dsimp only at KC ⊢
  have HRow := Lib.hid hr
  have HB0 := Lib.hid (((Below.refl w.heap.size w).alloc (Nat.le_refl _) (.cells (ncells i ki l s u (.slice A P.length ac) (.slice B N.length bc)) 55)).alloc (by simp) (.cells (ncells 0 0 0 0 0 (.slice none 0 0) (.slice none 0 0)) 55))
  have hc : Cells ((w.alloc (.cells (ncells i ki l s u (.slice A P.length ac) (.slice B N.length bc)) 55)).alloc (.cells (ncells 0 0 0 0 0 (.slice none 0 0) (.slice none 0 0)) 55)) w.heap.size 55 (ncells i ki l s u (.slice A P.length ac) (.slice B N.length bc)) := (Cells.new _ _ _).alloc _
  have hr2 : Cells ((w.alloc (.cells (ncells i ki l s u (.slice A P.length ac) (.slice B N.length bc)) 55)).alloc (.cells (ncells 0 0 0 0 0 (.slice none 0 0) (.slice none 0 0)) 55)) (w.heap.size + 1) 55 (ncells 0 0 0 0 0 (.slice none 0 0) (.slice none 0 0)) := by
    have := Cells.new (w.alloc (.cells (ncells i ki l s u (.slice A P.length ac) (.slice B N.length bc)) 55)) 55 (ncells 0 0 0 0 0 (.slice none 0 0) (.slice none 0 0)); simpa using this
  have HC := Lib.hid hc; have HR := Lib.hid hr2
  have hs2 : ((w.alloc (.cells (ncells i ki l s u (.slice A P.length ac) (.slice B N.length bc)) 55)).alloc (.cells (ncells 0 0 0 0 0 (.slice none 0 0) (.slice none 0 0)) 55)).heap.size = w.heap.size + 2 := by simp
  have HS2 := Lib.hid hs2
  unfold ncells at HB0 HC HR HS2
  clear hr hc hr2 hs2 h
  by_cases hin : 0 ≤ size ∧ size ≤ 16384
  · have hin1 : inB size 0 16384 = true := by unfold inB; rw [decide_eq_true hin.1, decide_eq_true hin.2]; rfl
    rw [hin1]
    simp only [if_true]
    obtain ⟨K, hK, hK64⟩ := needP_nat size hin.1 hin.2
    rw [hK, Int.toNat_natCast]
    have KN := Lib.hid (fun w => rNeed_is size hz w)
    rw [hK] at KN
    have q1 : decide (size < 0) = false := decide_eq_false (by omega)
    have q2 : decide (16384 < size) = false := decide_eq_false (by omega)
    clear hin1 hK hin hz
    go_enter Tryz.func111, Tryz.ntmps111
    go_wp2_with fail
    refine (KC.out _ HB0.out).mono ?_
    rintro e w2 ⟨V, A3, c3, B4, c4, rfl, ⟨rfl, oI, oE⟩, b2⟩
    rw [HS2.out] at oI oE
    have hs : w.heap.size + 2 ≤ w2.heap.size := by have := b2.size; rw [HS2.out] at this; exact this
    obtain ⟨hn, hhn⟩ : ∃ hn, w2.heap.size = hn := ⟨_, rfl⟩
    have b3 := (Below.refl w2.heap.size w2).alloc (Nat.le_refl _) (.cells (ncells i ki l s u (.slice A3 P.length c3) (.slice B4 N.length c4)) 55)
    have c3n := Cells.new w2 55 (ncells i ki l s u (.slice A3 P.length c3) (.slice B4 N.length c4))
    have hB2 := HB0.out.trans (b2.mono HB0.out.size)
    have hB3 := hB2.trans (b3.mono hB2.size)
    have c3g := (HC.out.below' b2).below' b3
    have c3r := (HR.out.below' b2).below' b3
    have oE3 := oE.below b3
    unfold ncells at b3 c3n hB3 oE3 c3g c3r
    rw [hhn] at c3n hs
    unfold nv
    have HHN := Lib.hid hhn
    clear hhn oI oE b2 b3 hB2 HC HR HB0 HS2 KC
    go_upto_region 4 with fail
    rw [HHN.out]
    obtain ⟨W3, hW3⟩ : ∃ W3, w2.alloc (.cells #[.int .i64 i, .int .i64 ki, .int .i64 l, .int .i64 s, .int .i64 u, .slice A3 P.length c3, .slice B4 N.length c4] 55) = W3 := ⟨_, rfl⟩
    rw [hW3] at c3n hB3 oE3 c3g c3r ⊢
    have z := fun j => Cells.free c3n j
    have y3 := c3n.cell 3
    have y5 := c3n.cell 5
    simp at y3 y5
    have C3n := Lib.hid c3n; have C3g := Lib.hid c3g; have C3r := Lib.hid c3r; have B3 := Lib.hid hB3; have OE3 := Lib.hid oE3
    clear hW3 c3n hB3 oE3 c3g c3r HHN
    go_wp2
    go_loopw [7, 8] (fun G v wr => ∃ k A5 c5, k ≤ max K P.length ∧ v = .int .i64 (k : Int) ∧ RzAt ⟨i, ki, l, s, u, A, ac, P, B, bc, N⟩ size K hn B4 c4 w k A5 c5 G wr) (fun _ v _ => max K P.length - (intOf v).toNat)
    case atStart =>
      have C5 : Cells ((W3.setCell ⟨hn, 3, none⟩ (.int .i64 size)).setCell ⟨hn, 5, none⟩ (.slice none 0 0)) hn 55 (ncells i ki l size u (.slice none 0 0) (.slice B4 N.length c4)) := by
        have h0 : Cells _ hn 55 (ncells i ki l size u (.slice A3 P.length c3) (.slice B4 N.length c4)) := Cells.set C3n.out 3 (.int .i64 size)
        have h1 : Cells _ hn 55 (ncells i ki l size u (.slice none 0 0) (.slice B4 N.length c4)) := Cells.set h0 5 (.slice none 0 0)
        exact h1
      have h0 : Cells _ hn 55 (ncells i ki l size u (.slice A3 P.length c3) (.slice B4 N.length c4)) := Cells.set C3n.out 3 (.int .i64 size)
      refine ⟨0, none, 0, Nat.zero_le _, rfl, ⟨OwnI.nil _ _, by rw [gone_none _ _ _ (Nat.zero_le _)]; exact OwnI.nil _ _, fun b e => (by cases e), own_apart (own_apart OE3.out C3n.out (by decide) _ _) h0 (by decide) _ _, C5, (C3g.out.far (p := ⟨hn, 3, none⟩) (by simp; omega) _).far (p := ⟨hn, 5, none⟩) (by simp; omega) _, (C3r.out.far (p := ⟨hn, 3, none⟩) (by simp; omega) _).far (p := ⟨hn, 5, none⟩) (by simp; omega) _, hs, (B3.out.setCell (p := ⟨hn, 3, none⟩) (by simp; omega) _).setCell (p := ⟨hn, 5, none⟩) (by simp; omega) _, fun _ => rfl⟩⟩
    case round =>
      obtain ⟨k, A5, c5, hk, rfl, hJ⟩ := hrel
      have HJ := Lib.hid hJ
      clear z y3 y5 C3n C3g C3r B3 OE3
      have g5 := (cells7 hJ.arg).2.2.2.2.2.1
      dsimp only at g5
      have hbl := hJ.below
      by_cases hkK : k < K
      · have hkI : (k : Int) < (K : Int) := Int.ofNat_lt.2 hkK
        have hln := fit_part P K k
        obtain rfl := hJ.nil (Nat.le_of_lt hkK)
        obtain ⟨p, hpp⟩ : ∃ p, (P[k]?).getD 0 = p := ⟨_, rfl⟩
        have hba := (Below.refl wr.heap.size wr).alloc (Nat.le_refl _) (.cells #[.int .i64 p] 3)
        have hJa := hJ.grown hba
        have hgap := fun A6 c6 wx => hJa.put (A5 := A6) (c5 := c6) (wx := wx) hkK
        have hra := hJa.row
        have hoa := hJa.own
        have n5 := (cells7 hJ.own).2.2.2.2.2.1
        unfold OwnI at hra
        dsimp only at n5 hgap hra hoa
        rw [hpp] at hgap
        obtain ⟨nn, hnn⟩ : ∃ nn, ((fitP P K).take k).length = nn := ⟨_, rfl⟩
        rw [hnn] at n5 hln hgap hra hoa
        have hsz : w.heap.size + 2 ≤ (wr.alloc (.cells #[.int .i64 p] 3)).heap.size := by have := hJ.own.lt; have := hJ.hn; simp; omega
        have HO2 := Lib.hid hra; have HOA := Lib.hid hoa; have HGap := Lib.hid hgap
        have HR2 := Lib.hid (Row.one wr (.int .i64 p) 3)
        clear hJ hJa hgap hra hoa hba hnn HJ
        by_cases hkP : k < P.length
        · obtain ⟨b1, o1, x, hA, _, hx, cx⟩ := getI (HRow.out.below hbl) hkP
          have hkI2 : (k : Int) < (P.length : Int) := Int.ofNat_lt.2 hkP
          rw [hx, Option.getD_some] at hpp
          subst hpp
          clear hbl
          subst hA
          go_wp2_with (first
            | (go_at_call 152; refine (KN.out _).mono ?_; rintro e w4 ⟨rfl, rfl⟩)
            | (at_builtin; refine wpList_append_row _ rfl (.tmp 50) (.tmp 52) 40 rfl (w.heap.size + 2) 3 (.int .i64 0) 8 Tryz.underlying40 infoI rfl (.slice A5 nn c5) nn (((fitP P K).take k).map iv) rfl HO2.out _ (some ⟨wr.heap.size, 0, none⟩) 1 1 [.int .i64 x] rfl HR2.out (by simp [Value.oneCell']) (by unfold maxLen; omega) (by omega) hsz ?_; intro v5 w5 hown5 hgr5 hat5; obtain ⟨g5, cap5, rfl, _⟩ := own_open hown5 (by omega); have HG5 := Lib.hid (HGap.out _ _ _ hown5 hgr5); have hox := HOA.out.grown hgr5 (own_ne HO2.out HOA.out (by decide)); have p5 := hox.cell 5; have f5 := hox.free 5; simp [ncells] at p5; clear hown5 hgr5 hat5 hox))
          go_roundw
          case rel => exact ⟨k + 1, _, _, by omega, by go_num, HG5.out⟩
          case measure => simp [intOf]; omega
        · have q3 : decide ((k : Int) < (P.length : Int)) = false := decide_eq_false (by omega)
          rw [show P[k]? = none from List.getElem?_eq_none (by omega), Option.getD_none] at hpp
          subst hpp
          clear hbl
          go_wp2_with (first
            | (go_at_call 152; refine (KN.out _).mono ?_; rintro e w4 ⟨rfl, rfl⟩)
            | (at_builtin; refine wpList_append_row _ rfl (.tmp 50) (.tmp 52) 40 rfl (w.heap.size + 2) 3 (.int .i64 0) 8 Tryz.underlying40 infoI rfl (.slice A5 nn c5) nn (((fitP P K).take k).map iv) rfl HO2.out _ (some ⟨wr.heap.size, 0, none⟩) 1 1 [.int .i64 0] rfl HR2.out (by simp [Value.oneCell']) (by unfold maxLen; omega) (by omega) hsz ?_; intro v5 w5 hown5 hgr5 hat5; obtain ⟨g5, cap5, rfl, _⟩ := own_open hown5 (by omega); have HG5 := Lib.hid (HGap.out _ _ _ hown5 hgr5); have hox := HOA.out.grown hgr5 (own_ne HO2.out HOA.out (by decide)); have p5 := hox.cell 5; have f5 := hox.free 5; simp [ncells] at p5; clear hown5 hgr5 hat5 hox))
          go_roundw
          case rel => exact ⟨k + 1, _, _, by omega, by go_num, HG5.out⟩
          case measure => simp [intOf]; omega
      · have q4 : decide ((k : Int) < (K : Int)) = false := decide_eq_false (by omega)
        by_cases hkP : k < P.length
        · obtain ⟨b1, o1, x, hA, _, hx, cx⟩ := getI (HRow.out.below hbl) hkP
          have hkI2 : (k : Int) < (P.length : Int) := Int.ofNat_lt.2 hkP
          by_cases hx0 : x = 0
          · have hz0 : (x != 0) = false := by simp [hx0]
            subst hx0
            have HJ2 := Lib.hid (HJ.out.skip (by omega) hx)
            clear hJ hbl hx
            subst hA
            go_wp2_with (go_at_call 152; refine (KN.out _).mono ?_; rintro e w4 ⟨rfl, rfl⟩)
            go_roundw
            case rel => exact ⟨k + 1, A5, c5, by omega, by go_num, HJ2.out⟩
            case measure => simp [intOf]; omega
          · have hz0 : (x != 0) = true := by simp [hx0]
            have hba := (Below.refl wr.heap.size wr).alloc (Nat.le_refl _) (.cells #[.int .i64 x] 3)
            have hJa := hJ.grown hba
            have hcut := fun G' wx => hJa.cut (G' := G') (wx := wx) (by omega) hx hx0
            have hgl := gone_len P K k
            have hga := hJa.gone
            unfold OwnI at hga
            dsimp only at hcut hga
            obtain ⟨nn, hnn⟩ : ∃ nn, (refsP ((P.take k).drop K)).length = nn := ⟨_, rfl⟩
            rw [hnn] at hgl hcut hga
            have hsz : w.heap.size + 2 ≤ (wr.alloc (.cells #[.int .i64 x] 3)).heap.size := by have := hJ.own.lt; have := hJ.hn; simp; omega
            have HO2 := Lib.hid hga; have HCut := Lib.hid hcut
            have HR2 := Lib.hid (Row.one wr (.int .i64 x) 3)
            clear hJ hJa hcut hga hba hnn HJ hbl hx0 hx
            subst hA
            go_wp2_with (first
              | (go_at_call 152; refine (KN.out _).mono ?_; rintro e w4 ⟨rfl, rfl⟩)
              | (at_builtin; refine wpList_append_row _ rfl (.tmp 57) (.tmp 59) 40 rfl (w.heap.size + 2) 3 (.int .i64 0) 8 Tryz.underlying40 infoI rfl u7 nn ((refsP ((P.take k).drop K)).map iv) rfl HO2.out _ (some ⟨wr.heap.size, 0, none⟩) 1 1 [.int .i64 x] rfl HR2.out (by simp [Value.oneCell']) (by unfold maxLen; omega) (by omega) hsz ?_; intro v5 w5 hown5 hgr5 hat5; have HG5 := Lib.hid (HCut.out _ _ hown5 hgr5 hat5); clear hown5 hgr5 hat5))
            go_roundw
            case rel => exact ⟨k + 1, _, _, by omega, by go_num, HG5.out⟩
            case measure => simp [intOf]; omega
        · have q3 : decide ((k : Int) < (P.length : Int)) = false := decide_eq_false (by omega)
          have hf : (fitP P K).take k = fitP P K := fit_full _ _ _ (by omega)
          have ht : P.take k = P := List.take_of_length_le (by omega)
          have e1 := hJ.row; have e2 := hJ.gone; have e3 := hJ.names; have e4 := hJ.own; have e5 := hJ.res; have e6 := hJ.below
          dsimp only at e1 e2 e3 e4 e5
          rw [hf] at e1 e4
          rw [fit_len] at e4
          rw [ht] at e2
          obtain ⟨n0, n1, n2, n3, n4, n5, n6⟩ := cells7 e4
          obtain ⟨d0, d1, d2, d3, d4, d5, d6⟩ := cells7 e5
          have z := fun j => Cells.free e5 j
          have E1 := Lib.hid e1; have E2 := Lib.hid e2; have E3 := Lib.hid e3; have E5 := Lib.hid e5; have E6 := Lib.hid e6
          clear hJ HJ hbl e1 e2 e3 e4 e5 e6 hf ht
          go_wp2_with (go_at_call 152; refine (KN.out _).mono ?_; rintro e w4 ⟨rfl, rfl⟩)
          exact bodyPost_ret (results_node_tmp rfl _ _ (w.heap.size + 1) (ncells i ki l size u (.slice A5 K c5) (.slice B4 N.length c4)) rfl (set7_cells E5.out) rfl) rfl
            ⟨_, A5, c5, B4, c4, u7, rfl, ⟨by rw [fit_len]; rfl, OwnI.mono (own_set7 E1.out (by omega)) (by omega), OwnE.mono (own_set7 E3.out (by omega)) (by omega)⟩, OwnI.mono (own_set7 E2.out (by omega)) (by omega), set7_below E6.out (by omega)⟩
  · have hin1 : inB size 0 16384 = false := by
      unfold inB
      by_cases h0 : 0 ≤ size
      · rw [decide_eq_false (show ¬ size ≤ 16384 by omega), Bool.and_false]
      · rw [decide_eq_false h0, Bool.false_and]
    rw [hin1]
    simp only [Bool.false_eq_true, if_false]
    clear hin1 hz HC HRow
    by_cases h0 : size < 0
    · have q1 : decide (size < 0) = true := decide_eq_true h0
      clear h0 hin
      go_enter Tryz.func111, Tryz.ntmps111
      go_wp2_with fail
      refine (KC.out _ HB0.out).mono ?_
      rintro e w2 ⟨V, A3, c3, B4, c4, rfl, ⟨rfl, oI, oE⟩, b2⟩
      have R3 := Lib.hid ((HR.out.below' b2).alloc (.cells (ncells i ki l s u (.slice A3 P.length c3) (.slice B4 N.length c4)) 55))
      have hb2 := HB0.out.trans (b2.mono HB0.out.size)
      have B3 := Lib.hid (hb2.alloc hb2.size (.cells (ncells i ki l s u (.slice A3 P.length c3) (.slice B4 N.length c4)) 55))
      have b3 := (Below.refl w2.heap.size w2).alloc (Nat.le_refl _) (.cells (ncells i ki l s u (.slice A3 P.length c3) (.slice B4 N.length c4)) 55)
      rw [HS2.out] at oI oE
      have OI3 := Lib.hid (oI.below b3)
      have OE3 := Lib.hid (oE.below b3)
      have hs : w.heap.size + 2 ≤ w2.heap.size := by have := b2.size; rw [HS2.out] at this; exact this
      obtain ⟨d0, d1, d2, d3, d4, d5, d6⟩ := cells7 R3.out
      have z := fun j => Cells.free R3.out j
      unfold ncells at d0 d1 d2 d3 d4 d5 d6 z OI3 OE3 B3 R3
      unfold nv
      clear b3 b2 hb2 oI oE KC HR HB0 HS2
      go_wp2
      exact bodyPost_ret (results_node_tmp rfl _ _ (w.heap.size + 1) (ncells i ki l s u (.slice A3 P.length c3) (.slice B4 N.length c4)) rfl (set7_cells R3.out) rfl) rfl
        ⟨_, A3, c3, B4, c4, _, rfl, ⟨rfl, OwnI.mono (own_set7 OI3.out (by omega)) (by omega), OwnE.mono (own_set7 OE3.out (by omega)) (by omega)⟩, OwnI.nil _ _, set7_below B3.out (by omega)⟩
    · have q1 : decide (size < 0) = false := decide_eq_false h0
      have q2 : decide (16384 < size) = true := decide_eq_true (by omega)
      clear h0 hin
      go_enter Tryz.func111, Tryz.ntmps111
      go_wp2_with fail
      refine (KC.out _ HB0.out).mono ?_
      rintro e w2 ⟨V, A3, c3, B4, c4, rfl, ⟨rfl, oI, oE⟩, b2⟩
      have R3 := Lib.hid ((HR.out.below' b2).alloc (.cells (ncells i ki l s u (.slice A3 P.length c3) (.slice B4 N.length c4)) 55))
      have hb2 := HB0.out.trans (b2.mono HB0.out.size)
      have B3 := Lib.hid (hb2.alloc hb2.size (.cells (ncells i ki l s u (.slice A3 P.length c3) (.slice B4 N.length c4)) 55))
      have b3 := (Below.refl w2.heap.size w2).alloc (Nat.le_refl _) (.cells (ncells i ki l s u (.slice A3 P.length c3) (.slice B4 N.length c4)) 55)
      rw [HS2.out] at oI oE
      have OI3 := Lib.hid (oI.below b3)
      have OE3 := Lib.hid (oE.below b3)
      have hs : w.heap.size + 2 ≤ w2.heap.size := by have := b2.size; rw [HS2.out] at this; exact this
      obtain ⟨d0, d1, d2, d3, d4, d5, d6⟩ := cells7 R3.out
      have z := fun j => Cells.free R3.out j
      unfold ncells at d0 d1 d2 d3 d4 d5 d6 z OI3 OE3 B3 R3
      unfold nv
      clear b3 b2 hb2 oI oE KC HR HB0 HS2
      go_wp2
      exact bodyPost_ret (results_node_tmp rfl _ _ (w.heap.size + 1) (ncells i ki l s u (.slice A3 P.length c3) (.slice B4 N.length c4)) rfl (set7_cells R3.out) rfl) rfl
        ⟨_, A3, c3, B4, c4, _, rfl, ⟨rfl, OwnI.mono (own_set7 OI3.out (by omega)) (by omega), OwnE.mono (own_set7 OE3.out (by omega)) (by omega)⟩, OwnI.nil _ _, set7_below B3.out (by omega)⟩
end Go.Proofs.YtamndllolppmoaaGreat

namespace Go.Proofs.YtamndllolppmoaaGreat
open Wd Ino Go.RowKit Go.ChangeShapes Go.WideShapes Go.Sort
set_option linter.unusedVariables false
set_option maxRecDepth 100000

set_option maxHeartbeats 4000000 in
theorem iRightFile (ino kind links size up : Int) (A B : Option Addr) (np c nn d : Nat) (hs : i64R size) (w : World) : Calls Tryz.prog 196 #[nv ino kind links size up (.slice A np c) (.slice B nn d)] w (Grows (.bool (fileB size up np nn)) w) := by
  have hc := Cells.new w 55 (ncells ino kind links size up (.slice A np c) (.slice B nn d))
  have HG := Lib.hid (grow_one w (.cells (ncells ino kind links size up (.slice A np c) (.slice B nn d)) 55))
  obtain ⟨c0, c1, c2, c3, c4, c5, c6⟩ := cells7 hc
  have hl := hc.lt
  have g3 := cell_grown (a := ⟨w.heap.size, 3, none⟩) hl c3
  have g4 := cell_grown (a := ⟨w.heap.size, 4, none⟩) hl c4
  have g5 := cell_grown (a := ⟨w.heap.size, 5, none⟩) hl c5
  have g6 := cell_grown (a := ⟨w.heap.size, 6, none⟩) hl c6
  have KW := Lib.hid (fun w => iWithin size 0 16384 w)
  have KN := Lib.hid (fun w => iNeed size hs w)
  have hfol : Tryz.prog.follows .mixedOrders = true := by kernel_rfl
  unfold nv
  unfold fileB
  unfold ncells at c3 c4 c5 c6 g3 g4 g5 g6 HG hl
  obtain ⟨m, hm⟩ : ∃ m, needP size = m := ⟨_, rfl⟩
  obtain ⟨b, hb⟩ : ∃ b, inB size 0 16384 = b := ⟨_, rfl⟩
  rw [hm] at KN ⊢
  rw [hb] at KW ⊢
  clear hc c0 c1 c2 hl hm hb hs
  cases q1 : (up == 0)
  · rw [Bool.false_and, Bool.false_and, Bool.false_and]
    go_enter Tryz.func196, Tryz.ntmps196
    go_wp2_with fail
    refine wp_region_quiet_grown hfol (by kernel_rfl) ?_
    repeat (go_big_quiet_step (first
      | (go_at_call 169; (with_reducible exact Grows.in KW.out _ _ _))
      | (go_at_call 170; (with_reducible exact Grows.in KN.out _ _ _))))
    refine wpQuiet_nil ?_
    intro _ hw'
    obtain ⟨⟨nr, osr⟩, hw''⟩ := hw'
    subst hw''
    clear g3 g4 g5 g6 c3 c4 c5 c6
    go_wp2
    go_ret
    exact ⟨rfl, grow_trans HG.out ⟨nr, osr, rfl⟩⟩
  · cases q2 : ((nn : Int) == 0)
    · rw [Bool.true_and, Bool.false_and, Bool.false_and]
      go_enter Tryz.func196, Tryz.ntmps196
      go_wp2_with fail
      refine wp_region_quiet_grown hfol (by kernel_rfl) ?_
      repeat (go_big_quiet_step (first
        | (go_at_call 169; (with_reducible exact Grows.in KW.out _ _ _))
        | (go_at_call 170; (with_reducible exact Grows.in KN.out _ _ _))))
      refine wpQuiet_nil ?_
      intro _ hw'
      obtain ⟨⟨nr, osr⟩, hw''⟩ := hw'
      subst hw''
      clear g3 g4 g5 g6 c3 c4 c5 c6
      go_wp2
      go_ret
      exact ⟨rfl, grow_trans HG.out ⟨nr, osr, rfl⟩⟩
    · cases b
      · rw [Bool.and_false, Bool.false_and]
        go_enter Tryz.func196, Tryz.ntmps196
        go_wp2_with fail
        refine wp_region_quiet_grown hfol (by kernel_rfl) ?_
        repeat (go_big_quiet_step (first
          | (go_at_call 169; (with_reducible exact Grows.in KW.out _ _ _))
          | (go_at_call 170; (with_reducible exact Grows.in KN.out _ _ _))))
        refine wpQuiet_nil ?_
        intro _ hw'
        obtain ⟨⟨nr, osr⟩, hw''⟩ := hw'
        subst hw''
        clear g3 g4 g5 g6 c3 c4 c5 c6
        go_wp2
        go_ret
        exact ⟨rfl, grow_trans HG.out ⟨nr, osr, rfl⟩⟩
      · rw [Bool.true_and, Bool.true_and, Bool.true_and]
        cases q4 : ((np : Int) == m)
        · skip
          go_enter Tryz.func196, Tryz.ntmps196
          go_wp2_with fail
          refine wp_region_quiet_grown hfol (by kernel_rfl) ?_
          repeat (go_big_quiet_step (first
            | (go_at_call 169; (with_reducible exact Grows.in KW.out _ _ _))
            | (go_at_call 170; (with_reducible exact Grows.in KN.out _ _ _))))
          refine wpQuiet_nil ?_
          intro _ hw'
          obtain ⟨⟨nr, osr⟩, hw''⟩ := hw'
          subst hw''
          clear g3 g4 g5 g6 c3 c4 c5 c6
          go_wp2
          go_ret
          exact ⟨rfl, grow_trans HG.out ⟨nr, osr, rfl⟩⟩
        · skip
          go_enter Tryz.func196, Tryz.ntmps196
          go_wp2_with fail
          refine wp_region_quiet_grown hfol (by kernel_rfl) ?_
          repeat (go_big_quiet_step (first
            | (go_at_call 169; (with_reducible exact Grows.in KW.out _ _ _))
            | (go_at_call 170; (with_reducible exact Grows.in KN.out _ _ _))))
          refine wpQuiet_nil ?_
          intro _ hw'
          obtain ⟨⟨nr, osr⟩, hw''⟩ := hw'
          subst hw''
          clear g3 g4 g5 g6 c3 c4 c5 c6
          go_wp2
          go_ret
          exact ⟨rfl, grow_trans HG.out ⟨nr, osr, rfl⟩⟩
end Go.Proofs.YtamndllolppmoaaGreat

namespace Go.Proofs.YtamndllolppmoaaGreat
open Wd Ino Go.RowKit Go.ChangeShapes Go.WideShapes Go.Sort
set_option linter.unusedVariables false
set_option maxRecDepth 100000

set_option maxHeartbeats 4000000 in
theorem iRight (ino kind links size up : Int) (A B : Option Addr) (np c nn d : Nat) (hs : i64R size) (w : World) : Calls Tryz.prog 176 #[nv ino kind links size up (.slice A np c) (.slice B nn d)] w (Grows (.bool (rightB ino kind links size up np nn)) w) := by
  have hc := Cells.new w 55 (ncells ino kind links size up (.slice A np c) (.slice B nn d))
  have HG := Lib.hid (grow_one w (.cells (ncells ino kind links size up (.slice A np c) (.slice B nn d)) 55))
  obtain ⟨c0, c1, c2, c3, c4, c5, c6⟩ := cells7 hc
  have KF := Lib.hid (fun w => iRightFile ino kind links size up A B np c nn d hs w)
  have KD := Lib.hid (fun w => iRightDir ino kind links size up A np c (.slice B nn d) w)
  obtain ⟨R1, hR1⟩ : ∃ b, fileB size up np nn = b := ⟨_, rfl⟩
  obtain ⟨R2, hR2⟩ : ∃ b, dirB ino links size up np = b := ⟨_, rfl⟩
  obtain ⟨b1, hb1⟩ : ∃ b, inB ino 1 1048576 = b := ⟨_, rfl⟩
  obtain ⟨b2, hb2⟩ : ∃ b, inB links 0 16 = b := ⟨_, rfl⟩
  have KI := Lib.hid (fun w => iWithin_is ino 1 1048576 w)
  have KL := Lib.hid (fun w => iWithin_is links 0 16 w)
  unfold nv at KF KD ⊢
  unfold rightB
  rw [hR1] at KF ⊢
  rw [hR2] at KD ⊢
  rw [hb1] at KI ⊢
  rw [hb2] at KL ⊢
  unfold ncells at c0 c1 c2 c3 c4 c5 c6 HG
  clear hc hR1 hR2 hb1 hb2 hs
  cases b1
  · rw [if_neg (by simp)]
    go_enter Tryz.func176, Tryz.ntmps176
    go_wp2_with (go_at_call 169; refine (KI.out _).mono ?_; rintro e w1 ⟨rfl, rfl⟩)
    go_ret
    exact ⟨rfl, HG.out⟩
  · cases b2
    · rw [if_neg (by simp)]
      go_enter Tryz.func176, Tryz.ntmps176
      go_wp2_with fail
      refine (KI.out _).mono ?_
      rintro e w1 ⟨rfl, rfl⟩
      go_wp2_with fail
      refine (KL.out _).mono ?_
      rintro e w1 ⟨rfl, rfl⟩
      go_wp2
      go_ret
      exact ⟨rfl, HG.out⟩
    · rw [if_pos (by simp)]
      by_cases h1 : kind = 1
      · have q1 : (kind == 1) = true := by simpa using h1
        rw [if_pos h1]
        clear h1
        go_enter Tryz.func176, Tryz.ntmps176
        go_wp2_with fail
        refine (KI.out _).mono ?_
        rintro e w1 ⟨rfl, rfl⟩
        go_wp2_with fail
        refine (KL.out _).mono ?_
        rintro e w1 ⟨rfl, rfl⟩
        go_wp2_with fail
        refine (KF.out _).mono ?_
        rintro e w1 ⟨rfl, hg⟩
        go_wp2
        go_ret
        exact ⟨rfl, grow_trans HG.out hg⟩
      · have q1 : (kind == 1) = false := by simpa using h1
        rw [if_neg h1]
        by_cases h2 : kind = 2
        · have q2 : (kind == 2) = true := by simpa using h2
          rw [if_pos h2]
          clear h1 h2
          go_enter Tryz.func176, Tryz.ntmps176
          go_wp2_with fail
          refine (KI.out _).mono ?_
          rintro e w1 ⟨rfl, rfl⟩
          go_wp2_with fail
          refine (KL.out _).mono ?_
          rintro e w1 ⟨rfl, rfl⟩
          go_wp2_with fail
          refine (KD.out _).mono ?_
          rintro e w1 ⟨rfl, hg⟩
          go_wp2
          go_ret
          exact ⟨rfl, grow_trans HG.out hg⟩
        · have q2 : (kind == 2) = false := by simpa using h2
          rw [if_neg h2]
          clear h1 h2
          go_enter Tryz.func176, Tryz.ntmps176
          go_wp2_with fail
          refine (KI.out _).mono ?_
          rintro e w1 ⟨rfl, rfl⟩
          go_wp2_with fail
          refine (KL.out _).mono ?_
          rintro e w1 ⟨rfl, rfl⟩
          go_wp2
          go_ret
          exact ⟨rfl, HG.out⟩
end Go.Proofs.YtamndllolppmoaaGreat

namespace Go.Proofs.YtamndllolppmoaaGreat
open Wd Ino Go.RowKit Go.ChangeShapes Go.WideShapes Go.Sort
set_option linter.unusedVariables false
set_option maxRecDepth 100000

end Go.Proofs.YtamndllolppmoaaGreat

namespace Wd
open Go Go.RowKit
/-- a law's end: it answers true, and nothing that was there has turned -/
def TrueB (w : World) (e : Ending) (w' : World) : Prop := e = .returned (.bool true) ∧ Below w.heap.size w w'
end Wd

namespace Go.Proofs.YtamndllolppmoaaGreat
open Wd Ino Go.RowKit Go.ChangeShapes Go.WideShapes Go.Sort
set_option linter.unusedVariables false
set_option maxRecDepth 100000

/-! whether a node is small; the law's example -/
def fewB (n : Nd) : Bool := decide (∀ e ∈ n.names, e.s.size ≤ 100) && (decide (n.pages.length ≤ 100) && decide (n.names.length ≤ 30))
theorem fewB_iff {n : Nd} : fewB n = true ↔ n.Few := by
  unfold fewB
  constructor
  · intro h
    simp at h
    exact ⟨h.2.2, h.2.1, h.1⟩
  · rintro ⟨h1, h2, h3⟩
    simp
    exact ⟨h3, h2, h1⟩
theorem right_two : rightB 2 1 1 0 0 0 0 = true := by decide
/-- a node in rows of its own is a node -/
theorem own_form {w : World} {base : Nat} {e : TypeId} {sz n c : Nat} {A : Option Addr} {xs : List Value} (h : w.ownsRow base e sz (.slice A n c) n xs) : n ≤ c ∧ c ≤ maxLen := by
  rcases h.2 with ⟨h0, hn⟩ | ⟨g, cap, cur, hv, _, _, h1, h2, _⟩
  · injection h0 with _ _ hc
    rw [hc, hn]
    exact ⟨Nat.le_refl _, Nat.zero_le _⟩
  · injection hv with _ _ hc
    rw [hc]
    exact ⟨h1, h2⟩
theorem OwnN.in_ {w : World} {base : Nat} {V : Value} {i k l s u : Int} {P : List Int} {N : List Ent} {A : Option Addr} {ac : Nat} {B : Option Addr} {bc : Nat} (h : OwnN w base V i k l s u P N A ac B bc) : (Nd.mk i k l s u A ac P B bc N).In w := by
  obtain ⟨A', c', e, hr⟩ := h.pages.row
  injection e with e
  subst e
  obtain ⟨B', d', e, _, he⟩ := h.names.form
  injection e with e
  subst e
  exact ⟨hr, he⟩
theorem OwnN.ok {w : World} {base : Nat} {V : Value} {i k l s u : Int} {P : List Int} {N : List Ent} {A : Option Addr} {ac : Nat} {B : Option Addr} {bc : Nat} (h : OwnN w base V i k l s u P N A ac B bc)
    (h0 : i64R i) (h1 : i64R k) (h2 : i64R l) (h3 : i64R s) (h4 : i64R u) (hp : ∀ x ∈ P, i64R x) (hn : ∀ e ∈ N, e.Ok) : (Nd.mk i k l s u A ac P B bc N).Ok w w.heap.size := by
  have a := own_form h.pages
  have b := own_form h.names
  exact ⟨h0, h1, h2, h3, h4, h.in_.row, hp, Nat.le_trans a.1 a.2, a.1, a.2, h.in_.ens, hn, Nat.le_trans b.1 b.2⟩
theorem OwnN.val_ {w : World} {base : Nat} {V : Value} {i k l s u : Int} {P : List Int} {N : List Ent} {A : Option Addr} {ac : Nat} {B : Option Addr} {bc : Nat} (h : OwnN w base V i k l s u P N A ac B bc) : V = (Nd.mk i k l s u A ac P B bc N).val := h.val
end Go.Proofs.YtamndllolppmoaaGreat
