import Derived.Test.YtajmboolgekdeaaInRc
namespace Go.Proofs.Ytajmboolgekdeaa
open Wd Ino Go.RowKit Go.ChangeShapes Go.WideShapes Go.Sort
set_option linter.unusedVariables false
set_option maxRecDepth 100000

/-! the document's Resize -/
theorem own_grown {w w' : World} {base : Nat} {e : TypeId} {sz n : Nat} {v : Value} {xs : List Value} {row : Option Nat} (h : w.ownsRow base e sz v n xs) (hgr : w.grownBy w' row) (hne : ∀ b, v.ownBlock = some b → row ≠ some b) : w'.ownsRow base e sz v n xs := by
  rcases h with ⟨hl, h⟩
  refine ⟨hl, ?_⟩
  rcases h with h | ⟨g, cap, cur, rfl, hb, hh, h1⟩
  · exact .inl h
  · exact .inr ⟨g, cap, cur, rfl, hb, (hgr.block g (lt_of_block hh) (fun e => hne g rfl e.symm)).trans hh, h1⟩
theorem own_ne {w : World} {base : Nat} {e t : TypeId} {sz n g : Nat} {v : Value} {xs : List Value} {cs : Array Value} (h : w.ownsRow base e sz v n xs) (hc : Cells w g t cs) (ht : t ≠ e) : some g ≠ v.ownBlock := by
  rcases h.2 with ⟨rfl, _⟩ | ⟨g', cap, cur, rfl, _, hh, _⟩
  · intro e; cases e
  · intro e'
    have : g = g' := by simpa [Value.ownBlock] using e'
    subst this
    exact Cells.ne hc (show Cells w g e cur from hh) ht rfl
theorem own_ne' {w : World} {b1 b2 : Nat} {e t : TypeId} {s1 s2 n1 n2 : Nat} {v u : Value} {xs ys : List Value} (h : w.ownsRow b1 e s1 v n1 xs) (k : w.ownsRow b2 t s2 u n2 ys) (ht : t ≠ e) : ∀ b, u.ownBlock = some b → v.ownBlock ≠ some b := by
  intro b hb e'
  rcases k.2 with ⟨rfl, _⟩ | ⟨g', cap, cur, rfl, _, hh, _⟩
  · cases hb
  · have : g' = b := by simpa [Value.ownBlock] using hb
    subst this
    exact own_ne h (show Cells w g' t cur from hh) ht e'.symm
theorem fit_at (P : List Int) (K k : Nat) (hk : k < K) : (fitP P K)[k]? = some ((P[k]?).getD 0) := by
  unfold fitP
  by_cases h : k < P.length
  · rw [List.getElem?_append_left (by rw [List.length_take]; omega), List.getElem?_take_of_lt hk, List.getElem?_eq_getElem h, Option.getD_some]
  · rw [List.getElem?_append_right (by rw [List.length_take]; omega), show P[k]? = none from List.getElem?_eq_none (by omega), Option.getD_none, List.length_take, List.getElem?_replicate, if_pos (by omega)]
theorem fit_grow (P : List Int) (K k : Nat) (hk : k < K) : (fitP P K).take (k + 1) = (fitP P K).take k ++ [(P[k]?).getD 0] := take_two (fit_at P K k hk)
theorem fit_full (P : List Int) (K k : Nat) (hk : K ≤ k) : (fitP P K).take k = fitP P K := List.take_of_length_le (by rw [fit_len]; exact hk)
theorem fit_part (P : List Int) (K k : Nat) : ((fitP P K).take k).length ≤ K := by rw [List.length_take, fit_len]; omega
theorem gone_none (P : List Int) (K k : Nat) (hk : k ≤ K) : (P.take k).drop K = [] := List.drop_of_length_le (by rw [List.length_take]; omega)
theorem gone_grow {P : List Int} {K k : Nat} {x : Int} (hk : K ≤ k) (hx : P[k]? = some x) : refsP ((P.take (k + 1)).drop K) = refsP ((P.take k).drop K) ++ (if x = 0 then [] else [x]) := by
  have hkl := (List.getElem?_eq_some_iff.1 hx).1
  rw [take_two hx, List.drop_append_of_le_length (by rw [List.length_take]; omega)]
  unfold refsP
  rw [List.filter_append]
  by_cases h : x = 0
  · simp [h]
  · simp [h]
theorem gone_len (P : List Int) (K k : Nat) : (refsP ((P.take k).drop K)).length ≤ P.length := by
  refine Nat.le_trans (refs_len _) ?_
  rw [List.length_drop, List.length_take]; omega
structure RzAt (n : Nd) (size : Int) (K hn : Nat) (B4 : Option Addr) (c4 : Nat) (w : World) (k : Nat) (A3 : Option Addr) (c3 : Nat) (G : Value) (wr : World) : Prop where
  row : OwnI wr (w.heap.size + 2) (.slice A3 ((fitP n.pages K).take k).length c3) ((fitP n.pages K).take k)
  gone : OwnI wr (w.heap.size + 2) G (refsP ((n.pages.take k).drop K))
  apart : ∀ b, (Value.slice A3 ((fitP n.pages K).take k).length c3).ownBlock = some b → G.ownBlock ≠ some b
  names : OwnE wr (w.heap.size + 2) (.slice B4 n.names.length c4) n.names
  own : Cells wr hn 25 (ncells n.ino n.kind n.links size n.up (.slice A3 ((fitP n.pages K).take k).length c3) (.slice B4 n.names.length c4))
  arg : Cells wr w.heap.size 25 (ncells n.ino n.kind n.links n.size n.up (.slice n.A n.pages.length n.ac) (.slice n.B n.names.length n.bc))
  res : Cells wr (w.heap.size + 1) 25 (ncells 0 0 0 0 0 (.slice none 0 0) (.slice none 0 0))
  hn : w.heap.size + 2 ≤ hn
  below : Below w.heap.size w wr
  nil : k ≤ K → G = .slice none 0 0
theorem RzAt.grown {n : Nd} {size : Int} {K hn : Nat} {B4 : Option Addr} {c4 : Nat} {w : World} {k : Nat} {A3 : Option Addr} {c3 : Nat} {G : Value} {wr : World} (h : RzAt n size K hn B4 c4 w k A3 c3 G wr) {wx : World} (hb : Below wr.heap.size wr wx) : RzAt n size K hn B4 c4 w k A3 c3 G wx :=
  ⟨h.row.below hb, h.gone.below hb, h.apart, h.names.below hb, h.own.below' hb, h.arg.below' hb, h.res.below' hb, h.hn, h.below.trans (hb.mono h.below.size), h.nil⟩
/-- one page more: the row grew -/
theorem RzAt.put {n : Nd} {size : Int} {K hn : Nat} {B4 : Option Addr} {c4 : Nat} {w : World} {k : Nat} {A3 : Option Addr} {c3 : Nat} {G : Value} {wr wx : World} (h : RzAt n size K hn B4 c4 w k A3 c3 G wr) (hk : k < K)
    {A5 : Option Addr} {c5 : Nat} (ho : wx.ownsRow (w.heap.size + 2) 3 1 (.slice A5 (((fitP n.pages K).take k).length + 1) c5) (((fitP n.pages K).take k).length + 1) (((fitP n.pages K).take k).map iv ++ [iv ((n.pages[k]?).getD 0)]))
    (hgr : wr.grownBy wx (Value.slice A3 ((fitP n.pages K).take k).length c3).ownBlock) :
    RzAt n size K hn B4 c4 w (k + 1) A5 c5 (.slice none 0 0) (wx.setCell ⟨hn, 5, none⟩ (.slice A5 (((fitP n.pages K).take k).length + 1) c5)) := by
  have hl : ((fitP n.pages K).take (k + 1)).length = ((fitP n.pages K).take k).length + 1 := by rw [fit_grow _ _ _ hk, List.length_append]; rfl
  have hx : OwnI wx (w.heap.size + 2) (.slice A5 ((fitP n.pages K).take (k + 1)).length c5) ((fitP n.pages K).take (k + 1)) := by
    unfold OwnI
    rw [hl, fit_grow _ _ _ hk, List.map_append]
    exact ho
  have hown := h.own.grown hgr (own_ne h.row h.own (by decide))
  have hnm : OwnE wx (w.heap.size + 2) (.slice B4 n.names.length c4) n.names := own_grown h.names hgr (own_ne' h.row h.names (by decide))
  have harg := h.arg.grown hgr (own_ne h.row h.arg (by decide))
  have hres := h.res.grown hgr (own_ne h.row h.res (by decide))
  have h2 := h.hn
  have hbl : Below w.heap.size w wx := h.below.grown hgr h.below.size (fun q e => Nat.le_trans (Nat.le_add_right _ 2) (own_base h.row q e))
  refine ⟨?_, ?_, (fun b _ e => by cases e), ?_, ?_, ?_, ?_, h2, hbl.setCell (p := ⟨hn, 5, none⟩) (by simp; omega) _, fun _ => rfl⟩
  · exact own_apart hx hown (by decide) _ _
  · rw [gone_none _ _ _ (by omega)]
    exact OwnI.nil _ _
  · exact own_apart hnm hown (by decide) _ _
  · have h3 : Cells _ hn 25 (ncells n.ino n.kind n.links size n.up (.slice A5 (((fitP n.pages K).take k).length + 1) c5) (.slice B4 n.names.length c4)) := Cells.set hown 5 (.slice A5 (((fitP n.pages K).take k).length + 1) c5)
    rw [hl]
    exact h3
  · exact harg.far (p := ⟨hn, 5, none⟩) (by simp; omega) _
  · exact hres.far (p := ⟨hn, 5, none⟩) (by simp; omega) _
/-- one page less, and it isn't told -/
theorem RzAt.skip {n : Nd} {size : Int} {K hn : Nat} {B4 : Option Addr} {c4 : Nat} {w : World} {k : Nat} {A3 : Option Addr} {c3 : Nat} {G : Value} {wr : World} (h : RzAt n size K hn B4 c4 w k A3 c3 G wr) (hk : K ≤ k) (hx : n.pages[k]? = some 0) :
    RzAt n size K hn B4 c4 w (k + 1) A3 c3 G wr := by
  have e1 : (fitP n.pages K).take (k + 1) = (fitP n.pages K).take k := by rw [fit_full _ _ _ hk, fit_full _ _ _ (by omega)]
  refine ⟨by rw [e1]; exact h.row, ?_, by rw [e1]; exact h.apart, h.names, by rw [e1]; exact h.own, h.arg, h.res, h.hn, h.below, fun h0 => by omega⟩
  rw [gone_grow hk hx, if_pos rfl, List.append_nil]
  exact h.gone
/-- one page cut off -/
theorem RzAt.cut {n : Nd} {size : Int} {K hn : Nat} {B4 : Option Addr} {c4 : Nat} {w : World} {k : Nat} {A3 : Option Addr} {c3 : Nat} {G G' : Value} {wr wx : World} {x : Int} (h : RzAt n size K hn B4 c4 w k A3 c3 G wr) (hk : K ≤ k) (hx : n.pages[k]? = some x) (hx0 : x ≠ 0)
    (ho : wx.ownsRow (w.heap.size + 2) 3 1 G' ((refsP ((n.pages.take k).drop K)).length + 1) ((refsP ((n.pages.take k).drop K)).map iv ++ [iv x])) (hgr : wr.grownBy wx G.ownBlock) (hat : G'.ownBlock = G.ownBlock ∨ G'.ownBlock = some wr.heap.size) :
    RzAt n size K hn B4 c4 w (k + 1) A3 c3 G' wx := by
  have e1 : (fitP n.pages K).take (k + 1) = (fitP n.pages K).take k := by rw [fit_full _ _ _ hk, fit_full _ _ _ (by omega)]
  have hap : ∀ b, (Value.slice A3 ((fitP n.pages K).take k).length c3).ownBlock = some b → G'.ownBlock ≠ some b := by
    intro b hb e'
    rcases hat with h1 | h1
    · exact h.apart b hb (by rw [← h1]; exact e')
    · rw [h1] at e'
      have hbb : wr.heap.size = b := by simpa using e'
      rcases h.row.2 with ⟨h0, _⟩ | ⟨g', cap, cur, hv, _, hh, _⟩
      · rw [h0] at hb; cases hb
      · rw [hv] at hb
        have : g' = b := by simpa [Value.ownBlock] using hb
        have := lt_of_block hh
        omega
  refine ⟨by rw [e1]; exact own_grown h.row hgr (fun b hb => h.apart b hb), ?_, by rw [e1]; exact hap, own_grown h.names hgr (own_ne' h.gone h.names (by decide)), by rw [e1]; exact h.own.grown hgr (own_ne h.gone h.own (by decide)), h.arg.grown hgr (own_ne h.gone h.arg (by decide)), h.res.grown hgr (own_ne h.gone h.res (by decide)), h.hn, h.below.grown hgr h.below.size (fun q e => Nat.le_trans (Nat.le_add_right _ 2) (own_base h.gone q e)), fun h0 => by omega⟩
  rw [gone_grow hk hx, if_neg hx0]
  unfold OwnI
  rw [List.length_append, List.map_append]
  exact ho
end Go.Proofs.Ytajmboolgekdeaa
