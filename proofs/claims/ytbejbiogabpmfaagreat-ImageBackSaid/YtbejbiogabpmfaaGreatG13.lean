import Derived.Test.YtbejbiogabpmfaaGreatG12
import Derived.Shelf.Spec.SlicesInsert
import Derived.Shelf.RegionOpenPlain
import Derived.Lib.Overlaps
import Derived.Lib.AppendZerosOnto
import Derived.Lib.Walk
import Derived.Laws.Externs
import Derived.Laws.NewBlocks
import Derived.Laws.Concat
import Derived.Test.YtbejbiogabpmfaaGreatLib
import Derived.Laws.RangeAny
import Derived.Laws.Runes
import Derived.ScopeJumps
import Derived.WalkMore
import Derived.Lib.OthersKept
import Derived.Lib.SmallJoins

namespace Go.Proofs.YtbejbiogabpmfaaGreat
open Wd Ino Go.RowKit Go.ChangeShapes Go.WideShapes Go.Sort
set_option linter.unusedVariables false
set_option maxRecDepth 100000

/-! slices.Insert of one name -/
/-- X laid at a, then D behind it -/
theorem row_xd {E X D R : List Value} {a b d : Nat} (hR : R.take a = E) (hX : X.length = b) (hD : D.length = d) (hl : a + b + d ≤ R.length) {R1 : List Value} (h1 : R.take a ++ X ++ R.drop (a + b) = R1) :
    (R1.take (a + b) ++ D ++ R1.drop (a + b + d)).take (a + b + d) = E ++ X ++ D ∧ (R1.take (a + b) ++ D ++ R1.drop (a + b + d)).length = R.length := by
  have hE : E.length = a := by rw [← hR, List.length_take]; omega
  have hR1 : R1.length = R.length := by rw [← h1]; simp; omega
  have ht : R1.take (a + b) = E ++ X := by rw [← h1, hR, List.take_append_of_le_length (by simp; omega), List.take_of_length_le (by simp; omega)]
  refine ⟨?_, by simp; omega⟩
  rw [ht, List.take_append_of_le_length (by simp; omega), List.take_of_length_le (by simp; omega)]
/-- D laid behind a place, then X at the place -/
theorem row_dx {E X D R : List Value} {a b d : Nat} (hR : R.take a = E) (hX : X.length = b) (hD : D.length = d) (hl : a + b + d ≤ R.length) {R1 : List Value} (h1 : R.take (a + b) ++ D ++ R.drop (a + b + d) = R1) :
    (R1.take a ++ X ++ R1.drop (a + b)).take (a + b + d) = E ++ X ++ D ∧ (R1.take a ++ X ++ R1.drop (a + b)).length = R.length := by
  have hE : E.length = a := by rw [← hR, List.length_take]; omega
  have hR1 : R1.length = R.length := by rw [← h1]; simp; omega
  have ht : R1.take a = E := by rw [← h1, List.append_assoc, List.take_append_of_le_length (by simp; omega), List.take_take, ← hR]; congr 1; omega
  have hd : (R1.drop (a + b)).take d = D := by
    rw [← h1, List.append_assoc, List.drop_append_of_le_length (by simp; omega), List.drop_of_length_le (by simp; omega), List.nil_append, List.take_append_of_le_length (by omega), List.take_of_length_le (by omega)]
  refine ⟨?_, by simp; omega⟩
  rw [ht, List.append_assoc, List.append_assoc, List.take_append, List.take_of_length_le (by omega), hE, List.take_append, List.take_of_length_le (by omega), hX, show a + b + d - a - b = d by omega, hd]
def insE (l : List Ent) (k : Nat) (x : Ent) : List Ent := l.take k ++ x :: l.drop k
theorem insE_end {l : List Ent} {n : Nat} (h : l.length = n) (x : Ent) : insE l n x = l ++ [x] := by subst h; simp [insE]
theorem insE_len (l : List Ent) (k : Nat) (x : Ent) (hk : k ≤ l.length) : (insE l k x).length = l.length + 1 := by simp [insE]; omega
set_option maxHeartbeats 4000000 in
theorem dInsEnd {w : World} {base : Nat} {A : Option Addr} {c n : Nat} {l : List Ent} (hn : l.length = n) (h : OwnE w base (.slice A n c) l) (hm : n ≤ 1000) (hbs : base ≤ w.heap.size) (x : Ent) (gb hi : Nat) (hx : Ens w hi (some ⟨gb, 0, none⟩) [x]) :
    Calls Tryz.prog 192 #[.slice A n c, .int .i64 n, .slice (some ⟨gb, 0, none⟩) 1 1] w (MadeAt (insE l n x) base w) := by
  have HO := Lib.hid h; have HX := Lib.hid hx; have HN := Lib.hid hn
  have HL := Lib.hid (show l.length + [x].length ≤ 100000 by simp; omega)
  have HBS := Lib.hid hbs
  have hnc : n ≤ c := by
    obtain ⟨A1, c1, hv, h2, _⟩ := h.form
    injection hv with _ h3 h4
    omega
  clear h hx hn
  by_cases hc : c = n
  · subst hc
    go_enter Tryz.func192, Tryz.ntmps192
    go_wp2_with (at_builtin; refine wpList_append_ens (m := [x]) rfl (.tmp 23) (.tmp 24) rfl rfl rfl HO.out HX.out HL.out HBS.out ?_; intro v5 w5 hown5 hgr5 hat5; have HO5 := Lib.hid hown5; have HG5 := Lib.hid hgr5; clear hown5 hgr5 hat5)
    go_ret
    refine ⟨_, rfl, ?_, (Below.refl base w).grown HG5.out HBS.out (ownE_base HO.out)⟩
    rw [insE_end HN.out]
    exact HO5.out
  · have hc2 : ¬ (n = c) := fun e => hc e.symm
    go_enter Tryz.func192, Tryz.ntmps192
    go_wp2_with (at_builtin; refine wpList_append_ens (m := [x]) rfl (.tmp 23) (.tmp 24) rfl rfl rfl HO.out HX.out HL.out HBS.out ?_; intro v5 w5 hown5 hgr5 hat5; have HO5 := Lib.hid hown5; have HG5 := Lib.hid hgr5; clear hown5 hgr5 hat5)
    go_ret
    refine ⟨_, rfl, ?_, (Below.refl base w).grown HG5.out HBS.out (ownE_base HO.out)⟩
    rw [insE_end HN.out]
    exact HO5.out

theorem cells_src {w : World} {g c n : Nat} {t : TypeId} {cur : Array Value} {l : List Ent} (hc : Cells w g t cur) (ht : cur.toList.take (n * 2) = evals l) (k : Nat) (j : Nat) (v : Value) (h : (evals (l.drop k))[j]? = some v) : w.cell? ⟨g, k * 2 + j, none⟩ = some v := by
  rw [evals_drop, List.getElem?_drop, ← ht, List.getElem?_take] at h
  rw [hc.cell, ← Array.getElem?_toList]
  split at h
  · exact h
  · cases h
theorem addr_lit (g o j : Nat) : (⟨g, o, none⟩ : Addr).add j = ⟨g, o + j, none⟩ := by unfold Addr.add; split <;> simp_all
set_option maxHeartbeats 8000000 in
theorem dInsGrow {w : World} {base g c n k : Nat} {l : List Ent} (hn : l.length = n) (h : OwnE w base (.slice (some ⟨g, 0, none⟩) n c) l) (hm : n ≤ 1000) (hbs : base ≤ w.heap.size) (hk : k < n) (hroom : c < n + 1) (x : Ent) (gb hi : Nat) (hx : Cells w gb 103 (ecells x)) :
    Calls Tryz.prog 192 #[.slice (some ⟨g, 0, none⟩) n c, .int .i64 k, .slice (some ⟨gb, 0, none⟩) 1 1] w (MadeAt (insE l k x) base w) := by
  obtain ⟨i, i1, i2, i3, i4⟩ := info_parts infoE
  obtain ⟨g', cap, cur, hv, hbg, hcs, h1, h2, hsz, htk⟩ := h.block (by omega)
  injection hv with hv1 hv2 hv3
  injection hv1 with hv1
  injection hv1 with hv1 _ _
  clear hv2
  subst hv1 hv3
  have hgw : g < w.heap.size := hcs.lt
  -- the first k, and zeros behind them
  have hold : (Builtin.firstCells i.size k (.slice (some ⟨g, 0, none⟩) k c)).run Tryz.prog w.drew = .ok (evals (l.take k)).toArray w.drew := by
    rw [i3]
    exact run_firstCells_some w.drew 2 k ⟨g, 0, none⟩ k c (evals (l.take k)) (by rw [evals_len, List.length_take]; omega) (fun j v hj => by
      rw [addr_lit]
      rw [evals_take, List.getElem?_take] at hj
      split at hj
      · have := cells_src (c := c) hcs htk 0 j v (by simpa using hj)
        simpa using this
      · cases hj)
  obtain ⟨G, hG⟩ : ∃ G, G = grownCap w (n + 1) c 103 := ⟨_, rfl⟩
  have hik : k + (n + 1 - k) = n + 1 := by omega
  have hrz := fun ty => Lib.run_append_grow_zeros w 49 3 ty 103 i _ .i64 .i64 Tryz.underlying49 Tryz.underlying3 i1 i2 (some ⟨g, 0, none⟩) k c (evals (l.take k)) hold (n + 1 - k) (by omega) (by omega) (by omega) (by omega) (by rw [i4]; omega) (by rw [i4, hik]; exact growslice_fits (by omega) (by omega))
  rw [hik, ← hG] at hrz
  have hcx := hx
  obtain ⟨NB, hNB⟩ : ∃ NB, w.heap.size = NB := ⟨_, rfl⟩
  obtain ⟨ROW, hROW⟩ : ∃ ROW : Array Value, (evals (l.take k)).toArray ++ Builtin.zeroCells zE.cells (n + 1 - k) ++ Builtin.zeroCells zE.cells (G - (n + 1)) = ROW := ⟨_, rfl⟩
  change ∀ ty, _ = Result.ok _ (w.drew.alloc (.cells ((evals (l.take k)).toArray ++ Builtin.zeroCells zE.cells (n + 1 - k) ++ Builtin.zeroCells zE.cells (G - (n + 1))) 103)) at hrz
  rw [hROW, hNB] at hrz
  have hGn : n + 1 ≤ G := by rw [hG]; exact grownCap_ge w _ _ _
  have hGm : G ≤ maxLen := by rw [hG]; exact grownCap_le_maxLen w (n + 1) c 103 (by unfold maxLen; omega)
  have hRs : ROW.size = G * 2 := by
    rw [← hROW, Array.size_append, Array.size_append, zE_size, zE_size, List.size_toArray, evals_len, List.length_take]
    omega
  have hRt : ROW.toList.take (k * 2) = evals (l.take k) := by
    rw [← hROW, Array.toList_append, Array.toList_append, List.toList_toArray, List.append_assoc, List.take_append_of_le_length (by rw [evals_len, List.length_take]; omega), List.take_of_length_le (by rw [evals_len, List.length_take]; omega)]
  obtain ⟨W1, hW1⟩ : ∃ W1, w.drew.alloc (.cells ROW 103) = W1 := ⟨_, rfl⟩
  have b1 : Below w.heap.size w W1 := by rw [← hW1]; exact (Below.refl _ w).drew.alloc (Nat.le_refl _) _
  have c1 : Cells W1 NB 103 ROW := by rw [← hW1, ← hNB]; exact Cells.new w.drew _ _
  rw [hW1] at hrz
  have g1 : Cells W1 g 103 cur := hcs.below b1 hgw
  have x1 : Cells W1 gb 103 (ecells x) := hcx.below b1 hcx.lt
  -- the name
  obtain ⟨R1, hR1⟩ : ∃ R1, ROW.toList.take (k * 2) ++ evals [x] ++ ROW.toList.drop (k * 2 + 2) = R1 := ⟨_, rfl⟩
  have hRl : ROW.toList.length = G * 2 := by rw [Array.length_toList, hRs]
  have hR1l : R1.length = G * 2 := by rw [← hR1]; simp [evals_len]; omega
  have hcpA := fun ty dc => copy_ents W1 ty NB (k * 2) (n + 1 - k) dc ⟨gb, 0, none⟩ 1 1 ROW _ [x] c1 (by show 1 = min 1 (n + 1 - k); omega) (fun j v hj => by
    rw [addr_lit, Nat.zero_add, x1.cell j, ← Array.getElem?_toList]; exact hj) (by rw [hRs]; simp; omega)
  have e1 : k * 2 + [x].length * 2 = k * 2 + 2 := by simp
  rw [e1, hR1] at hcpA
  obtain ⟨W2, hW2⟩ : ∃ W2, W1.setRow NB R1.toArray = W2 := ⟨_, rfl⟩
  rw [hW2] at hcpA
  have b2 : Below w.heap.size w W2 := by rw [← hW2]; exact b1.trans (below_setRow (by omega))
  have c2 : Cells W2 NB 103 R1.toArray := by rw [← hW2]; exact cells_setRow c1
  have g2 : Cells W2 g 103 cur := hcs.below b2 hgw
  -- what stood from k on
  have hdl : (l.drop k).length = n - k := by rw [List.length_drop, hn]
  have hcpB := fun ty dc sc => copy_ents W2.drew ty NB ((k + 1) * 2) (n + 1 - (k + 1)) dc ⟨g, k * 2, none⟩ (n - k) sc R1.toArray _ (l.drop k) c2 (by rw [hdl]; show n - k = min (n - k) (n + 1 - (k + 1)); omega) (fun j v hj => by
    rw [addr_lit]; exact cells_src (c := c) g2 htk k j v hj) (by rw [hdl, List.size_toArray, hR1l]; omega)
  rw [hdl, List.toList_toArray] at hcpB
  have hrow := row_xd (E := evals (l.take k)) (X := evals [x]) (D := evals (l.drop k)) (a := k * 2) (b := 2) (d := (n - k) * 2) hRt rfl (by rw [evals_len, hdl]) (by rw [hRl]; omega) hR1
  rw [show k * 2 + 2 = (k + 1) * 2 by omega] at hrow
  obtain ⟨R2, hR2⟩ : ∃ R2, R1.take ((k + 1) * 2) ++ evals (l.drop k) ++ R1.drop ((k + 1) * 2 + (n - k) * 2) = R2 := ⟨_, rfl⟩
  rw [hR2] at hcpB hrow
  obtain ⟨W3, hW3⟩ : ∃ W3, W2.drew.setRow NB R2.toArray = W3 := ⟨_, rfl⟩
  rw [hW3] at hcpB
  have b3 : Below w.heap.size w W3 := by rw [← hW3]; exact b2.drew.trans (below_setRow (by omega))
  have c3 : Cells W3 NB 103 R2.toArray := by rw [← hW3]; exact cells_setRow (w := W2.drew) c2
  have hown : OwnE W3 base (.slice (some ⟨NB, 0, none⟩) (n + 1) G) (insE l k x) := by
    refine OwnE.of (by rw [insE_len _ _ _ (by omega), hn]) (by omega) c3 hGn hGm (by rw [List.size_toArray, hrow.2, hRl]) ?_
    rw [List.toList_toArray, show (n + 1) * 2 = (k + 1) * 2 + (n - k) * 2 by omega, hrow.1]
    show _ = evals (l.take k ++ ([x] ++ l.drop k))
    rw [evals_append, evals_append, List.append_assoc]
  have mixed : Tryz.prog.follows .mixedOrders = true := by kernel_rfl
  have HOW := Lib.hid hown
  have HB3 := Lib.hid (b3.mono hbs)
  have hw1 : IntKind.i64.wrap ((k : Int) + 1) = (k : Int) + 1 := by rw [IntKind.wrap_i64]; omega
  have hb1 : (0 : Int) ≤ (k : Int) + 1 := by omega
  have htn : ((k : Int) + 1).toNat = k + 1 := by omega
  have hkk : (n : Int) + 1 - (k : Int) = ((n + 1 - k : Nat) : Int) := by omega
  have hGi : ¬ (G = k) := by omega
  have hGim : ¬ (G = k + 1) := by omega
  have hci : ¬ (c = k) := by omega
  have hk0 : (0 : Int) ≤ (k : Int) := by omega
  have hkn : (k : Int) ≤ (n : Int) := by omega
  have hne : ((k : Int) == (n : Int)) = false := beq_eq_false_iff_ne.2 (by omega)
  have hwk : IntKind.i64.wrap ((n : Int) + 1 - (k : Int)) = (n : Int) + 1 - (k : Int) := by rw [IntKind.wrap_i64]; omega
  have hwn : IntKind.i64.wrap ((n : Int) + 1) = (n : Int) + 1 := by rw [IntKind.wrap_i64]; omega
  have hgt : decide ((c : Int) < (n : Int) + 1) = true := decide_eq_true (by omega)
  clear hold hik hROW hRs hRt hW1 hW2 hW3 hR1 hR2 hRl hR1l hrow hown b1 b2 b3 c1 c2 c3 g1 g2 x1 e1 hdl hcs htk hsz hG hGm hx hcx i1 i2 i3 i4 h hgw hNB
  go_enter Tryz.func192, Tryz.ntmps192
  go_wp2_with (first
    | (at_builtin; refine Lib.wpList_append_run _ rfl _ _ _ _ rfl _ _ rfl rfl _ _ (hrz _) ?_)
    | (at_builtin; refine wpList_copy_runI _ rfl _ _ 49 49 rfl _ _ rfl rfl (hcpA _ _) ?_))
  go_region_law_o (refine step_copy_runI rfl _ _ 49 49 rfl (.slice (some ⟨NB, (k + 1) * 2, none⟩) (n + 1 - (k + 1)) (G - (k + 1))) (.slice (some ⟨g, k * 2, none⟩) (n - k) (c - k)) (by simp [Act.eval, Act.put]) (by simp [Act.eval, Act.put]) (hcpB 3 (G - (k + 1)) (c - k)) ?_)
  go_wp2
  go_ret
  exact ⟨_, rfl, HOW.out, HB3.out⟩

set_option maxHeartbeats 8000000 in
theorem dInsShift {w : World} {base g c n k : Nat} {l : List Ent} (hn : l.length = n) (h : OwnE w base (.slice (some ⟨g, 0, none⟩) n c) l) (hm : n ≤ 1000) (hbs : base ≤ w.heap.size) (hk : k < n) (hroom : n + 1 ≤ c) (x : Ent) (gb : Nat) (hx : Cells w gb 103 (ecells x)) (hgg : gb ≠ g) :
    Calls Tryz.prog 192 #[.slice (some ⟨g, 0, none⟩) n c, .int .i64 k, .slice (some ⟨gb, 0, none⟩) 1 1] w (MadeAt (insE l k x) base w) := by
  obtain ⟨i, i1, i2, i3, i4⟩ := info_parts infoE
  obtain ⟨g', cap, cur, hv, hbg, hcs, h1, h2, hsz, htk⟩ := h.block (by omega)
  injection hv with hv1 hv2 hv3
  injection hv1 with hv1
  injection hv1 with hv1 _ _
  clear hv2
  subst hv1 hv3
  have hov : ∀ lb cb, (callFunc 198 #[.slice (some ⟨gb, 0, none⟩) 1 1, .slice (some ⟨g, (k + 1) * 2, none⟩) lb cb]).run Tryz.prog w = .ok (.value (.bool false)) w := fun lb cb => by
    rw [run_callFunc_extern Tryz.func198 (by kernel_rfl) (by kernel_rfl) (by kernel_rfl) (e := Extern.SlicesOverlaps.overlaps #[49, 49] #[4]) (by kernel_rfl),
      Lib.run_overlaps_apart w 49 4 103 Tryz.underlying49 2 (fun w => by simp [Go.sizeOf, typeInfo, i1, i3]) ⟨gb, 0, none⟩ ⟨g, (k + 1) * 2, none⟩ 1 1 lb cb hgg 103 103 2 (c * 2)
        (by unfold World.shape?; rw [show w.heap[gb]? = _ from hx]; rfl) (by unfold World.shape?; rw [show w.heap[g]? = _ from hcs]; simp [hsz]) (by omega) (hx.free _) (hx.free _)]
    rfl
  have hdl : (l.drop k).length = n - k := by rw [List.length_drop, hn]
  -- what stands from k on
  have hcl : cur.toList.length = c * 2 := by rw [Array.length_toList, hsz]
  obtain ⟨R1, hR1⟩ : ∃ R1, cur.toList.take (k * 2 + 2) ++ evals (l.drop k) ++ cur.toList.drop (k * 2 + 2 + (n - k) * 2) = R1 := ⟨_, rfl⟩
  have hR1l : R1.length = c * 2 := by rw [← hR1]; simp [evals_len]; omega
  have hcpB := fun ty dc sc => copy_ents w.drew ty g ((k + 1) * 2) (n + 1 - (k + 1)) dc ⟨g, k * 2, none⟩ (n + 1 - k) sc cur _ (l.drop k) hcs (by rw [hdl]; show n - k = min (n + 1 - k) (n + 1 - (k + 1)); omega) (fun j v hj => by
    rw [addr_lit]; exact cells_src (c := c) (w := w.drew) hcs htk k j v hj) (by rw [hdl, hsz]; omega)
  rw [hdl, show (k + 1) * 2 = k * 2 + 2 by omega, hR1] at hcpB
  obtain ⟨W2, hW2⟩ : ∃ W2, w.drew.setRow g R1.toArray = W2 := ⟨_, rfl⟩
  rw [hW2] at hcpB
  have b2 : Below base w W2 := by rw [← hW2]; exact (Below.refl base w).drew.trans (below_setRow hbg)
  have c2 : Cells W2 g 103 R1.toArray := by rw [← hW2]; exact cells_setRow (w := w.drew) hcs
  have x2 : Cells W2 gb 103 (ecells x) := by
    rw [← hW2]
    show (w.drew.setRow g R1.toArray).heap[gb]? = _
    rw [setRow_other _ _ _ _ hgg]
    exact hx
  -- the name
  obtain ⟨R2, hR2⟩ : ∃ R2, R1.take (k * 2) ++ evals [x] ++ R1.drop (k * 2 + 2) = R2 := ⟨_, rfl⟩
  have hcpA := fun ty dc => copy_ents W2 ty g (k * 2) (n + 1 - k) dc ⟨gb, 0, none⟩ 1 1 R1.toArray _ [x] c2 (by show 1 = min 1 (n + 1 - k); omega) (fun j v hj => by
    rw [addr_lit, Nat.zero_add, x2.cell j, ← Array.getElem?_toList]; exact hj) (by rw [List.size_toArray, hR1l]; simp; omega)
  have e1 : k * 2 + [x].length * 2 = k * 2 + 2 := by simp
  rw [e1, List.toList_toArray, hR2] at hcpA
  obtain ⟨W3, hW3⟩ : ∃ W3, W2.setRow g R2.toArray = W3 := ⟨_, rfl⟩
  rw [hW3] at hcpA
  have b3 : Below base w W3 := by rw [← hW3]; exact b2.trans (below_setRow hbg)
  have c3 : Cells W3 g 103 R2.toArray := by rw [← hW3]; exact cells_setRow c2
  have hRt : cur.toList.take (k * 2) = evals (l.take k) := by
    rw [evals_take, ← htk, List.take_take]
    congr 1
    omega
  have hrow := row_dx (E := evals (l.take k)) (X := evals [x]) (D := evals (l.drop k)) (a := k * 2) (b := 2) (d := (n - k) * 2) hRt rfl (by rw [evals_len, hdl]) (by rw [hcl]; omega) hR1
  rw [hR2] at hrow
  have hown : OwnE W3 base (.slice (some ⟨g, 0, none⟩) (n + 1) c) (insE l k x) := by
    refine OwnE.of (by rw [insE_len _ _ _ (by omega), hn]) hbg c3 hroom h2 (by rw [List.size_toArray, hrow.2, hcl]) ?_
    rw [List.toList_toArray, show (n + 1) * 2 = k * 2 + 2 + (n - k) * 2 by omega, hrow.1]
    show _ = evals (l.take k ++ ([x] ++ l.drop k))
    rw [evals_append, evals_append, List.append_assoc]
  have mixed : Tryz.prog.follows .mixedOrders = true := by kernel_rfl
  have HOW := Lib.hid hown
  have HB3 := Lib.hid b3
  rw [show k * 2 + 2 = (k + 1) * 2 by omega] at hcpB
  have hw1 : IntKind.i64.wrap ((k : Int) + 1) = (k : Int) + 1 := by rw [IntKind.wrap_i64]; omega
  have hb1 : (0 : Int) ≤ (k : Int) + 1 := by omega
  have htn : ((k : Int) + 1).toNat = k + 1 := by omega
  have hci : ¬ (c = k) := by omega
  have hci1 : ¬ (c = k + 1) := by omega
  have hk0 : (0 : Int) ≤ (k : Int) := by omega
  have hkn : (k : Int) ≤ (n : Int) := by omega
  have hkn1 : (k : Int) ≤ (n : Int) + 1 := by omega
  have hkn2 : (k : Int) + 1 ≤ (n : Int) + 1 := by omega
  have hne : ((k : Int) == (n : Int)) = false := beq_eq_false_iff_ne.2 (by omega)
  have hwn : IntKind.i64.wrap ((n : Int) + 1) = (n : Int) + 1 := by rw [IntKind.wrap_i64]; omega
  have hgt : decide ((c : Int) < (n : Int) + 1) = false := decide_eq_false (by omega)
  have hn1 : ((n : Int) + 1).toNat = n + 1 := by omega
  have hn1c : (n : Int) + 1 ≤ (c : Int) := by omega
  have hnn : (0 : Int) ≤ (n : Int) + 1 := by omega
  clear hW2 hW3 hR1 hR2 hcl hR1l hrow hown b2 b3 c2 c3 x2 e1 hdl hcs htk hsz i1 i2 i3 i4 h hRt hx
  go_enter Tryz.func192, Tryz.ntmps192
  go_wp2_with (simp only [hov])
  go_region_law_o (refine step_copy_runI rfl _ _ 49 49 rfl (.slice (some ⟨g, (k + 1) * 2, none⟩) (n + 1 - (k + 1)) (c - (k + 1))) (.slice (some ⟨g, k * 2, none⟩) (n + 1 - k) (c - k)) (by simp [Act.eval, Act.put]) (by simp [Act.eval, Act.put]) (hcpB 3 (c - (k + 1)) (c - k)) ?_)
  go_wp2_with (at_builtin; refine wpList_copy_runI _ rfl _ _ 49 49 rfl _ _ rfl rfl (hcpA _ _) ?_)
  go_ret
  exact ⟨_, rfl, HOW.out, HB3.out⟩

/-- wherever it is laid -/
theorem dIns {w : World} {base n c k : Nat} {A : Option Addr} {l : List Ent} (hn : l.length = n) (h : OwnE w base (.slice A n c) l) (hm : n ≤ 1000) (hbs : base ≤ w.heap.size) (hk : k ≤ n) (x : Ent) (gb : Nat) (hx : Cells w gb 103 (ecells x)) (hgg : ∀ q, (Value.slice A n c).ownBlock = some q → gb ≠ q) :
    Calls Tryz.prog 192 #[.slice A n c, .int .i64 k, .slice (some ⟨gb, 0, none⟩) 1 1] w (MadeAt (insE l k x) base w) := by
  by_cases hkn : k = n
  · subst hkn
    exact dInsEnd hn h hm hbs x gb (gb + 1) (ens_one hx (Nat.lt_succ_self _))
  · obtain ⟨g, cap, cur, hv, hbg, hcs, h1, h2, hsz, htk⟩ := h.block (by omega)
    injection hv with hv1 hv2 hv3
    subst hv1 hv3
    by_cases hr : n + 1 ≤ c
    · exact dInsShift hn h hm hbs (by omega) hr x gb hx (hgg g rfl)
    · exact dInsGrow (hi := 0) hn h hm hbs (by omega) (by omega) x gb hx
end Go.Proofs.YtbejbiogabpmfaaGreat

namespace Go.Proofs.YtbejbiogabpmfaaGreat
open Wd Go.ChangeShapes Go.WideShapes Go.RowKit Go.Sort
set_option linter.unusedVariables false

def AlikeS (xs ys : List ByteArray) (W : World) (i : Value) (w : World) : Prop := ∃ k d : Nat, k ≤ xs.length ∧ i = .int .i64 k ∧ xs.take k = ys.take k ∧ w = W.drewN d

end Go.Proofs.YtbejbiogabpmfaaGreat

namespace Go.Proofs.YtbejbiogabpmfaaGreat
open Wd Go.ChangeShapes Go.WideShapes Go.RowKit Go.Sort
set_option linter.unusedVariables false

/-- a slash ahead of each -/
def slashed (l : List (List UInt8)) : List UInt8 := l.flatMap (fun p => 47 :: p)
def joinN (l : List (List UInt8)) : List UInt8 := if l = [] then [47] else slashed l
def JoinRel (ls : List ByteArray) (W : World) (iv sv : Value) (w : World) : Prop := ∃ (k : Nat) (b : ByteArray), k ≤ ls.length ∧ iv = .int .i64 k ∧ sv = .string b ∧ b.toList = slashed ((ls.map ByteArray.toList).take k) ∧ w = W
def TextIs (l : List UInt8) (W : World) (e : Ending) (w : World) : Prop := ∃ b : ByteArray, e = .returned (.string b) ∧ b.toList = l ∧ W = w
end Go.Proofs.YtbejbiogabpmfaaGreat

namespace Go.Proofs.YtbejbiogabpmfaaGreat
set_option linter.unusedVariables false

end Go.Proofs.YtbejbiogabpmfaaGreat

/-
  strings.IndexRune AT A RUNE THAT IS NOT ASCII, IN A TEXT THAT IS ASCII: it is not there.
-/
namespace Go.Proofs.YtbejbiogabpmfaaGreat
open Wd Go.ChangeShapes Go.WideShapes Go.RowKit Go.Sort
set_option linter.unusedVariables false

def Ascii (s : ByteArray) : Prop := ∀ (j : Nat) b, s.data.toList[j]? = some b → b.toNat < 128

set_option maxRecDepth 100000 in
set_option maxHeartbeats 4000000 in
/-- the rune that stands for none: chars is gone through -/
theorem rune_err (s : ByteArray) (hs : Ascii s) (w : World) : Calls Tryz.prog 201 #[.string s, .int .i32 65533] w (Grows (.int .i64 (-1)) w) := by
  have HS := Lib.hid hs
  clear hs
  go_enter Tryz.func201, Tryz.ntmps201
  go_wp2_with fail
  go_loopg [5, 6] s.size (fun g _ _ wx => ∃ i : Nat, i + g = s.size ∧ wx = w.iter s i)
  case atStart => exact ⟨0, by omega, rfl⟩
  case round =>
    obtain ⟨i, hig, rfl⟩ := hrel
    cases gk with
    | zero =>
      obtain rfl : i = s.size := by omega
      have hnx := fun ty => run_next_end (P := Tryz.prog) w s s.size ty (by omega)
      go_wp2
      go_ret
      exact ⟨rfl, grow_one w _⟩
    | succ g =>
      have hi : i < s.size := by omega
      obtain ⟨x, hx⟩ : ∃ x : UInt8, s[i]'hi = x := ⟨_, rfl⟩
      have hxl : s.data.toList[i]? = some x := by rw [← hx]; exact Lib.data_getElem? s i hi
      have hx128 : x.toNat < 128 := HS.out i x hxl
      have hnx := fun ty => run_next_ascii (P := Tryz.prog) w s i ty hi (by rw [hx]; exact hx128)
      rw [hx] at hnx
      have hne : ((x.toNat : Int) == 65533) = false := beq_eq_false_iff_ne.2 (by omega)
      clear hxl hx
      go_wp2
      go_roundg g
      case measure => omega
      case rel => exact ⟨i + 1, by omega, rfl⟩

set_option maxRecDepth 100000 in
set_option maxHeartbeats 4000000 in
/-- a rune that is none -/
theorem rune_bad (s : ByteArray) (r : Int) (h128 : 128 ≤ r) (hne : r ≠ 65533) (hv : Lib.validRune r = false) (w : World) : Calls Tryz.prog 201 #[.string s, .int .i32 r] w (Grows (.int .i64 (-1)) w) := by
  have h1 : ¬ r < 128 := by omega
  have h2 : (r == 65533) = false := beq_eq_false_iff_ne.2 hne
  have HV := Lib.hid hv
  clear hv
  go_enter Tryz.func201, Tryz.ntmps201
  go_wp2_with fail
  refine (Tryz.utf8_ValidRune _ _).mono ?_
  rintro e w1 ⟨rfl, rfl⟩
  rw [HV.out]
  go_wp2
  go_ret
  exact ⟨rfl, grow_none _⟩

/-- a byte that is not ASCII is none of an ASCII text's -/
theorem index_none (l : List UInt8) (c : UInt8) (h : ∀ b ∈ l, b ≠ c) : Lib.indexByte l c = -1 := by
  induction l with
  | nil => rfl
  | cons b l ih =>
    have hb : (b == c) = false := beq_eq_false_iff_ne.2 (h b (by simp))
    rw [Lib.indexByte, ih (fun x hx => h x (by simp [hx])), hb]
    rfl
theorem index_far (s : ByteArray) (hs : Ascii s) (f t : Nat) (y : UInt8) (hy : 128 ≤ y.toNat) (w : World) : Calls Tryz.prog 206 #[.string (s.extract f t), .int .u8 y.toNat] w fun e w' => e = .returned (.int .i64 (-1)) ∧ w = w' := by
  refine (Tryz.strings_IndexByte _ _ _).mono ?_
  rintro e w1 ⟨rfl, rfl⟩
  refine ⟨?_, rfl⟩
  rw [index_none]
  intro b hb e
  have h1 : b ∈ s.data.toList := mem_extract hb
  obtain ⟨j, hj, hjb⟩ := List.getElem_of_mem h1
  have h2 := hs j b (by rw [List.getElem?_eq_getElem hj, hjb])
  have e2 : ((y.toNat : Int)).toNat.toUInt8 = y := by simp
  rw [e2] at e
  rw [e] at h2
  omega

set_option maxRecDepth 100000 in
set_option maxHeartbeats 4000000 in
/-- any other rune: its last byte is none of s -/
theorem rune_far (s : ByteArray) (hs : Ascii s) (r : Int) (h128 : 128 ≤ r) (hne : r ≠ 65533) (hv : Lib.validRune r = true) (w : World) : Calls Tryz.prog 201 #[.string s, .int .i32 r] w (Grows (.int .i64 (-1)) w) := by
  have h1 : ¬ r < 128 := by omega
  have h2 : (r == 65533) = false := beq_eq_false_iff_ne.2 hne
  obtain ⟨e1, e2, e3⟩ := encode_facts r (by rw [validRune_eq]; exact hv) h128
  obtain ⟨rs, hrs⟩ : ∃ rs, Utf8.encode r = rs := ⟨_, rfl⟩
  rw [hrs] at e1 e2 e3
  obtain ⟨m, hm⟩ : ∃ m : Nat, rs.size = m + 1 := ⟨rs.size - 1, by omega⟩
  have HV := Lib.hid hv; have HS := Lib.hid hs
  clear hv hs
  go_enter Tryz.func201, Tryz.ntmps201
  go_wp2_with fail
  refine (Tryz.utf8_ValidRune _ _).mono ?_
  rintro e w1 ⟨rfl, rfl⟩
  rw [HV.out]
  go_wp2
  go_step3
  go_wp2
  have em : ∀ h : m < rs.size, 128 ≤ (rs[m]'h).toNat := fun h => by
    have := e3 (by omega)
    simpa [hm] using this
  have EM := Lib.hid em
  clear e3 em
  go_loopw [9, 10] (fun s9 _ wx => s9 = .int .i64 m ∧ wx = w1) (fun _ _ _ => 0)
  case atStart => exact ⟨rfl, rfl⟩
  case round =>
    obtain ⟨rfl, rfl⟩ := hrel
    by_cases hlt : m < s.size
    · obtain ⟨x, hx⟩ : ∃ x : UInt8, s[m]'hlt = x := ⟨_, rfl⟩
      obtain ⟨y, hy⟩ : ∃ y : UInt8, rs[m]'(by omega) = y := ⟨_, rfl⟩
      have hx1 : x.toNat < 128 := HS.out m x (by rw [← hx]; exact Lib.data_getElem? s m hlt)
      have hy1 : 128 ≤ y.toNat := by rw [← hy]; exact EM.out _
      have hxy : ((x.toNat : Int) != (y.toNat : Int)) = true := by rw [bne_iff_ne]; omega
      go_wp2
      go_step3
      go_wp2
      go_quiet (skip)
      go_wp2
      go_quiet ((go_at_call 206; exact quiet_eq2 (index_far s HS.out (m + 1) s.size y hy1 _)))
      go_wp2
      go_ret
      exact ⟨rfl, grow_drewN (grow_none _) _⟩
    · go_wp2
      go_ret
      exact ⟨rfl, grow_none _⟩
end Go.Proofs.YtbejbiogabpmfaaGreat

/-
  strings.ContainsAny OF WHATEVER TEXT, FOR SOME ASCII BYTES: whether one of its bytes is among them.
-/
namespace Go.Proofs.YtbejbiogabpmfaaGreat
open Wd Go.ChangeShapes Go.WideShapes Go.RowKit Go.Sort
set_option linter.unusedVariables false

/-- a rune above 127 is none of an ASCII text's -/
theorem rune_any (s : ByteArray) (hs : Ascii s) (r : Int) (h128 : 128 ≤ r) (w : World) : Calls Tryz.prog 201 #[.string s, .int .i32 r] w (Grows (.int .i64 (-1)) w) := by
  by_cases hne : r = 65533
  · subst hne; exact rune_err s hs w
  · cases hv : Lib.validRune r with
    | false => exact rune_bad s r h128 hne hv w
    | true => exact rune_far s hs r h128 hne hv w

/-- all bytes of a rune that is not ASCII are not -/
theorem decode_cont (s : ByteArray) (pos : Nat) (h : pos < s.size) (ha : 128 ≤ (s[pos]'h).toNat) (j : Nat) : j < (Utf8.decode s pos).2 → pos + j < s.size ∧ 128 ≤ (s.get! (pos + j)).toNat := by
  have hn : ¬ (s[pos]'h).toNat < 128 := by omega
  have h0 : 128 ≤ (s.get! (pos + 0)).toNat := by rw [get_at s pos h]; exact ha
  simp only [Utf8.decode, get_at s pos h, hn, if_false]
  repeat' split
  all_goals
    intro hj
    have hj' : j = 0 ∨ j = 1 ∨ j = 2 ∨ j = 3 := by simp at hj; omega
    rcases hj' with rfl | rfl | rfl | rfl <;> simp_all <;> omega

theorem noany_far {s : ByteArray} {cs : List UInt8} {i : Nat} (hc : ∀ b ∈ cs, b.toNat < 128) (h : Lib.NoAny s.data.toList cs i) (d : Nat) (hd : ∀ j, j < d → 128 ≤ (s.get! (i + j)).toNat) : Lib.NoAny s.data.toList cs (i + d) := by
  intro j b hj hb
  by_cases hji : j < i
  · exact h j b hji hb
  · have h1 := hd (j - i) (by omega)
    rw [show i + (j - i) = j by omega] at h1
    have hjs : j < s.size := by have := (List.getElem?_eq_some_iff.1 hb).1; rw [Lib.size_eq]; exact this
    have h2 : s.get! j = b := by
      have h3 := Lib.data_getElem? s j hjs
      rw [hb] at h3
      have h4 := Option.some.inj h3
      rw [h4]
      have := get_at s j hjs
      simpa using this
    rw [h2] at h1
    rw [Bool.eq_false_iff, Ne, List.contains_iff_mem]
    intro hm
    have := hc b hm
    omega

/-- the iterator stands in the first block that was made -/
def ItAt (s : ByteArray) (i : Nat) (w wx : World) : Prop := wx.heap[w.heap.size]? = some (.stringIter s i) ∧ ∃ q os, wx = grow (w.drewN q) os
theorem ItAt.first (s : ByteArray) (w : World) : ItAt s 0 w (w.iter s 0) := ⟨w.iter_heap s 0, grow_one w _⟩
theorem ItAt.set {s : ByteArray} {i : Nat} {w wx : World} (h : ItAt s i w wx) (i' : Nat) : ItAt s i' w (wx.iterAt w.heap.size s i') := by
  refine ⟨Lib.iterAt_heap wx _ s i i' h.1, ?_⟩
  obtain ⟨q, os, rfl⟩ := h.2
  refine ⟨q, os.setIfInBounds 0 (.stringIter s i'), ?_⟩
  unfold World.iterAt grow
  congr 1
  apply Array.ext_getElem?
  intro k
  show ((w.heap ++ os).setIfInBounds w.heap.size _)[k]? = (w.heap ++ os.setIfInBounds 0 _)[k]?
  rw [Array.getElem?_setIfInBounds, Array.getElem?_append, Array.getElem?_append, Array.getElem?_setIfInBounds]
  by_cases hk : k < w.heap.size
  · rw [if_pos hk, if_pos hk, if_neg (by omega)]
  · rw [if_neg hk, if_neg hk]
    by_cases hk2 : w.heap.size = k
    · subst hk2; simp
    · rw [if_neg hk2, if_neg (by omega)]
theorem ItAt.more {s : ByteArray} {i : Nat} {w wx wy : World} (h : ItAt s i w wx) (hg : ∃ q os, wy = grow (wx.drewN q) os) : ItAt s i w wy := by
  refine ⟨?_, grow_trans h.2 hg⟩
  obtain ⟨q, os, rfl⟩ := hg
  have hlt : w.heap.size < wx.heap.size := (Array.getElem?_eq_some_iff.1 h.1).1
  exact (heap_grow_old (wx.drewN q) os hlt).trans h.1

set_option maxRecDepth 100000 in
set_option maxHeartbeats 8000000 in
theorem any_short (s chars : ByteArray) (hc : Ascii chars) (h2 : 2 ≤ chars.size) (h8 : s.size ≤ 8) (w : World) :
    Calls Tryz.prog 197 #[.string s, .string chars] w (Grows (.int .i64 (Lib.indexAny s.data.toList chars.data.toList)) w) := by
  have hemp : chars.toList.isEmpty = false := by
    rw [Lib.toList_data]
    cases h : chars.data.toList with
    | nil => have := Lib.size_eq chars; rw [h, List.length_nil] at this; omega
    | cons _ _ => rfl
  have hn1 : ((chars.size : Int) == 1) = false := beq_eq_false_iff_ne.2 (by omega)
  have h8z : decide ((8 : Int) < (s.size : Int)) = false := decide_eq_false (by omega)
  have HC := Lib.hid hc
  have hmem : ∀ b ∈ chars.data.toList, b.toNat < 128 := by
    intro b hb
    obtain ⟨j, hj, rfl⟩ := List.getElem_of_mem hb
    exact hc j _ (List.getElem?_eq_getElem hj)
  have HM := Lib.hid hmem
  clear hc hmem
  go_enter Tryz.func197, Tryz.ntmps197
  go_wp2_with (go_at_call 202; refine (Tryz.strings_shouldUseASCIISet _ _).mono ?_; rintro e w' ⟨rfl, hw⟩; rw [hw, h8z])
  go_loopg [9, 10] s.size (fun g _ _ wx => ∃ i : Nat, i ≤ s.size ∧ s.size ≤ i + g ∧ ItAt s i w wx ∧ Lib.NoAny s.data.toList chars.data.toList i)
  case atStart => exact ⟨0, by omega, by omega, ItAt.first s w, Lib.NoAny.zero _ _⟩
  case round =>
    obtain ⟨i, hi1, hi2, hit, hno⟩ := hrel
    have HN := Lib.hid hno
    clear hno
    have hkk := hit.1
    have HIT := Lib.hid hit
    clear hit
    by_cases hi : i < s.size
    · cases gk with
      | zero => exfalso; omega
      | succ g =>
        by_cases hx128 : (s[i]'hi).toNat < 128
        · obtain ⟨x, hx⟩ : ∃ x : UInt8, s[i]'hi = x := ⟨_, rfl⟩
          have hxl : s.data.toList[i]? = some x := by rw [← hx]; exact Lib.data_getElem? s i hi
          have hnx := fun ty => Lib.run_next_ascii_at (P := Tryz.prog) wr w.heap.size s i ty hkk hi hx128
          rw [hx] at hnx hx128
          have HX := Lib.hid hxl
          have HW := Lib.hid (HIT.out.set (i + 1))
          obtain ⟨wy, hwy⟩ : ∃ wy, wr.iterAt w.heap.size s (i + 1) = wy := ⟨_, rfl⟩
          rw [hwy] at HW
          have hcon := Lib.contains_iff_indexByte chars.data.toList x
          have hback : ((x.toNat : Int)).toNat.toUInt8 = x := by simp
          clear hxl hx hkk
          cases hin : chars.data.toList.contains x
          · rw [hin] at hcon
            have hlt : ¬ ((0 : Int) ≤ Lib.indexByte chars.data.toList x) := of_decide_eq_false hcon.symm
            clear hcon
            go_wp2_with (go_at_call 201; refine (Tryz.strings_IndexRune_ascii _ _ _ (by omega) (by omega)).mono ?_; rintro e w' ⟨rfl, hw⟩; rw [hw, hback])
            go_roundg g
            case measure => omega
            case rel => exact ⟨i + 1, by omega, by omega, by first | exact HW.out | exact HIT.out.set (i + 1), HN.out.succ HX.out hin⟩
          · rw [hin] at hcon
            have hge : (0 : Int) ≤ Lib.indexByte chars.data.toList x := of_decide_eq_true hcon.symm
            clear hcon
            go_wp2_with (go_at_call 201; refine (Tryz.strings_IndexRune_ascii _ _ _ (by omega) (by omega)).mono ?_; rintro e w' ⟨rfl, hw⟩; rw [hw, hback])
            go_ret
            exact ⟨by rw [Lib.indexAny_hit HN.out HX.out hin]; rfl, by first | exact HW.out.2 | exact (HIT.out.set (i + 1)).2⟩
        · have hx' : 128 ≤ (s[i]'hi).toNat := by omega
          obtain ⟨hr1, hr2⟩ := decode_high s i hi hx'
          have hle := decode_le s i
          have hct := decode_cont s i hi hx'
          have hnx := fun ty => Lib.run_next_any_at (P := Tryz.prog) wr w.heap.size s i ty hkk hi
          obtain ⟨r, hr⟩ : ∃ r, (Utf8.decode s i).1 = r := ⟨_, rfl⟩
          obtain ⟨d, hd⟩ : ∃ d, (Utf8.decode s i).2 = d := ⟨_, rfl⟩
          rw [hr, hd] at hnx
          rw [hr] at hr1 hle
          rw [hd] at hr2 hct
          have hid : i + d ≤ s.size := by have := (hct (d - 1) (by omega)).1; omega
          have hnn := noany_far HM.out HN.out d (fun j hj => (hct j hj).2)
          have HNN := Lib.hid hnn
          clear hkk hr hd hct hnn
          go_wp2_with fail
          refine (rune_any chars HC.out (r : Int) (by omega) _).mono ?_
          rintro e w' ⟨rfl, hw⟩
          have HW := Lib.hid (ItAt.more (HIT.out.set (i + d)) hw)
          clear hw
          go_wp2
          go_roundg g
          case measure => omega
          case rel => exact ⟨i + d, by omega, by omega, HW.out, HNN.out⟩
    · have hnx := fun ty => Lib.run_next_end_at (P := Tryz.prog) wr w.heap.size s i ty hkk hi
      obtain rfl : i = s.size := by omega
      go_wp2
      go_ret
      exact ⟨by rw [Lib.indexAny_none (by rw [← Lib.size_eq]; exact HN.out)]; rfl, HIT.out.2⟩

theorem any_any (s chars : ByteArray) (hc : Ascii chars) (h2 : 2 ≤ chars.size) (hcs : chars.size < 4294967281) (hs : s.size < 4294967281) (w : World) :
    Calls Tryz.prog 197 #[.string s, .string chars] w (Grows (.int .i64 (Lib.indexAny s.data.toList chars.data.toList)) w) := by
  by_cases h8 : s.size ≤ 8
  · exact any_short s chars hc h2 h8 w
  · refine (Tryz.strings_IndexAny_long (zero_of_info (n := 256) (by kernel_rfl)).1 s chars w h2 (by omega) hs hcs hc).mono ?_
    rintro e w' ⟨rfl, rfl⟩
    exact ⟨rfl, grow_alloc (grow_one w _) _⟩

set_option maxRecDepth 100000 in
theorem contains_any (s chars : ByteArray) (hc : Ascii chars) (h2 : 2 ≤ chars.size) (hcs : chars.size < 4294967281) (hs : s.size < 4294967281) (w : World) :
    Calls Tryz.prog 190 #[.string s, .string chars] w (Grows (.bool (Lib.containsAny s.data.toList chars.data.toList)) w) := by
  go_enter Tryz.func190, Tryz.ntmps190
  go_wp2_with fail
  refine (any_any s chars hc h2 hcs hs _).mono ?_
  rintro e w' ⟨rfl, hw⟩
  go_wp2
  go_ret
  exact ⟨rfl, hw⟩

theorem any_iff (l : List UInt8) : Lib.containsAny l [47, 0] = l.any badC := by
  have hcon : ∀ c : UInt8, ([47, 0] : List UInt8).contains c = badC c := fun c => by rw [List.contains_cons, List.contains_cons, List.contains_nil, Bool.or_false]; rfl
  unfold Lib.containsAny
  induction l with
  | nil => rfl
  | cons c l ih =>
    rw [List.any_cons, ← ih, Lib.indexAny, hcon]
    have hge := Lib.indexAny_ge [47, 0] l
    cases badC c with
    | true => rfl
    | false =>
      rw [Bool.false_or]
      by_cases hm : Lib.indexAny l [47, 0] = -1
      · rw [hm]; simp
      · rw [if_neg (by simp), if_neg (by simpa using hm)]
        exact decide_eq_decide.2 (by omega)
theorem slash_nul : Ascii ⟨#[47, 0]⟩ := by
  intro j b hb
  match j, hb with
  | 0, hb => cases hb; decide
  | 1, hb => cases hb; decide
  | k + 2, hb => simp at hb
theorem contains_bad (s : ByteArray) (hs : s.size ≤ 1000000) (w : World) : Calls Tryz.prog 190 #[.string s, .string ⟨#[47, 0]⟩] w (Grows (.bool (s.toList.any badC)) w) := by
  have h := contains_any s ⟨#[47, 0]⟩ slash_nul (by decide) (by decide) (by omega) w
  rw [show (⟨#[47, 0]⟩ : ByteArray).data.toList = [47, 0] from rfl, any_iff, ← Lib.toList_data] at h
  exact h
end Go.Proofs.YtbejbiogabpmfaaGreat

/-
  The project's own Check of a name, and strings.Clone.
-/
namespace Go.Proofs.YtbejbiogabpmfaaGreat
open Wd Go.ChangeShapes Go.WideShapes Go.RowKit Go.Sort
set_option linter.unusedVariables false

set_option maxHeartbeats 1000000 in
theorem check_odd (s : ByteArray) (w : World) (h : s.toList = [] ∨ s.toList = [46] ∨ s.toList = [46, 46]) : Calls Tryz.prog 173 #[.string s] w (Grows (.int .i64 22) w) := by
  rcases h with h | h | h
  · have h1 : s.toList.isEmpty = true := by rw [h]; rfl
    go_enter Tryz.func173, Tryz.ntmps173
    go_wp2_with fail
    go_ret
    exact ⟨rfl, grow_none _⟩
  · have h1 : s.toList.isEmpty = false := by rw [h]; rfl
    have h2 : (s.toList == [46]) = true := by rw [h]; rfl
    clear h
    go_enter Tryz.func173, Tryz.ntmps173
    go_wp2_with fail
    go_ret
    exact ⟨rfl, grow_none _⟩
  · have h1 : s.toList.isEmpty = false := by rw [h]; rfl
    have h2 : (s.toList == [46]) = false := by rw [h]; rfl
    have h3 : (s.toList == [46, 46]) = true := by rw [h]; rfl
    clear h
    go_enter Tryz.func173, Tryz.ntmps173
    go_wp2_with fail
    go_ret
    exact ⟨rfl, grow_none _⟩

set_option maxHeartbeats 1000000 in
theorem check_plain (s : ByteArray) (hs : s.size ≤ 1000) (h1 : s.toList.isEmpty = false) (h2 : (s.toList == [46]) = false) (h3 : (s.toList == [46, 46]) = false) (w : World) : Calls Tryz.prog 173 #[.string s] w (Grows (.int .i64 (plainN s.toList)) w) := by
  have hp : plainN s.toList = if s.toList.any badC then 22 else if 24 < s.size then 36 else 0 := by unfold plainN; rw [size_list]
  obtain ⟨b, hb⟩ : ∃ b, s.toList.any badC = b := ⟨_, rfl⟩
  rw [hb] at hp
  have HP := Lib.hid hp; have HB := Lib.hid hb
  clear hp hb
  go_enter Tryz.func173, Tryz.ntmps173
  go_wp2_with fail
  refine (contains_bad s (by omega) _).mono ?_
  rintro e w1 ⟨rfl, hw⟩
  rw [HB.out]
  cases b with
  | true =>
    go_wp2
    go_ret
    exact ⟨by rw [HP.out]; rfl, hw⟩
  | false =>
    by_cases h24 : 24 < s.size
    · have hd : decide ((24 : Int) < (s.size : Int)) = true := decide_eq_true (by omega)
      go_wp2
      go_ret
      exact ⟨by rw [HP.out, if_neg (by simp), if_pos h24]; rfl, hw⟩
    · have hd : decide ((24 : Int) < (s.size : Int)) = false := decide_eq_false (by omega)
      go_wp2
      go_ret
      exact ⟨by rw [HP.out, if_neg (by simp), if_neg h24]; rfl, hw⟩

theorem nCheck (s : ByteArray) (hs : s.size ≤ 1000) (w : World) : Calls Tryz.prog 173 #[.string s] w (Grows (.int .i64 (nameN s.toList)) w) := by
  by_cases h : s.toList = [] ∨ s.toList = [46] ∨ s.toList = [46, 46]
  · have := check_odd s w h
    rwa [show nameN s.toList = 22 by unfold nameN; rw [if_pos h]]
  · have e : nameN s.toList = plainN s.toList := by unfold nameN; rw [if_neg h]
    rw [e]
    refine check_plain s hs ?_ ?_ ?_ w
    · cases hl : s.toList with
      | nil => exact absurd (.inl hl) h
      | cons a t => rfl
    · rw [beq_eq_false_iff_ne]; exact fun h' => h (.inr (.inl h'))
    · rw [beq_eq_false_iff_ne]; exact fun h' => h (.inr (.inr h'))

end Go.Proofs.YtbejbiogabpmfaaGreat
