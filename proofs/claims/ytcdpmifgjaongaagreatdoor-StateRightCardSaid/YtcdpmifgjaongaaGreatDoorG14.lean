import Derived.Test.YtcdpmifgjaongaaGreatDoorG13
import Derived.Shelf.Spec.SlicesInsert
import Derived.Shelf.RegionOpenPlain
import Derived.Lib.Overlaps
import Derived.Lib.AppendZerosOnto
import Derived.Lib.Walk
import Derived.Laws.Externs
import Derived.Laws.NewBlocks
import Derived.Test.YtcdpmifgjaongaaGreatDoorG11
import Derived.Test.YtcdpmifgjaongaaGreatDoorG01
import Derived.BigQuiet
import Derived.Deep.Cut

namespace Go.Proofs.YtcdpmifgjaongaaGreatDoor
open Wd Ino Go.RowKit Go.ChangeShapes Go.WideShapes Go.Sort
set_option linter.unusedVariables false
set_option maxRecDepth 100000

/-! slices.Insert of one name -/
/-- X laid at a, then D behind it -/
theorem row_xd {E X D R : List Value} {a b d : Nat} (hR : R.take a = E) (hX : X.length = b) (hD : D.length = d) (hl : a + b + d ≤ R.length) {R1 : List Value} (h1 : R.take a ++ X ++ R.drop (a + b) = R1) :
    (R1.take (a + b) ++ D ++ R1.drop (a + b + d)).take (a + b + d) = E ++ X ++ D ∧ (R1.take (a + b) ++ D ++ R1.drop (a + b + d)).length = R.length := by
  have hE : E.length = a := by rw [← hR, List.length_take]; omega
  have hR1 : R1.length = R.length := by rw [← h1]; simp; omega
  have ht : R1.take (a + b) = E ++ X := by rw [← h1, hR, List.take_append_of_le_length (by simp; omega), List.take_of_length_le (by simp; omega)]
  refine ⟨?_, by simp; omega⟩
  rw [ht, List.take_append_of_le_length (by simp; omega), List.take_of_length_le (by simp; omega)]
/-- D laid behind a place, then X at the place -/
theorem row_dx {E X D R : List Value} {a b d : Nat} (hR : R.take a = E) (hX : X.length = b) (hD : D.length = d) (hl : a + b + d ≤ R.length) {R1 : List Value} (h1 : R.take (a + b) ++ D ++ R.drop (a + b + d) = R1) :
    (R1.take a ++ X ++ R1.drop (a + b)).take (a + b + d) = E ++ X ++ D ∧ (R1.take a ++ X ++ R1.drop (a + b)).length = R.length := by
  have hE : E.length = a := by rw [← hR, List.length_take]; omega
  have hR1 : R1.length = R.length := by rw [← h1]; simp; omega
  have ht : R1.take a = E := by rw [← h1, List.append_assoc, List.take_append_of_le_length (by simp; omega), List.take_take, ← hR]; congr 1; omega
  have hd : (R1.drop (a + b)).take d = D := by
    rw [← h1, List.append_assoc, List.drop_append_of_le_length (by simp; omega), List.drop_of_length_le (by simp; omega), List.nil_append, List.take_append_of_le_length (by omega), List.take_of_length_le (by omega)]
  refine ⟨?_, by simp; omega⟩
  rw [ht, List.append_assoc, List.append_assoc, List.take_append, List.take_of_length_le (by omega), hE, List.take_append, List.take_of_length_le (by omega), hX, show a + b + d - a - b = d by omega, hd]
def insE (l : List Ent) (k : Nat) (x : Ent) : List Ent := l.take k ++ x :: l.drop k
theorem insE_end {l : List Ent} {n : Nat} (h : l.length = n) (x : Ent) : insE l n x = l ++ [x] := by subst h; simp [insE]
theorem insE_len (l : List Ent) (k : Nat) (x : Ent) (hk : k ≤ l.length) : (insE l k x).length = l.length + 1 := by simp [insE]; omega
set_option maxHeartbeats 4000000 in
theorem dInsEnd {w : World} {base : Nat} {A : Option Addr} {c n : Nat} {l : List Ent} (hn : l.length = n) (h : OwnE w base (.slice A n c) l) (hm : n ≤ 1000) (hbs : base ≤ w.heap.size) (x : Ent) (gb hi : Nat) (hx : Ens w hi (some ⟨gb, 0, none⟩) [x]) :
    Calls Tryz.prog 155 #[.slice A n c, .int .i64 n, .slice (some ⟨gb, 0, none⟩) 1 1] w (MadeAt (insE l n x) base w) := by
  have HO := Lib.hid h; have HX := Lib.hid hx; have HN := Lib.hid hn
  have HL := Lib.hid (show l.length + [x].length ≤ 100000 by simp; omega)
  have HBS := Lib.hid hbs
  have hnc : n ≤ c := by
    obtain ⟨A1, c1, hv, h2, _⟩ := h.form
    injection hv with _ h3 h4
    omega
  clear h hx hn
  by_cases hc : c = n
  · subst hc
    go_enter Tryz.func155, Tryz.ntmps155
    go_wp2_with (at_builtin; refine wpList_append_ens (m := [x]) rfl (.tmp 23) (.tmp 24) rfl rfl rfl HO.out HX.out HL.out HBS.out ?_; intro v5 w5 hown5 hgr5 hat5; have HO5 := Lib.hid hown5; have HG5 := Lib.hid hgr5; clear hown5 hgr5 hat5)
    go_ret
    refine ⟨_, rfl, ?_, (Below.refl base w).grown HG5.out HBS.out (ownE_base HO.out)⟩
    rw [insE_end HN.out]
    exact HO5.out
  · have hc2 : ¬ (n = c) := fun e => hc e.symm
    go_enter Tryz.func155, Tryz.ntmps155
    go_wp2_with (at_builtin; refine wpList_append_ens (m := [x]) rfl (.tmp 23) (.tmp 24) rfl rfl rfl HO.out HX.out HL.out HBS.out ?_; intro v5 w5 hown5 hgr5 hat5; have HO5 := Lib.hid hown5; have HG5 := Lib.hid hgr5; clear hown5 hgr5 hat5)
    go_ret
    refine ⟨_, rfl, ?_, (Below.refl base w).grown HG5.out HBS.out (ownE_base HO.out)⟩
    rw [insE_end HN.out]
    exact HO5.out

theorem cells_src {w : World} {g c n : Nat} {t : TypeId} {cur : Array Value} {l : List Ent} (hc : Cells w g t cur) (ht : cur.toList.take (n * 2) = evals l) (k : Nat) (j : Nat) (v : Value) (h : (evals (l.drop k))[j]? = some v) : w.cell? ⟨g, k * 2 + j, none⟩ = some v := by
  rw [evals_drop, List.getElem?_drop, ← ht, List.getElem?_take] at h
  rw [hc.cell, ← Array.getElem?_toList]
  split at h
  · exact h
  · cases h
theorem addr_lit (g o j : Nat) : (⟨g, o, none⟩ : Addr).add j = ⟨g, o + j, none⟩ := by unfold Addr.add; split <;> simp_all
set_option maxHeartbeats 8000000 in
theorem dInsGrow {w : World} {base g c n k : Nat} {l : List Ent} (hn : l.length = n) (h : OwnE w base (.slice (some ⟨g, 0, none⟩) n c) l) (hm : n ≤ 1000) (hbs : base ≤ w.heap.size) (hk : k < n) (hroom : c < n + 1) (x : Ent) (gb hi : Nat) (hx : Cells w gb 97 (ecells x)) :
    Calls Tryz.prog 155 #[.slice (some ⟨g, 0, none⟩) n c, .int .i64 k, .slice (some ⟨gb, 0, none⟩) 1 1] w (MadeAt (insE l k x) base w) := by
  obtain ⟨i, i1, i2, i3, i4⟩ := info_parts infoE
  obtain ⟨g', cap, cur, hv, hbg, hcs, h1, h2, hsz, htk⟩ := h.block (by omega)
  injection hv with hv1 hv2 hv3
  injection hv1 with hv1
  injection hv1 with hv1 _ _
  clear hv2
  subst hv1 hv3
  have hgw : g < w.heap.size := hcs.lt
  -- the first k, and zeros behind them
  have hold : (Builtin.firstCells i.size k (.slice (some ⟨g, 0, none⟩) k c)).run Tryz.prog w.drew = .ok (evals (l.take k)).toArray w.drew := by
    rw [i3]
    exact run_firstCells_some w.drew 2 k ⟨g, 0, none⟩ k c (evals (l.take k)) (by rw [evals_len, List.length_take]; omega) (fun j v hj => by
      rw [addr_lit]
      rw [evals_take, List.getElem?_take] at hj
      split at hj
      · have := cells_src (c := c) hcs htk 0 j v (by simpa using hj)
        simpa using this
      · cases hj)
  obtain ⟨G, hG⟩ : ∃ G, G = grownCap w (n + 1) c 97 := ⟨_, rfl⟩
  have hik : k + (n + 1 - k) = n + 1 := by omega
  have hrz := fun ty => Lib.run_append_grow_zeros w 36 3 ty 97 i _ .i64 .i64 Tryz.underlying36 Tryz.underlying3 i1 i2 (some ⟨g, 0, none⟩) k c (evals (l.take k)) hold (n + 1 - k) (by omega) (by omega) (by omega) (by omega) (by rw [i4]; omega) (by rw [i4, hik]; exact growslice_fits (by omega) (by omega))
  rw [hik, ← hG] at hrz
  have hcx := hx
  obtain ⟨NB, hNB⟩ : ∃ NB, w.heap.size = NB := ⟨_, rfl⟩
  obtain ⟨ROW, hROW⟩ : ∃ ROW : Array Value, (evals (l.take k)).toArray ++ Builtin.zeroCells zE.cells (n + 1 - k) ++ Builtin.zeroCells zE.cells (G - (n + 1)) = ROW := ⟨_, rfl⟩
  change ∀ ty, _ = Result.ok _ (w.drew.alloc (.cells ((evals (l.take k)).toArray ++ Builtin.zeroCells zE.cells (n + 1 - k) ++ Builtin.zeroCells zE.cells (G - (n + 1))) 97)) at hrz
  rw [hROW, hNB] at hrz
  have hGn : n + 1 ≤ G := by rw [hG]; exact grownCap_ge w _ _ _
  have hGm : G ≤ maxLen := by rw [hG]; exact grownCap_le_maxLen w (n + 1) c 97 (by unfold maxLen; omega)
  have hRs : ROW.size = G * 2 := by
    rw [← hROW, Array.size_append, Array.size_append, zE_size, zE_size, List.size_toArray, evals_len, List.length_take]
    omega
  have hRt : ROW.toList.take (k * 2) = evals (l.take k) := by
    rw [← hROW, Array.toList_append, Array.toList_append, List.toList_toArray, List.append_assoc, List.take_append_of_le_length (by rw [evals_len, List.length_take]; omega), List.take_of_length_le (by rw [evals_len, List.length_take]; omega)]
  obtain ⟨W1, hW1⟩ : ∃ W1, w.drew.alloc (.cells ROW 97) = W1 := ⟨_, rfl⟩
  have b1 : Below w.heap.size w W1 := by rw [← hW1]; exact (Below.refl _ w).drew.alloc (Nat.le_refl _) _
  have c1 : Cells W1 NB 97 ROW := by rw [← hW1, ← hNB]; exact Cells.new w.drew _ _
  rw [hW1] at hrz
  have g1 : Cells W1 g 97 cur := hcs.below b1 hgw
  have x1 : Cells W1 gb 97 (ecells x) := hcx.below b1 hcx.lt
  -- the name
  obtain ⟨R1, hR1⟩ : ∃ R1, ROW.toList.take (k * 2) ++ evals [x] ++ ROW.toList.drop (k * 2 + 2) = R1 := ⟨_, rfl⟩
  have hRl : ROW.toList.length = G * 2 := by rw [Array.length_toList, hRs]
  have hR1l : R1.length = G * 2 := by rw [← hR1]; simp [evals_len]; omega
  have hcpA := fun ty dc => copy_ents W1 ty NB (k * 2) (n + 1 - k) dc ⟨gb, 0, none⟩ 1 1 ROW _ [x] c1 (by show 1 = min 1 (n + 1 - k); omega) (fun j v hj => by
    rw [addr_lit, Nat.zero_add, x1.cell j, ← Array.getElem?_toList]; exact hj) (by rw [hRs]; simp; omega)
  have e1 : k * 2 + [x].length * 2 = k * 2 + 2 := by simp
  rw [e1, hR1] at hcpA
  obtain ⟨W2, hW2⟩ : ∃ W2, W1.setRow NB R1.toArray = W2 := ⟨_, rfl⟩
  rw [hW2] at hcpA
  have b2 : Below w.heap.size w W2 := by rw [← hW2]; exact b1.trans (below_setRow (by omega))
  have c2 : Cells W2 NB 97 R1.toArray := by rw [← hW2]; exact cells_setRow c1
  have g2 : Cells W2 g 97 cur := hcs.below b2 hgw
  -- what stood from k on
  have hdl : (l.drop k).length = n - k := by rw [List.length_drop, hn]
  have hcpB := fun ty dc sc => copy_ents W2.drew ty NB ((k + 1) * 2) (n + 1 - (k + 1)) dc ⟨g, k * 2, none⟩ (n - k) sc R1.toArray _ (l.drop k) c2 (by rw [hdl]; show n - k = min (n - k) (n + 1 - (k + 1)); omega) (fun j v hj => by
    rw [addr_lit]; exact cells_src (c := c) g2 htk k j v hj) (by rw [hdl, List.size_toArray, hR1l]; omega)
  rw [hdl, List.toList_toArray] at hcpB
  have hrow := row_xd (E := evals (l.take k)) (X := evals [x]) (D := evals (l.drop k)) (a := k * 2) (b := 2) (d := (n - k) * 2) hRt rfl (by rw [evals_len, hdl]) (by rw [hRl]; omega) hR1
  rw [show k * 2 + 2 = (k + 1) * 2 by omega] at hrow
  obtain ⟨R2, hR2⟩ : ∃ R2, R1.take ((k + 1) * 2) ++ evals (l.drop k) ++ R1.drop ((k + 1) * 2 + (n - k) * 2) = R2 := ⟨_, rfl⟩
  rw [hR2] at hcpB hrow
  obtain ⟨W3, hW3⟩ : ∃ W3, W2.drew.setRow NB R2.toArray = W3 := ⟨_, rfl⟩
  rw [hW3] at hcpB
  have b3 : Below w.heap.size w W3 := by rw [← hW3]; exact b2.drew.trans (below_setRow (by omega))
  have c3 : Cells W3 NB 97 R2.toArray := by rw [← hW3]; exact cells_setRow (w := W2.drew) c2
  have hown : OwnE W3 base (.slice (some ⟨NB, 0, none⟩) (n + 1) G) (insE l k x) := by
    refine OwnE.of (by rw [insE_len _ _ _ (by omega), hn]) (by omega) c3 hGn hGm (by rw [List.size_toArray, hrow.2, hRl]) ?_
    rw [List.toList_toArray, show (n + 1) * 2 = (k + 1) * 2 + (n - k) * 2 by omega, hrow.1]
    show _ = evals (l.take k ++ ([x] ++ l.drop k))
    rw [evals_append, evals_append, List.append_assoc]
  have mixed : Tryz.prog.follows .mixedOrders = true := by kernel_rfl
  have HOW := Lib.hid hown
  have HB3 := Lib.hid (b3.mono hbs)
  have hw1 : IntKind.i64.wrap ((k : Int) + 1) = (k : Int) + 1 := by rw [IntKind.wrap_i64]; omega
  have hb1 : (0 : Int) ≤ (k : Int) + 1 := by omega
  have htn : ((k : Int) + 1).toNat = k + 1 := by omega
  have hkk : (n : Int) + 1 - (k : Int) = ((n + 1 - k : Nat) : Int) := by omega
  have hGi : ¬ (G = k) := by omega
  have hGim : ¬ (G = k + 1) := by omega
  have hci : ¬ (c = k) := by omega
  have hk0 : (0 : Int) ≤ (k : Int) := by omega
  have hkn : (k : Int) ≤ (n : Int) := by omega
  have hne : ((k : Int) == (n : Int)) = false := beq_eq_false_iff_ne.2 (by omega)
  have hwk : IntKind.i64.wrap ((n : Int) + 1 - (k : Int)) = (n : Int) + 1 - (k : Int) := by rw [IntKind.wrap_i64]; omega
  have hwn : IntKind.i64.wrap ((n : Int) + 1) = (n : Int) + 1 := by rw [IntKind.wrap_i64]; omega
  have hgt : decide ((c : Int) < (n : Int) + 1) = true := decide_eq_true (by omega)
  clear hold hik hROW hRs hRt hW1 hW2 hW3 hR1 hR2 hRl hR1l hrow hown b1 b2 b3 c1 c2 c3 g1 g2 x1 e1 hdl hcs htk hsz hG hGm hx hcx i1 i2 i3 i4 h hgw hNB
  go_enter Tryz.func155, Tryz.ntmps155
  go_wp2_with (first
    | (at_builtin; refine Lib.wpList_append_run _ rfl _ _ _ _ rfl _ _ rfl rfl _ _ (hrz _) ?_)
    | (at_builtin; refine wpList_copy_runI _ rfl _ _ 36 36 rfl _ _ rfl rfl (hcpA _ _) ?_))
  go_region_law_o (refine step_copy_runI rfl _ _ 36 36 rfl (.slice (some ⟨NB, (k + 1) * 2, none⟩) (n + 1 - (k + 1)) (G - (k + 1))) (.slice (some ⟨g, k * 2, none⟩) (n - k) (c - k)) (by simp [Act.eval, Act.put]) (by simp [Act.eval, Act.put]) (hcpB 3 (G - (k + 1)) (c - k)) ?_)
  go_wp2
  go_ret
  exact ⟨_, rfl, HOW.out, HB3.out⟩

set_option maxHeartbeats 8000000 in
theorem dInsShift {w : World} {base g c n k : Nat} {l : List Ent} (hn : l.length = n) (h : OwnE w base (.slice (some ⟨g, 0, none⟩) n c) l) (hm : n ≤ 1000) (hbs : base ≤ w.heap.size) (hk : k < n) (hroom : n + 1 ≤ c) (x : Ent) (gb : Nat) (hx : Cells w gb 97 (ecells x)) (hgg : gb ≠ g) :
    Calls Tryz.prog 155 #[.slice (some ⟨g, 0, none⟩) n c, .int .i64 k, .slice (some ⟨gb, 0, none⟩) 1 1] w (MadeAt (insE l k x) base w) := by
  obtain ⟨i, i1, i2, i3, i4⟩ := info_parts infoE
  obtain ⟨g', cap, cur, hv, hbg, hcs, h1, h2, hsz, htk⟩ := h.block (by omega)
  injection hv with hv1 hv2 hv3
  injection hv1 with hv1
  injection hv1 with hv1 _ _
  clear hv2
  subst hv1 hv3
  have hov : ∀ lb cb, (callFunc 171 #[.slice (some ⟨gb, 0, none⟩) 1 1, .slice (some ⟨g, (k + 1) * 2, none⟩) lb cb]).run Tryz.prog w = .ok (.value (.bool false)) w := fun lb cb => by
    rw [run_callFunc_extern Tryz.func171 (by kernel_rfl) (by kernel_rfl) (by kernel_rfl) (e := Extern.SlicesOverlaps.overlaps #[36, 36] #[4]) (by kernel_rfl),
      Lib.run_overlaps_apart w 36 4 97 Tryz.underlying36 2 (fun w => by simp [Go.sizeOf, typeInfo, i1, i3]) ⟨gb, 0, none⟩ ⟨g, (k + 1) * 2, none⟩ 1 1 lb cb hgg 97 97 2 (c * 2)
        (by unfold World.shape?; rw [show w.heap[gb]? = _ from hx]; rfl) (by unfold World.shape?; rw [show w.heap[g]? = _ from hcs]; simp [hsz]) (by omega) (hx.free _) (hx.free _)]
    rfl
  have hdl : (l.drop k).length = n - k := by rw [List.length_drop, hn]
  -- what stands from k on
  have hcl : cur.toList.length = c * 2 := by rw [Array.length_toList, hsz]
  obtain ⟨R1, hR1⟩ : ∃ R1, cur.toList.take (k * 2 + 2) ++ evals (l.drop k) ++ cur.toList.drop (k * 2 + 2 + (n - k) * 2) = R1 := ⟨_, rfl⟩
  have hR1l : R1.length = c * 2 := by rw [← hR1]; simp [evals_len]; omega
  have hcpB := fun ty dc sc => copy_ents w.drew ty g ((k + 1) * 2) (n + 1 - (k + 1)) dc ⟨g, k * 2, none⟩ (n + 1 - k) sc cur _ (l.drop k) hcs (by rw [hdl]; show n - k = min (n + 1 - k) (n + 1 - (k + 1)); omega) (fun j v hj => by
    rw [addr_lit]; exact cells_src (c := c) (w := w.drew) hcs htk k j v hj) (by rw [hdl, hsz]; omega)
  rw [hdl, show (k + 1) * 2 = k * 2 + 2 by omega, hR1] at hcpB
  obtain ⟨W2, hW2⟩ : ∃ W2, w.drew.setRow g R1.toArray = W2 := ⟨_, rfl⟩
  rw [hW2] at hcpB
  have b2 : Below base w W2 := by rw [← hW2]; exact (Below.refl base w).drew.trans (below_setRow hbg)
  have c2 : Cells W2 g 97 R1.toArray := by rw [← hW2]; exact cells_setRow (w := w.drew) hcs
  have x2 : Cells W2 gb 97 (ecells x) := by
    rw [← hW2]
    show (w.drew.setRow g R1.toArray).heap[gb]? = _
    rw [setRow_other _ _ _ _ hgg]
    exact hx
  -- the name
  obtain ⟨R2, hR2⟩ : ∃ R2, R1.take (k * 2) ++ evals [x] ++ R1.drop (k * 2 + 2) = R2 := ⟨_, rfl⟩
  have hcpA := fun ty dc => copy_ents W2 ty g (k * 2) (n + 1 - k) dc ⟨gb, 0, none⟩ 1 1 R1.toArray _ [x] c2 (by show 1 = min 1 (n + 1 - k); omega) (fun j v hj => by
    rw [addr_lit, Nat.zero_add, x2.cell j, ← Array.getElem?_toList]; exact hj) (by rw [List.size_toArray, hR1l]; simp; omega)
  have e1 : k * 2 + [x].length * 2 = k * 2 + 2 := by simp
  rw [e1, List.toList_toArray, hR2] at hcpA
  obtain ⟨W3, hW3⟩ : ∃ W3, W2.setRow g R2.toArray = W3 := ⟨_, rfl⟩
  rw [hW3] at hcpA
  have b3 : Below base w W3 := by rw [← hW3]; exact b2.trans (below_setRow hbg)
  have c3 : Cells W3 g 97 R2.toArray := by rw [← hW3]; exact cells_setRow c2
  have hRt : cur.toList.take (k * 2) = evals (l.take k) := by
    rw [evals_take, ← htk, List.take_take]
    congr 1
    omega
  have hrow := row_dx (E := evals (l.take k)) (X := evals [x]) (D := evals (l.drop k)) (a := k * 2) (b := 2) (d := (n - k) * 2) hRt rfl (by rw [evals_len, hdl]) (by rw [hcl]; omega) hR1
  rw [hR2] at hrow
  have hown : OwnE W3 base (.slice (some ⟨g, 0, none⟩) (n + 1) c) (insE l k x) := by
    refine OwnE.of (by rw [insE_len _ _ _ (by omega), hn]) hbg c3 hroom h2 (by rw [List.size_toArray, hrow.2, hcl]) ?_
    rw [List.toList_toArray, show (n + 1) * 2 = k * 2 + 2 + (n - k) * 2 by omega, hrow.1]
    show _ = evals (l.take k ++ ([x] ++ l.drop k))
    rw [evals_append, evals_append, List.append_assoc]
  have mixed : Tryz.prog.follows .mixedOrders = true := by kernel_rfl
  have HOW := Lib.hid hown
  have HB3 := Lib.hid b3
  rw [show k * 2 + 2 = (k + 1) * 2 by omega] at hcpB
  have hw1 : IntKind.i64.wrap ((k : Int) + 1) = (k : Int) + 1 := by rw [IntKind.wrap_i64]; omega
  have hb1 : (0 : Int) ≤ (k : Int) + 1 := by omega
  have htn : ((k : Int) + 1).toNat = k + 1 := by omega
  have hci : ¬ (c = k) := by omega
  have hci1 : ¬ (c = k + 1) := by omega
  have hk0 : (0 : Int) ≤ (k : Int) := by omega
  have hkn : (k : Int) ≤ (n : Int) := by omega
  have hkn1 : (k : Int) ≤ (n : Int) + 1 := by omega
  have hkn2 : (k : Int) + 1 ≤ (n : Int) + 1 := by omega
  have hne : ((k : Int) == (n : Int)) = false := beq_eq_false_iff_ne.2 (by omega)
  have hwn : IntKind.i64.wrap ((n : Int) + 1) = (n : Int) + 1 := by rw [IntKind.wrap_i64]; omega
  have hgt : decide ((c : Int) < (n : Int) + 1) = false := decide_eq_false (by omega)
  have hn1 : ((n : Int) + 1).toNat = n + 1 := by omega
  have hn1c : (n : Int) + 1 ≤ (c : Int) := by omega
  have hnn : (0 : Int) ≤ (n : Int) + 1 := by omega
  clear hW2 hW3 hR1 hR2 hcl hR1l hrow hown b2 b3 c2 c3 x2 e1 hdl hcs htk hsz i1 i2 i3 i4 h hRt hx
  go_enter Tryz.func155, Tryz.ntmps155
  go_wp2_with (simp only [hov])
  go_region_law_o (refine step_copy_runI rfl _ _ 36 36 rfl (.slice (some ⟨g, (k + 1) * 2, none⟩) (n + 1 - (k + 1)) (c - (k + 1))) (.slice (some ⟨g, k * 2, none⟩) (n + 1 - k) (c - k)) (by simp [Act.eval, Act.put]) (by simp [Act.eval, Act.put]) (hcpB 3 (c - (k + 1)) (c - k)) ?_)
  go_wp2_with (at_builtin; refine wpList_copy_runI _ rfl _ _ 36 36 rfl _ _ rfl rfl (hcpA _ _) ?_)
  go_ret
  exact ⟨_, rfl, HOW.out, HB3.out⟩

/-- wherever it is laid -/
theorem dIns {w : World} {base n c k : Nat} {A : Option Addr} {l : List Ent} (hn : l.length = n) (h : OwnE w base (.slice A n c) l) (hm : n ≤ 1000) (hbs : base ≤ w.heap.size) (hk : k ≤ n) (x : Ent) (gb : Nat) (hx : Cells w gb 97 (ecells x)) (hgg : ∀ q, (Value.slice A n c).ownBlock = some q → gb ≠ q) :
    Calls Tryz.prog 155 #[.slice A n c, .int .i64 k, .slice (some ⟨gb, 0, none⟩) 1 1] w (MadeAt (insE l k x) base w) := by
  by_cases hkn : k = n
  · subst hkn
    exact dInsEnd hn h hm hbs x gb (gb + 1) (ens_one hx (Nat.lt_succ_self _))
  · obtain ⟨g, cap, cur, hv, hbg, hcs, h1, h2, hsz, htk⟩ := h.block (by omega)
    injection hv with hv1 hv2 hv3
    subst hv1 hv3
    by_cases hr : n + 1 ≤ c
    · exact dInsShift hn h hm hbs (by omega) hr x gb hx (hgg g rfl)
    · exact dInsGrow (hi := 0) hn h hm hbs (by omega) (by omega) x gb hx
end Go.Proofs.YtcdpmifgjaongaaGreatDoor

namespace Go.Proofs.YtcdpmifgjaongaaGreatDoor
open Wd Ino Go.RowKit Go.ChangeShapes Go.WideShapes Go.Sort
set_option linter.unusedVariables false
set_option maxRecDepth 100000

/-! whether a row of names is as it may be -/
def inoB (n : Int) : Bool := decide (1 ≤ n) && decide (n ≤ 1048576)
set_option maxHeartbeats 1000000 in
theorem rNumberD (n : Int) (w : World) : Calls Tryz.prog 92 #[.int .i64 n] w (Grows (.bool (inoB n)) w) := by
  unfold inoB
  by_cases h1 : 1 ≤ n
  · rw [decide_eq_true h1, Bool.true_and]
    by_cases h2 : n ≤ 1048576
    · rw [decide_eq_true h2]
      go_enter Tryz.func92, Tryz.ntmps92
      go_wp2
      go_ret
      exact ⟨rfl, grow_none _⟩
    · rw [decide_eq_false h2]
      go_enter Tryz.func92, Tryz.ntmps92
      go_wp2
      go_ret
      exact ⟨rfl, grow_none _⟩
  · rw [decide_eq_false h1, Bool.false_and]
    go_enter Tryz.func92, Tryz.ntmps92
    go_wp2
    go_ret
    exact ⟨rfl, grow_none _⟩
theorem rName (s : ByteArray) (hs : s.size ≤ 1000) (w : World) : Calls Tryz.prog 65 #[.string s] w (Grows (.int .i64 (nameN s.toList)) w) := by
  refine (refName_any s hs w).mono ?_
  rintro e w' ⟨rfl, rfl⟩
  exact ⟨rfl, grow_none _⟩
theorem okE_is (e : Ent) : okE e = (decide (nameN e.s.toList = 0) && inoB e.n) := rfl
def RtRel (l : List Ent) (w : World) (i : Value) (wr : World) : Prop := ∃ k : Nat, k ≤ l.length ∧ i = .int .i64 k ∧ RightN (l.take k) ∧ ∃ q os, wr = grow (w.drewN q) os
theorem rt_next0 {l : List Ent} {e : Ent} (he : l[0]? = some e) (ho : okE e = true) : RightN (l.take (0 + 1)) :=
  RightN.step (by rw [List.take_zero]; exact RightN.nil) he ho (fun d h => absurd h (by omega))
theorem rt_next {l : List Ent} {m : Nat} {d e : Ent} (h : RightN (l.take (m + 1))) (hd : l[m]? = some d) (he : l[m + 1]? = some e) (ho : okE e = true) (hl : lessN d.s e.s = true) : RightN (l.take (m + 1 + 1)) :=
  h.step he ho fun x _ hx => by
    rw [Nat.add_sub_cancel, hd] at hx
    cases hx
    exact hl

set_option maxHeartbeats 8000000 in
theorem dRight {w : World} {hi : Nat} {A : Option Addr} {c : Nat} {l : List Ent} (h : Ens w hi A l) (hh : hi ≤ w.heap.size) (hm : l.length ≤ 1000) (hs : ∀ e ∈ l, e.s.size ≤ 1000) : Calls Tryz.prog 82 #[.slice A l.length c] w (Grows (.bool (decide (RightN l))) w) := by
  have H := Lib.hid h; have HS := Lib.hid hs
  have hfol : Tryz.prog.follows .mixedOrders = true := by kernel_rfl
  clear h hs
  go_enter Tryz.func82, Tryz.ntmps82
  go_wp2
  go_loopw [7] (fun i wr => RtRel l w i wr) (fun i _ => l.length - (intOf i).toNat)
  case atStart => exact ⟨0, Nat.zero_le _, rfl, by rw [List.take_zero]; exact RightN.nil, grow_none _⟩
  case round =>
    obtain ⟨k, hk, rfl, hrt, hgr⟩ := hrel
    have HR := Lib.hid hrt
    have HB := Lib.hid (grown_self hgr)
    by_cases hlt : k < l.length
    · obtain ⟨e, he⟩ : ∃ e, l[k]? = some e := ⟨_, List.getElem?_eq_getElem hlt⟩
      have HG := Lib.hid (grow_alloc hgr (.cells #[.string e.s, .int .i64 e.n] 97))
      obtain ⟨b, off, rfl, hbB, x0, x1⟩ := ens_cells (H.out.below (HB.out.mono hh)) he
      have hlt2 : (k : Int) < (l.length : Int) := Int.ofNat_lt.2 hlt
      have hse := HS.out e (List.mem_of_getElem? he)
      have HE := Lib.hid he
      have HOK := Lib.hid (okE_is e)
      obtain ⟨N, hN⟩ : ∃ N, nameN e.s.toList = N := ⟨_, rfl⟩
      obtain ⟨B, hB⟩ : ∃ B, inoB e.n = B := ⟨_, rfl⟩
      have KN := Lib.hid (fun w => nCheck e.s hse w)
      rw [hN] at KN HOK
      have HC1 := Lib.hid (Cells.new wr 97 (ecells e))
      have HH := Lib.hid ((H.out.below (HB.out.mono hh)).below (((Below.refl wr.heap.size wr).alloc (Nat.le_refl _) (.cells #[.string e.s, .int .i64 e.n] 97)).mono (Nat.le_trans hh HB.out.size)))
      have HBS := Lib.hid (show hi ≤ (wr.alloc (.cells #[.string e.s, .int .i64 e.n] 97)).heap.size by have := HB.out.size; simp; omega)
      clear hgr hrt hN he hse
      go_wp2_with fail
      refine (KN.out _).mono ?_
      rintro e1 w2 ⟨rfl, hw2⟩
      have HG2 := Lib.hid (grow_trans HG.out hw2)
      have hb2 := grown_self hw2
      have hc2 := HC1.out.below' hb2
      have HH2 := Lib.hid (HH.out.below (hb2.mono HBS.out))
      have HBS2 := Lib.hid (Nat.le_trans HBS.out hb2.size)
      have hl1 := hc2.lt
      obtain ⟨c0, c1⟩ := ecells2 hc2
      have g0 := cell_grown (a := ⟨wr.heap.size, 0, none⟩) hl1 c0
      clear hw2 hb2 hc2 x0 x1 hB
      by_cases q1 : N = 0
      · subst q1
        have p1 : ((0 : Int) != 0) = false := rfl
        rw [show decide ((0 : Int) = 0) = true from rfl, Bool.true_and] at HOK
        by_cases q2 : e.n < 1
        · have HNO := Lib.hid (show decide (RightN l) = false from decide_eq_false (RightN.not_ok HE.out (by rw [HOK.out]; unfold inoB; rw [decide_eq_false (by omega), Bool.false_and])))
          have p2 : decide (e.n < 1) = true := decide_eq_true q2
          clear q2 g0
          go_wp2
          go_ret
          exact ⟨by rw [HNO.out]; rfl, HG2.out⟩
        · by_cases q3 : 1048576 < e.n
          · have HNO := Lib.hid (show decide (RightN l) = false from decide_eq_false (RightN.not_ok HE.out (by rw [HOK.out]; unfold inoB; rw [decide_eq_false (show ¬ e.n ≤ 1048576 by omega), Bool.and_false])))
            have p2 : decide (e.n < 1) = false := decide_eq_false q2
            have p3 : decide (1048576 < e.n) = true := decide_eq_true q3
            clear q2 q3 g0
            go_wp2
            go_ret
            exact ⟨by rw [HNO.out]; rfl, HG2.out⟩
          · have HOK2 := Lib.hid (show okE e = true by rw [HOK.out]; unfold inoB; rw [decide_eq_true (show 1 ≤ e.n by omega), decide_eq_true (show e.n ≤ 1048576 by omega)]; rfl)
            have p2 : decide (e.n < 1) = false := decide_eq_false q2
            have p3 : decide (1048576 < e.n) = false := decide_eq_false q3
            clear q2 q3 HOK
            by_cases hz : k = 0
            · have HN := Lib.hid (show RightN (l.take (k + 1)) by subst hz; exact rt_next0 HE.out HOK2.out)
              have p4 : decide (0 < k) = false := decide_eq_false (by omega)
              clear hz
              go_upto_region 6 with fail
              refine wp_region_quiet_grown hfol (by kernel_rfl) ?_
              repeat (go_big_quiet_step (first
                | (go_at_call 103; (with_reducible exact Grows.in KL.out _ _ _))))
              refine wpQuiet_nil ?_
              intro _ hw'
              obtain ⟨⟨nr, osr⟩, hw''⟩ := hw'
              subst hw''
              go_wp2
              go_roundw
              case rel => exact ⟨k + 1, by omega, by go_num, HN.out, grow_trans HG2.out ⟨nr, osr, rfl⟩⟩
              case measure => simp [intOf]; omega
            · obtain ⟨m, hK⟩ : ∃ m, m + 1 = k := ⟨k - 1, by omega⟩
              obtain ⟨d, hd⟩ : ∃ d, l[m]? = some d := ⟨_, List.getElem?_eq_getElem (by omega)⟩
              obtain ⟨b', off', hbo, hbB', a0, a1⟩ := ens_cells HH2.out hd
              cases hbo
              have hl2 : b < w2.heap.size := Nat.lt_of_lt_of_le hbB' HBS2.out
              have d0 := cell_grown (a := ⟨b, off + m * 2, none⟩) hl2 a0
              have KL := Lib.hid (fun w => nLessD d.s e.s w)
              have HD := Lib.hid hd
              have HK := Lib.hid hK
              have p4 : decide (0 < k) = true := decide_eq_true (by omega)
              have i0 : IntKind.i64.wrap ((k : Int) - 1) = (m : Int) := by rw [IntKind.wrap_i64]; omega
              have i1 : (0 : Int) ≤ (m : Int) := by omega
              have i2 : (m : Int) < (l.length : Int) := by omega
              clear hd hl2 a0 a1 hbB' hK hz
              obtain ⟨L, hq⟩ : ∃ L, lessN d.s e.s = L := ⟨_, rfl⟩
              rw [hq] at KL
              cases L with
              | true =>
                have HN := Lib.hid (show RightN (l.take (k + 1)) by
                  have h1 := HK.out; subst h1
                  exact rt_next HR.out HD.out HE.out HOK2.out hq)
                clear hq
                go_upto_region 6 with fail
                refine wp_region_quiet_grown hfol (by kernel_rfl) ?_
                repeat (go_big_quiet_step (first
                  | (go_at_call 103; (with_reducible exact Grows.in KL.out _ _ _))))
                refine wpQuiet_nil ?_
                intro _ hw'
                obtain ⟨⟨nr, osr⟩, hw''⟩ := hw'
                subst hw''
                go_wp2
                go_roundw
                case rel => exact ⟨k + 1, by omega, by go_num, HN.out, grow_trans HG2.out ⟨nr, osr, rfl⟩⟩
                case measure => simp [intOf]; omega
              | false =>
                have HNO := Lib.hid (show decide (RightN l) = false from decide_eq_false (by have h1 := HK.out; subst h1; exact RightN.not_less HD.out HE.out hq))
                clear hq
                go_upto_region 6 with fail
                refine wp_region_quiet_grown hfol (by kernel_rfl) ?_
                repeat (go_big_quiet_step (first
                  | (go_at_call 103; (with_reducible exact Grows.in KL.out _ _ _))))
                refine wpQuiet_nil ?_
                intro _ hw'
                obtain ⟨⟨nr, osr⟩, hw''⟩ := hw'
                subst hw''
                go_wp2
                go_ret
                exact ⟨by rw [HNO.out]; rfl, grow_trans HG2.out ⟨nr, osr, rfl⟩⟩
      · have HNO := Lib.hid (show decide (RightN l) = false from decide_eq_false (RightN.not_ok HE.out (by rw [HOK.out, decide_eq_false q1, Bool.false_and])))
        have p1 : (N != 0) = true := by simpa using q1
        clear q1
        clear g0
        go_wp2
        go_ret
        exact ⟨by rw [HNO.out]; rfl, HG2.out⟩
    · obtain rfl : k = l.length := by omega
      have hrt := HR.out
      rw [List.take_length] at hrt
      have HNO := Lib.hid (show decide (RightN l) = true from decide_eq_true hrt)
      have HG := Lib.hid hgr
      clear hrt hgr
      go_wp2
      go_ret
      exact ⟨by rw [HNO.out]; rfl, HG.out⟩
end Go.Proofs.YtcdpmifgjaongaaGreatDoor

namespace Go.Proofs.YtcdpmifgjaongaaGreatDoor
open Wd Ino Go.RowKit Go.ChangeShapes Go.WideShapes Go.Sort
set_option linter.unusedVariables false
set_option maxRecDepth 100000

set_option maxHeartbeats 4000000 in
theorem dPutO {w : World} {hi : Nat} {A : Option Addr} {c : Nat} {l : List Ent} (h : Ens w hi A l) (hh : hi ≤ w.heap.size) (hm : l.length ≤ 1000) (hs : ∀ e ∈ l, e.s.size ≤ 1000) (s : ByteArray) (hsz : s.size ≤ 1000) (n : Int) : Calls Tryz.prog 130 #[.slice A l.length c, .string s, .int .i64 n] w (GivesO (putR s n l) (!hasN s l) w) := by
  have H := Lib.hid h; have HS := Lib.hid hs
  have K := Lib.hid (dLook (c := c) h hh hm s)
  clear h hs
  cases hn : hasN s l with
  | true =>
    have HR := Lib.hid (show putR s n l = l by unfold putR; rw [if_pos hn])
    rw [hn] at K
    clear hn
    go_enter Tryz.func130, Tryz.ntmps130
    go_wp2_with fail
    refine K.out.mono ?_
    rintro e1 w1 ⟨rfl, hw1⟩
    have hb1 := grown_self hw1
    have HB := Lib.hid hb1
    have KO := Lib.hid (dOwn (c := c) (H.out.below (hb1.mono hh)) (Nat.le_trans hh hb1.size) hm HS.out)
    clear hw1 K hb1
    go_wp2_with fail
    refine KO.out.mono ?_
    rintro e1 w2 ⟨v, rfl, ho, hb2⟩
    obtain ⟨A1, c1, rfl, hc1, hx1⟩ := ho.form
    have HX := Lib.hid (ho.mono HB.out.size)
    have HB2 := Lib.hid (HB.out.trans (hb2.mono HB.out.size))
    clear ho hb2 hx1 KO
    go_wp2_with fail
    go_ret2
    rw [HR.out]
    exact ⟨A1, c1, rfl, hc1, HX.out, HB2.out⟩
  | false =>
    have HR := Lib.hid (show putR s n l = putN s n l by unfold putR; rw [if_neg (by rw [hn]; decide)])
    obtain ⟨k, hk⟩ : ∃ k, lookN s l = k := ⟨_, rfl⟩
    have hkl : k ≤ l.length := by rw [← hk]; exact lookN_le s l
    have HI := Lib.hid (show insE l k ⟨s, n⟩ = putN s n l by
      unfold insE putN
      rw [← hk]
      unfold lookN
      rw [if_neg (by rw [hn]; decide)])
    rw [hn, hk] at K
    clear hn hk
    go_enter Tryz.func130, Tryz.ntmps130
    go_wp2_with fail
    refine K.out.mono ?_
    rintro e1 w1 ⟨rfl, hw1⟩
    have hb1 := grown_self hw1
    have HB := Lib.hid hb1
    have KO := Lib.hid (dOwn (c := c) (H.out.below (hb1.mono hh)) (Nat.le_trans hh hb1.size) hm HS.out)
    clear hw1 K hb1
    go_wp2_with fail
    refine KO.out.mono ?_
    rintro e1 w2 ⟨v, rfl, ho, hb2⟩
    obtain ⟨A1, c1, rfl, hc1, hx1⟩ := ho.form
    have HO := Lib.hid ho; have HB2 := Lib.hid hb2
    have KC := Lib.hid (cloneG s (by omega))
    clear ho hb2 hx1 KO
    go_wp2_with fail
    refine (KC.out _).mono ?_
    rintro e1 w3 ⟨rfl, hw3⟩
    have hb3 := grown_self hw3
    have hb4 := hb3.alloc hb3.size (.cells (ecells ⟨s, n⟩) 97)
    have KI := Lib.hid (dIns rfl (HO.out.below hb4) hm (Nat.le_trans HB2.out.size hb4.size) hkl ⟨s, n⟩ w3.heap.size (Cells.new w3 97 (ecells ⟨s, n⟩)) (fun q hq => by
      have h1 := ownE_lt HO.out q hq
      have h2 := hb3.size
      omega))
    have HB4 := Lib.hid (HB.out.trans ((HB2.out.trans (hb4.mono HB2.out.size)).mono HB.out.size))
    have HB1 := Lib.hid (show w.heap.size ≤ w1.heap.size from HB.out.size)
    unfold ecells at KI HB4
    dsimp only at KI
    clear hw3 hb3 hb4
    go_wp2_with fail
    refine KI.out.mono ?_
    rintro e1 w5 ⟨v5, rfl, ho5, hb5⟩
    rw [HI.out, ← HR.out] at ho5
    obtain ⟨A5, c5, rfl, hc5, hx5⟩ := ho5.form
    have HX5 := Lib.hid (ho5.mono HB1.out)
    have HB5 := Lib.hid (HB4.out.trans (hb5.mono HB1.out))
    clear ho5 hb5 hx5 KI
    go_wp2_with fail
    go_ret2
    exact ⟨A5, c5, rfl, hc5, HX5.out, HB5.out⟩
theorem dPut {w : World} {hi : Nat} {A : Option Addr} {c : Nat} {l : List Ent} (h : Ens w hi A l) (hh : hi ≤ w.heap.size) (hm : l.length ≤ 1000) (hs : ∀ e ∈ l, e.s.size ≤ 1000) (s : ByteArray) (hsz : s.size ≤ 1000) (n : Int) : Calls Tryz.prog 130 #[.slice A l.length c, .string s, .int .i64 n] w (GivesE (putR s n l) (!hasN s l) w) := (dPutO h hh hm hs s hsz n).mono fun _ _ k => k.ens
end Go.Proofs.YtcdpmifgjaongaaGreatDoor
