import Derived.Test.YtbegnnohmahglaaDiDrop
import Derived.Shelf.Spec.SlicesInsert
import Derived.Shelf.RegionOpenPlain
import Derived.Lib.Overlaps
import Derived.Lib.AppendZerosOnto
import Derived.Lib.Walk
import Derived.Laws.Externs
import Derived.Laws.NewBlocks
namespace Go.Proofs.Ytbegnnohmahglaa
open Wd Ino Go.RowKit Go.ChangeShapes Go.WideShapes Go.Sort
set_option linter.unusedVariables false
set_option maxRecDepth 100000

/-! slices.Insert of one name -/
/-- X laid at a, then D behind it -/
theorem row_xd {E X D R : List Value} {a b d : Nat} (hR : R.take a = E) (hX : X.length = b) (hD : D.length = d) (hl : a + b + d ≤ R.length) {R1 : List Value} (h1 : R.take a ++ X ++ R.drop (a + b) = R1) :
    (R1.take (a + b) ++ D ++ R1.drop (a + b + d)).take (a + b + d) = E ++ X ++ D ∧ (R1.take (a + b) ++ D ++ R1.drop (a + b + d)).length = R.length := by
  have hE : E.length = a := by rw [← hR, List.length_take]; omega
  have hR1 : R1.length = R.length := by rw [← h1]; simp; omega
  have ht : R1.take (a + b) = E ++ X := by rw [← h1, hR, List.take_append_of_le_length (by simp; omega), List.take_of_length_le (by simp; omega)]
  refine ⟨?_, by simp; omega⟩
  rw [ht, List.take_append_of_le_length (by simp; omega), List.take_of_length_le (by simp; omega)]
/-- D laid behind a place, then X at the place -/
theorem row_dx {E X D R : List Value} {a b d : Nat} (hR : R.take a = E) (hX : X.length = b) (hD : D.length = d) (hl : a + b + d ≤ R.length) {R1 : List Value} (h1 : R.take (a + b) ++ D ++ R.drop (a + b + d) = R1) :
    (R1.take a ++ X ++ R1.drop (a + b)).take (a + b + d) = E ++ X ++ D ∧ (R1.take a ++ X ++ R1.drop (a + b)).length = R.length := by
  have hE : E.length = a := by rw [← hR, List.length_take]; omega
  have hR1 : R1.length = R.length := by rw [← h1]; simp; omega
  have ht : R1.take a = E := by rw [← h1, List.append_assoc, List.take_append_of_le_length (by simp; omega), List.take_take, ← hR]; congr 1; omega
  have hd : (R1.drop (a + b)).take d = D := by
    rw [← h1, List.append_assoc, List.drop_append_of_le_length (by simp; omega), List.drop_of_length_le (by simp; omega), List.nil_append, List.take_append_of_le_length (by omega), List.take_of_length_le (by omega)]
  refine ⟨?_, by simp; omega⟩
  rw [ht, List.append_assoc, List.append_assoc, List.take_append, List.take_of_length_le (by omega), hE, List.take_append, List.take_of_length_le (by omega), hX, show a + b + d - a - b = d by omega, hd]
def insE (l : List Ent) (k : Nat) (x : Ent) : List Ent := l.take k ++ x :: l.drop k
theorem insE_end {l : List Ent} {n : Nat} (h : l.length = n) (x : Ent) : insE l n x = l ++ [x] := by subst h; simp [insE]
theorem insE_len (l : List Ent) (k : Nat) (x : Ent) (hk : k ≤ l.length) : (insE l k x).length = l.length + 1 := by simp [insE]; omega
set_option maxHeartbeats 4000000 in
theorem dInsEnd {w : World} {base : Nat} {A : Option Addr} {c n : Nat} {l : List Ent} (hn : l.length = n) (h : OwnE w base (.slice A n c) l) (hm : n ≤ 1000) (hbs : base ≤ w.heap.size) (x : Ent) (gb hi : Nat) (hx : Ens w hi (some ⟨gb, 0, none⟩) [x]) :
    Calls Try.prog 24 #[.slice A n c, .int .i64 n, .slice (some ⟨gb, 0, none⟩) 1 1] w (MadeAt (insE l n x) base w) := by
  have HO := Lib.hid h; have HX := Lib.hid hx; have HN := Lib.hid hn
  have HL := Lib.hid (show l.length + [x].length ≤ 100000 by simp; omega)
  have HBS := Lib.hid hbs
  have hnc : n ≤ c := by
    obtain ⟨A1, c1, hv, h2, _⟩ := h.form
    injection hv with _ h3 h4
    omega
  clear h hx hn
  by_cases hc : c = n
  · subst hc
    go_enter Try.func24, Try.ntmps24
    go_wp2_with (at_builtin; refine wpList_append_ens (m := [x]) rfl (.tmp 23) (.tmp 24) rfl rfl rfl HO.out HX.out HL.out HBS.out ?_; intro v5 w5 hown5 hgr5 hat5; have HO5 := Lib.hid hown5; have HG5 := Lib.hid hgr5; clear hown5 hgr5 hat5)
    go_ret
    refine ⟨_, rfl, ?_, (Below.refl base w).grown HG5.out HBS.out (ownE_base HO.out)⟩
    rw [insE_end HN.out]
    exact HO5.out
  · have hc2 : ¬ (n = c) := fun e => hc e.symm
    go_enter Try.func24, Try.ntmps24
    go_wp2_with (at_builtin; refine wpList_append_ens (m := [x]) rfl (.tmp 23) (.tmp 24) rfl rfl rfl HO.out HX.out HL.out HBS.out ?_; intro v5 w5 hown5 hgr5 hat5; have HO5 := Lib.hid hown5; have HG5 := Lib.hid hgr5; clear hown5 hgr5 hat5)
    go_ret
    refine ⟨_, rfl, ?_, (Below.refl base w).grown HG5.out HBS.out (ownE_base HO.out)⟩
    rw [insE_end HN.out]
    exact HO5.out

theorem cells_src {w : World} {g c n : Nat} {t : TypeId} {cur : Array Value} {l : List Ent} (hc : Cells w g t cur) (ht : cur.toList.take (n * 2) = evals l) (k : Nat) (j : Nat) (v : Value) (h : (evals (l.drop k))[j]? = some v) : w.cell? ⟨g, k * 2 + j, none⟩ = some v := by
  rw [evals_drop, List.getElem?_drop, ← ht, List.getElem?_take] at h
  rw [hc.cell, ← Array.getElem?_toList]
  split at h
  · exact h
  · cases h
theorem addr_lit (g o j : Nat) : (⟨g, o, none⟩ : Addr).add j = ⟨g, o + j, none⟩ := by unfold Addr.add; split <;> simp_all
set_option maxHeartbeats 8000000 in
theorem dInsGrow {w : World} {base g c n k : Nat} {l : List Ent} (hn : l.length = n) (h : OwnE w base (.slice (some ⟨g, 0, none⟩) n c) l) (hm : n ≤ 1000) (hbs : base ≤ w.heap.size) (hk : k < n) (hroom : c < n + 1) (x : Ent) (gb hi : Nat) (hx : Cells w gb 32 (ecells x)) :
    Calls Try.prog 24 #[.slice (some ⟨g, 0, none⟩) n c, .int .i64 k, .slice (some ⟨gb, 0, none⟩) 1 1] w (MadeAt (insE l k x) base w) := by
  obtain ⟨i, i1, i2, i3, i4⟩ := info_parts infoE
  obtain ⟨g', cap, cur, hv, hbg, hcs, h1, h2, hsz, htk⟩ := h.block (by omega)
  injection hv with hv1 hv2 hv3
  injection hv1 with hv1
  injection hv1 with hv1 _ _
  clear hv2
  subst hv1 hv3
  have hgw : g < w.heap.size := hcs.lt
  -- the first k, and zeros behind them
  have hold : (Builtin.firstCells i.size k (.slice (some ⟨g, 0, none⟩) k c)).run Try.prog w.drew = .ok (evals (l.take k)).toArray w.drew := by
    rw [i3]
    exact run_firstCells_some w.drew 2 k ⟨g, 0, none⟩ k c (evals (l.take k)) (by rw [evals_len, List.length_take]; omega) (fun j v hj => by
      rw [addr_lit]
      rw [evals_take, List.getElem?_take] at hj
      split at hj
      · have := cells_src (c := c) hcs htk 0 j v (by simpa using hj)
        simpa using this
      · cases hj)
  obtain ⟨G, hG⟩ : ∃ G, G = grownCap w (n + 1) c 32 := ⟨_, rfl⟩
  have hik : k + (n + 1 - k) = n + 1 := by omega
  have hrz := fun ty => Lib.run_append_grow_zeros w 22 3 ty 32 i _ .i64 .i64 Try.underlying22 Try.underlying3 i1 i2 (some ⟨g, 0, none⟩) k c (evals (l.take k)) hold (n + 1 - k) (by omega) (by omega) (by omega) (by omega) (by rw [i4]; omega) (by rw [i4, hik]; exact growslice_fits (by omega) (by omega))
  rw [hik, ← hG] at hrz
  have hcx := hx
  obtain ⟨NB, hNB⟩ : ∃ NB, w.heap.size = NB := ⟨_, rfl⟩
  obtain ⟨ROW, hROW⟩ : ∃ ROW : Array Value, (evals (l.take k)).toArray ++ Builtin.zeroCells zE.cells (n + 1 - k) ++ Builtin.zeroCells zE.cells (G - (n + 1)) = ROW := ⟨_, rfl⟩
  change ∀ ty, _ = Result.ok _ (w.drew.alloc (.cells ((evals (l.take k)).toArray ++ Builtin.zeroCells zE.cells (n + 1 - k) ++ Builtin.zeroCells zE.cells (G - (n + 1))) 32)) at hrz
  rw [hROW, hNB] at hrz
  have hGn : n + 1 ≤ G := by rw [hG]; exact grownCap_ge w _ _ _
  have hGm : G ≤ maxLen := by rw [hG]; exact grownCap_le_maxLen w (n + 1) c 32 (by unfold maxLen; omega)
  have hRs : ROW.size = G * 2 := by
    rw [← hROW, Array.size_append, Array.size_append, zE_size, zE_size, List.size_toArray, evals_len, List.length_take]
    omega
  have hRt : ROW.toList.take (k * 2) = evals (l.take k) := by
    rw [← hROW, Array.toList_append, Array.toList_append, List.toList_toArray, List.append_assoc, List.take_append_of_le_length (by rw [evals_len, List.length_take]; omega), List.take_of_length_le (by rw [evals_len, List.length_take]; omega)]
  obtain ⟨W1, hW1⟩ : ∃ W1, w.drew.alloc (.cells ROW 32) = W1 := ⟨_, rfl⟩
  have b1 : Below w.heap.size w W1 := by rw [← hW1]; exact (Below.refl _ w).drew.alloc (Nat.le_refl _) _
  have c1 : Cells W1 NB 32 ROW := by rw [← hW1, ← hNB]; exact Cells.new w.drew _ _
  rw [hW1] at hrz
  have g1 : Cells W1 g 32 cur := hcs.below b1 hgw
  have x1 : Cells W1 gb 32 (ecells x) := hcx.below b1 hcx.lt
  -- the name
  obtain ⟨R1, hR1⟩ : ∃ R1, ROW.toList.take (k * 2) ++ evals [x] ++ ROW.toList.drop (k * 2 + 2) = R1 := ⟨_, rfl⟩
  have hRl : ROW.toList.length = G * 2 := by rw [Array.length_toList, hRs]
  have hR1l : R1.length = G * 2 := by rw [← hR1]; simp [evals_len]; omega
  have hcpA := fun ty dc => copy_ents W1 ty NB (k * 2) (n + 1 - k) dc ⟨gb, 0, none⟩ 1 1 ROW _ [x] c1 (by show 1 = min 1 (n + 1 - k); omega) (fun j v hj => by
    rw [addr_lit, Nat.zero_add, x1.cell j, ← Array.getElem?_toList]; exact hj) (by rw [hRs]; simp; omega)
  have e1 : k * 2 + [x].length * 2 = k * 2 + 2 := by simp
  rw [e1, hR1] at hcpA
  obtain ⟨W2, hW2⟩ : ∃ W2, W1.setRow NB R1.toArray = W2 := ⟨_, rfl⟩
  rw [hW2] at hcpA
  have b2 : Below w.heap.size w W2 := by rw [← hW2]; exact b1.trans (below_setRow (by omega))
  have c2 : Cells W2 NB 32 R1.toArray := by rw [← hW2]; exact cells_setRow c1
  have g2 : Cells W2 g 32 cur := hcs.below b2 hgw
  -- what stood from k on
  have hdl : (l.drop k).length = n - k := by rw [List.length_drop, hn]
  have hcpB := fun ty dc sc => copy_ents W2.drew ty NB ((k + 1) * 2) (n + 1 - (k + 1)) dc ⟨g, k * 2, none⟩ (n - k) sc R1.toArray _ (l.drop k) c2 (by rw [hdl]; show n - k = min (n - k) (n + 1 - (k + 1)); omega) (fun j v hj => by
    rw [addr_lit]; exact cells_src (c := c) g2 htk k j v hj) (by rw [hdl, List.size_toArray, hR1l]; omega)
  rw [hdl, List.toList_toArray] at hcpB
  have hrow := row_xd (E := evals (l.take k)) (X := evals [x]) (D := evals (l.drop k)) (a := k * 2) (b := 2) (d := (n - k) * 2) hRt rfl (by rw [evals_len, hdl]) (by rw [hRl]; omega) hR1
  rw [show k * 2 + 2 = (k + 1) * 2 by omega] at hrow
  obtain ⟨R2, hR2⟩ : ∃ R2, R1.take ((k + 1) * 2) ++ evals (l.drop k) ++ R1.drop ((k + 1) * 2 + (n - k) * 2) = R2 := ⟨_, rfl⟩
  rw [hR2] at hcpB hrow
  obtain ⟨W3, hW3⟩ : ∃ W3, W2.drew.setRow NB R2.toArray = W3 := ⟨_, rfl⟩
  rw [hW3] at hcpB
  have b3 : Below w.heap.size w W3 := by rw [← hW3]; exact b2.drew.trans (below_setRow (by omega))
  have c3 : Cells W3 NB 32 R2.toArray := by rw [← hW3]; exact cells_setRow (w := W2.drew) c2
  have hown : OwnE W3 base (.slice (some ⟨NB, 0, none⟩) (n + 1) G) (insE l k x) := by
    refine OwnE.of (by rw [insE_len _ _ _ (by omega), hn]) (by omega) c3 hGn hGm (by rw [List.size_toArray, hrow.2, hRl]) ?_
    rw [List.toList_toArray, show (n + 1) * 2 = (k + 1) * 2 + (n - k) * 2 by omega, hrow.1]
    show _ = evals (l.take k ++ ([x] ++ l.drop k))
    rw [evals_append, evals_append, List.append_assoc]
  have mixed : Try.prog.follows .mixedOrders = true := by kernel_rfl
  have HOW := Lib.hid hown
  have HB3 := Lib.hid (b3.mono hbs)
  have hw1 : IntKind.i64.wrap ((k : Int) + 1) = (k : Int) + 1 := by rw [IntKind.wrap_i64]; omega
  have hb1 : (0 : Int) ≤ (k : Int) + 1 := by omega
  have htn : ((k : Int) + 1).toNat = k + 1 := by omega
  have hkk : (n : Int) + 1 - (k : Int) = ((n + 1 - k : Nat) : Int) := by omega
  have hGi : ¬ (G = k) := by omega
  have hGim : ¬ (G = k + 1) := by omega
  have hci : ¬ (c = k) := by omega
  have hk0 : (0 : Int) ≤ (k : Int) := by omega
  have hkn : (k : Int) ≤ (n : Int) := by omega
  have hne : ((k : Int) == (n : Int)) = false := beq_eq_false_iff_ne.2 (by omega)
  have hwk : IntKind.i64.wrap ((n : Int) + 1 - (k : Int)) = (n : Int) + 1 - (k : Int) := by rw [IntKind.wrap_i64]; omega
  have hwn : IntKind.i64.wrap ((n : Int) + 1) = (n : Int) + 1 := by rw [IntKind.wrap_i64]; omega
  have hgt : decide ((c : Int) < (n : Int) + 1) = true := decide_eq_true (by omega)
  clear hold hik hROW hRs hRt hW1 hW2 hW3 hR1 hR2 hRl hR1l hrow hown b1 b2 b3 c1 c2 c3 g1 g2 x1 e1 hdl hcs htk hsz hG hGm hx hcx i1 i2 i3 i4 h hgw hNB
  go_enter Try.func24, Try.ntmps24
  go_wp2_with (first
    | (at_builtin; refine Lib.wpList_append_run _ rfl _ _ _ _ rfl _ _ rfl rfl _ _ (hrz _) ?_)
    | (at_builtin; refine wpList_copy_runI _ rfl _ _ 22 22 rfl _ _ rfl rfl (hcpA _ _) ?_))
  go_region_law_o (refine step_copy_runI rfl _ _ 22 22 rfl (.slice (some ⟨NB, (k + 1) * 2, none⟩) (n + 1 - (k + 1)) (G - (k + 1))) (.slice (some ⟨g, k * 2, none⟩) (n - k) (c - k)) (by simp [Act.eval, Act.put]) (by simp [Act.eval, Act.put]) (hcpB 3 (G - (k + 1)) (c - k)) ?_)
  go_wp2
  go_ret
  exact ⟨_, rfl, HOW.out, HB3.out⟩

set_option maxHeartbeats 8000000 in
theorem dInsShift {w : World} {base g c n k : Nat} {l : List Ent} (hn : l.length = n) (h : OwnE w base (.slice (some ⟨g, 0, none⟩) n c) l) (hm : n ≤ 1000) (hbs : base ≤ w.heap.size) (hk : k < n) (hroom : n + 1 ≤ c) (x : Ent) (gb : Nat) (hx : Cells w gb 32 (ecells x)) (hgg : gb ≠ g) :
    Calls Try.prog 24 #[.slice (some ⟨g, 0, none⟩) n c, .int .i64 k, .slice (some ⟨gb, 0, none⟩) 1 1] w (MadeAt (insE l k x) base w) := by
  obtain ⟨i, i1, i2, i3, i4⟩ := info_parts infoE
  obtain ⟨g', cap, cur, hv, hbg, hcs, h1, h2, hsz, htk⟩ := h.block (by omega)
  injection hv with hv1 hv2 hv3
  injection hv1 with hv1
  injection hv1 with hv1 _ _
  clear hv2
  subst hv1 hv3
  have hov : ∀ lb cb, (callFunc 32 #[.slice (some ⟨gb, 0, none⟩) 1 1, .slice (some ⟨g, (k + 1) * 2, none⟩) lb cb]).run Try.prog w = .ok (.value (.bool false)) w := fun lb cb => by
    rw [run_callFunc_extern Try.func32 (by kernel_rfl) (by kernel_rfl) (by kernel_rfl) (e := Extern.SlicesOverlaps.overlaps #[22, 22] #[4]) (by kernel_rfl),
      Lib.run_overlaps_apart w 22 4 32 Try.underlying22 2 (fun w => by simp [Go.sizeOf, typeInfo, i1, i3]) ⟨gb, 0, none⟩ ⟨g, (k + 1) * 2, none⟩ 1 1 lb cb hgg 32 32 2 (c * 2)
        (by unfold World.shape?; rw [show w.heap[gb]? = _ from hx]; rfl) (by unfold World.shape?; rw [show w.heap[g]? = _ from hcs]; simp [hsz]) (by omega) (hx.free _) (hx.free _)]
    rfl
  have hdl : (l.drop k).length = n - k := by rw [List.length_drop, hn]
  -- what stands from k on
  have hcl : cur.toList.length = c * 2 := by rw [Array.length_toList, hsz]
  obtain ⟨R1, hR1⟩ : ∃ R1, cur.toList.take (k * 2 + 2) ++ evals (l.drop k) ++ cur.toList.drop (k * 2 + 2 + (n - k) * 2) = R1 := ⟨_, rfl⟩
  have hR1l : R1.length = c * 2 := by rw [← hR1]; simp [evals_len]; omega
  have hcpB := fun ty dc sc => copy_ents w.drew ty g ((k + 1) * 2) (n + 1 - (k + 1)) dc ⟨g, k * 2, none⟩ (n + 1 - k) sc cur _ (l.drop k) hcs (by rw [hdl]; show n - k = min (n + 1 - k) (n + 1 - (k + 1)); omega) (fun j v hj => by
    rw [addr_lit]; exact cells_src (c := c) (w := w.drew) hcs htk k j v hj) (by rw [hdl, hsz]; omega)
  rw [hdl, show (k + 1) * 2 = k * 2 + 2 by omega, hR1] at hcpB
  obtain ⟨W2, hW2⟩ : ∃ W2, w.drew.setRow g R1.toArray = W2 := ⟨_, rfl⟩
  rw [hW2] at hcpB
  have b2 : Below base w W2 := by rw [← hW2]; exact (Below.refl base w).drew.trans (below_setRow hbg)
  have c2 : Cells W2 g 32 R1.toArray := by rw [← hW2]; exact cells_setRow (w := w.drew) hcs
  have x2 : Cells W2 gb 32 (ecells x) := by
    rw [← hW2]
    show (w.drew.setRow g R1.toArray).heap[gb]? = _
    rw [setRow_other _ _ _ _ hgg]
    exact hx
  -- the name
  obtain ⟨R2, hR2⟩ : ∃ R2, R1.take (k * 2) ++ evals [x] ++ R1.drop (k * 2 + 2) = R2 := ⟨_, rfl⟩
  have hcpA := fun ty dc => copy_ents W2 ty g (k * 2) (n + 1 - k) dc ⟨gb, 0, none⟩ 1 1 R1.toArray _ [x] c2 (by show 1 = min 1 (n + 1 - k); omega) (fun j v hj => by
    rw [addr_lit, Nat.zero_add, x2.cell j, ← Array.getElem?_toList]; exact hj) (by rw [List.size_toArray, hR1l]; simp; omega)
  have e1 : k * 2 + [x].length * 2 = k * 2 + 2 := by simp
  rw [e1, List.toList_toArray, hR2] at hcpA
  obtain ⟨W3, hW3⟩ : ∃ W3, W2.setRow g R2.toArray = W3 := ⟨_, rfl⟩
  rw [hW3] at hcpA
  have b3 : Below base w W3 := by rw [← hW3]; exact b2.trans (below_setRow hbg)
  have c3 : Cells W3 g 32 R2.toArray := by rw [← hW3]; exact cells_setRow c2
  have hRt : cur.toList.take (k * 2) = evals (l.take k) := by
    rw [evals_take, ← htk, List.take_take]
    congr 1
    omega
  have hrow := row_dx (E := evals (l.take k)) (X := evals [x]) (D := evals (l.drop k)) (a := k * 2) (b := 2) (d := (n - k) * 2) hRt rfl (by rw [evals_len, hdl]) (by rw [hcl]; omega) hR1
  rw [hR2] at hrow
  have hown : OwnE W3 base (.slice (some ⟨g, 0, none⟩) (n + 1) c) (insE l k x) := by
    refine OwnE.of (by rw [insE_len _ _ _ (by omega), hn]) hbg c3 hroom h2 (by rw [List.size_toArray, hrow.2, hcl]) ?_
    rw [List.toList_toArray, show (n + 1) * 2 = k * 2 + 2 + (n - k) * 2 by omega, hrow.1]
    show _ = evals (l.take k ++ ([x] ++ l.drop k))
    rw [evals_append, evals_append, List.append_assoc]
  have mixed : Try.prog.follows .mixedOrders = true := by kernel_rfl
  have HOW := Lib.hid hown
  have HB3 := Lib.hid b3
  rw [show k * 2 + 2 = (k + 1) * 2 by omega] at hcpB
  have hw1 : IntKind.i64.wrap ((k : Int) + 1) = (k : Int) + 1 := by rw [IntKind.wrap_i64]; omega
  have hb1 : (0 : Int) ≤ (k : Int) + 1 := by omega
  have htn : ((k : Int) + 1).toNat = k + 1 := by omega
  have hci : ¬ (c = k) := by omega
  have hci1 : ¬ (c = k + 1) := by omega
  have hk0 : (0 : Int) ≤ (k : Int) := by omega
  have hkn : (k : Int) ≤ (n : Int) := by omega
  have hkn1 : (k : Int) ≤ (n : Int) + 1 := by omega
  have hkn2 : (k : Int) + 1 ≤ (n : Int) + 1 := by omega
  have hne : ((k : Int) == (n : Int)) = false := beq_eq_false_iff_ne.2 (by omega)
  have hwn : IntKind.i64.wrap ((n : Int) + 1) = (n : Int) + 1 := by rw [IntKind.wrap_i64]; omega
  have hgt : decide ((c : Int) < (n : Int) + 1) = false := decide_eq_false (by omega)
  have hn1 : ((n : Int) + 1).toNat = n + 1 := by omega
  have hn1c : (n : Int) + 1 ≤ (c : Int) := by omega
  have hnn : (0 : Int) ≤ (n : Int) + 1 := by omega
  clear hW2 hW3 hR1 hR2 hcl hR1l hrow hown b2 b3 c2 c3 x2 e1 hdl hcs htk hsz i1 i2 i3 i4 h hRt hx
  go_enter Try.func24, Try.ntmps24
  go_wp2_with (simp only [hov])
  go_region_law_o (refine step_copy_runI rfl _ _ 22 22 rfl (.slice (some ⟨g, (k + 1) * 2, none⟩) (n + 1 - (k + 1)) (c - (k + 1))) (.slice (some ⟨g, k * 2, none⟩) (n + 1 - k) (c - k)) (by simp [Act.eval, Act.put]) (by simp [Act.eval, Act.put]) (hcpB 3 (c - (k + 1)) (c - k)) ?_)
  go_wp2_with (at_builtin; refine wpList_copy_runI _ rfl _ _ 22 22 rfl _ _ rfl rfl (hcpA _ _) ?_)
  go_ret
  exact ⟨_, rfl, HOW.out, HB3.out⟩

/-- wherever it is laid -/
theorem dIns {w : World} {base n c k : Nat} {A : Option Addr} {l : List Ent} (hn : l.length = n) (h : OwnE w base (.slice A n c) l) (hm : n ≤ 1000) (hbs : base ≤ w.heap.size) (hk : k ≤ n) (x : Ent) (gb : Nat) (hx : Cells w gb 32 (ecells x)) (hgg : ∀ q, (Value.slice A n c).ownBlock = some q → gb ≠ q) :
    Calls Try.prog 24 #[.slice A n c, .int .i64 k, .slice (some ⟨gb, 0, none⟩) 1 1] w (MadeAt (insE l k x) base w) := by
  by_cases hkn : k = n
  · subst hkn
    exact dInsEnd hn h hm hbs x gb (gb + 1) (ens_one hx (Nat.lt_succ_self _))
  · obtain ⟨g, cap, cur, hv, hbg, hcs, h1, h2, hsz, htk⟩ := h.block (by omega)
    injection hv with hv1 hv2 hv3
    subst hv1 hv3
    by_cases hr : n + 1 ≤ c
    · exact dInsShift hn h hm hbs (by omega) hr x gb hx (hgg g rfl)
    · exact dInsGrow (hi := 0) hn h hm hbs (by omega) (by omega) x gb hx
end Go.Proofs.Ytbegnnohmahglaa
