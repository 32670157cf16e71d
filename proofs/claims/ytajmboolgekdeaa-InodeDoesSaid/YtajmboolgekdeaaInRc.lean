import Derived.Test.YtajmboolgekdeaaInPu
namespace Go.Proofs.Ytajmboolgekdeaa
open Wd Ino Go.RowKit Go.ChangeShapes Go.WideShapes Go.Sort
set_option linter.unusedVariables false
set_option maxRecDepth 100000

/-! the document's copy -/
set_option maxHeartbeats 8000000 in
theorem rCopy (n : Nd) (w : World) (h : n.In w) (hp : n.pages.length ≤ 1000) (hq : n.names.length ≤ 1000) :
    Calls Try.prog 25 #[n.val] w fun e w' => ∃ V A ac B bc, e = .returned V ∧ OwnN w' w.heap.size V n.ino n.kind n.links n.size n.up n.pages n.names A ac B bc ∧ Below w.heap.size w w' := by
  obtain ⟨i, ki, l, s, u, A, ac, P, B, bc, N⟩ := n
  dsimp only at hp hq ⊢
  have hr := h.row
  have he := h.ens
  dsimp only at hr he
  have hRow := hr
  unfold Nd.val
  dsimp only
  have HB0 := Lib.hid (((Below.refl w.heap.size w).alloc (Nat.le_refl _) (.cells (ncells i ki l s u (.slice A P.length ac) (.slice B N.length bc)) 25)).alloc (by simp) (.cells (ncells 0 0 0 0 0 (.slice none 0 0) (.slice none 0 0)) 25))
  have hc : Cells ((w.alloc (.cells (ncells i ki l s u (.slice A P.length ac) (.slice B N.length bc)) 25)).alloc (.cells (ncells 0 0 0 0 0 (.slice none 0 0) (.slice none 0 0)) 25)) w.heap.size 25 (ncells i ki l s u (.slice A P.length ac) (.slice B N.length bc)) := (Cells.new _ _ _).alloc _
  have hr2 : Cells ((w.alloc (.cells (ncells i ki l s u (.slice A P.length ac) (.slice B N.length bc)) 25)).alloc (.cells (ncells 0 0 0 0 0 (.slice none 0 0) (.slice none 0 0)) 25)) (w.heap.size + 1) 25 (ncells 0 0 0 0 0 (.slice none 0 0) (.slice none 0 0)) := by
    have := Cells.new (w.alloc (.cells (ncells i ki l s u (.slice A P.length ac) (.slice B N.length bc)) 25)) 25 (ncells 0 0 0 0 0 (.slice none 0 0) (.slice none 0 0)); simpa using this
  obtain ⟨W2, hW2⟩ : ∃ W2, (w.alloc (.cells (ncells i ki l s u (.slice A P.length ac) (.slice B N.length bc)) 25)).alloc (.cells (ncells 0 0 0 0 0 (.slice none 0 0) (.slice none 0 0)) 25) = W2 := ⟨_, rfl⟩
  have hs2 : W2.heap.size = w.heap.size + 2 := by rw [← hW2]; simp
  rw [hW2] at HB0 hc hr2
  have HE0 := Lib.hid he
  have hrow2 := (hr.below HB0.out).more HB0.out.size
  have hens2 := (he.below HB0.out).more HB0.out.size
  unfold ncells at hW2
  have HC := Lib.hid hc; have HR := Lib.hid hr2; have HS2 := Lib.hid hs2; have HRow := Lib.hid hrow2; have HEns := Lib.hid hens2
  have h1 : 0 + P.length ≤ 1000 := by omega
  have hb2 : w.heap.size + 2 ≤ W2.heap.size := Nat.le_of_eq hs2.symm
  have hl3 : ([] : List Ent).length + N.length ≤ 100000 := by rw [List.length_nil]; omega
  have O2 := Lib.hid (own_nil W2 (w.heap.size + 2) 3)
  clear hr he h hRow hrow2 hens2
  go_enter Try.func25, Try.ntmps25
  go_upto_region 1 with fail
  obtain ⟨c0, c1, c2, c3, c4, c5, c6⟩ := cells7 hc
  clear hc hr2 hW2 hs2
  go_upto_region 2 with (at_builtin; refine wpList_append_row _ rfl (.const (.slice none 0 0)) (.tmp 4) 22 rfl (w.heap.size + 2) 3 (.int .i64 0) 8 Try.underlying22 infoI rfl (.slice none 0 0) 0 [] rfl O2.out _ A P.length ac (P.map iv) rfl HRow.out (oneI _) (by unfold maxLen; omega) (by omega) hb2 ?_; intro v5 w5 hown5 hgr5 hat5; obtain ⟨A3, c3', rfl, _⟩ := Row.of_own hown5; have hb5 : Below W2.heap.size W2 w5 := (Below.refl _ _).grown hgr5 (Nat.le_refl _) (fun q e => by cases e); have HO5 := Lib.hid hown5; have HB5 := Lib.hid hb5; have x5 := (HC.out.below' hb5).cell 5; have z5 := (HC.out.below' hb5).free 5; simp [ncells] at x5; clear hown5 hgr5 hat5 hb5)
  obtain ⟨W6, hW6⟩ : ∃ W6, w5.setCell ⟨w.heap.size, 5, none⟩ (.slice A3 P.length c3') = W6 := ⟨_, rfl⟩
  have hB5 := HB0.out.trans (HB5.out.mono HB0.out.size)
  have b6 : Below w.heap.size w W6 := by rw [← hW6]; exact hB5.setCell (p := ⟨w.heap.size, 5, none⟩) (Nat.le_refl _) _
  have hc6 : Cells W6 w.heap.size 25 (ncells i ki l s u (.slice A3 P.length c3') (.slice B N.length bc)) := by
    rw [← hW6]
    have h : Cells _ w.heap.size 25 (ncells i ki l s u (.slice A3 P.length c3') (.slice B N.length bc)) := Cells.set (HC.out.below' HB5.out) 5 (.slice A3 P.length c3')
    exact h
  have hr6 : Cells W6 (w.heap.size + 1) 25 (ncells 0 0 0 0 0 (.slice none 0 0) (.slice none 0 0)) := by
    rw [← hW6]; exact (HR.out.below' HB5.out).far (p := ⟨w.heap.size, 5, none⟩) (by simp) _
  have oI6 : OwnI W6 (w.heap.size + 2) (.slice A3 P.length c3') P := by
    rw [← hW6]
    have h := HO5.out
    rw [List.nil_append, Nat.zero_add] at h
    exact own_far h (p := ⟨w.heap.size, 5, none⟩) (by simp) _
  rw [hW6]
  have hens6 := (HE0.out.below b6).more b6.size
  have hs6 : w.heap.size + 2 ≤ W6.heap.size := by have := hr6.lt; omega
  have c6' := (cells7 hc6).2.2.2.2.2.2
  have O6 := Lib.hid (own_nilE W6 (w.heap.size + 2))
  have B6 := Lib.hid b6; have C6 := Lib.hid hc6; have R6 := Lib.hid hr6; have OI6 := Lib.hid oI6; have E6 := Lib.hid hens6
  clear hW6 hB5 b6 hc6 hr6 oI6 hens6 c0 c1 c2 c3 c4 c5 c6 x5 z5 HO5 HB5 HC HR HS2 HRow HEns HB0 O2 hb2 h1
  go_upto_region 3 with (at_builtin; refine wpList_append_ens rfl (.const (.slice none 0 0)) (.tmp 8) rfl rfl rfl O6.out E6.out hl3 hs6 ?_; intro v7 w7 hown7 hgr7 hat7; obtain ⟨B3, d3', rfl, _, _⟩ := hown7.form; have hb7 : Below W6.heap.size W6 w7 := (Below.refl _ _).grown hgr7 (Nat.le_refl _) (fun q e => by cases e); have HO7 := Lib.hid hown7; have HB7 := Lib.hid hb7; have x6 := (C6.out.below' hb7).cell 6; have z6 := (C6.out.below' hb7).free 6; simp [ncells] at x6; clear hown7 hgr7 hat7 hb7)
  obtain ⟨W8, hW8⟩ : ∃ W8, w7.setCell ⟨w.heap.size, 6, none⟩ (.slice B3 N.length d3') = W8 := ⟨_, rfl⟩
  have b8 : Below w.heap.size w W8 := by rw [← hW8]; exact (B6.out.trans (HB7.out.mono B6.out.size)).setCell (p := ⟨w.heap.size, 6, none⟩) (Nat.le_refl _) _
  have hc8 : Cells W8 w.heap.size 25 (ncells i ki l s u (.slice A3 P.length c3') (.slice B3 N.length d3')) := by
    rw [← hW8]
    have h : Cells _ w.heap.size 25 (ncells i ki l s u (.slice A3 P.length c3') (.slice B3 N.length d3')) := Cells.set (C6.out.below' HB7.out) 6 (.slice B3 N.length d3')
    exact h
  have hr8 : Cells W8 (w.heap.size + 1) 25 (ncells 0 0 0 0 0 (.slice none 0 0) (.slice none 0 0)) := by
    rw [← hW8]; exact (R6.out.below' HB7.out).far (p := ⟨w.heap.size, 6, none⟩) (by simp) _
  have oI8 : OwnI W8 (w.heap.size + 2) (.slice A3 P.length c3') P := by
    rw [← hW8]
    exact own_far (OI6.out.below HB7.out) (p := ⟨w.heap.size, 6, none⟩) (by simp) _
  have oE8 : OwnE W8 (w.heap.size + 2) (.slice B3 N.length d3') N := by
    rw [← hW8]
    have h := HO7.out
    rw [List.nil_append] at h
    exact own_far h (p := ⟨w.heap.size, 6, none⟩) (by simp) _
  rw [hW8]
  obtain ⟨c0, c1, c2, c3, c4, c5, c6⟩ := cells7 hc8
  obtain ⟨d0, d1, d2, d3, d4, d5, d6⟩ := cells7 hr8
  have z := fun j => Cells.free hr8 j
  have R8 := Lib.hid hr8; have B8 := Lib.hid b8; have OI8 := Lib.hid oI8; have OE8 := Lib.hid oE8
  clear hW8 b8 hc8 hr8 oI8 oE8 x6 z6 c6' hs6 hl3
  go_wp2
  exact bodyPost_ret (results_cell_row rfl _ _ (w.heap.size + 1) 25 (ncells i ki l s u (.slice A3 P.length c3') (.slice B3 N.length d3')) (0, 0) _ rfl (set7_cells R8.out) Try.underlying25 rfl (by kernel_rfl)) rfl
    ⟨_, A3, c3', B3, d3', rfl, ⟨rfl, OwnI.mono (own_set7 OI8.out (by omega)) (by omega), OwnE.mono (own_set7 OE8.out (by omega)) (by omega)⟩, set7_below B8.out (by omega)⟩
end Go.Proofs.Ytajmboolgekdeaa
