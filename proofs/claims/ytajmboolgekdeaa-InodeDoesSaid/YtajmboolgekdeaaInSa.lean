import Derived.Test.YtajmboolgekdeaaInEq
namespace Go.Proofs.Ytajmboolgekdeaa
open Wd Ino Go.RowKit Go.ChangeShapes Go.WideShapes Go.Sort
set_option linter.unusedVariables false
set_option maxRecDepth 100000

/-- a node's rows lie in the world -/
structure Nd.In (n : Nd) (w : World) : Prop where
  row : Row w w.heap.size n.A n.pages.length (n.pages.map iv)
  ens : Ens w w.heap.size n.B n.names
theorem Nd.In.at_ {n : Nd} {w w' : World} (h : n.In w) (hb : Below w.heap.size w w') : n.In w' := ⟨(h.row.below hb).more hb.size, h.ens.at_ hb⟩
theorem Nd.Ok.in_ {n : Nd} {w : World} (h : n.Ok w w.heap.size) : n.In w := ⟨h.row, h.ens⟩
def nodeEq (n k : Nd) : Bool := ((((((n.ino == k.ino) && (n.kind == k.kind)) && (n.links == k.links)) && (n.size == k.size)) && (n.up == k.up)) && decide (n.pages = k.pages)) && decide (n.names = k.names)
theorem nodeEq_iff {n k : Nd} : nodeEq n k = true ↔ n.ino = k.ino ∧ n.kind = k.kind ∧ n.links = k.links ∧ n.size = k.size ∧ n.up = k.up ∧ n.pages = k.pages ∧ n.names = k.names := by
  unfold nodeEq
  simp only [Bool.and_eq_true, beq_iff_eq, decide_eq_true_eq, and_assoc]
theorem grown_b {w wr : World} (h : ∃ q os, wr = grow (w.drewN q) os) : Below w.heap.size w wr := by
  obtain ⟨q, os, rfl⟩ := h
  exact below_grow' w q os
set_option maxHeartbeats 8000000 in
theorem iSame (n k : Nd) (w : World) (hn : n.In w) (hk : k.In w) (h1 : n.pages.length ≤ 1000) (h2 : n.names.length ≤ 1000) : Calls Try.prog 17 #[n.val, k.val] w (Grows (.bool (nodeEq n k)) w) := by
  obtain ⟨i, ki, l, s, u, A, ac, P, B, bc, N⟩ := n
  obtain ⟨i', ki', l', s', u', A', ac', P', B', bc', N'⟩ := k
  dsimp only at h1 h2
  have KP := Lib.hid (fun w1 (b : Below w.heap.size w w1) => eqI_any P P' _ _ rfl rfl h1 A A' ac ac' _ _ w1 (hn.row.below b) (hk.row.below b))
  have KE := Lib.hid (fun w1 (b : Below w.heap.size w w1) => eqEs_any N N' _ _ rfl rfl h2 B B' bc bc' _ _ w1 (hn.ens.below b) (hk.ens.below b))
  have hc := Cells.new w 25 (ncells i ki l s u (.slice A P.length ac) (.slice B N.length bc))
  have hd := Cells.new (w.alloc (.cells (ncells i ki l s u (.slice A P.length ac) (.slice B N.length bc)) 25)) 25 (ncells i' ki' l' s' u' (.slice A' P'.length ac') (.slice B' N'.length bc'))
  have hc2 := hc.alloc (.cells (ncells i' ki' l' s' u' (.slice A' P'.length ac') (.slice B' N'.length bc')) 25)
  have hsz : (w.alloc (.cells (ncells i ki l s u (.slice A P.length ac) (.slice B N.length bc)) 25)).heap.size = w.heap.size + 1 := by simp
  rw [hsz] at hd
  have hg := grow_alloc (grow_one w (.cells (ncells i ki l s u (.slice A P.length ac) (.slice B N.length bc)) 25)) (.cells (ncells i' ki' l' s' u' (.slice A' P'.length ac') (.slice B' N'.length bc')) 25)
  have HG := Lib.hid hg
  have HC := Lib.hid hc2
  have HD := Lib.hid hd
  obtain ⟨c0, c1, c2, c3, c4, c5, c6⟩ := cells7 hc2
  obtain ⟨d0, d1, d2, d3, d4, d5, d6⟩ := cells7 hd
  unfold nodeEq Nd.val
  dsimp only
  obtain ⟨bp, hbp⟩ : ∃ b, decide (P = P') = b := ⟨_, rfl⟩
  obtain ⟨be, hbe⟩ : ∃ b, decide (N = N') = b := ⟨_, rfl⟩
  rw [hbp] at KP ⊢
  rw [hbe] at KE ⊢
  unfold ncells at c0 c1 c2 c3 c4 c5 c6 d0 d1 d2 d3 d4 d5 d6 HG HC HD
  clear hc hd hc2 hsz hg hbp hbe hn hk h1 h2
  cases q0 : (i == i')
  · rw [Bool.false_and, Bool.false_and, Bool.false_and, Bool.false_and, Bool.false_and, Bool.false_and]
    go_enter Try.func17, Try.ntmps17
    go_wp2
    go_ret
    exact ⟨rfl, HG.out⟩
  cases q1 : (ki == ki')
  · rw [Bool.and_false, Bool.false_and, Bool.false_and, Bool.false_and, Bool.false_and, Bool.false_and]
    go_enter Try.func17, Try.ntmps17
    go_wp2
    go_ret
    exact ⟨rfl, HG.out⟩
  cases q2 : (l == l')
  · rw [Bool.and_false, Bool.false_and, Bool.false_and, Bool.false_and, Bool.false_and]
    go_enter Try.func17, Try.ntmps17
    go_wp2
    go_ret
    exact ⟨rfl, HG.out⟩
  cases q3 : (s == s')
  · rw [Bool.and_false, Bool.false_and, Bool.false_and, Bool.false_and]
    go_enter Try.func17, Try.ntmps17
    go_wp2
    go_ret
    exact ⟨rfl, HG.out⟩
  cases q4 : (u == u')
  · rw [Bool.and_false, Bool.false_and, Bool.false_and]
    go_enter Try.func17, Try.ntmps17
    go_wp2
    go_ret
    exact ⟨rfl, HG.out⟩
  cases bp
  · rw [Bool.and_false, Bool.false_and]
    go_enter Try.func17, Try.ntmps17
    go_wp2_with fail
    refine (KP.out _ (grown_b HG.out)).mono ?_
    rintro e w1 ⟨rfl, hg⟩
    go_wp2
    go_ret
    exact ⟨rfl, grow_trans HG.out hg⟩
  · rw [Bool.true_and, Bool.true_and]
    go_enter Try.func17, Try.ntmps17
    go_wp2_with fail
    refine (KP.out _ (grown_b HG.out)).mono ?_
    rintro e w1 ⟨rfl, hg⟩
    have G1 := Lib.hid (grow_trans HG.out hg)
    have c7 := (HC.out.below' (grown_b hg)).cell 6
    have d7 := (HD.out.below' (grown_b hg)).cell 6
    simp at c7 d7
    clear hg c0 c1 c2 c3 c4 c5 c6 d0 d1 d2 d3 d4 d5 d6
    go_wp2_with fail
    refine (KE.out _ (grown_b G1.out)).mono ?_
    rintro e w2 ⟨rfl, hg⟩
    go_wp2
    go_ret
    exact ⟨by simp, grow_trans G1.out hg⟩

set_option maxHeartbeats 8000000 in
theorem rSame (n k : Nd) (w : World) (hn : n.In w) (hk : k.In w) (h1 : n.pages.length ≤ 1000) (h2 : n.names.length ≤ 1000) : Calls Try.prog 10 #[n.val, k.val] w (Grows (.bool (nodeEq n k)) w) := by
  obtain ⟨i, ki, l, s, u, A, ac, P, B, bc, N⟩ := n
  obtain ⟨i', ki', l', s', u', A', ac', P', B', bc', N'⟩ := k
  dsimp only at h1 h2
  have KP := Lib.hid (fun w1 (b : Below w.heap.size w w1) => sameI_any P P' _ _ rfl rfl h1 A A' ac ac' _ _ w1 (hn.row.below b) (hk.row.below b))
  have KE := Lib.hid (fun w1 (b : Below w.heap.size w w1) => sameEs_any N N' _ _ rfl rfl h2 B B' bc bc' _ _ w1 (hn.ens.below b) (hk.ens.below b))
  have hc := Cells.new w 25 (ncells i ki l s u (.slice A P.length ac) (.slice B N.length bc))
  have hd := Cells.new (w.alloc (.cells (ncells i ki l s u (.slice A P.length ac) (.slice B N.length bc)) 25)) 25 (ncells i' ki' l' s' u' (.slice A' P'.length ac') (.slice B' N'.length bc'))
  have hc2 := hc.alloc (.cells (ncells i' ki' l' s' u' (.slice A' P'.length ac') (.slice B' N'.length bc')) 25)
  have hsz : (w.alloc (.cells (ncells i ki l s u (.slice A P.length ac) (.slice B N.length bc)) 25)).heap.size = w.heap.size + 1 := by simp
  rw [hsz] at hd
  have hg := grow_alloc (grow_one w (.cells (ncells i ki l s u (.slice A P.length ac) (.slice B N.length bc)) 25)) (.cells (ncells i' ki' l' s' u' (.slice A' P'.length ac') (.slice B' N'.length bc')) 25)
  have HG := Lib.hid hg
  have HC := Lib.hid hc2
  have HD := Lib.hid hd
  obtain ⟨c0, c1, c2, c3, c4, c5, c6⟩ := cells7 hc2
  obtain ⟨d0, d1, d2, d3, d4, d5, d6⟩ := cells7 hd
  unfold nodeEq Nd.val
  dsimp only
  obtain ⟨bp, hbp⟩ : ∃ b, decide (P = P') = b := ⟨_, rfl⟩
  obtain ⟨be, hbe⟩ : ∃ b, decide (N = N') = b := ⟨_, rfl⟩
  rw [hbp] at KP ⊢
  rw [hbe] at KE ⊢
  unfold ncells at c0 c1 c2 c3 c4 c5 c6 d0 d1 d2 d3 d4 d5 d6 HG HC HD
  clear hc hd hc2 hsz hg hbp hbe hn hk h1 h2
  cases q0 : (i == i')
  · rw [Bool.false_and, Bool.false_and, Bool.false_and, Bool.false_and, Bool.false_and, Bool.false_and]
    go_enter Try.func10, Try.ntmps10
    go_wp2
    go_ret
    exact ⟨rfl, HG.out⟩
  cases q1 : (ki == ki')
  · rw [Bool.and_false, Bool.false_and, Bool.false_and, Bool.false_and, Bool.false_and, Bool.false_and]
    go_enter Try.func10, Try.ntmps10
    go_wp2
    go_ret
    exact ⟨rfl, HG.out⟩
  cases q2 : (l == l')
  · rw [Bool.and_false, Bool.false_and, Bool.false_and, Bool.false_and, Bool.false_and]
    go_enter Try.func10, Try.ntmps10
    go_wp2
    go_ret
    exact ⟨rfl, HG.out⟩
  cases q3 : (s == s')
  · rw [Bool.and_false, Bool.false_and, Bool.false_and, Bool.false_and]
    go_enter Try.func10, Try.ntmps10
    go_wp2
    go_ret
    exact ⟨rfl, HG.out⟩
  cases q4 : (u == u')
  · rw [Bool.and_false, Bool.false_and, Bool.false_and]
    go_enter Try.func10, Try.ntmps10
    go_wp2
    go_ret
    exact ⟨rfl, HG.out⟩
  cases bp
  · rw [Bool.and_false, Bool.false_and]
    go_enter Try.func10, Try.ntmps10
    go_wp2_with fail
    refine (KP.out _ (grown_b HG.out)).mono ?_
    rintro e w1 ⟨rfl, hg⟩
    go_wp2
    go_ret
    exact ⟨rfl, grow_trans HG.out hg⟩
  · rw [Bool.true_and, Bool.true_and]
    go_enter Try.func10, Try.ntmps10
    go_wp2_with fail
    refine (KP.out _ (grown_b HG.out)).mono ?_
    rintro e w1 ⟨rfl, hg⟩
    have G1 := Lib.hid (grow_trans HG.out hg)
    have c7 := (HC.out.below' (grown_b hg)).cell 6
    have d7 := (HD.out.below' (grown_b hg)).cell 6
    simp at c7 d7
    clear hg c0 c1 c2 c3 c4 c5 c6 d0 d1 d2 d3 d4 d5 d6
    go_wp2_with fail
    refine (KE.out _ (grown_b G1.out)).mono ?_
    rintro e w2 ⟨rfl, hg⟩
    go_wp2
    go_ret
    exact ⟨by simp, grow_trans G1.out hg⟩

end Go.Proofs.Ytajmboolgekdeaa
