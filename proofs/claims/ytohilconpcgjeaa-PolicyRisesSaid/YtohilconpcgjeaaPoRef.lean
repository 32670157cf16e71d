import Derived.Test.YtohilconpcgjeaaPoRun
namespace Go.Proofs.Ytohilconpcgjeaa
open Wd Go.ChangeShapes Go.WideShapes Go.RowKit
set_option linter.unusedVariables false

def Sofar (K G : Nat) (l : List Bool) (rs : List Nat) (k : Nat) : Prop := rs.length = k ∧ ∀ j, j < k → ∃ r, rs[j]? = some r ∧ r < 18446744073709551616 ∧ Fl.cv r = Fl.sc K G (l.take (j + 1))
theorem Sofar.step {K G : Nat} {l : List Bool} {rs : List Nat} {k : Nat} (h : Sofar K G l rs k) (hk : k < l.length) (r : Nat) (hr : r < 18446744073709551616) (hc : Fl.cv r = Fl.nx K G (Fl.sc K G (l.take k)) l[k]) :
    Sofar K G l (rs ++ [r]) (k + 1) := by
  refine ⟨by rw [List.length_append, h.1]; rfl, fun j hj => ?_⟩
  by_cases e : j = k
  · subst e
    exact ⟨r, by rw [List.getElem?_append_right (by rw [h.1]; exact Nat.le_refl _), h.1, Nat.sub_self]; rfl, hr, by rw [hc, Fl.sc_take K G l j hk]⟩
  · obtain ⟨r', h1, h2⟩ := h.2 j (by omega)
    exact ⟨r', by rw [List.getElem?_append_left (by rw [h.1]; omega)]; exact h1, h2⟩

def RefRel (K G L : Nat) (l : List Bool) (W : World) (i s o : Value) (w : World) : Prop :=
  ∃ (k x : Nat) (rs : List Nat), k ≤ l.length ∧ i = .int .i64 k ∧ s = .float .f64 x ∧ x < 18446744073709551616 ∧ Fl.cv x = Fl.sc K G (l.take k) ∧ Sofar K G l rs k ∧ w.ownsRow (W.heap.size + 1) 26 1 o k (rs.map (Value.float .f64)) ∧
    Cells w W.heap.size 32 #[.float .f64 K, .float .f64 G, .float .f64 L] ∧ Below W.heap.size W w

def RefDone (K G : Nat) (l : List Bool) (W : World) (e : Ending) (w : World) : Prop :=
  ∃ v rs, e = .returned v ∧ Sofar K G l rs l.length ∧ w.ownsRow (W.heap.size + 1) 26 1 v l.length (rs.map (Value.float .f64)) ∧ Below W.heap.size W w

set_option maxHeartbeats 1000000 in
theorem refScores_any (K G L : Nat) (l : List Bool) (A : Option Addr) (c : Nat) (w : World) (hn : l.length ≤ 1000) (hl : Row w w.heap.size A l.length (l.map Value.bool)) :
    Calls Try.prog 17 #[.agg #[.float .f64 K, .float .f64 G, .float .f64 L], .slice A l.length c] w (RefDone K G l w) := by
  obtain ⟨i0, hi, hz0, hz1, hz2⟩ := info_parts infof
  have HI := Lib.hid hi; have HZ0 := Lib.hid hz0; have HZ1 := Lib.hid hz1; have HZ2 := Lib.hid hz2; clear hi hz0 hz1 hz2
  have HL := Lib.hid hl; clear hl
  go_enter Try.func17, Try.ntmps17
  go_wp2
  go_loopw [11, 6, 5] (fun i s o wr => RefRel K G L l w i s o wr) (fun i _ _ _ => l.length - (intOf i).toNat)
  case atStart =>
    exact ⟨0, 0, [], Nat.zero_le _, rfl, rfl, by omega, by rw [List.take_zero]; exact Fl.cv_zero, ⟨rfl, fun j hj => absurd hj (by omega)⟩, ⟨rfl, .inl ⟨rfl, rfl⟩⟩, Cells.new _ _ _, (Below.refl _ _).alloc (Nat.le_refl _) _⟩
  case round =>
    obtain ⟨k, x, rs, hkl, rfl, rfl, hx, hc, hso, hown, hbx, hbe⟩ := hrel
    have HC := Lib.hid hc; clear hc
    by_cases hlt : k < l.length
    · obtain ⟨b, off, y, rfl, hbb, hget, hcell⟩ := (HL.out.below hbe).get hlt
      have hy : l[k] = y := by have := List.getElem?_eq_getElem hlt; rw [this] at hget; exact Option.some.inj hget
      have HY := Lib.hid hy; have HG := Lib.hid hget; clear hget hy
      have b0 := hbx.cell 0
      have b1 := hbx.cell 1
      simp only [List.getElem?_toArray, List.getElem?_cons_zero, List.getElem?_cons_succ] at b0 b1
      obtain ⟨r1, n1, e1, h1, c1⟩ := arith_cv Try.prog .mul _ 26 K x wr (.inl ⟨rfl, rfl⟩)
      have C1 := Lib.hid c1
      cases y
      · clear c1
        go_wp2_with (at_builtin; refine wpList_append_own _ rfl _ _ 22 rfl (w.heap.size + 1) 26 i0 (.float .f64 0) 1 8 Try.underlying22 HI.out HZ0.out HZ1.out HZ2.out rfl (by decide) _ _ _ rfl ((own_drewN hown _).alloc _) ⟨wr.heap.size, 0, none⟩ 1 1 [.float .f64 r1] rfl rfl (one_new _ _ _ _) (by simp [Value.oneCell']) (by unfold maxLen; omega) (by omega) (by have := hbe.size; have := hbx.lt; simp; omega) ?_; intro v2 w2 hown2 hgr _)
        go_wp2
        have hgw := grown_trans (grown_of_below ((below_drewN (Below.refl wr.heap.size wr) _).alloc (Nat.le_refl _) _) _) hgr
        have hbl := own_base hown
        go_roundw
        case rel =>
          refine ⟨k + 1, r1, rs ++ [r1], by omega, by go_num, rfl, h1, ?_, hso.step hlt _ h1 ?_, by rw [List.map_append]; exact hown2, hbx.grown hgw (fun e => by have := hbl _ e.symm; omega), hbe.grown hgw hbe.size (fun q hq => by have := hbl q hq; omega)⟩
          · rw [Fl.sc_take K G l k hlt, ← HC.out, HY.out]; exact C1.out
          · rw [← HC.out, HY.out]; exact C1.out
        case measure => simp [intOf]; omega
      · obtain ⟨r2, n2, e2, h2, c2⟩ := arith_cv Try.prog .add _ 26 r1 G (wr.drewN n1) (.inr ⟨rfl, rfl⟩)
        have C2 := Lib.hid c2; clear c1 c2
        go_wp2_with (at_builtin; refine wpList_append_own _ rfl _ _ 22 rfl (w.heap.size + 1) 26 i0 (.float .f64 0) 1 8 Try.underlying22 HI.out HZ0.out HZ1.out HZ2.out rfl (by decide) _ _ _ rfl ((own_drewN hown _).alloc _) ⟨wr.heap.size, 0, none⟩ 1 1 [.float .f64 r2] rfl rfl (one_new _ _ _ _) (by simp [Value.oneCell']) (by unfold maxLen; omega) (by omega) (by have := hbe.size; have := hbx.lt; simp; omega) ?_; intro v2 w2 hown2 hgr _)
        go_wp2
        have hgw := grown_trans (grown_of_below ((below_drewN (Below.refl wr.heap.size wr) _).alloc (Nat.le_refl _) _) _) hgr
        have hbl := own_base hown
        go_roundw
        case rel =>
          refine ⟨k + 1, r2, rs ++ [r2], by omega, by go_num, rfl, h2, ?_, hso.step hlt _ h2 ?_, by rw [List.map_append]; exact hown2, hbx.grown hgw (fun e => by have := hbl _ e.symm; omega), hbe.grown hgw hbe.size (fun q hq => by have := hbl q hq; omega)⟩
          · rw [Fl.sc_take K G l k hlt, ← HC.out, HY.out]; exact (by rw [C2.out]; exact congrArg (fun z => Fl.addO z (Fl.cv G)) C1.out)
          · rw [← HC.out, HY.out]; exact (by rw [C2.out]; exact congrArg (fun z => Fl.addO z (Fl.cv G)) C1.out)
        case measure => simp [intOf]; omega
    · go_wp2
      go_ret
      obtain rfl : k = l.length := by omega
      exact ⟨_, rs, rfl, hso, hown, hbe⟩
end Go.Proofs.Ytohilconpcgjeaa
