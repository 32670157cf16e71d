import Derived.Test.YtlfmfdbgchpjgaaExSml
import Derived.BigRegion
import Derived.Deep.DeepCutAuto
import Derived.Shelf.SlSortCmp.QuietGrown
namespace Go.Proofs.Ytlfmfdbgchpjgaa
open Wd Ex Go.RowKit Go.ChangeShapes Go.WideShapes Go.Sort
set_option linter.unusedVariables false
set_option maxRecDepth 100000

theorem grow_two (w : World) (o o' : Obj) : ∃ q os, (w.alloc o).alloc o' = grow (w.drewN q) os := grow_alloc (grow_one w o) o'
set_option maxHeartbeats 4000000 in
theorem xAs (a e : Ext) (h0 : -9223372036854775808 ≤ a.f + a.n) (h1 : a.f + a.n ≤ 9223372036854775807) (h2 : 1 ≤ e.p) (h3 : e.p ≤ 9223372036854775807) (h4 : 0 ≤ a.p + a.n) (h5 : a.p + a.n ≤ 9223372036854775808) (w : World) :
    Calls Try.prog 26 #[a.val, e.val] w (Grows (.bool (asB a e)) w) := by
  have hfol : Try.prog.follows Departure.mixedOrders = true := by kernel_rfl
  obtain ⟨s, hs⟩ : ∃ s, IntKind.i64.wrap (a.p + a.n) = s := ⟨_, rfl⟩
  have hs2 : e.p = s ↔ e.p = a.p + a.n := by
    rw [← hs, IntKind.wrap_i64]; omega
  have KA := Lib.hid (fun w => xAfter a h0 h1 w)
  obtain ⟨t, ht⟩ : ∃ t, a.f + a.n = t := ⟨_, rfl⟩
  rw [ht] at KA
  have ca := (Cells.new w 29 (xc a)).alloc (.cells (xc e) 29)
  have ce := Cells.new (w.alloc (.cells (xc a) 29)) 29 (xc e)
  rw [World.size_alloc] at ce
  have HG := Lib.hid (grow_two w (.cells (xc a) 29) (.cells (xc e) 29))
  have CA := Lib.hid ca; have CE := Lib.hid ce
  have hR : asB a e = (decide (e.f = t) && decide (e.p = s)) := by unfold asB; rw [ht, Bool.eq_iff_iff]; simp [hs2]
  have HR := Lib.hid hR
  clear ca ce hs2 ht h0 h1 h2 h3 h4 h5 hR
  unfold Ext.val at KA ⊢
  go_enter Try.func26, Try.ntmps26
  go_upto_region 1 with fail
  obtain ⟨w2, hw2⟩ : ∃ w2, (w.alloc (.cells (xc a) 29)).alloc (.cells (xc e) 29) = w2 := ⟨_, rfl⟩
  rw [hw2] at CA CE HG
  unfold xc at hw2
  rw [hw2]
  clear hw2
  obtain ⟨a0, a1, a2⟩ := ext_grown CA.out
  obtain ⟨b0, b1, b2⟩ := ext_grown CE.out
  by_cases q1 : e.f = t
  · have p1 : (e.f == t) = true := by simpa using q1
    by_cases q2 : e.p = s
    · have p2 : (e.p == s) = true := by simpa using q2
      have HQ := Lib.hid (And.intro q1 q2)
      clear q1 q2
      refine wp_region_quiet_grown hfol (by kernel_rfl) ?_
      repeat (go_big_quiet_step (first
        | (go_at_call 25; (with_reducible exact Grows.in KA.out _ _ _))))
      refine wpQuiet_nil ?_
      intro _ hw'
      obtain ⟨⟨nr, osr⟩, hw''⟩ := hw'
      subst hw''
      go_wp2
      go_ret
      exact ⟨by rw [HR.out, decide_eq_true HQ.out.1, decide_eq_true HQ.out.2]; rfl, grow_trans HG.out ⟨nr, osr, rfl⟩⟩
    · have p2 : (e.p == s) = false := by simpa using q2
      have HQ := Lib.hid (And.intro q1 q2)
      clear q1 q2
      refine wp_region_quiet_grown hfol (by kernel_rfl) ?_
      repeat (go_big_quiet_step (first
        | (go_at_call 25; (with_reducible exact Grows.in KA.out _ _ _))))
      refine wpQuiet_nil ?_
      intro _ hw'
      obtain ⟨⟨nr, osr⟩, hw''⟩ := hw'
      subst hw''
      go_wp2
      go_ret
      exact ⟨by rw [HR.out, decide_eq_true HQ.out.1, decide_eq_false HQ.out.2]; rfl, grow_trans HG.out ⟨nr, osr, rfl⟩⟩
  · have p1 : (e.f == t) = false := by simpa using q1
    have HQ := Lib.hid q1
    clear q1
    refine wp_region_quiet_grown hfol (by kernel_rfl) ?_
    repeat (go_big_quiet_step (first
      | (go_at_call 25; (with_reducible exact Grows.in KA.out _ _ _))))
    refine wpQuiet_nil ?_
    intro _ hw'
    obtain ⟨⟨nr, osr⟩, hw''⟩ := hw'
    subst hw''
    go_wp2
    go_ret
    exact ⟨by rw [HR.out, decide_eq_false HQ.out]; rfl, grow_trans HG.out ⟨nr, osr, rfl⟩⟩
end Go.Proofs.Ytlfmfdbgchpjgaa
