import Derived.Test.YtlfmfdbgchpjgaaExAs
namespace Go.Proofs.Ytlfmfdbgchpjgaa
open Wd Ex Go.RowKit Go.ChangeShapes Go.WideShapes Go.Sort
set_option linter.unusedVariables false
set_option maxRecDepth 100000

/-- the last one ahead of place k -/
def prv (l : List Ext) (k : Nat) : Option Ext := if k = 0 then none else l[k - 1]?
theorem prv_succ (l : List Ext) (k : Nat) : prv l (k + 1) = l[k]? := by unfold prv; simp
theorem drop_at {l : List Ext} {k : Nat} {e : Ext} (h : l[k]? = some e) : l.drop k = e :: l.drop (k + 1) := by
  obtain ⟨hk, rfl⟩ := List.getElem?_eq_some_iff.1 h
  rw [List.drop_eq_getElem_cons hk]
def RightRel (l : List Ext) (R : Bool) (w : World) (i : Value) (wr : World) : Prop := ∃ k : Nat, k ≤ l.length ∧ i = .int .i64 k ∧ rb (prv l k) (l.drop k) = R ∧ (∀ a, prv l k = some a → Fits a) ∧ ∃ q os, wr = grow (w.drewN q) os
theorem rb_zero {e : Ext} {l : List Ext} : rb none (e :: l) = (fitsB e && rb (some e) l) := rfl
theorem rb_some {a e : Ext} {l : List Ext} : rb (some a) (e :: l) = (fitsB e && (!(decide (e.f < a.f + a.n) || asB a e) && rb (some e) l)) := rfl
theorem exs_grown {w : World} {lo hi : Nat} {A : Option Addr} {l : List Ext} (h : Exs w lo hi A l) (hh : hi ≤ w.heap.size) {k : Nat} {e : Ext} (hk : l[k]? = some e) : ∃ b off, A = some ⟨b, off, none⟩ ∧ b < w.heap.size ∧
    (∀ n os, (grow (w.drewN n) os).cell? ⟨b, off + k * 3, none⟩ = some (.int .i64 e.f)) ∧ (∀ n os, (grow (w.drewN n) os).cell? ⟨b, off + k * 3 + 1, none⟩ = some (.int .i64 e.n)) ∧ (∀ n os, (grow (w.drewN n) os).cell? ⟨b, off + k * 3 + 2, none⟩ = some (.int .i64 e.p)) := by
  obtain ⟨b, off, rfl, h1, h2, c0, c1, c2⟩ := exs_cells h hk
  have hb : b < w.heap.size := Nat.lt_of_lt_of_le h2 hh
  exact ⟨b, off, rfl, hb, cell_grown (a := ⟨b, _, none⟩) hb c0, cell_grown (a := ⟨b, _, none⟩) hb c1, cell_grown (a := ⟨b, _, none⟩) hb c2⟩
set_option maxHeartbeats 4000000 in
theorem xRight {w : World} {lo hi : Nat} {A : Option Addr} {c : Nat} {l : List Ext} (h : Exs w lo hi A l) (hh : hi ≤ w.heap.size) (hs : Small l) (hm : l.length ≤ 1000000) : Calls Try.prog 14 #[.slice A l.length c] w (Grows (.bool (rightB l)) w) := by
  have hfol : Try.prog.follows Departure.mixedOrders = true := by kernel_rfl
  obtain ⟨R, hR⟩ : ∃ R, rightB l = R := ⟨_, rfl⟩
  rw [hR]
  have H := Lib.hid h; have HS := Lib.hid hs; have HR := Lib.hid hR
  clear h hs hR
  go_enter Try.func14, Try.ntmps14
  go_wp2
  go_loopw [7] (fun i wr => RightRel l R w i wr) (fun i _ => l.length - (intOf i).toNat)
  case atStart => exact ⟨0, Nat.zero_le _, rfl, HR.out, fun a ha => by simp [prv] at ha, grow_none w⟩
  case round =>
    obtain ⟨k, hk, rfl, hrb, hfa, hg⟩ := hrel
    obtain ⟨q0, os0, hwr⟩ := hg
    have hb0 : Below w.heap.size w wr := by rw [hwr]; exact below_grow' w q0 os0
    have HG := Lib.hid (show ∃ q os, wr = grow (w.drewN q) os from ⟨q0, os0, hwr⟩)
    have HB := Lib.hid hb0
    have HRB := Lib.hid hrb; have HF := Lib.hid hfa
    clear hwr hb0 hrb hfa q0 os0
    by_cases hlt : k < l.length
    · obtain ⟨e, he⟩ : ∃ e, l[k]? = some e := ⟨_, List.getElem?_eq_getElem hlt⟩
      have KF := Lib.hid (fun w => xFits e (HS.out e (List.mem_of_getElem? he)) w)
      obtain ⟨b, off, rfl, _, hbB, x0, x1, x2⟩ := exs_cells (H.out.below (HB.out.mono hh)) he
      have hlt2 : (k : Int) < (l.length : Int) := Int.ofNat_lt.2 hlt
      have HE := Lib.hid he
      have C1 := Lib.hid (Cells.new wr 29 (xc e))
      have G1 := Lib.hid (grow_alloc HG.out (.cells (xc e) 29))
      obtain ⟨F, hF⟩ : ∃ F, fitsB e = F := ⟨_, rfl⟩
      rw [hF] at KF
      have HFF := Lib.hid hF
      unfold Ext.val at KF
      clear he hF
      go_wp2_with fail
      refine (KF.out _).mono ?_
      rintro e1 w2 ⟨rfl, hw2⟩
      have G2 := Lib.hid (grow_trans G1.out hw2)
      have C2 := Lib.hid (C1.out.below' (show Below _ _ w2 by obtain ⟨q, os, rfl⟩ := hw2; exact below_grow' _ _ _))
      clear hw2 x0 x1 x2 KF
      cases F
      · go_wp2
        go_ret
        refine ⟨?_, G2.out⟩
        have h1 := HRB.out
        rw [drop_at HE.out] at h1
        rw [← h1]
        cases prv l k <;> simp [rb, HFF.out]
      · have HFE := Lib.hid (fitsB_iff.1 HFF.out)
        have H2 := Lib.hid (show Exs w2 lo hi (some ⟨b, off, none⟩) l from H.out.below (Below.mono (show Below w.heap.size w w2 by obtain ⟨q, os, h⟩ := G2.out; rw [h]; exact below_grow' _ _ _) hh))
        have hh2 : hi ≤ w2.heap.size := Nat.le_trans hh (show w.heap.size ≤ w2.heap.size by obtain ⟨q, os, h⟩ := G2.out; rw [h]; exact (below_grow' w q os).size)
        obtain ⟨e0, e1, e2⟩ := ext_grown C2.out
        by_cases h0 : k = 0
        · have p0 : decide (0 < k) = false := decide_eq_false (by omega)
          go_upto_region 6 with fail
          refine wp_region_quiet_grown hfol (by kernel_rfl) ?_
          repeat (go_big_quiet_step (fail))
          refine wpQuiet_nil ?_
          intro _ hw'
          obtain ⟨⟨nr, osr⟩, hw''⟩ := hw'
          subst hw''
          go_wp2
          go_roundw
          case rel =>
            refine ⟨k + 1, by omega, by go_num, ?_, fun a ha => ?_, grow_trans G2.out ⟨nr, osr, rfl⟩⟩
            · have h1 := HRB.out
              rw [drop_at HE.out, show prv l k = none by rw [h0]; rfl, rb_zero, HFF.out, Bool.true_and] at h1
              rw [prv_succ, HE.out]; exact h1
            · rw [prv_succ, HE.out] at ha; cases ha; exact HFE.out
          case measure => simp [intOf]; omega
        · obtain ⟨a, ha⟩ : ∃ a, l[k - 1]? = some a := ⟨_, List.getElem?_eq_getElem (by omega)⟩
          have hpa : prv l k = some a := by unfold prv; rw [if_neg h0]; exact ha
          have hfa := HF.out a hpa
          obtain ⟨m, hm1⟩ : ∃ m, k - 1 = m := ⟨_, rfl⟩
          rw [hm1] at ha
          obtain ⟨b', off', hbo, hb', a0, a1, a2⟩ := exs_grown H2.out hh2 ha
          cases hbo
          have f1 := hfa.f; have f2 := hfa.fn; have f3 := hfa.p; have f4 := hfa.pn; have f5 := hfa.n
          have g1 := HFE.out.p; have g2 := HFE.out.pn; have g3 := HFE.out.n
          have KA := Lib.hid (fun w => xAfter a (by omega) (by omega) w)
          have KS := Lib.hid (fun w => xAs a e (by omega) (by omega) g1 (by omega) (by omega) (by omega) w)
          obtain ⟨t, ht⟩ : ∃ t, a.f + a.n = t := ⟨_, rfl⟩
          obtain ⟨s, hs⟩ : ∃ s, asB a e = s := ⟨_, rfl⟩
          rw [ht] at KA
          rw [hs] at KS
          have HRB2 := Lib.hid (show (fitsB e && (!(decide (e.f < t) || s) && rb (some e) (l.drop (k + 1)))) = R from by
            have h1 := HRB.out
            rw [drop_at HE.out, hpa, rb_some, ht, hs] at h1
            exact h1)
          unfold Ext.val at KA KS
          have p0 : decide (0 < k) = true := decide_eq_true (by omega)
          have i0 : IntKind.i64.wrap ((k : Int) - 1) = (m : Int) := by rw [IntKind.wrap_i64]; omega
          have i1 : (0 : Int) ≤ (m : Int) := by omega
          have i2 : (m : Int) < (l.length : Int) := by omega
          clear hpa hfa f1 f2 f3 f4 f5 g1 g2 g3 ht hs ha hm1
          go_upto_region 6 with fail
          by_cases h3 : e.f < t
          · have p3 : decide (e.f < t) = true := decide_eq_true h3
            have HP := Lib.hid p3
            clear h3
            refine wp_region_quiet_grown hfol (by kernel_rfl) ?_
            repeat (go_big_quiet_step (first
              | (go_at_call 25; (with_reducible exact Grows.in KA.out _ _ _))
              | (go_at_call 26; (with_reducible exact Grows.in KS.out _ _ _))))
            refine wpQuiet_nil ?_
            intro _ hw'
            obtain ⟨⟨nr, osr⟩, hw''⟩ := hw'
            subst hw''
            go_wp2
            go_ret
            refine ⟨?_, grow_trans G2.out ⟨nr, osr, rfl⟩⟩
            rw [← HRB2.out, HP.out]; simp
          · have p3 : decide (e.f < t) = false := decide_eq_false h3
            have HP := Lib.hid p3
            clear h3
            cases s
            · refine wp_region_quiet_grown hfol (by kernel_rfl) ?_
              repeat (go_big_quiet_step (first
                | (go_at_call 25; (with_reducible exact Grows.in KA.out _ _ _))
                | (go_at_call 26; (with_reducible exact Grows.in KS.out _ _ _))))
              refine wpQuiet_nil ?_
              intro _ hw'
              obtain ⟨⟨nr, osr⟩, hw''⟩ := hw'
              subst hw''
              go_wp2
              go_roundw
              case rel =>
                refine ⟨k + 1, by omega, by go_num, ?_, fun a ha => ?_, grow_trans G2.out ⟨nr, osr, rfl⟩⟩
                · have h1 := HRB2.out
                  rw [HFF.out, HP.out] at h1
                  rw [prv_succ, HE.out]
                  simpa using h1
                · rw [prv_succ, HE.out] at ha; cases ha; exact HFE.out
              case measure => simp [intOf]; omega
            · refine wp_region_quiet_grown hfol (by kernel_rfl) ?_
              repeat (go_big_quiet_step (first
                | (go_at_call 25; (with_reducible exact Grows.in KA.out _ _ _))
                | (go_at_call 26; (with_reducible exact Grows.in KS.out _ _ _))))
              refine wpQuiet_nil ?_
              intro _ hw'
              obtain ⟨⟨nr, osr⟩, hw''⟩ := hw'
              subst hw''
              go_wp2
              go_ret
              refine ⟨?_, grow_trans G2.out ⟨nr, osr, rfl⟩⟩
              rw [← HRB2.out]; simp
    · obtain rfl : k = l.length := by omega
      have h1 := HRB.out
      rw [List.drop_length] at h1
      have h2 : rb (prv l l.length) [] = true := by cases prv l l.length <;> rfl
      rw [h2] at h1
      clear h2
      subst h1
      go_wp2
      go_ret
      exact ⟨rfl, HG.out⟩
end Go.Proofs.Ytlfmfdbgchpjgaa
