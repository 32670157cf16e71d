import Derived.Test.YtlfmfdbgchpjgaaExSam
import Derived.Test.YtlfmfdbgchpjgaaTrue
namespace Go.Proofs.Ytlfmfdbgchpjgaa
open Wd Ex Go.RowKit Go.ChangeShapes Go.WideShapes Go.Sort
set_option linter.unusedVariables false
set_option maxRecDepth 100000

/-- the document's step: one longer, or one more -/
theorem ref_step {ps : List Int} {k : Nat} {p : Int} (hp : ps[k]? = some p) (h1 : 1 ≤ p) :
    (∀ q, 0 < k → ps[k - 1]? = some q → 1 ≤ q → q = p - 1 → ∃ ini a, exts (ps.take k) = ini ++ [a] ∧ exts (ps.take (k + 1)) = ini ++ [⟨a.f, a.n + 1, a.p⟩]) ∧
    ((k = 0 ∨ ∃ q, ps[k - 1]? = some q ∧ (q < 1 ∨ q ≠ p - 1)) → exts (ps.take (k + 1)) = exts (ps.take k) ++ [⟨k, 1, p⟩]) ∧
    (∀ q, 0 < k → ps[k - 1]? = some q → 1 ≤ q → exts (ps.take k) ≠ []) := by
  have hk := (List.getElem?_eq_some_iff.1 hp).1
  obtain ⟨l1, l2⟩ := exts_last ps k (by omega)
  rw [exts_take hp]
  have ho : oneE k p = [⟨k, 1, p⟩] := by unfold oneE; rw [if_neg (by omega)]
  rw [ho]
  refine ⟨fun q k0 hq q1 qp => ?_, fun hc => ?_, fun q k0 hq q1 => ?_⟩
  · obtain ⟨ini, a, e1, e2, e3⟩ := (l2 q k0 hq).1 q1
    refine ⟨ini, a, e1, ?_⟩
    rw [e1, List.foldl_cons, List.foldl_nil, joinE_yes (by simp only; omega)]
  · rw [List.foldl_cons, List.foldl_nil]
    rcases @last_or (exts (ps.take k)) with h | ⟨ini, a, h⟩
    · rw [h]; rfl
    · rw [h, joinE_no]
      rintro ⟨c1, c2⟩
      simp only at c1 c2
      have ha := l1 a (by rw [h]; exact List.mem_append_right _ List.mem_cons_self)
      rcases hc with h0 | ⟨q, hq, hc⟩
      · subst h0
        simp [exts, extsAt] at h
      · by_cases k0 : 0 < k
        · rcases hc with hc | hc
          · have := (l2 q k0 hq).2 hc a (by rw [h]; exact List.mem_append_right _ List.mem_cons_self)
            omega
          · by_cases q1 : 1 ≤ q
            · obtain ⟨ini', a', e1, e2, e3⟩ := (l2 q k0 hq).1 q1
              rw [h] at e1
              have := List.append_inj_right' e1 rfl
              cases this
              omega
            · have := (l2 q k0 hq).2 (by omega) a (by rw [h]; exact List.mem_append_right _ List.mem_cons_self)
              omega
        · obtain rfl : k = 0 := by omega
          simp [exts, extsAt] at h
  · obtain ⟨ini, a, e1, _⟩ := (l2 q k0 hq).1 q1
    rw [e1]; simp
set_option maxHeartbeats 8000000 in
theorem xExtents {w : World} {A : Option Addr} {c : Nat} {ps : List Int} {B : Nat} (hr : Row w B A ps.length (ps.map iv)) (hB : B ≤ w.heap.size) (hp : ∀ p ∈ ps, p ≤ 9223372036854775807) (hm : ps.length ≤ 1000) : Calls Try.prog 13 #[.slice A ps.length c] w (MadeX (exts ps) w) := by
  have HR := Lib.hid hr
  have HT := Lib.hid (exts_tame ps hp (by omega))
  have HP := Lib.hid hp
  obtain ⟨ie, i1, i2, i3, i4⟩ := info_parts infoX
  have I1 := Lib.hid i1; have I2 := Lib.hid i2; have I3 := Lib.hid i3; have I4 := Lib.hid i4
  clear hr hp i1 i2 i3 i4
  go_enter Try.func13, Try.ntmps13
  go_wp2
  go_loopw [3, 9] (fun v i wr => OfRel ps w v i wr) (fun _ i _ => ps.length - (intOf i).toNat)
  case atStart => exact ⟨0, Nat.zero_le _, rfl, own_nilX _ _, Below.refl _ _⟩
  case round =>
    obtain ⟨k, hk, rfl, hown, hb⟩ := hrel
    have HO := Lib.hid hown; have HB := Lib.hid hb
    have hs3 := hb.size
    by_cases hlt : k < ps.length
    · obtain ⟨b, off, p, rfl, hbb, hx, cx⟩ := (HR.out.below (hb.mono hB)).get hlt
      unfold iv at cx
      have hlt2 : (k : Int) < (ps.length : Int) := Int.ofNat_lt.2 hlt
      have HX := Lib.hid hx
      have hl := (HT.out k hk).2
      obtain ⟨acc, hacc⟩ : ∃ acc, exts (ps.take k) = acc := ⟨_, rfl⟩
      rw [hacc] at hown hl
      have HO1 := Lib.hid hown
      have HACC := Lib.hid hacc
      clear hx hbb hown hb hacc HO
      by_cases h1 : p ≤ 0
      · have he : exts (ps.take (k + 1)) = acc := by
          rw [exts_take HX.out, ← HACC.out]; unfold oneE; rw [if_pos (by omega)]; rfl
        have HE := Lib.hid he
        clear he
        go_wp2
        go_roundw
        case rel => exact ⟨k + 1, by omega, by go_num, by rw [HE.out]; exact HO1.out, HB.out⟩
        case measure => simp [intOf]; omega
      · have h1' : 1 ≤ p := by omega
        have hp63 := HP.out p (List.mem_of_getElem? HX.out)
        have RS := Lib.hid (ref_step HX.out h1')
        have qp : wrap64 (p - 1) = p - 1 := by unfold wrap64; omega
        obtain ⟨wo, rfl⟩ : ∃ wo : World, wo = wr := ⟨_, rfl⟩
        obtain ⟨A0, c0, rfl, hcap, _⟩ := HO1.out.form
        obtain ⟨N, hN⟩ : ∃ N, acc.length = N := ⟨_, rfl⟩
        have HNN := Lib.hid hN
        have ho5 : (wo.alloc (.cells (xc ⟨k, 1, p⟩) 29)).ownsRow w.heap.size 29 3 (.slice A0 N c0) N (xvals acc) := by
          have := HO1.out.below ((Below.refl _ _).alloc (Nat.le_refl _) (.cells (xc ⟨k, 1, p⟩) 29))
          unfold OwnX at this
          rw [hN] at this
          exact this
        have HO5 := Lib.hid ho5
        rw [hN] at hl hcap ⊢
        clear ho5 hN
        by_cases k0 : k = 0
        · have hac : N = 0 := by rw [← HNN.out, ← HACC.out, k0]; rfl
          subst hac
          have p0 : decide (0 < k) = false := decide_eq_false (by omega)
          have K0 := Lib.hid k0
          clear k0 hl hcap
          have he : exts (ps.take (k + 1)) = acc ++ [⟨k, 1, p⟩] := by rw [← HACC.out]; exact RS.out.2.1 (.inl K0.out)
          have HE := Lib.hid he
          clear he qp
          go_wp2_with (at_builtin; refine wpList_append_own_at _ rfl (.tmp 51) (.tmp 55) 23 rfl w.heap.size 29 ie (.agg #[.int .i64 0, .int .i64 0, .int .i64 0]) 3 24 Try.underlying23 I1.out I2.out I3.out I4.out rfl (by decide) (.slice A0 0 c0) 0 (xvals acc) rfl HO5.out ⟨wo.heap.size, 0, none⟩ 1 1 (xv ⟨k, 1, p⟩) rfl rfl (cells_three (Cells.new wo 29 (xc ⟨k, 1, p⟩))) (one3 _) (by unfold maxLen; omega) (by omega) (by simp; omega) ?_; intro v7 w7 hown7 hgr7 _ hat7; have HO7 := Lib.hid hown7; have B7 := Lib.hid (show Below w.heap.size w w7 from (HB.out.alloc hs3 _).grown hgr7 (by simp; omega) (own_base HO5.out)); clear hown7 hgr7 hat7)
          go_roundw
          case rel =>
            refine ⟨k + 1, by omega, by go_num, ?_, B7.out⟩
            rw [HE.out]
            unfold OwnX
            rw [xvals_snoc, List.length_append, List.length_singleton, HNN.out]
            exact HO7.out
          case measure => simp [intOf]; omega
        · obtain ⟨q, hq⟩ : ∃ q, ps[k - 1]? = some q := ⟨_, List.getElem?_eq_getElem (by omega)⟩
          have HQ := Lib.hid hq
          have K1 := Lib.hid (show 0 < k by omega)
          have p0 : decide (0 < k) = true := decide_eq_true (by omega)
          obtain ⟨m, hm1⟩ : ∃ m, k - 1 = m := ⟨_, rfl⟩
          have i0 : wrap64 ((k : Int) - 1) = (m : Int) := by unfold wrap64; omega
          have i00 : (k : Int) - 1 = (m : Int) := by omega
          have i01 : (m : Int) < (ps.length : Int) := by omega
          have i02 : (0 : Int) ≤ (m : Int) := Int.natCast_nonneg m
          have hx' := HR.out.below (HB.out.mono hB)
          obtain ⟨b', off', q', hbo, _, hxq, cq⟩ := hx'.get (k := m) (by omega)
          have hqq : q' = q := by rw [hm1, hxq] at hq; exact Option.some.inj hq
          subst hqq
          cases hbo
          unfold iv at cq
          clear hx' hxq hq hm1 k0
          by_cases n0 : N = 0
          · subst n0
            have HQ1 := Lib.hid (show q' < 1 by
              apply Classical.byContradiction
              intro hc
              refine RS.out.2.2 q' K1.out HQ.out (by omega) ?_
              rw [HACC.out]
              exact List.eq_nil_of_length_eq_zero HNN.out)
            clear hl hcap
            have he : exts (ps.take (k + 1)) = acc ++ [⟨k, 1, p⟩] := by rw [← HACC.out]; exact RS.out.2.1 (.inr ⟨q', HQ.out, .inl HQ1.out⟩)
            have HE := Lib.hid he
            clear he qp
            go_wp2_with (at_builtin; refine wpList_append_own_at _ rfl (.tmp 51) (.tmp 55) 23 rfl w.heap.size 29 ie (.agg #[.int .i64 0, .int .i64 0, .int .i64 0]) 3 24 Try.underlying23 I1.out I2.out I3.out I4.out rfl (by decide) (.slice A0 0 c0) 0 (xvals acc) rfl HO5.out ⟨wo.heap.size, 0, none⟩ 1 1 (xv ⟨k, 1, p⟩) rfl rfl (cells_three (Cells.new wo 29 (xc ⟨k, 1, p⟩))) (one3 _) (by unfold maxLen; omega) (by omega) (by simp; omega) ?_; intro v7 w7 hown7 hgr7 _ hat7; have HO7 := Lib.hid hown7; have B7 := Lib.hid (show Below w.heap.size w w7 from (HB.out.alloc hs3 _).grown hgr7 (by simp; omega) (own_base HO5.out)); clear hown7 hgr7 hat7)
            go_roundw
            case rel =>
              refine ⟨k + 1, by omega, by go_num, ?_, B7.out⟩
              rw [HE.out]
              unfold OwnX
              rw [xvals_snoc, List.length_append, List.length_singleton, HNN.out]
              exact HO7.out
            case measure => simp [intOf]; omega
          · obtain ⟨n, hn⟩ : ∃ n, n + 1 = N := ⟨N - 1, by omega⟩
            have Q0 := Lib.hid (show (N : Int) - 1 = (n : Int) by omega)
            have NN := Lib.hid hn
            have n1 : (n : Int) < (N : Int) := by omega
            have n2 : (0 : Int) ≤ (n : Int) := Int.natCast_nonneg n
            clear n0 hn
            go_upto_region 7 with fail
            try rw [Q0.out]
            by_cases d1 : 0 < q'
            · by_cases d2 : q' = p - 1
              · obtain ⟨ini, a, e1, e2⟩ := RS.out.1 q' K1.out HQ.out (by omega) d2
                rw [HACC.out] at e1
                subst e1
                have E2 := Lib.hid e2
                obtain ⟨gb, cap, hv, hcap'⟩ := own_shape HO1.out
                have hin : ini.length = n := by have h1 := HNN.out; have h2 := NN.out; rw [List.length_append, List.length_singleton] at h1; omega
                have hA : A0 = some ⟨gb, 0, none⟩ := by injection hv
                subst hA
                obtain ⟨y0, y1, y2, y3, y4, _, y5⟩ := own_cells HO1.out
                rw [hin] at y1 y3
                have ta := (HT.out k hk).1 a (by rw [HACC.out]; exact List.mem_append_right _ List.mem_cons_self)
                obtain ⟨s, hs⟩ : ∃ s, a.n + 1 = s := ⟨_, rfl⟩
                have w1 : wrap64 (a.n + 1) = s := by have := ta.n; have := ta.fn; have := ta.f; rw [← hs]; unfold wrap64; omega
                have HS := Lib.hid hs; have Y5 := Lib.hid y5; have HIN := Lib.hid hin
                have t1 : (q' == p - 1) = true := by rw [beq_iff_eq]; exact d2
                have OWN := Lib.hid (show OwnX wo w.heap.size (.slice (some ⟨gb, 0, none⟩) (ini.length + 1) c0) (ini ++ [a]) by have := HO1.out; rwa [List.length_append, List.length_singleton] at this)
                clear y0 y2 y4 y5 ta hs hin hv e2 d2 hcap' hl hcap
                go_wp2
                go_roundw
                case rel =>
                  refine ⟨k + 1, by omega, by go_num, ?_, HB.out.setCell (p := ⟨gb, n * 3 + 1, none⟩) Y5.out _⟩
                  rw [E2.out, HS.out]
                  have := own_len OWN.out s
                  rw [HIN.out, NN.out] at this
                  exact this
                case measure => simp [intOf]; omega
              · have t1 : (q' == p - 1) = false := by rw [beq_eq_false_iff_ne]; exact d2
                have D2 := Lib.hid d2
                clear d2
                have he : exts (ps.take (k + 1)) = acc ++ [⟨k, 1, p⟩] := by rw [← HACC.out]; exact RS.out.2.1 (.inr ⟨q', HQ.out, .inr D2.out⟩)
                have HE := Lib.hid he
                clear he qp
                go_wp2_with (at_builtin; refine wpList_append_own_at _ rfl (.tmp 51) (.tmp 55) 23 rfl w.heap.size 29 ie (.agg #[.int .i64 0, .int .i64 0, .int .i64 0]) 3 24 Try.underlying23 I1.out I2.out I3.out I4.out rfl (by decide) (.slice A0 N c0) N (xvals acc) rfl HO5.out ⟨wo.heap.size, 0, none⟩ 1 1 (xv ⟨k, 1, p⟩) rfl rfl (cells_three (Cells.new wo 29 (xc ⟨k, 1, p⟩))) (one3 _) (by unfold maxLen; omega) (by omega) (by simp; omega) ?_; intro v7 w7 hown7 hgr7 _ hat7; have HO7 := Lib.hid hown7; have B7 := Lib.hid (show Below w.heap.size w w7 from (HB.out.alloc hs3 _).grown hgr7 (by simp; omega) (own_base HO5.out)); clear hown7 hgr7 hat7)
                go_roundw
                case rel =>
                  refine ⟨k + 1, by omega, by go_num, ?_, B7.out⟩
                  rw [HE.out]
                  unfold OwnX
                  rw [xvals_snoc, List.length_append, List.length_singleton, HNN.out]
                  exact HO7.out
                case measure => simp [intOf]; omega
            · have D1 := Lib.hid (show q' < 1 by omega)
              have he : exts (ps.take (k + 1)) = acc ++ [⟨k, 1, p⟩] := by rw [← HACC.out]; exact RS.out.2.1 (.inr ⟨q', HQ.out, .inl D1.out⟩)
              have HE := Lib.hid he
              clear he qp
              go_wp2_with (at_builtin; refine wpList_append_own_at _ rfl (.tmp 51) (.tmp 55) 23 rfl w.heap.size 29 ie (.agg #[.int .i64 0, .int .i64 0, .int .i64 0]) 3 24 Try.underlying23 I1.out I2.out I3.out I4.out rfl (by decide) (.slice A0 N c0) N (xvals acc) rfl HO5.out ⟨wo.heap.size, 0, none⟩ 1 1 (xv ⟨k, 1, p⟩) rfl rfl (cells_three (Cells.new wo 29 (xc ⟨k, 1, p⟩))) (one3 _) (by unfold maxLen; omega) (by omega) (by simp; omega) ?_; intro v7 w7 hown7 hgr7 _ hat7; have HO7 := Lib.hid hown7; have B7 := Lib.hid (show Below w.heap.size w w7 from (HB.out.alloc hs3 _).grown hgr7 (by simp; omega) (own_base HO5.out)); clear hown7 hgr7 hat7)
              go_roundw
              case rel =>
                refine ⟨k + 1, by omega, by go_num, ?_, B7.out⟩
                rw [HE.out]
                unfold OwnX
                rw [xvals_snoc, List.length_append, List.length_singleton, HNN.out]
                exact HO7.out
              case measure => simp [intOf]; omega
    · obtain rfl : k = ps.length := by omega
      rw [List.take_length] at hown
      have HO2 := Lib.hid hown
      clear hown hb
      go_wp2
      go_ret
      exact ⟨_, rfl, HO2.out, HB.out⟩
end Go.Proofs.Ytlfmfdbgchpjgaa
