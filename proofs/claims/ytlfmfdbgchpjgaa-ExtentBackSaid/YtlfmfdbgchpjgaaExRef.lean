import Derived.Test.YtlfmfdbgchpjgaaExPgs
import Derived.Laws.StructEq
namespace Go.Proofs.Ytlfmfdbgchpjgaa
open Wd Ex Go.RowKit Go.ChangeShapes Go.WideShapes Go.Sort
set_option linter.unusedVariables false
set_option maxRecDepth 100000

section
variable {w : World} {lo hi : Nat} {A : Option Addr} {c : Nat} {l : List Ext}
set_option maxHeartbeats 8000000 in
theorem xRefRight (h : Exs w lo hi A l) (hh : hi ≤ w.heap.size) (hs : Small l) (hm : l.length ≤ 1000000) : Calls Try.prog 8 #[.slice A l.length c] w (Grows (.bool (rightB l)) w) := by
  obtain ⟨R, hR⟩ : ∃ R, rightB l = R := ⟨_, rfl⟩
  rw [hR]
  have H := Lib.hid h; have HS := Lib.hid hs; have HR := Lib.hid hR
  clear h hs hR
  go_enter Try.func8, Try.ntmps8
  go_wp2
  go_loopw [8] (fun i wr => RightRel l R w i wr) (fun i _ => l.length - (intOf i).toNat)
  case atStart => exact ⟨0, Nat.zero_le _, rfl, HR.out, fun a ha => by simp [prv] at ha, grow_none w⟩
  case round =>
    obtain ⟨k, hk, rfl, hrb, hfa, hg⟩ := hrel
    have hb0 : Below w.heap.size w wr := by obtain ⟨q0, os0, h⟩ := hg; rw [h]; exact below_grow' w q0 os0
    have HG := Lib.hid hg
    have HB := Lib.hid hb0
    have HRB := Lib.hid hrb; have HF := Lib.hid hfa
    clear hb0 hrb hfa hg
    by_cases hlt : k < l.length
    · obtain ⟨e, he⟩ : ∃ e, l[k]? = some e := ⟨_, List.getElem?_eq_getElem hlt⟩
      have hlt2 : (k : Int) < (l.length : Int) := Int.ofNat_lt.2 hlt
      have HE := Lib.hid he
      have G1 := Lib.hid (grow_alloc HG.out (.cells #[.int .i64 e.f, .int .i64 e.n, .int .i64 e.p] 29))
      have hbad : ¬ Fits e → R = false := fun hf => by
        have h1 := HRB.out
        rw [drop_at he] at h1
        have h2 : fitsB e = false := by
          cases hq : fitsB e
          · rfl
          · exact absurd (fitsB_iff.1 hq) hf
        rw [← h1]
        cases prv l k <;> simp [rb, h2]
      have HBAD := Lib.hid hbad
      have HEX := Lib.hid (H.out.below (HB.out.mono hh))
      have HEX1 := Lib.hid (HEX.out.below (((Below.refl wr.heap.size wr).alloc (Nat.le_refl _) (.cells #[.int .i64 e.f, .int .i64 e.n, .int .i64 e.p] 29)).mono (Nat.le_trans hh HB.out.size)))
      obtain ⟨b, off, rfl, _, hbB, x0, x1, x2⟩ := exs_cells HEX.out he
      have hnb := HS.out e (List.mem_of_getElem? he)
      clear he hbad hnb
      by_cases c0 : e.f < 0
      · have hRF := Lib.hid (HBAD.out (fun h => by have h1 := h.n; have h2 := h.f; have h3 := h.fn; have h4 := h.p; have h5 := h.pn; omega))
        go_wp2
        go_ret
        exact ⟨by rw [hRF.out]; rfl, G1.out⟩
      by_cases c1 : 1048576 < e.f
      · have hRF := Lib.hid (HBAD.out (fun h => by have h1 := h.n; have h2 := h.f; have h3 := h.fn; have h4 := h.p; have h5 := h.pn; omega))
        go_wp2
        go_ret
        exact ⟨by rw [hRF.out]; rfl, G1.out⟩
      by_cases c2 : e.n < 1
      · have hRF := Lib.hid (HBAD.out (fun h => by have h1 := h.n; have h2 := h.f; have h3 := h.fn; have h4 := h.p; have h5 := h.pn; omega))
        go_wp2
        go_ret
        exact ⟨by rw [hRF.out]; rfl, G1.out⟩
      by_cases c3 : 1048576 < e.n
      · have hRF := Lib.hid (HBAD.out (fun h => by have h1 := h.n; have h2 := h.f; have h3 := h.fn; have h4 := h.p; have h5 := h.pn; omega))
        go_wp2
        go_ret
        exact ⟨by rw [hRF.out]; rfl, G1.out⟩
      by_cases c4 : e.p < 1
      · have hRF := Lib.hid (HBAD.out (fun h => by have h1 := h.n; have h2 := h.f; have h3 := h.fn; have h4 := h.p; have h5 := h.pn; omega))
        go_wp2
        go_ret
        exact ⟨by rw [hRF.out]; rfl, G1.out⟩
      by_cases c5 : 1048576 < e.p
      · have hRF := Lib.hid (HBAD.out (fun h => by have h1 := h.n; have h2 := h.f; have h3 := h.fn; have h4 := h.p; have h5 := h.pn; omega))
        go_wp2
        go_ret
        exact ⟨by rw [hRF.out]; rfl, G1.out⟩
      have q1 : wrap64 (e.f + e.n) = e.f + e.n := by unfold wrap64; omega
      have q2 : wrap64 (e.p + e.n) = e.p + e.n := by unfold wrap64; omega
      by_cases c6 : 1048576 < e.f + e.n
      · have hRF := Lib.hid (HBAD.out (fun h => by have h1 := h.n; have h2 := h.f; have h3 := h.fn; have h4 := h.p; have h5 := h.pn; omega))
        go_wp2
        go_ret
        exact ⟨by rw [hRF.out]; rfl, G1.out⟩
      by_cases c7 : 1048576 < e.p + e.n
      · have hRF := Lib.hid (HBAD.out (fun h => by have h1 := h.n; have h2 := h.f; have h3 := h.fn; have h4 := h.p; have h5 := h.pn; omega))
        go_wp2
        go_ret
        exact ⟨by rw [hRF.out]; rfl, G1.out⟩
      have fe : Fits e := ⟨by omega, by omega, by omega, by omega, by omega⟩
      have FE := Lib.hid fe
      by_cases h0 : k = 0
      · have p0 : decide (0 < k) = false := decide_eq_false (by omega)
        have HN := Lib.hid (show rb (some e) (l.drop (k + 1)) = R by
          have h1 := HRB.out
          rw [drop_at HE.out, show prv l k = none by rw [h0]; rfl, rb_zero, fitsB_iff.2 FE.out, Bool.true_and] at h1
          exact h1)
        clear fe h0
        go_wp2
        go_roundw
        case rel => exact ⟨k + 1, by omega, by go_num, by rw [prv_succ, HE.out]; exact HN.out, fun a ha => by (rw [prv_succ, HE.out] at ha; cases ha; exact FE.out), G1.out⟩
        case measure => simp [intOf]; omega
      · obtain ⟨a, ha⟩ : ∃ a, l[k - 1]? = some a := ⟨_, List.getElem?_eq_getElem (by omega)⟩
        have hpa : prv l k = some a := by unfold prv; rw [if_neg h0]; exact ha
        have hfa := HF.out a hpa
        have HN := Lib.hid (show ((!(decide (e.f < a.f + a.n) || asB a e)) && rb (some e) (l.drop (k + 1))) = R by
          have h1 := HRB.out
          rw [drop_at HE.out, hpa, rb_some, fitsB_iff.2 FE.out, Bool.true_and] at h1
          exact h1)
        obtain ⟨m, hm1⟩ : ∃ m, k - 1 = m := ⟨_, rfl⟩
        rw [hm1] at ha
        obtain ⟨b', off', hbo, _, hb', a0, a1, a2⟩ := exs_cells HEX1.out ha
        cases hbo
        have f1 := hfa.f; have f2 := hfa.fn; have f3 := hfa.p; have f4 := hfa.pn; have f5 := hfa.n
        have r1 : wrap64 (a.f + a.n) = a.f + a.n := by unfold wrap64; omega
        have r2 : wrap64 (a.p + a.n) = a.p + a.n := by unfold wrap64; omega
        have p0 : decide (0 < k) = true := decide_eq_true (by omega)
        have i0 : wrap64 ((k : Int) - 1) = (m : Int) := by unfold wrap64; omega
        have i00 : (k : Int) - 1 = (m : Int) := by omega
        have G2 := Lib.hid (grow_alloc G1.out (.cells #[.int .i64 a.f, .int .i64 a.n, .int .i64 a.p] 29))
        clear fe h0 hpa hfa ha hm1 f1 f2 f3 f4 f5
        by_cases d0 : e.f < a.f + a.n
        · have HRF := Lib.hid (show R = false by rw [← HN.out, decide_eq_true d0]; rfl)
          go_wp2
          go_ret
          exact ⟨by rw [HRF.out]; rfl, G2.out⟩
        · by_cases d1 : a.f + a.n = e.f
          · by_cases d2 : a.p + a.n = e.p
            · have HRF := Lib.hid (show R = false by rw [← HN.out, show asB a e = true by unfold asB; exact decide_eq_true ⟨d1.symm, d2.symm⟩]; simp)
              go_wp2
              go_ret
              exact ⟨by rw [HRF.out]; rfl, G2.out⟩
            · have HNN := Lib.hid (show rb (some e) (l.drop (k + 1)) = R by
                have h1 := HN.out
                rw [decide_eq_false d0, show asB a e = false by unfold asB; exact decide_eq_false (fun h => d2 h.2.symm)] at h1
                simpa using h1)
              go_wp2
              go_roundw
              case rel => exact ⟨k + 1, by omega, by go_num, by rw [prv_succ, HE.out]; exact HNN.out, fun a ha => by (rw [prv_succ, HE.out] at ha; cases ha; exact FE.out), G2.out⟩
              case measure => simp [intOf]; omega
          · have HNN := Lib.hid (show rb (some e) (l.drop (k + 1)) = R by
              have h1 := HN.out
              rw [decide_eq_false d0, show asB a e = false by unfold asB; exact decide_eq_false (fun h => d1 h.1.symm)] at h1
              simpa using h1)
            go_wp2
            go_roundw
            case rel => exact ⟨k + 1, by omega, by go_num, by rw [prv_succ, HE.out]; exact HNN.out, fun a ha => by (rw [prv_succ, HE.out] at ha; cases ha; exact FE.out), G2.out⟩
            case measure => simp [intOf]; omega
    · obtain rfl : k = l.length := by omega
      have h1 := HRB.out
      rw [List.drop_length] at h1
      have h2 : rb (prv l l.length) [] = true := by cases prv l l.length <;> rfl
      rw [h2] at h1
      clear h2
      subst h1
      go_wp2
      go_ret
      exact ⟨rfl, HG.out⟩
end
end Go.Proofs.Ytlfmfdbgchpjgaa
