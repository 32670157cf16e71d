import Derived.Test.YtbegnnohmahglaaDiAw
import Derived.Test.YtbegnnohmahglaaEnLaw
namespace Go.Proofs.Ytbegnnohmahglaa
open Wd Ino Go.RowKit Go.ChangeShapes Go.WideShapes Go.Sort
set_option linter.unusedVariables false
set_option maxRecDepth 100000

theorem few_of {l : List Ent} (h : fewE l = true) : (∀ e ∈ l, e.s.size ≤ 1000) ∧ l.length ≤ 30 := by
  have := of_decide_eq_true h
  exact ⟨fun e he => by have := this.1 e he; omega, this.2⟩
theorem drop_small {s : ByteArray} {l : List Ent} (h : ∀ e ∈ l, e.s.size ≤ 1000) : ∀ e ∈ dropN s l, e.s.size ≤ 1000 := fun e he => h e (List.mem_filter.1 he).1
theorem put_small {s : ByteArray} {n : Int} {l : List Ent} (hs : s.size ≤ 1000) (h : ∀ e ∈ l, e.s.size ≤ 1000) : ∀ e ∈ putN s n l, e.s.size ≤ 1000 := by
  intro e he
  unfold putN at he
  rcases List.mem_append.1 he with he | he
  · exact h e (List.mem_of_mem_take he)
  · rcases List.mem_cons.1 he with rfl | he
    · exact hs
    · exact h e (List.mem_of_mem_drop he)
theorem put_len (s : ByteArray) (n : Int) (l : List Ent) : (putN s n l).length = l.length + 1 := by
  have := List.findIdx_le_length (p := foreE s) (xs := l)
  unfold putN
  simp
  omega
set_option maxHeartbeats 16000000 in
theorem lStay {W : World} {A : Option Addr} {c : Nat} {l : List Ent} (h : Ens W W.heap.size A l) (ho : ∀ e ∈ l, Ent.Ok e) (hc : l.length ≤ c) (hcm : c ≤ maxLen) (s : ByteArray) (hs : s.size ≤ maxLen) (n : Int) (hn : (Lit.int .i64 n).wf = true) :
    Calls Try.prog 4 #[.slice A l.length c, .string s, .int .i64 n] W (TrueB W) := by
  have H := Lib.hid h
  have KA := Lib.hid (fun w => lAwake w)
  have HF0 := Lib.hid (fun (w : World) (hb : Below W.heap.size W w) => lFew (c := c) (h.at_ hb) (Nat.le_refl _) (Nat.le_trans hc hcm) (fun e he => (ho e he).1))
  unfold maxLen at hs hcm
  clear h ho hn
  go_enter Try.func4, Try.ntmps4
  go_wp2_with fail
  refine (KA.out _).mono ?_
  rintro e1 w1 ⟨rfl, b1⟩
  have B1 := Lib.hid b1
  have KF := Lib.hid (HF0.out _ b1)
  clear b1 KA HF0
  obtain ⟨f, hf⟩ : ∃ f, fewE l = f := ⟨_, rfl⟩
  rw [hf] at KF
  go_wp2_with fail
  refine KF.out.mono ?_
  rintro e1 w2 hg
  obtain ⟨rfl, b2⟩ := hg.below
  have B2 := Lib.hid (B1.out.trans (b2.mono B1.out.size))
  clear hg b2 KF
  cases f with
  | false =>
    clear hf
    go_wp2
    go_ret
    exact ⟨rfl, B2.out⟩
  | true =>
    obtain ⟨hsm, hlen⟩ := few_of hf
    have HSM := Lib.hid hsm
    clear hsm hf
    by_cases h100 : 100 < s.size
    · have q0 : decide ((100 : Int) < (s.size : Int)) = true := decide_eq_true (by omega)
      clear h100
      go_wp2
      go_ret
      exact ⟨rfl, B2.out⟩
    have q0 : decide ((100 : Int) < (s.size : Int)) = false := decide_eq_false (by omega)
    have hs1 : s.size ≤ 1000 := by omega
    clear h100
    obtain ⟨R, hR⟩ : ∃ R, decide (RightN l) = R := ⟨_, rfl⟩
    have KR := Lib.hid (dRight (c := c) (H.out.at_ B2.out) (Nat.le_refl _) (by omega) HSM.out)
    rw [hR] at KR
    go_wp2_with fail
    refine KR.out.mono ?_
    rintro e1 w3 hg
    obtain ⟨rfl, b3⟩ := hg.below
    have B3 := Lib.hid (B2.out.trans (b3.mono B2.out.size))
    clear hg b3 KR
    cases R with
    | false =>
      clear hR
      go_wp2
      go_ret
      exact ⟨rfl, B3.out⟩
    | true =>
      have HR := Lib.hid (of_decide_eq_true hR)
      have KD := Lib.hid (dDrop (c := c) (H.out.at_ B3.out) (Nat.le_refl _) (by omega) HSM.out s)
      obtain ⟨D, hD⟩ : ∃ D, dropN s l = D := ⟨_, rfl⟩
      have HRD := Lib.hid (show RightN D by rw [← hD]; exact HR.out.dropN s)
      have HND := Lib.hid (show hasN s D = false by rw [← hD]; exact has_dropN s l)
      have HSD := Lib.hid (show ∀ e ∈ D, e.s.size ≤ 1000 by rw [← hD]; exact drop_small HSM.out)
      have hDl : D.length ≤ 30 := by have := dropN_len s l; rw [hD] at this; omega
      rw [hD] at KD
      clear hD hR
      go_wp2_with fail
      refine KD.out.mono ?_
      rintro e1 w4 ⟨A4, c4, rfl, hc4, hx4, b4⟩
      have H4 := Lib.hid hx4
      have B4 := Lib.hid (B3.out.trans (b4.mono B3.out.size))
      have KP := Lib.hid (dPut (c := c4) hx4 (Nat.le_refl _) (by omega) HSD.out s hs1 n)
      obtain ⟨Q, hQ⟩ : ∃ Q, putR s n D = Q := ⟨_, rfl⟩
      have hQ2 : Q = putN s n D := by rw [← hQ]; unfold putR; rw [if_neg (by rw [HND.out]; decide)]
      have HQ := Lib.hid hQ2
      have hQl : Q.length ≤ 31 := by rw [hQ2, put_len]; omega
      rw [hQ, HND.out] at KP
      clear hx4 b4 KD hQ hQ2
      go_wp2_with fail
      refine KP.out.mono ?_
      rintro e1 w5 ⟨A5, c5, rfl, hc5, hx5, b5⟩
      have H5 := Lib.hid hx5
      have H45 := Lib.hid (H4.out.at_ b5)
      have B5 := Lib.hid (B4.out.trans (b5.mono B4.out.size))
      have KR := Lib.hid (dRight (c := c4) (H4.out.at_ b5) (Nat.le_refl _) (by omega) HSD.out)
      rw [decide_eq_true HRD.out] at KR
      clear hx5 b5 KP
      go_wp2_with fail
      refine KR.out.mono ?_
      rintro e1 w6 hg
      obtain ⟨rfl, b6⟩ := hg.below
      have B6 := Lib.hid (B5.out.trans (b6.mono B5.out.size))
      have H46 := Lib.hid (H45.out.at_ b6)
      have H56 := Lib.hid (H5.out.at_ b6)
      clear hg b6 KR
      obtain ⟨N, hN⟩ : ∃ N, nameN s.toList = N := ⟨_, rfl⟩
      have KN := Lib.hid (rName s hs1 w6)
      rw [hN] at KN
      go_wp2_with fail
      refine KN.out.mono ?_
      rintro e1 w7 hg
      obtain ⟨rfl, b7⟩ := hg.below
      have B7 := Lib.hid (B6.out.trans (b7.mono B6.out.size))
      have H47 := Lib.hid (H46.out.at_ b7)
      have H57 := Lib.hid (H56.out.at_ b7)
      have HSQ := Lib.hid (show ∀ e ∈ Q, e.s.size ≤ 1000 by rw [HQ.out]; exact put_small hs1 HSD.out)
      have KE := Lib.hid (fun (w : World) (x : Ens w w.heap.size A5 Q) => dDrop (c := c5) x (Nat.le_refl _) (by omega) HSQ.out s)
      have HDQ := Lib.hid (show dropN s Q = D by rw [HQ.out]; exact dropN_putN HND.out)
      have HHQ := Lib.hid (show hasN s Q = true by rw [HQ.out]; exact has_putN s n D)
      rw [HDQ.out, HHQ.out] at KE
      clear hg b7 KN
      by_cases h0 : N = 0
      · subst h0
        have p0 : ((0 : Int) == 0) = true := rfl
        by_cases h1 : 1 ≤ n
        · have p1 : decide (1 ≤ n) = true := decide_eq_true h1
          by_cases h2 : n ≤ 1048576
          · have p2 : decide (n ≤ 1048576) = true := decide_eq_true h2
            have KQ := Lib.hid (dRight (c := c5) H57.out (Nat.le_refl _) (by omega) HSQ.out)
            rw [decide_eq_true (show RightN Q by
              rw [HQ.out]
              refine HRD.out.putN HND.out ?_
              rw [okE_is]
              unfold inoB
              rw [p1, p2]
              simp only [hN]
              rfl)] at KQ
            clear hN h1 h2
            go_wp2_with fail
            refine KQ.out.mono ?_
            rintro e1 w8 hg
            obtain ⟨rfl, b8⟩ := hg.below
            have B8 := Lib.hid (B7.out.trans (b8.mono B7.out.size))
            have H48 := Lib.hid (H47.out.at_ b8)
            have H58 := Lib.hid (H57.out.at_ b8)
            clear hg b8 KQ
            have KE2 := Lib.hid (KE.out _ H58.out)
            clear KE
            go_wp2_with fail
            refine KE2.out.mono ?_
            rintro e1 w9 ⟨A9, c9, rfl, hc9, hx9, b9⟩
            have B9 := Lib.hid (B8.out.trans (b9.mono B8.out.size))
            have KS := Lib.hid (sameEs_any D D D.length D.length rfl rfl (by omega) A9 A4 c9 c4 w9.heap.size w9.heap.size w9 hx9 (H48.out.at_ b9))
            rw [decide_eq_true rfl] at KS
            clear hx9 b9 KE2
            go_wp2_with fail
            refine KS.out.mono ?_
            rintro e1 w10 hg
            obtain ⟨rfl, b10⟩ := hg.below
            have B10 := Lib.hid (B9.out.trans (b10.mono B9.out.size))
            clear hg b10 KS
            go_wp2
            go_ret
            exact ⟨rfl, B10.out⟩
          · have p2 : decide (n ≤ 1048576) = false := decide_eq_false h2
            clear hN h1 h2
            have KE2 := Lib.hid (KE.out _ H57.out)
            clear KE
            go_wp2_with fail
            refine KE2.out.mono ?_
            rintro e1 w9 ⟨A9, c9, rfl, hc9, hx9, b9⟩
            have B9 := Lib.hid (B7.out.trans (b9.mono B7.out.size))
            have KS := Lib.hid (sameEs_any D D D.length D.length rfl rfl (by omega) A9 A4 c9 c4 w9.heap.size w9.heap.size w9 hx9 (H47.out.at_ b9))
            rw [decide_eq_true rfl] at KS
            clear hx9 b9 KE2
            go_wp2_with fail
            refine KS.out.mono ?_
            rintro e1 w10 hg
            obtain ⟨rfl, b10⟩ := hg.below
            have B10 := Lib.hid (B9.out.trans (b10.mono B9.out.size))
            clear hg b10 KS
            go_wp2
            go_ret
            exact ⟨rfl, B10.out⟩
        · have p1 : decide (1 ≤ n) = false := decide_eq_false h1
          clear hN h1
          have KE2 := Lib.hid (KE.out _ H57.out)
          clear KE
          go_wp2_with fail
          refine KE2.out.mono ?_
          rintro e1 w9 ⟨A9, c9, rfl, hc9, hx9, b9⟩
          have B9 := Lib.hid (B7.out.trans (b9.mono B7.out.size))
          have KS := Lib.hid (sameEs_any D D D.length D.length rfl rfl (by omega) A9 A4 c9 c4 w9.heap.size w9.heap.size w9 hx9 (H47.out.at_ b9))
          rw [decide_eq_true rfl] at KS
          clear hx9 b9 KE2
          go_wp2_with fail
          refine KS.out.mono ?_
          rintro e1 w10 hg
          obtain ⟨rfl, b10⟩ := hg.below
          have B10 := Lib.hid (B9.out.trans (b10.mono B9.out.size))
          clear hg b10 KS
          go_wp2
          go_ret
          exact ⟨rfl, B10.out⟩
      · have p0 : (N == 0) = false := by simpa using h0
        clear hN h0
        have KE2 := Lib.hid (KE.out _ H57.out)
        clear KE
        go_wp2_with fail
        refine KE2.out.mono ?_
        rintro e1 w9 ⟨A9, c9, rfl, hc9, hx9, b9⟩
        have B9 := Lib.hid (B7.out.trans (b9.mono B7.out.size))
        have KS := Lib.hid (sameEs_any D D D.length D.length rfl rfl (by omega) A9 A4 c9 c4 w9.heap.size w9.heap.size w9 hx9 (H47.out.at_ b9))
        rw [decide_eq_true rfl] at KS
        clear hx9 b9 KE2
        go_wp2_with fail
        refine KS.out.mono ?_
        rintro e1 w10 hg
        obtain ⟨rfl, b10⟩ := hg.below
        have B10 := Lib.hid (B9.out.trans (b10.mono B9.out.size))
        clear hg b10 KS
        go_wp2
        go_ret
        exact ⟨rfl, B10.out⟩
end Go.Proofs.Ytbegnnohmahglaa
