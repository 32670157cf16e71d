import Derived.Test.YtbegnnohmahglaaDiSt
namespace Go.Proofs.Ytbegnnohmahglaa
open Wd Ino Go.RowKit Go.ChangeShapes Go.WideShapes Go.Sort
set_option linter.unusedVariables false
set_option maxRecDepth 100000

def FindsRel (l : List Ent) (W : World) (i : Value) (wr : World) : Prop := ∃ k : Nat, k ≤ l.length ∧ i = .int .i64 k ∧ Below W.heap.size W wr
set_option maxHeartbeats 16000000 in
theorem lFinds {W : World} {A : Option Addr} {c : Nat} {l : List Ent} (h : Ens W W.heap.size A l) (ho : ∀ e ∈ l, Ent.Ok e) (hc : l.length ≤ c) (hcm : c ≤ maxLen) (s : ByteArray) (hs : s.size ≤ maxLen) :
    Calls Try.prog 5 #[.slice A l.length c, .string s] W (TrueB W) := by
  have H := Lib.hid h
  have KA := Lib.hid (fun w => lAwake w)
  have HF0 := Lib.hid (fun (w : World) (hb : Below W.heap.size W w) => lFew (c := c) (h.at_ hb) (Nat.le_refl _) (Nat.le_trans hc hcm) (fun e he => (ho e he).1))
  unfold maxLen at hs hcm
  clear h ho
  go_enter Try.func5, Try.ntmps5
  go_wp2_with fail
  refine (KA.out _).mono ?_
  rintro e1 w1 ⟨rfl, b1⟩
  have B1 := Lib.hid b1
  have KF := Lib.hid (HF0.out _ b1)
  clear b1 KA HF0
  obtain ⟨f, hf⟩ : ∃ f, fewE l = f := ⟨_, rfl⟩
  rw [hf] at KF
  go_wp2_with fail
  refine KF.out.mono ?_
  rintro e1 w2 hg
  obtain ⟨rfl, b2⟩ := hg.below
  have B2 := Lib.hid (B1.out.trans (b2.mono B1.out.size))
  clear hg b2 KF
  cases f with
  | false =>
    clear hf
    go_wp2
    go_ret
    exact ⟨rfl, B2.out⟩
  | true =>
    obtain ⟨hsm, hlen⟩ := few_of hf
    have HSM := Lib.hid hsm
    clear hsm hf
    by_cases h100 : 100 < s.size
    · have q0 : decide ((100 : Int) < (s.size : Int)) = true := decide_eq_true (by omega)
      clear h100
      go_wp2
      go_ret
      exact ⟨rfl, B2.out⟩
    have q0 : decide ((100 : Int) < (s.size : Int)) = false := decide_eq_false (by omega)
    have hs1 : s.size ≤ 1000 := by omega
    clear h100
    obtain ⟨R, hR⟩ : ∃ R, decide (RightN l) = R := ⟨_, rfl⟩
    have KR := Lib.hid (dRight (c := c) (H.out.at_ B2.out) (Nat.le_refl _) (by omega) HSM.out)
    rw [hR] at KR
    go_wp2_with fail
    refine KR.out.mono ?_
    rintro e1 w3 hg
    obtain ⟨rfl, b3⟩ := hg.below
    have B3 := Lib.hid (B2.out.trans (b3.mono B2.out.size))
    clear hg b3 KR
    cases R with
    | false =>
      clear hR
      go_wp2
      go_ret
      exact ⟨rfl, B3.out⟩
    | true =>
      have HR := Lib.hid (of_decide_eq_true hR)
      clear hR
      go_wp2
      go_loopw [30] (fun i wr => FindsRel l W i wr) (fun i _ => l.length - (intOf i).toNat)
      case atStart => exact ⟨0, Nat.zero_le _, rfl, B3.out⟩
      case round =>
        obtain ⟨k, hk, rfl, hb⟩ := hrel
        have HB := Lib.hid hb
        by_cases hlt : k < l.length
        · obtain ⟨e, he⟩ : ∃ e, l[k]? = some e := ⟨_, List.getElem?_eq_getElem hlt⟩
          have HE := Lib.hid he
          have hin := HR.out.ino (List.mem_of_getElem? he)
          have hb2 := (Below.refl wr.heap.size wr).alloc (Nat.le_refl _) (.cells #[.string e.s, .int .i64 e.n] 32)
          have KF := Lib.hid (dFind (c := c) (H.out.at_ (hb.trans (hb2.mono hb.size))) (Nat.le_refl _) (by omega) e.s)
          rw [hin.1, hin.2] at KF
          obtain ⟨bl, off, rfl, hbB, x0, x1⟩ := ens_cells (H.out.below hb) he
          have hlt2 : (k : Int) < (l.length : Int) := Int.ofNat_lt.2 hlt
          have HC := Lib.hid (show Cells (wr.alloc (.cells #[.string e.s, .int .i64 e.n] 32)) wr.heap.size 32 (ecells e) from Cells.new wr 32 (ecells e))
          have HB2 := Lib.hid (hb.trans (hb2.mono hb.size))
          have q1 : (e.n != e.n) = false := by simp
          clear he hin hb hb2
          go_wp2_with fail
          refine KF.out.mono ?_
          rintro e1 w4 hg
          obtain ⟨rfl, b4⟩ := hg.below
          have HB4 := Lib.hid (HB2.out.trans (b4.mono HB2.out.size))
          obtain ⟨c0, c1⟩ := ecells2 (HC.out.below' b4)
          clear hg b4 KF x0 x1
          go_wp2
          go_roundw
          case rel => exact ⟨k + 1, by omega, by go_num, HB4.out⟩
          case measure => simp [intOf]; omega
        · obtain rfl : k = l.length := by omega
          obtain ⟨f, hf⟩ : ∃ f, hasN s l = f := ⟨_, rfl⟩
          obtain ⟨D, hD⟩ : ∃ D, dropN s l = D := ⟨_, rfl⟩
          obtain ⟨n, hn⟩ : ∃ n, inoN s l = n := ⟨_, rfl⟩
          have hdl := HR.out.drop_len s
          have hn0 : f = false → n = 0 := fun h => by rw [← hn]; exact inoN_none (by rw [hf, h])
          have KF := Lib.hid (dFind (c := c) (H.out.at_ hb) (Nat.le_refl _) (by omega) s)
          rw [hf, hn] at KF
          rw [hf, hD] at hdl
          clear hn hb hlt
          go_wp2_with fail
          refine KF.out.mono ?_
          rintro e1 w4 hg
          obtain ⟨rfl, b4⟩ := hg.below
          have HB4 := Lib.hid (HB.out.trans (b4.mono HB.out.size))
          have KD := Lib.hid (dDrop (c := c) (H.out.at_ HB4.out) (Nat.le_refl _) (by omega) HSM.out s)
          rw [hf, hD] at KD
          clear hg b4 KF hf hD
          go_wp2_with fail
          refine KD.out.mono ?_
          rintro e1 w5 ⟨A5, c5, rfl, hc5, hx5, b5⟩
          have HB5 := Lib.hid (HB4.out.trans (b5.mono HB4.out.size))
          have KC := Lib.hid (fun w => lCount f w)
          have KN := Lib.hid (fun (w : World) (hb : Below W.heap.size W w) => dNames (c := c) (H.out.at_ hb) (Nat.le_refl _) (by omega) HSM.out)
          clear hx5 b5 KD
          cases f with
        | true =>
          rw [if_pos rfl] at hdl KC
          have hsub : IntKind.i64.wrap ((l.length : Int) - 1) = (D.length : Int) := by rw [IntKind.wrap_i64]; omega
          have hsub2 : (l.length : Int) - 1 = (D.length : Int) := by omega
          clear hn0 hdl
          go_wp2_with fail
          refine (KC.out _).mono ?_
          rintro e1 w6 hg
          obtain ⟨rfl, b6⟩ := hg.below
          have HB6 := Lib.hid (HB5.out.trans (b6.mono HB5.out.size))
          have KN2 := Lib.hid (KN.out _ HB6.out)
          clear hg b6 KC KN
          go_wp2_with fail
          refine KN2.out.mono ?_
          rintro e1 w7 ⟨v, rfl, ho7, b7⟩
          obtain ⟨A7, c7, rfl, _⟩ := Row.of_own ho7
          have HB7 := Lib.hid (HB6.out.trans (b7.mono HB6.out.size))
          clear ho7 b7 KN2
          go_wp2
          go_ret
          exact ⟨rfl, HB7.out⟩
        | false =>
          rw [if_neg (by decide)] at hdl KC
          obtain rfl := hn0 rfl
          have hsub2 : (l.length : Int) = (D.length : Int) := by omega
          have heq : ((D.length : Int) == (l.length : Int)) = true := by simp; omega
          clear hn0 hdl hsub2
          go_wp2_with fail
          refine (KC.out _).mono ?_
          rintro e1 w6 hg
          obtain ⟨rfl, b6⟩ := hg.below
          have HB6 := Lib.hid (HB5.out.trans (b6.mono HB5.out.size))
          have KN2 := Lib.hid (KN.out _ HB6.out)
          clear hg b6 KC KN
          go_wp2_with fail
          refine KN2.out.mono ?_
          rintro e1 w7 ⟨v, rfl, ho7, b7⟩
          obtain ⟨A7, c7, rfl, _⟩ := Row.of_own ho7
          have HB7 := Lib.hid (HB6.out.trans (b7.mono HB6.out.size))
          clear ho7 b7 KN2
          go_wp2
          go_ret
          exact ⟨rfl, HB7.out⟩
end Go.Proofs.Ytbegnnohmahglaa
