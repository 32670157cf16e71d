import Derived.Test.YtlfmfdbgchpjgaaExPart
import Derived.Maps.AppendAt
namespace Go.Proofs.Ytlfmfdbgchpjgaa
open Wd Ex Go.RowKit Go.ChangeShapes Go.WideShapes Go.Sort
set_option linter.unusedVariables false
set_option maxRecDepth 100000

theorem grows_below {w w1 w2 : World} (h : Below w.heap.size w w1) (k : ∃ q os, w2 = grow (w1.drewN q) os) : Below w.heap.size w w2 := by
  obtain ⟨q, os, rfl⟩ := k
  exact h.trans ((below_grow' w1 q os).mono h.size)
def BtwRel (l : List Ext) (a b : Int) (w : World) (v i : Value) (wr : World) : Prop := ∃ (k : Nat) (acc : List Ext), k ≤ l.length ∧ acc.length ≤ k ∧ i = .int .i64 k ∧ btw l a b = acc ++ btw (l.drop k) a b ∧ OwnX wr w.heap.size v acc ∧ Below w.heap.size w wr
set_option maxHeartbeats 4000000 in
theorem xBtw {w : World} {lo hi : Nat} {A : Option Addr} {c : Nat} {l : List Ext} {a b : Int} (h : Exs w lo hi A l) (hh : hi ≤ w.heap.size) (hf : ∀ e ∈ l, Fits e) (hm : l.length ≤ 1000) (hs : Span a b) (hb : b ≤ 1048576) : Calls Try.prog 21 #[.slice A l.length c, .int .i64 a, .int .i64 b] w (MadeX (btw l a b) w) := by
  have H := Lib.hid h; have HF := Lib.hid hf; have HS := Lib.hid hs
  obtain ⟨ie, i1, i2, i3, i4⟩ := info_parts infoX
  have I1 := Lib.hid i1; have I2 := Lib.hid i2; have I3 := Lib.hid i3; have I4 := Lib.hid i4
  clear h hf hs i1 i2 i3 i4
  go_enter Try.func21, Try.ntmps21
  go_wp2
  go_step3
  go_wp2
  go_step3
  go_wp2
  go_loopw [7, 12] (fun v i wr => BtwRel l a b w v i wr) (fun _ i _ => l.length - (intOf i).toNat)
  case atStart => exact ⟨0, [], Nat.zero_le _, Nat.le_refl _, rfl, rfl, own_nilX _ _, Below.refl _ _⟩
  case round =>
    obtain ⟨k, acc, hk, hacc, rfl, hbt, hown, hb1⟩ := hrel
    have HBT := Lib.hid hbt; have HO := Lib.hid hown; have HB := Lib.hid hb1
    have hsz := hb1.size
    clear hbt hown hb1
    by_cases hlt : k < l.length
    · obtain ⟨e, he⟩ : ∃ e, l[k]? = some e := ⟨_, List.getElem?_eq_getElem hlt⟩
      have hfe := HF.out e (List.mem_of_getElem? he)
      obtain ⟨bl, off, rfl, _, hbB, x0, x1, x2⟩ := exs_cells (H.out.below (HB.out.mono hh)) he
      have hlt2 : (k : Int) < (l.length : Int) := Int.ofNat_lt.2 hlt
      have KA := Lib.hid (fun w => xAfter e (by have := hfe.f; have := hfe.n; omega) (by have := hfe.fn; omega) w)
      obtain ⟨t, ht⟩ : ∃ t, e.f + e.n = t := ⟨_, rfl⟩
      rw [ht] at KA
      have hbt := HBT.out
      rw [drop_at he, btw, ht] at hbt
      have HBT2 := Lib.hid hbt
      have C1 := Lib.hid (Cells.new wr 29 (xc e))
      have HB1 := Lib.hid (HB.out.alloc HB.out.size (.cells (xc e) 29))
      have HE := Lib.hid he; have HFE := Lib.hid hfe; have HT := Lib.hid ht
      unfold Ext.val at KA
      clear he hfe hbt ht
      go_wp2_with fail
      refine (KA.out _).mono ?_
      rintro e1 w2 ⟨rfl, hw2⟩
      have HB2 := Lib.hid (grows_below HB1.out hw2)
      have HO2 := Lib.hid (HO.out.below (grows_below ((Below.refl _ _).alloc (Nat.le_refl _) (.cells (xc e) 29)) hw2))
      have C2 := Lib.hid (C1.out.below' (show Below _ _ w2 by obtain ⟨q, os, rfl⟩ := hw2; exact below_grow' _ _ _))
      clear hw2 x0 x1 x2 KA
      have c0 : w2.cell? ⟨wr.heap.size, 0, none⟩ = some (.int .i64 e.f) := C2.out.cell 0
      have c1 : w2.cell? ⟨wr.heap.size, 1, none⟩ = some (.int .i64 e.n) := C2.out.cell 1
      have c2 : w2.cell? ⟨wr.heap.size, 2, none⟩ = some (.int .i64 e.p) := C2.out.cell 2
      by_cases h1 : t ≤ a
      · have hbt := HBT2.out
        rw [if_pos h1] at hbt
        have HBT3 := Lib.hid hbt
        clear hbt
        go_wp2
        go_roundw
        case rel => exact ⟨k + 1, acc, by omega, by omega, by go_num, HBT3.out, HO2.out, HB2.out⟩
        case measure => simp [intOf]; omega
      · by_cases h2 : b ≤ e.f
        · have hbt := HBT2.out
          rw [if_neg h1, if_pos h2, List.append_nil] at hbt
          have HBT3 := Lib.hid hbt
          clear hbt
          go_wp2
          rw [Exit.noGoto_ret]
          go_ret
          exact ⟨_, rfl, by rw [HBT3.out]; exact HO2.out, HB2.out⟩
        · have hbt := HBT2.out
          rw [if_neg h1, if_neg h2] at hbt
          have hab : a < b := by have := HFE.out.f; have := HFE.out.fn; rcases HS.out.2 with h | h | h <;> (have := HT.out; omega)
          have KP := Lib.hid (fun w => xPart e a b HS.out.1 hb hab HFE.out (by have := HT.out; omega) (by omega) w)
          obtain ⟨pe, hpe⟩ : ∃ pe, partE e a b = pe := ⟨_, rfl⟩
          rw [hpe] at KP hbt
          have HBT3 := Lib.hid hbt
          unfold Ext.val at KP
          clear hbt hpe hab
          go_wp2_with fail
          refine (KP.out _).mono ?_
          rintro e1 w3 ⟨rfl, b3⟩
          have HB3 := Lib.hid (HB2.out.trans (b3.mono HB2.out.size))
          have HO3 := Lib.hid (HO2.out.below b3)
          have hs3 : w.heap.size ≤ w3.heap.size := HB3.out.size
          clear b3 KP c0 c1 c2
          go_wp2_with (at_builtin; refine wpList_append_own_at _ rfl (.tmp 26) (.tmp 31) 23 rfl w.heap.size 29 ie (.agg #[.int .i64 0, .int .i64 0, .int .i64 0]) 3 24 Try.underlying23 I1.out I2.out I3.out I4.out rfl (by decide) u7 acc.length (xvals acc) rfl (HO3.out.below ((Below.refl _ _).alloc (Nat.le_refl _) _)) ⟨w3.heap.size, 0, none⟩ 1 1 (xv pe) rfl rfl (cells_three (Cells.new w3 29 (xc pe))) (one3 _) (by unfold maxLen; omega) (by omega) (by simp; omega) ?_; intro v7 w7 hown7 hgr7 _ hat7; have hb7 := Lib.hid (show Below w.heap.size w w7 from (HB3.out.alloc hs3 _).grown hgr7 (by simp; omega) (own_base HO3.out)); have HO7 := Lib.hid hown7; clear hown7 hgr7 hat7)
          go_roundw
          case rel =>
            refine ⟨k + 1, acc ++ [pe], by omega, by simp; omega, by go_num, ?_, ?_, hb7.out⟩
            · rw [HBT3.out]; simp
            · unfold OwnX
              rw [xvals_snoc, List.length_append]
              exact HO7.out
          case measure => simp [intOf]; omega
    · obtain rfl : k = l.length := by omega
      have hbt := HBT.out
      rw [List.drop_length, btw, List.append_nil] at hbt
      have HBT3 := Lib.hid hbt
      clear hbt
      go_wp2
      rw [Exit.noGoto_ret]
      go_ret
      exact ⟨_, rfl, by rw [HBT3.out]; exact HO.out, HB.out⟩
end Go.Proofs.Ytlfmfdbgchpjgaa
