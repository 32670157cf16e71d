import Derived.Test.YtamndllolppmoaaGreatG27
import Derived.Test.YtamndllolppmoaaGreatH00
import Derived.Laws.CopyOwn
import Derived.Test.YtamndllolppmoaaGreatH02
import Derived.Test.YtamndllolppmoaaGreatH04
import Derived.Test.YtamndllolppmoaaGreatG30

/-! The project's State: Last. -/
namespace Go.Proofs.YtamndllolppmoaaGreat
open Wd Ino Sm Go.RowKit Go.ChangeShapes Go.WideShapes Go.Sort
set_option linter.unusedVariables false
set_option maxRecDepth 100000
variable {w : World} {base m g b : Nat} {S : Stt}
theorem pLast (h : PSt w base m g b S) : Calls Tryz.prog 43 #[SPtr g] w (Grows (.int .i64 S.last) w) := by
  have KM := Lib.hid (pMade h)
  have H := Lib.hid h
  unfold SPtr at *
  clear h
  go_enter Tryz.func43, Tryz.ntmps43
  go_wp2_with fail
  refine (KM.out).mono ?_
  rintro e' w2 ⟨rfl, hw2⟩
  have HG2 := Lib.hid hw2
  have c1 := (H.out.cells.below' (grown_b hw2)).cell 1
  clear hw2 KM H
  go_wp2_with fail
  go_ret
  exact ⟨rfl, HG2.out⟩
end Go.Proofs.YtamndllolppmoaaGreat

/-
  The project's own contracts of layer 7, as the laws' walks use them.
-/
namespace Go.Proofs.YtamndllolppmoaaGreat
open Wd U Go.ChangeShapes Go.WideShapes Go.RowKit Go.Sort
set_option linter.unusedVariables false

/-- l with its sum behind it, in a block of its own -/
def Sealed (l : List Nat) (W : World) (e : Ending) (w : World) : Prop :=
  ∃ (g cap : Nat) (cs : Array Value), e = .returned (.slice (some ⟨g, 0, none⟩) (l.length + 1) cap) ∧ Cells w g 69 cs ∧ cs.toList.take (l.length + 1) = (l ++ [sum l]).map wd ∧ W.heap.size ≤ g ∧ Below W.heap.size W w ∧ l.length + 1 ≤ cap
def OpenYes (l : List Nat) (W : World) (e : Ending) (w : World) : Prop :=
  ∃ (A : Option Addr) (c : Nat), e = .returned (.tuple #[.slice A l.length c, .bool true]) ∧ Row w w.heap.size A l.length (l.map wd) ∧ Below W.heap.size W w
def OpenNo (W : World) (e : Ending) (w : World) : Prop :=
  ∃ (A : Option Addr) (c : Nat), e = .returned (.tuple #[.slice A 0 c, .bool false]) ∧ Below W.heap.size W w

theorem more_is (s w : Nat) (hs : s < 18446744073709551616) (hw : w < 18446744073709551616) (W : World) : Calls Tryz.prog 173 #[.int .u64 (s : Int), .int .u64 (w : Int)] W fun e w' => e = .returned (.int .u64 ((more s w : Nat) : Int)) ∧ W = w' := by
  have hx := bits_xor_u64_nat s w hs hw
  have hm := more_wrap s w
  clear hs hw
  go_enter Tryz.func173, Tryz.ntmps173
  go_wp2
  go_ret
  exact ⟨rfl, rfl⟩
theorem cMore (s w : Nat) (hs : s < 18446744073709551616) (hw : w < 18446744073709551616) (W : World) : Calls Tryz.prog 173 #[.int .u64 (s : Int), .int .u64 (w : Int)] W (Grows (.int .u64 ((more s w : Nat) : Int)) W) := by
  refine (more_is s w hs hw W).mono ?_
  rintro e w' ⟨rfl, rfl⟩
  exact ⟨rfl, grow_none _⟩
theorem start_is (W : World) : Calls Tryz.prog 171 #[] W fun e w' => e = .returned (.int .u64 ((U.start : Nat) : Int)) ∧ W = w' := by
  rw [← start_val]
  go_enter Tryz.func171, Tryz.ntmps171
  go_wp2
  go_ret
  exact ⟨rfl, rfl⟩
theorem cStart (W : World) : Calls Tryz.prog 171 #[] W (Grows (.int .u64 ((U.start : Nat) : Int)) W) := by
  refine (start_is W).mono ?_
  rintro e w' ⟨rfl, rfl⟩
  exact ⟨rfl, grow_none _⟩

/-- the world with one word more, the sum -/
def sumW (W : World) (s : Nat) : World := W.alloc (.cells #[.int .u64 (s : Int)] 69)
def takeV (n : Nat) : Value := .func (.func 172) #[] #[.pointer (some ⟨n, 0, none⟩)]
def toldV (n : Nat) : Value := .func (.func 174) #[] #[.pointer (some ⟨n, 0, none⟩)]
theorem sums_is (W : World) : Calls Tryz.prog 139 #[] W fun e w' => e = .returned (.tuple #[takeV W.heap.size, toldV W.heap.size]) ∧ w' = sumW W U.start := by
  have hmf : ∀ (fn : Fn) (first cap : Array Value) (w : World), (Instr.makeFunc fn first cap).run Tryz.prog w = .ok (.func fn first cap) w := fun _ _ _ _ => rfl
  unfold takeV toldV sumW
  go_enter Tryz.func139, Tryz.ntmps139
  go_wp2_with fail
  refine (start_is _).mono ?_
  rintro e w2 ⟨rfl, rfl⟩
  go_wp2
  go_ret2
  exact ⟨rfl, rfl⟩
theorem take_is (W : World) (n s x : Nat) (hn : n = W.heap.size) (hs : s < 18446744073709551616) (hx : x < 18446744073709551616) : Calls Tryz.prog 172 #[.int .u64 (x : Int), .pointer (some ⟨n, 0, none⟩)] (sumW W s) fun e w' => e = .returned (.tuple #[]) ∧ w' = sumW W (more s x) := by
  subst hn
  unfold sumW
  go_enter Tryz.func172, Tryz.ntmps172
  go_wp2_with fail
  refine (more_is s x hs hx _).mono ?_
  rintro e w2 ⟨rfl, rfl⟩
  go_wp2
  go_end0
  exact ⟨rfl, rfl⟩
theorem told_is (W : World) (n s : Nat) (hn : n = W.heap.size) : Calls Tryz.prog 174 #[.pointer (some ⟨n, 0, none⟩)] (sumW W s) fun e w' => e = .returned (.int .u64 (s : Int)) ∧ w' = sumW W s := by
  subst hn
  unfold sumW
  go_enter Tryz.func174, Tryz.ntmps174
  go_wp2
  go_ret
  exact ⟨rfl, rfl⟩
def SumW (l : List Nat) (W : World) (i : Value) (w : World) : Prop := ∃ k : Nat, k ≤ l.length ∧ i = .int .i64 k ∧ w = sumW W (sum (l.take k))

set_option maxHeartbeats 400000 in
theorem sum_is (l : List Nat) (n : Nat) (hL : l.length = n) (hl : Small l) (A : Option Addr) (c B : Nat) (w : World) (hn : n ≤ 1000000) (hB : B ≤ w.heap.size) (hr : Row w B A n (l.map wd)) : Calls Tryz.prog 90 #[.slice A n c] w fun e w' => e = .returned (.int .u64 ((sum l : Nat) : Int)) ∧ w' = sumW w (sum l) := by
  subst hL
  have HR := Lib.hid (hr.more hB); have HL := Lib.hid hl
  clear hr hl hB
  go_enter Tryz.func90, Tryz.ntmps90
  go_wp2_with fail
  refine (sums_is _).mono ?_
  rintro e w2 ⟨rfl, hw2⟩
  have HW2 := Lib.hid hw2
  clear hw2
  unfold takeV toldV
  go_wp2
  go_loopw [13] (fun i wr => SumW l w i wr) (fun i _ => l.length - (intOf i).toNat)
  case atStart => exact ⟨0, Nat.zero_le _, rfl, by rw [List.take_zero, ← sum_nil]; exact HW2.out⟩
  case round =>
    obtain ⟨k, hk, rfl, rfl⟩ := hrel
    by_cases hlt : k < l.length
    · obtain ⟨b, off, y, rfl, hb, hy, cy⟩ := HR.out.get hlt
      have hwy := HL.out.at hy
      have ht := take_one hy
      have HT := Lib.hid ht
      have cy' : (sumW w (sum (l.take k))).cell? ⟨b, off + k, none⟩ = some (.int .u64 (y : Int)) := by
        unfold sumW wd at *
        rw [World.cell?_alloc_lt _ _ _ (by exact hb)]
        exact cy
      clear ht hy cy
      go_wp2_with fail
      refine (take_is w _ (sum (l.take k)) y rfl (sum_lt _) hwy).mono ?_
      rintro e w3 ⟨rfl, rfl⟩
      go_wp2
      go_roundw
      case rel => exact ⟨k + 1, by omega, by go_num, by rw [HT.out, sum_snoc]⟩
      case measure => simp [intOf]; omega
    · obtain rfl : k = l.length := by omega
      rw [List.take_length]
      go_wp2_with fail
      refine (told_is w _ (sum l) rfl).mono ?_
      rintro e w3 ⟨rfl, rfl⟩
      go_wp2
      go_ret
      exact ⟨rfl, rfl⟩
theorem cSum (l : List Nat) (n : Nat) (hL : l.length = n) (hl : Small l) (A : Option Addr) (c B : Nat) (w : World) (hn : n ≤ 1000000) (hB : B ≤ w.heap.size) (hr : Row w B A n (l.map wd)) : Calls Tryz.prog 90 #[.slice A n c] w (Grows (.int .u64 ((sum l : Nat) : Int)) w) := by
  refine (sum_is l n hL hl A c B w hn hB hr).mono ?_
  rintro e w' ⟨rfl, rfl⟩
  exact ⟨rfl, grow_one _ _⟩

theorem infoW : (Tryz.prog.info? 69).map (fun i => (i.zero, i.size, i.bytes)) = some (some (.int .u64 0), 1, 8) := by kernel_rfl
theorem sizeW : (Tryz.prog.info? 69).map (·.size) = some 1 := by kernel_rfl
/-- zero words, as made -/
def zeroW (W : World) (n : Nat) : World := W.alloc (.cells (Array.replicate n (Value.int .u64 0)) 69)
theorem zero_cellsK (W : World) (n : Nat) : (zeroW W n).heap[W.heap.size]? = some (.cells (List.replicate n (Value.int .u64 0)).toArray 69 (0, 0)) := by
  unfold zeroW; rw [List.toArray_replicate]; exact Cells.new _ _ _
theorem zero_srcK {W : World} {B n m : Nat} {A : Option Addr} {xs : List Value} (hr : Row W B A n xs) (hB : B ≤ W.heap.size) :
    0 < xs.length → (some ⟨W.heap.size, 0, none⟩ : Option Addr) = some ⟨W.heap.size, 0, none⟩ ∧ ∃ ad, A = some ad ∧ ∀ j v, xs[j]? = some v → (zeroW W m).cell? (ad.add j) = some v := by
  intro h
  obtain ⟨b, off, rfl, hb, hc⟩ := hr.2 (by rw [← hr.1]; exact h)
  refine ⟨rfl, _, rfl, fun j v hv => ?_⟩
  obtain ⟨hj, rfl⟩ := List.getElem?_eq_some_iff.1 hv
  have e : (⟨b, off, none⟩ : Addr).add j = ⟨b, off + j, none⟩ := by unfold Addr.add; split <;> simp_all
  rw [e]
  unfold zeroW
  rw [World.cell?_alloc_lt _ _ _ (by show b < W.heap.size; omega)]
  exact hc j hj
theorem zero_belowK (W : World) (n : Nat) : Below W.heap.size W (zeroW W n) := (Below.refl _ _).alloc (Nat.le_refl _) _
theorem make_words' (n : Nat) (W : World) (hn : n ≤ 10000000) : (Instr.makeSlice 61 (.int .i64 (n : Int)) (.int .i64 (n : Int))).run Tryz.prog W = .ok (.slice (some ⟨W.heap.size, 0, none⟩) n n) (zeroW W n) := by
  have h := make_row (P := Tryz.prog) 61 69 (.int .u64 0) 8 Tryz.underlying61 infoW rfl n (by omega) (by omega) W
  rw [List.toArray_replicate] at h
  exact h

set_option maxRecDepth 100000 in
set_option maxHeartbeats 1000000 in
theorem cSeal (l : List Nat) (n : Nat) (hL : l.length = n) (hl : Small l) (A : Option Addr) (c B : Nat) (w : World) (hn : n ≤ 1000000) (hB : B ≤ w.heap.size) (hr : Row w B A n (l.map wd)) : Calls Tryz.prog 59 #[.slice A n c] w (Sealed l w) := by
  have hmk := fun W => make_words' (n + 1) W (by omega)
  rw [show ((n + 1 : Nat) : Int) = (n : Int) + 1 by omega] at hmk
  have HSRC := Lib.hid (zero_srcK (m := n + 1) hr hB); have HL := Lib.hid hL; have HS := Lib.hid hl; have HR := Lib.hid hr; have HB := Lib.hid hB
  clear hL hl hr hB
  go_enter Tryz.func59, Tryz.ntmps59
  go_wp2_with (with_reducible refine wpList_copy_splice rfl (.tmp 8) (.tmp 9) 61 61 rfl 69 Tryz.underlying61 sizeW (some ⟨w.heap.size, 0, none⟩) A (n + 1) (n + 1) n c rfl rfl w.heap.size 0 (List.replicate (n + 1) (Value.int .u64 0)) 69 (zero_cellsK w (n + 1)) (l.map wd) (by rw [List.length_map, HL.out]; exact (Nat.min_eq_left (by omega)).symm) HSRC.out (by simp [HL.out]) (oneW l) w.heap.size w (zero_belowK w (n + 1)) (Nat.le_refl _) ?_; intro w1 hcell hbel)
  have hg1 : w.heap.size < w1.heap.size := Cells.lt hcell.out
  have hc1 : Cells w1 w.heap.size 69 (l.map wd ++ [Value.int .u64 0]).toArray := by
    have h := hcell.out
    have e : splice (List.replicate (n + 1) (Value.int .u64 0)) 0 (l.map wd) = l.map wd ++ [Value.int .u64 0] := by
      have := HL.out
      simp [splice, this]
    rw [e] at h
    exact h
  have HR1 := Lib.hid ((HR.out.more HB.out).below hbel)
  have HC1 := Lib.hid hc1
  have HBEL := Lib.hid hbel
  clear hcell hc1 hbel
  refine (sum_is l n HL.out HS.out A c w1.heap.size _ hn (Nat.le_refl _) (HR1.out.more (by omega))).mono ?_
  rintro e w2 ⟨rfl, rfl⟩
  have hc2 : Cells (sumW w1 (sum l)) w.heap.size 69 (l.map wd ++ [Value.int .u64 0]).toArray := HC1.out.alloc _
  have cv : (sumW w1 (sum l)).cell? ⟨w.heap.size, n, none⟩ = some (.int .u64 0) := by rw [hc2.cell n]; have := HL.out; simp [this]
  have fv := hc2.free n
  have HC2 := Lib.hid hc2
  have hb2 : Below w.heap.size w (sumW w1 (sum l)) := HBEL.out.alloc (by omega) _
  have HB2 := Lib.hid hb2
  clear hc2 hb2
  go_wp2
  go_ret
  have h := HL.out
  subst h
  refine ⟨w.heap.size, l.length + 1, _, rfl, HC2.out.set l.length _, ?_, Nat.le_refl _, HB2.out.setCell (p := ⟨w.heap.size, l.length, none⟩) (Nat.le_refl _) _, Nat.le_refl _⟩
  simp [wd]
  exact List.take_of_length_le (by simp)

theorem OpenNo.at {A : Option Addr} {c : Nat} {W : World} : OpenNo W (.returned (.tuple #[.slice A 0 c, .bool false])) W := ⟨A, c, rfl, Below.refl _ _⟩
theorem OpenNo.grow {A : Option Addr} {c : Nat} {W w : World} (h : ∃ q os, w = grow (W.drewN q) os) : OpenNo W (.returned (.tuple #[.slice A 0 c, .bool false])) w := by
  obtain ⟨q, os, rfl⟩ := h
  exact ⟨A, c, rfl, below_grow' _ _ _⟩

set_option maxRecDepth 100000 in
theorem cOpen_none (A : Option Addr) (c : Nat) (w : World) : Calls Tryz.prog 49 #[.slice A 0 c] w (OpenNo w) := by
  go_enter Tryz.func49, Tryz.ntmps49
  go_wp2
  go_ret2
  exact OpenNo.at

/-- the region that reads the last word and the sum of the others, walked up to the test -/
theorem row_at_last {w : World} {B n s : Nat} {A : Option Addr} {l : List Nat} (h : Row w B A n ((l ++ [s]).map wd)) (hL : l.length + 1 = n) : ∃ b off, A = some ⟨b, off, none⟩ ∧ b < B ∧ w.cell? ⟨b, off + l.length, none⟩ = some (.int .u64 (s : Int)) := by
  obtain ⟨b, off, y, rfl, hb, hy, cy⟩ := h.get (k := l.length) (by omega)
  obtain rfl : s = y := by simpa using hy
  exact ⟨b, off, rfl, hb, cy⟩
theorem row_but_last {w : World} {B n s : Nat} {A : Option Addr} {l : List Nat} (h : Row w B A n ((l ++ [s]).map wd)) (hL : l.length + 1 = n) : Row w B A l.length (l.map wd) := by
  have := row_take (k := l.length) h (by omega)
  simpa using this

set_option maxRecDepth 100000 in
set_option maxHeartbeats 1000000 in
theorem cOpen_no (l : List Nat) (s n : Nat) (hL : l.length + 1 = n) (hl : Small l) (hs : s < 18446744073709551616) (hne : s ≠ sum l) (A : Option Addr) (c B : Nat) (hc : n ≤ c) (w : World) (hn : n ≤ 1000000) (hB : B ≤ w.heap.size) (hr : Row w B A n ((l ++ [s]).map wd)) : Calls Tryz.prog 49 #[.slice A n c] w (OpenNo w) := by
  have hr0 := row_but_last hr hL
  obtain ⟨b, off, rfl, hb, cv⟩ := row_at_last hr hL
  have HR := Lib.hid (hr0.more hB)
  have HS := Lib.hid hl
  obtain ⟨k, hk⟩ : ∃ k, k = l.length := ⟨_, rfl⟩
  rw [← hk] at cv
  have HK := Lib.hid hk
  obtain rfl : n = k + 1 := by omega
  have HBB := Lib.hid (show b < w.heap.size by omega)
  have hk1 : l.length = k := hk.symm
  have ks := fun (c' m : Nat) (os : Array Obj) => cSum l k hk1 hl (some ⟨b, off, none⟩) c' w.heap.size (grow (w.drewN m) os) (by omega) (by simp [grow]) (by rw [← hk1]; exact HR.out.below (below_grow' w m os))
  have KS := Lib.hid (ks c)
  clear hL hl hB hr hr0 hk hk1 ks
  have e1 : (((k + 1 : Nat) : Int) == 0) = false := by rw [beq_eq_false_iff_ne]; omega
  have e2 : ((s : Int) == ((sum l : Nat) : Int)) = false := by rw [beq_eq_false_iff_ne]; omega
  have e3 : (((sum l : Nat) : Int) == (s : Int)) = false := by rw [beq_eq_false_iff_ne]; omega
  have hfol : Tryz.prog.follows .mixedOrders = true := by kernel_rfl
  have cg := cell_grown (a := ⟨b, off + k, none⟩) HBB.out cv
  have e4 : k ≤ c := by omega
  go_enter Tryz.func49, Tryz.ntmps49
  go_wp2_with fail
  refine wp_region_quiet_grown hfol (by kernel_rfl) ?_
  repeat (go_big_quiet_step (first
    | (go_at_call 90; (with_reducible exact Grows.inAt KS.out _ _))))
  refine wpQuiet_nil ?_
  intro _ hw'
  obtain ⟨⟨nr, osr⟩, hw''⟩ := hw'
  subst hw''
  go_wp2
  go_ret2
  exact OpenNo.grow ⟨_, _, rfl⟩

set_option maxRecDepth 100000 in
set_option maxHeartbeats 1000000 in
theorem cOpen_yes (l : List Nat) (n : Nat) (hL : l.length + 1 = n) (hl : Small l) (A : Option Addr) (c B : Nat) (hc : n ≤ c) (w : World) (hn : n ≤ 1000000) (hB : B ≤ w.heap.size) (hr : Row w B A n ((l ++ [sum l]).map wd)) : Calls Tryz.prog 49 #[.slice A n c] w (OpenYes l w) := by
  have hr0 := row_but_last hr hL
  obtain ⟨b, off, rfl, hb, cv⟩ := row_at_last hr hL
  have HR := Lib.hid (hr0.more hB)
  have HS := Lib.hid hl
  obtain ⟨k, hk⟩ : ∃ k, k = l.length := ⟨_, rfl⟩
  rw [← hk] at cv
  have HK := Lib.hid hk
  obtain rfl : n = k + 1 := by omega
  have HBB := Lib.hid (show b < w.heap.size by omega)
  have hk1 : l.length = k := hk.symm
  have ks := fun (c' m : Nat) (os : Array Obj) => cSum l k hk1 hl (some ⟨b, off, none⟩) c' w.heap.size (grow (w.drewN m) os) (by omega) (by simp [grow]) (by rw [← hk1]; exact HR.out.below (below_grow' w m os))
  have KS := Lib.hid (ks c)
  clear hL hl hB hr hr0 hk hk1 ks
  have e1 : (((k + 1 : Nat) : Int) == 0) = false := by rw [beq_eq_false_iff_ne]; omega
  have e2 : (((sum l : Nat) : Int) == ((sum l : Nat) : Int)) = true := beq_self_eq_true _
  have hmk := fun W => make_words' k W (by omega)
  have hfol : Tryz.prog.follows .mixedOrders = true := by kernel_rfl
  have cg := cell_grown (a := ⟨b, off + k, none⟩) HBB.out cv
  have e4 : k ≤ c := by omega
  go_enter Tryz.func49, Tryz.ntmps49
  go_wp2_with fail
  refine wp_region_quiet_grown hfol (by kernel_rfl) ?_
  repeat (go_big_quiet_step (first
    | (go_at_call 90; (with_reducible exact Grows.inAt KS.out _ _))))
  refine wpQuiet_nil ?_
  intro _ hw'
  obtain ⟨⟨nr, osr⟩, hw''⟩ := hw'
  subst hw''
  obtain ⟨w3, hw3⟩ : ∃ w3, w3 = grow (w.drewN nr) osr := ⟨_, rfl⟩
  rw [← hw3]
  have HB3 := Lib.hid (show Below w.heap.size w w3 from hw3 ▸ below_grow' w nr osr)
  clear hw3 cg e4
  have HR3 := Lib.hid ((HR.out.below HB3.out).more HB3.out.size)
  have HR4 := Lib.hid (show Row w3 w3.heap.size (some ⟨b, off, none⟩) k (l.map wd) from HK.out ▸ HR3.out)
  have HSRC := Lib.hid (zero_srcK (m := k) HR4.out (Nat.le_refl _))
  go_wp2_with (with_reducible refine wpList_copy_splice rfl (.tmp 23) (.tmp 24) 61 61 rfl 69 Tryz.underlying61 sizeW (some ⟨w3.heap.size, 0, none⟩) (some ⟨b, off, none⟩) k k (k + 1) c rfl rfl w3.heap.size 0 (List.replicate k (Value.int .u64 0)) 69 (zero_cellsK w3 k) (l.map wd) (by rw [List.length_map, ← HK.out]; exact (Nat.min_eq_right (by omega)).symm) HSRC.out (by have := HK.out; simp [this]) (oneW l) w3.heap.size w3 (zero_belowK w3 k) (Nat.le_refl _) ?_; intro w4 hcell hbel)
  have h4 : Cells w4 w3.heap.size 69 (l.map wd).toArray := by
    have h := hcell.out
    have e : splice (List.replicate k (Value.int .u64 0)) 0 (l.map wd) = l.map wd := by
      have := HK.out
      simp [splice, this]
    rw [e] at h
    exact h
  have h5 := Row.of_cells (B := w4.heap.size) h4 h4.lt
  have H5 := Lib.hid h5
  have HB4 := Lib.hid (HB3.out.trans (hbel.mono HB3.out.size))
  clear hcell hbel h4 h5
  go_ret2
  have hk := HK.out
  subst hk
  refine ⟨some ⟨w3.heap.size, 0, none⟩, l.length, rfl, ?_, HB4.out⟩
  have h := H5.out
  simpa using h
end Go.Proofs.YtamndllolppmoaaGreat

/-! The project's image: Put. -/
namespace Go.Proofs.YtamndllolppmoaaGreat
open Wd Ino Sm U Go.RowKit Go.ChangeShapes Go.WideShapes Go.Shelf Go.Sort
set_option linter.unusedVariables false
attribute [local go_sem] Oper.semAt_some
set_option maxRecDepth 100000
theorem wpListIn_append_nds {F : Fence} {n : Nat} {ops : Array Oper} {rest : List Oper} {o : Oper} {a : Act} {Q : Exit → Act → World → Prop} {w : World} (hgd : o.guard = none) (s x : Operand)
    (ho : o.op = .call { callee := .builtin .append, args := #[s, x], argTypes := #[78, 78] })
    {base hi : Nat} {v : Value} {l m : List Nd} {A : Option Addr} {c : Nat} (hs : a.eval s = v) (hx' : a.eval x = .slice A m.length c) (hown : OwnNs w base v l) (hx : Nds w hi A m) (hl : l.length + m.length ≤ 100000) (hb : base ≤ w.heap.size)
    (h : ∀ v' w', OwnNs w' base v' (l ++ m) → w.grownBy w' v.ownBlock → wpListIn F n Tryz.prog ops Q rest (a.put o.dst v') w') : wpListIn F n Tryz.prog ops Q (o :: rest) a w := by
  refine wpListIn_plain hgd fun K hK => ?_
  obtain ⟨v', w', hrun, h2, h3, _⟩ := run_append_nds (c := c) o.type hown hx hl hb
  unfold Oper.wpIn
  refine ⟨by simp [Oper.about, ho, resolve, Target.leads, Sem.run_pure], ?_⟩
  rw [Oper.semAt_plain F _ _ (by rw [ho]; intro c hc'; cases hc')]
  simp [execOp, ho, resolve, invoke, builtin, hs, hx', hrun, Result.andThen]
  exact hK _ _ (h v' w' h2 h3)
/-- the words of all nodes -/
def imgW (S : Stt) : List Nat := [uw S.last, S.l.length] ++ S.l.flatMap nodeW
theorem pMadeI {w : World} {base m g b : Nat} {S : Stt} (h : PSt w base m g b S) (hl : S.last ≠ 0) : Calls Tryz.prog 56 #[SPtr g] w (Grows (.bool true) w) := by
  have KL := Lib.hid (pLast h)
  have q0 : (S.last != 0) = true := by simpa using hl
  obtain ⟨LA, hLA⟩ : ∃ x, S.last = x := ⟨_, rfl⟩
  rw [hLA] at KL q0
  clear h hl hLA
  unfold SPtr at *
  go_enter Tryz.func56, Tryz.ntmps56
  go_wp2_with fail
  refine (KL.out).mono ?_
  rintro e w1 ⟨rfl, hw1⟩
  have HG := Lib.hid hw1
  clear hw1 KL
  go_wp2
  go_ret
  exact ⟨rfl, HG.out⟩
def PuI (w w3 : World) (nb : Nat) (pre : List Nd) (W : World) : Prop := (∃ v, Cells W nb 78 #[v] ∧ OwnNs W w3.heap.size v pre) ∧ Below w.heap.size w W ∧ w3.heap.size ≤ W.heap.size
theorem PuI.from {w w3 : World} {nb : Nat} (h3 : w.heap.size ≤ w3.heap.size) : OwnFrom w3.heap.size (PuI w w3 nb) := fun s X Y row hs hg hr => by
  obtain ⟨⟨v, h1, h2⟩, h6, h7⟩ := hs
  have hk := keepC_from hg (fun r e => (hr r e).2)
  exact ⟨⟨v, hk _ _ _ (by simp) h1, hk.own (by simp) h2⟩, h6.grown hg h6.size (fun j hj => Nat.le_trans h3 (hr j hj).1), Nat.le_trans h7 hg.size⟩
theorem pu_end {w w3 W W4 w7 : World} {nb q cv : Nat} {A Av A7 : Option Addr} {c7 : Nat} {pre : List Nd} {nd : Nd} (b4 : Below W.heap.size W W4) (hg7 : W4.grownBy w7 (Value.slice Av pre.length cv).ownBlock) (ho7 : OwnNs w7 w3.heap.size (.slice A7 (pre ++ [nd]).length c7) (pre ++ [nd]))
    (hro : OwnNs W4 w3.heap.size (.slice Av pre.length cv) pre) (hcy : Cells W4 nb 78 #[.slice Av pre.length cv])
    (hB : Below w.heap.size w W) (hsz : w3.heap.size ≤ W.heap.size) (hq : q < w3.heap.size) (hA : ∀ b off, A = some ⟨b, off, none⟩ → b < w3.heap.size) (hqg : q ≠ nb) (hAg : ∀ b off, A = some ⟨b, off, none⟩ → b ≠ nb) (hys : w.heap.size ≤ nb) (h3 : w.heap.size ≤ w3.heap.size) :
    KeepsFrom w3.heap.size W (w7.setCell ⟨nb, 0, none⟩ (.slice A7 (pre.length + 1) c7)) ∧ (KeepC [78, 55] W (w7.setCell ⟨nb, 0, none⟩ (.slice A7 (pre.length + 1) c7)) ∧ Kq q A W (w7.setCell ⟨nb, 0, none⟩ (.slice A7 (pre.length + 1) c7))) ∧
      PuI w w3 nb (pre ++ [nd]) (w7.setCell ⟨nb, 0, none⟩ (.slice A7 (pre.length + 1) c7)) := by
  rw [show (pre ++ [nd]).length = pre.length + 1 by simp] at ho7
  have hob : ∀ j, (Value.slice Av pre.length cv).ownBlock = some j → w3.heap.size ≤ j := fun j hj => own_base hro j hj
  have hc7 := hcy.grown hg7 (ne_own hcy hro (by decide))
  have hks := KeepC.set hc7 0 (.slice A7 (pre.length + 1) c7)
  have hk7 := KeepC.grown hro hg7
  have hs4 := b4.size
  refine ⟨(KeepsFrom.of_grownBy (grown_of_below b4 none) (fun j e => by cases e)).trans (((own_cellsrow hro hg7).trans (KeepsOthers.setCell _ _ _)).from _), ⟨?_, ?_⟩, ⟨⟨_, hc7.set 0 _, hks.own (by decide) ho7⟩, ?_, ?_⟩⟩
  · exact ((KeepC.of (Ts := []) b4).more (by simp)).trans ((hk7.more (by simp)).trans (hks.more (by simp)))
  · exact ((Kq.grow b4 (Nat.lt_of_lt_of_le hq hsz) (fun b off e => Nat.lt_of_lt_of_le (hA b off e) hsz)).trans (Kq.grown hg7 (by omega) (fun b off e => by have := hA b off e; omega) (fun e => by have := hob q e.symm; omega) (fun b off e e2 => by have := hob b e2.symm; have := hA b off e; omega))).trans (Kq.set _ _ hqg hAg)
  · exact ((hB.trans (b4.mono hB.size)).grown hg7 (by have := hB.size; omega) (fun j hj => Nat.le_trans h3 (hob j hj))).setCell (p := ⟨nb, 0, none⟩) hys _
  · exact Nat.le_trans hsz (Nat.le_trans hs4 (Nat.le_trans hg7.size (by simp [World.setCell])))
theorem imgW_small {S : Stt} (hs : SmS S.l) (hl : S.l.length ≤ 1000) : Small (imgW S) := by
  intro x hx
  unfold imgW at hx
  rcases List.mem_append.1 hx with hx | hx
  · rcases List.mem_cons.1 hx with rfl | hx
    · exact uw_lt _
    · rcases List.mem_cons.1 hx with rfl | hx
      · omega
      · cases hx
  · obtain ⟨n, hn, hx⟩ := List.mem_flatMap.1 hx
    unfold nodeW at hx
    rcases List.mem_append.1 hx with hx | hx
    · rcases List.mem_append.1 hx with hx | hx
      · obtain ⟨y, _, rfl⟩ := List.mem_map.1 hx; exact uw_lt _
      · obtain ⟨y, _, rfl⟩ := List.mem_map.1 hx; exact uw_lt _
    · obtain ⟨e, he, hx⟩ := List.mem_flatMap.1 hx
      have hz := (hs n hn).sz e he
      unfold nameW at hx
      rcases List.mem_append.1 hx with hx | hx
      · rcases List.mem_append.1 hx with hx | hx
        · rw [List.mem_singleton.1 hx]; omega
        · exact pk_small (bsOf_bytesW e.s) x hx
      · rw [List.mem_singleton.1 hx]; exact uw_lt _
def PutGo (S : Stt) (w : World) (e : Ending) (w' : World) : Prop := Sealed (imgW S) w e w'
set_option maxHeartbeats 32000000 in
theorem iPutAll {w : World} {base m g b : Nat} {S : Stt} (h : PF w base m g b S) (hl0 : S.last ≠ 0) (hn : (imgW S).length ≤ 200000) :
    Calls Tryz.prog 27 #[SPtr g] w (PutGo S w) := by
  have H := Lib.hid h; have HN := Lib.hid hn
  have KM := Lib.hid (pMadeI h.p hl0)
  have KNo := Lib.hid (fun wx (hb : Below w.heap.size w wx) => pNodes (h.p.below hb) h.asc h.sm h.len h.m)
  have KL := Lib.hid (fun wx (hb : Below w.heap.size w wx) => pLast (h.p.below hb))
  unfold SPtr at *
  clear h hn hl0
  refine (callsIn_wide (n := 8)).1 (callsIn_of_wp_marks Tryz.func27 rfl trivial ?_ rfl)
  refine wpIn_wide.2 ?_
  simp only [Tryz.ntmps27, List.size_toArray, List.length_cons, List.length_nil, Nat.reduceAdd, Nat.reduceSub, Array.replicate_succ, Array.replicate_zero, List.push_toArray, List.append_toArray, List.nil_append, List.cons_append]
  go_wp2_with fail
  refine (KM.out).mono ?_
  rintro e w1 ⟨rfl, hw1⟩
  have hb1 := grown_b hw1
  have hb2 : Below w1.heap.size w1 (w1.alloc (.cells #[.slice none 0 0] 78)) := below_of_grown (World.grownBy_alloc w1 _ none)
  have hc2 : Cells (w1.alloc (.cells #[.slice none 0 0] 78)) w1.heap.size 78 #[.slice none 0 0] := Cells.new _ _ _
  have HS2 := Lib.hid (show (w1.alloc (.cells #[.slice none 0 0] 78)).heap.size = w1.heap.size + 1 by simp)
  have B2 := Lib.hid (hb1.trans (hb2.mono hb1.size)); have C2 := Lib.hid hc2; have HS1 := Lib.hid hb1.size
  have KN2 := Lib.hid (KNo.out _ B2.out)
  clear hw1 hb1 hb2 hc2 KM KNo
  go_wp2_with fail
  refine (KN2.out).mono ?_
  rintro e w3 ⟨p, q, Lk, v, rfl, hp1, hp2, hpq, hcp, hq1, hcq, hro, hon, hpl, hb3⟩
  obtain ⟨A, c, rfl, hE, hA, hAb⟩ := row_hi (n := 0) hro
  have hlen : Lk.length ≤ 1000 := by have := congrArg List.length hpl; rw [List.length_map] at this; have := H.out.len; omega
  have hqc := hcq.cell 0
  simp only [List.getElem?_toArray, List.getElem?_cons_zero] at hqc
  have C3 := Lib.hid (C2.out.below' hb3)
  have B3 := Lib.hid (B2.out.trans (hb3.mono B2.out.size))
  have HQ := Lib.hid hcq.lt; have HA := Lib.hid hA
  have hs2 := HS2.out
  rw [hs2] at hq1 hAb hp1
  have HQG := Lib.hid (show q ≠ w1.heap.size by omega)
  have HAG := Lib.hid (show ∀ b off, A = some ⟨b, off, none⟩ → b ≠ w1.heap.size from fun b off e => by have := hAb b off e; omega)
  have HW23 := Lib.hid (show w.heap.size ≤ w3.heap.size from B3.out.size)
  have HSEQ := Lib.hid (nodes_tells (n := 7) (by omega) (w := w3) (Ts := [78, 55]) (by decide) (by decide) (by decide) hcp hp2 hqc hcq.lt hA hE hon hpl H.out.sm hlen)
  have HLEN := Lib.hid hlen; have HPL := Lib.hid hpl
  clear KN2 hp1 hp2 hpq hcp hq1 hqc hcq hro hon hpl hb3 hA hAb hE hs2 hlen
  go_wp2
  refine (wpIn_wide (n := 8)).1 ?_
  refine wp_range_tells rfl (by omega) rfl trivial (enters_of Tryz.func76 (by kernel_rfl) rfl) HSEQ.out (fun h k => ⟨h.1.trans k.1, h.2.trans k.2⟩)
    (fun W o o' ho hc hw => ⟨(keepC_from (grownBy_putObj' W _ o') (fun r e => by cases e; exact ⟨_, ho, hc⟩)).more (by simp), Kq.put (w := w3) HQ.out HA.out W _ o o' (by omega) ho hc hw⟩)
    (OwnFrom.and (ownFrom_pure _ _) (own_nds _ _ (fun xs => xs))) (fun x => rfl)
    (PuI w w3 w1.heap.size) (PuI.from HW23.out) ⟨⟨_, C3.out, World.ownsRow_nil _ _ _ _⟩, B3.out, Nat.le_refl _⟩
    (fun x a' W => ∃ Bx, w3.heap.size ≤ Bx ∧ Cells W Bx 55 (ndc x) ∧ a' = { tmps := #[.pointer (some ⟨g, 0, none⟩), undef, .slice none 0 0, .pointer (some ⟨w1.heap.size, 0, none⟩), undef, .pointer (some ⟨Bx, 0, none⟩), undef, undef, undef, .pointer (some ⟨g, 0, none⟩), .bool true, .bool false, .pointer (some ⟨g, 0, none⟩), .func (.func 76) #[] #[.pointer (some ⟨p, 0, none⟩)], .int .i64 x.ino, x.val, undef, undef, undef, undef, undef, undef, undef, undef, undef, undef, undef, undef, undef, undef, undef, undef, undef, undef, undef, undef, undef], defers := [] })
    (fun x a' _ X Y row hs hg hr => by obtain ⟨Bx, g1, g2, g3⟩ := hs; exact ⟨Bx, g1, (grownBy_keeps_cells hg (fun r e => (hr r e).2) g2 rfl).trans g2, g3⟩)
    ?assign ?body ?done
  case assign =>
    rintro l2 pre ⟨j, ki, lk, t, u, A0, ac, P, B0, bc, N⟩ W K hrel hok hK
    have hsz := hrel.2.2
    have hK' := hK { tmps := #[.pointer (some ⟨g, 0, none⟩), undef, .slice none 0 0, .pointer (some ⟨w1.heap.size, 0, none⟩), undef, .pointer (some ⟨W.heap.size, 0, none⟩), undef, undef, undef, .pointer (some ⟨g, 0, none⟩), .bool true, .bool false, .pointer (some ⟨g, 0, none⟩), .func (.func 76) #[] #[.pointer (some ⟨p, 0, none⟩)], .int .i64 j, Nd.val ⟨j, ki, lk, t, u, A0, ac, P, B0, bc, N⟩, undef, undef, undef, undef, undef, undef, undef, undef, undef, undef, undef, undef, undef, undef, undef, undef, undef, undef, undef, undef, undef], defers := [] } (W.alloc (.cells (ndc ⟨j, ki, lk, t, u, A0, ac, P, B0, bc, N⟩) 55)) ((KeepsOthers.alloc _ _).from _)
      ⟨(KeepC.of (Ts := []) (below_of_grown (World.grownBy_alloc W _ none))).more (by simp), Kq.grow (below_of_grown (World.grownBy_alloc W _ none)) (Nat.lt_of_lt_of_le HQ.out hsz) (fun b off e => Nat.lt_of_lt_of_le (HA.out b off e) hsz)⟩ ((PuI.from HW23.out).alloc _ hrel) ⟨W.heap.size, hsz, Cells.new _ _ _, rfl⟩
    unfold Nd.val ndc ncells at hK'
    unfold Nd.val
    dsimp only at hK' ⊢
    clear hK
    gi_wp2
    exact hK'
  case body =>
    rintro l2 pre ⟨j, ki, lk, t, u, A0, ac, P, B0, bc, N⟩ a' W hl ⟨⟨v, gcy, gro⟩, hB, hsz⟩ ⟨Bx, hBx, cX, rfl⟩ hlt
    unfold ndc at cX
    dsimp only at cX
    obtain ⟨z0, z1, z2, z3, z4, z5, z6⟩ := cells7 cX
    obtain ⟨Av, cv, rfl, _, _⟩ := ownK_form (RowP.of gro)
    have c0 := gcy.cell 0
    simp only [List.getElem?_toArray, List.getElem?_cons_zero] at c0
    have b4 : Below W.heap.size W (W.alloc (.cells #[.int .i64 j, .int .i64 ki, .int .i64 lk, .int .i64 t, .int .i64 u, .slice A0 P.length ac, .slice B0 N.length bc] 55)) := below_of_grown (World.grownBy_alloc W _ none)
    have B4 := Lib.hid b4
    have HROW4 := Lib.hid (show OwnNs (W.alloc (.cells #[.int .i64 j, .int .i64 ki, .int .i64 lk, .int .i64 t, .int .i64 u, .slice A0 P.length ac, .slice B0 N.length bc] 55)) w3.heap.size (.slice Av pre.length cv) pre from gro.below b4)
    have HCY4 := Lib.hid (gcy.below' b4)
    have HB := Lib.hid hB; have HSZ := Lib.hid hsz
    have HSB := Lib.hid (show w3.heap.size ≤ (W.alloc (.cells #[.int .i64 j, .int .i64 ki, .int .i64 lk, .int .i64 t, .int .i64 u, .slice A0 P.length ac, .slice B0 N.length bc] 55)).heap.size from Nat.le_trans hsz b4.size)
    have HP9 := Lib.hid (show pre.length + [(Nd.mk j ki lk t u A0 ac P B0 bc N)].length ≤ 100000 by have := HLEN.out; simp; omega)
    have HN4 := Lib.hid (nds_one W (Nd.mk j ki lk t u A0 ac P B0 bc N))
    have HYS := Lib.hid (show w.heap.size ≤ w1.heap.size from HS1.out)
    clear gcy gro hB hsz b4 cX hlt
    gi_wp2_with (gi_at_builtin; refine wpListIn_append_nds (by rfl) (.tmp 16) (.tmp 18) (by rfl) (by rfl) (by rfl) HROW4.out HN4.out HP9.out HSB.out ?_; intro v7 w7 o7 g7; obtain ⟨A7, c7, rfl, _, _⟩ := ownK_form (RowP.of o7); have hc7 := HCY4.out.grown g7 (ne_own HCY4.out HROW4.out (by decide)); have y7 := hc7.cell 0; have f7 := hc7.free 0; have O := pu_end B4.out g7 o7 HROW4.out HCY4.out HB.out HSZ.out HQ.out HA.out HQG.out HAG.out HYS.out HW23.out; clear o7 g7 hc7)
    exact O
  case done =>
    rintro D ns W hD ⟨hys, hown⟩ ⟨⟨v, gcy, gro⟩, hB, hsz⟩ hK
    refine (?_ : Exit.inBlock 0 _ _ _ _)
    simp only [Exit.inBlock]
    obtain ⟨An, cn, rfl, hNE, _, _⟩ := row_hi (n := 0) gro
    have hns : ns.length ≤ 1000 := by have := congrArg List.length hys; rw [List.length_map] at this; have := H.out.len; omega
    have GCY := Lib.hid gcy; have GOW := Lib.hid hown; have GYS := Lib.hid hys; have GB := Lib.hid hB; have GK := Lib.hid hK; have GNE := Lib.hid hNE; have GNS := Lib.hid hns
    have b0 : Below W.heap.size W (W.alloc (.cells #[.slice none 0 0] 106)) := below_of_grown (World.grownBy_alloc W _ none)
    have WR0 := Lib.hid (WrSt.new W W (Below.refl _ _))
    have KC0 := Lib.hid (show KeepC wrTs W (W.alloc (.cells #[.slice none 0 0] 106)) from (KeepC.of (Ts := []) b0).more (by simp))
    have KLW := Lib.hid (KL.out _ (GB.out.trans (b0.mono GB.out.size)))
    clear gcy gro hB hsz hK hys hown b0 KL hNE hns HSEQ C2 B2 C3 HQ HA HQG HAG HLEN HPL HS1 HS2
    go_wp2_with fail
    refine (KLW.out).mono ?_
    rintro e w5 ⟨rfl, hw5⟩
    have b5 := grown_b hw5
    have WR5 := Lib.hid (WR0.out.below b5)
    have KC5 := Lib.hid (KC0.out.trans ((KeepC.of (Ts := []) b5).more (by simp)))
    clear hw5 b5 KLW WR0 KC0
    go_wp2_with fail
    refine (num_k WR5.out (by simp) S.last).mono ?_
    rintro e w6 ⟨rfl, h6, k6⟩
    have WR6 := Lib.hid h6; have KC6 := Lib.hid (KC5.out.trans k6)
    have c6 := (KC6.out _ _ _ (by decide) GCY.out).cell 0
    simp only [List.getElem?_toArray, List.getElem?_cons_zero] at c6
    clear h6 k6 WR5 KC5
    go_wp2_with fail
    refine (num_k WR6.out (by simp) (ns.length : Nat)).mono ?_
    rintro e w7 ⟨rfl, h7, k7⟩
    have WR7 := Lib.hid h7; have KC7 := Lib.hid (KC6.out.trans k7)
    have c7 := (KC7.out _ _ _ (by decide) GCY.out).cell 0
    simp only [List.getElem?_toArray, List.getElem?_cons_zero] at c7
    clear h7 k7 c6 WR6 KC6
    go_wp2
    clear c7
    have HIM := Lib.hid (show imgW S = [uw S.last, uw (ns.length : Nat)] ++ ns.flatMap (fun n => nodeW n.plain) by
      have hl : S.l.length = ns.length := by rw [← GYS.out, List.length_map]
      have hu : uw (ns.length : Nat) = ns.length := by unfold uw; have := GNS.out; omega
      unfold imgW
      rw [hl, hu, ← GYS.out, List.flatMap_map])
    go_loopw [28] (fun i wr => WkRel W W W.heap.size [uw S.last, uw (ns.length : Nat)] [] ns.length (fun k => (ns.take k).flatMap (fun n => nodeW n.plain)) i wr) (fun i _ => ns.length - (intOf i).toNat)
    case atStart => exact ⟨0, Nat.zero_le _, rfl, by simpa using WR7.out, KC7.out⟩
    case round =>
      obtain ⟨k, hk, rfl, hw, hkp⟩ := hrel
      change WrSt W W.heap.size ([uw S.last, uw (ns.length : Nat)] ++ (ns.take k).flatMap (fun n => nodeW n.plain)) wr at hw
      have HWR := Lib.hid hw; have HKP := Lib.hid hkp
      by_cases hlt : k < ns.length
      · have hlt2 : (k : Int) < (ns.length : Int) := Int.ofNat_lt.2 hlt
        have hk9 : k ≤ 1000 := by have := GNS.out; omega
        obtain ⟨e, he⟩ : ∃ e, ns[k]? = some e := ⟨_, List.getElem?_eq_getElem hlt⟩
        obtain ⟨b1, off, rfl, hbB, x0, x1, x2, x3, x4, x5, x6⟩ := nds_cells (GNE.out.below hw.1) he
        have hmem := List.mem_of_getElem? he
        have hsm : SmN e.plain := H.out.sm _ (by rw [← GYS.out]; exact List.mem_map_of_mem hmem)
        have how := GOW.out e hmem
        have HX := Lib.hid (take_snocA he)
        have hfl : ((ns.take (k + 1)).flatMap (fun n => nodeW n.plain)).length ≤ (ns.flatMap (fun n => nodeW n.plain)).length := by
          conv => rhs; rw [← List.take_append_drop (k + 1) ns]
          rw [List.flatMap_append, List.length_append]; omega
        have hle : ([uw S.last, uw (ns.length : Nat)] ++ (ns.take k).flatMap (fun n => nodeW n.plain)).length + (nodeW e.plain).length ≤ 300000 := by
          have h9 := HN.out
          rw [HIM.out, List.length_append] at h9
          rw [HX.out, List.flatMap_append, List.length_append, List.flatMap_cons, List.flatMap_nil, List.append_nil] at hfl
          rw [List.length_append]
          omega
        obtain ⟨J0, ki, lk, t, u, A0, ac, P, B0, bc, N⟩ := e
        dsimp only at x0 x1 x2 x3 x4 x5 x6
        have hb3 : Below wr.heap.size wr (wr.alloc (.cells #[.int .i64 J0, .int .i64 ki, .int .i64 lk, .int .i64 t, .int .i64 u, .slice A0 P.length ac, .slice B0 N.length bc] 55)) := below_of_grown (World.grownBy_alloc wr _ none)
        have hc3 : Cells (wr.alloc (.cells #[.int .i64 J0, .int .i64 ki, .int .i64 lk, .int .i64 t, .int .i64 u, .slice A0 P.length ac, .slice B0 N.length bc] 55)) wr.heap.size 55 (ncells J0 ki lk t u (.slice A0 P.length ac) (.slice B0 N.length bc)) := Cells.new _ _ _
        obtain ⟨z0, z1, z2, z3, z4, z5, z6⟩ := cells7 hc3
        have KW := Lib.hid (iWrite (hw.below hb3) ⟨J0, ki, lk, t, u, A0, ac, P, B0, bc, N⟩ ((how.keep hkp (by decide) (by decide)).below hb3) hsm.p (Nat.le_trans hsm.q (by decide)) hsm.sz hle)
        have HLT := Lib.hid hlt; have HK3 := Lib.hid (hkp.trans ((KeepC.of (Ts := []) hb3).more (by simp)))
        unfold Nd.val at KW
        dsimp only at KW
        clear hw hkp hk hlt he hmem hsm how hfl hle hb3 hc3 HWR HKP
        go_wp2_with fail
        refine (KW.out).mono ?_
        rintro e' wn ⟨rfl, hn, hkn⟩
        have HNN := Lib.hid hn; have HKN := Lib.hid (HK3.out.trans hkn)
        clear hn hkn KW
        go_wp2
        go_roundw
        case rel => exact ⟨k + 1, HLT.out, by go_num, by
          show WrSt W W.heap.size ([uw S.last, uw (ns.length : Nat)] ++ (ns.take (k + 1)).flatMap (fun n => nodeW n.plain)) wn
          rw [HX.out, List.flatMap_append, List.flatMap_cons, List.flatMap_nil, List.append_nil, ← List.append_assoc]; exact HNN.out, HKN.out⟩
        case measure => simp [intOf]; have := HLT.out; omega
      · obtain rfl : k = ns.length := by omega
        rw [List.take_length] at hw
        rw [← HIM.out] at hw
        have HW8 := Lib.hid hw
        clear hw hkp hk hlt HWR
        go_wp2_with fail
        refine (words_w HW8.out (by have := HN.out; omega)).mono ?_
        rintro e' w8 ⟨v8, rfl, hr8, hb8⟩
        obtain ⟨A8, c8, rfl, _, hr8'⟩ := hr8.row
        have BB8 := Lib.hid (HW8.out.1.trans (hb8.mono HW8.out.1.size))
        have HR8 := Lib.hid hr8'
        clear hr8 hb8 hr8'
        go_wp2_with fail
        refine (cSeal (imgW S) _ rfl (imgW_small H.out.sm H.out.len) A8 c8 _ w8 (by have := HN.out; omega) (Nat.le_refl _) HR8.out).mono ?_
        rintro e' w9 ⟨g9, cap9, cs9, rfl, hc9, ht9, hg9, hb9, hl9⟩
        have BB9 := Lib.hid (BB8.out.trans (hb9.mono BB8.out.size))
        have HC9 := Lib.hid hc9; have HT9 := Lib.hid ht9; have HG9 := Lib.hid hg9; have HL9 := Lib.hid hl9
        clear hc9 ht9 hg9 hb9 hl9
        go_wp2
        have hDl : D < W.heap.size := (Array.getElem?_eq_some_iff.1 GK.out).1
        have hK9 : w9.heap[D]? = some (.deferred (some [])) := (BB9.out.block D hDl).trans GK.out
        refine ⟨by simp, .inl ⟨_, _, rfl, run_takeDeferred hK9, ?_⟩⟩
        have hc := (grownBy_keeps_cells (grownBy_putObj' w9 D (.deferred none)) (fun r e => by cases e; exact ⟨_, hK9, rfl⟩) HC9.out rfl).trans HC9.out
        refine ⟨_, ?_, g9, cap9, cs9, rfl, hc, HT9.out, by have := HG9.out; have := GB.out.size; have := BB8.out.size; omega, (GB.out.trans (BB9.out.mono GB.out.size)).trans (belowK_b (w := w) (Nat.le_refl _) _ D _ _ (by have := HW23.out; omega) hK9 rfl rfl), HL9.out⟩
        simp [results, Tryz.f27, go_sem]
end Go.Proofs.YtamndllolppmoaaGreat
