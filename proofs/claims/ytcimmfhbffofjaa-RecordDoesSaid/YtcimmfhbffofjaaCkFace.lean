import Derived.Test.YtcimmfhbffofjaaMB
import Derived.Laws.CopyOwn
/-
  The project's own contracts of layer 7, as the laws' walks use them.
-/
namespace Go.Proofs.Ytcimmfhbffofjaa
open Wd U Go.ChangeShapes Go.WideShapes Go.RowKit Go.Sort
set_option linter.unusedVariables false

/-- l with its sum behind it, in a block of its own -/
def Sealed (l : List Nat) (W : World) (e : Ending) (w : World) : Prop :=
  ∃ (g cap : Nat) (cs : Array Value), e = .returned (.slice (some ⟨g, 0, none⟩) (l.length + 1) cap) ∧ Cells w g 61 cs ∧ cs.toList.take (l.length + 1) = (l ++ [sum l]).map wd ∧ W.heap.size ≤ g ∧ Below W.heap.size W w ∧ l.length + 1 ≤ cap
def OpenYes (l : List Nat) (W : World) (e : Ending) (w : World) : Prop :=
  ∃ (A : Option Addr) (c : Nat), e = .returned (.tuple #[.slice A l.length c, .bool true]) ∧ Row w w.heap.size A l.length (l.map wd) ∧ Below W.heap.size W w
def OpenNo (W : World) (e : Ending) (w : World) : Prop :=
  ∃ (A : Option Addr) (c : Nat), e = .returned (.tuple #[.slice A 0 c, .bool false]) ∧ Below W.heap.size W w

theorem more_is (s w : Nat) (hs : s < 18446744073709551616) (hw : w < 18446744073709551616) (W : World) : Calls Try.prog 64 #[.int .u64 (s : Int), .int .u64 (w : Int)] W fun e w' => e = .returned (.int .u64 ((more s w : Nat) : Int)) ∧ W = w' := by
  have hx := bits_xor_u64_nat s w hs hw
  have hm := more_wrap s w
  clear hs hw
  go_enter Try.func64, Try.ntmps64
  go_wp2
  go_ret
  exact ⟨rfl, rfl⟩
theorem cMore (s w : Nat) (hs : s < 18446744073709551616) (hw : w < 18446744073709551616) (W : World) : Calls Try.prog 64 #[.int .u64 (s : Int), .int .u64 (w : Int)] W (Grows (.int .u64 ((more s w : Nat) : Int)) W) := by
  refine (more_is s w hs hw W).mono ?_
  rintro e w' ⟨rfl, rfl⟩
  exact ⟨rfl, grow_none _⟩
theorem start_is (W : World) : Calls Try.prog 62 #[] W fun e w' => e = .returned (.int .u64 ((U.start : Nat) : Int)) ∧ W = w' := by
  rw [← start_val]
  go_enter Try.func62, Try.ntmps62
  go_wp2
  go_ret
  exact ⟨rfl, rfl⟩
theorem cStart (W : World) : Calls Try.prog 62 #[] W (Grows (.int .u64 ((U.start : Nat) : Int)) W) := by
  refine (start_is W).mono ?_
  rintro e w' ⟨rfl, rfl⟩
  exact ⟨rfl, grow_none _⟩

/-- the world with one word more, the sum -/
def sumW (W : World) (s : Nat) : World := W.alloc (.cells #[.int .u64 (s : Int)] 61)
def takeV (n : Nat) : Value := .func (.func 63) #[] #[.pointer (some ⟨n, 0, none⟩)]
def toldV (n : Nat) : Value := .func (.func 65) #[] #[.pointer (some ⟨n, 0, none⟩)]
theorem sums_is (W : World) : Calls Try.prog 56 #[] W fun e w' => e = .returned (.tuple #[takeV W.heap.size, toldV W.heap.size]) ∧ w' = sumW W U.start := by
  have hmf : ∀ (fn : Fn) (first cap : Array Value) (w : World), (Instr.makeFunc fn first cap).run Try.prog w = .ok (.func fn first cap) w := fun _ _ _ _ => rfl
  unfold takeV toldV sumW
  go_enter Try.func56, Try.ntmps56
  go_wp2_with fail
  refine (start_is _).mono ?_
  rintro e w2 ⟨rfl, rfl⟩
  go_wp2
  go_ret2
  exact ⟨rfl, rfl⟩
theorem take_is (W : World) (n s x : Nat) (hn : n = W.heap.size) (hs : s < 18446744073709551616) (hx : x < 18446744073709551616) : Calls Try.prog 63 #[.int .u64 (x : Int), .pointer (some ⟨n, 0, none⟩)] (sumW W s) fun e w' => e = .returned (.tuple #[]) ∧ w' = sumW W (more s x) := by
  subst hn
  unfold sumW
  go_enter Try.func63, Try.ntmps63
  go_wp2_with fail
  refine (more_is s x hs hx _).mono ?_
  rintro e w2 ⟨rfl, rfl⟩
  go_wp2
  go_end0
  exact ⟨rfl, rfl⟩
theorem told_is (W : World) (n s : Nat) (hn : n = W.heap.size) : Calls Try.prog 65 #[.pointer (some ⟨n, 0, none⟩)] (sumW W s) fun e w' => e = .returned (.int .u64 (s : Int)) ∧ w' = sumW W s := by
  subst hn
  unfold sumW
  go_enter Try.func65, Try.ntmps65
  go_wp2
  go_ret
  exact ⟨rfl, rfl⟩
def SumW (l : List Nat) (W : World) (i : Value) (w : World) : Prop := ∃ k : Nat, k ≤ l.length ∧ i = .int .i64 k ∧ w = sumW W (sum (l.take k))

set_option maxHeartbeats 400000 in
theorem sum_is (l : List Nat) (n : Nat) (hL : l.length = n) (hl : Small l) (A : Option Addr) (c B : Nat) (w : World) (hn : n ≤ 1000) (hB : B ≤ w.heap.size) (hr : Row w B A n (l.map wd)) : Calls Try.prog 40 #[.slice A n c] w fun e w' => e = .returned (.int .u64 ((sum l : Nat) : Int)) ∧ w' = sumW w (sum l) := by
  subst hL
  have HR := Lib.hid (hr.more hB); have HL := Lib.hid hl
  clear hr hl hB
  go_enter Try.func40, Try.ntmps40
  go_wp2_with fail
  refine (sums_is _).mono ?_
  rintro e w2 ⟨rfl, hw2⟩
  have HW2 := Lib.hid hw2
  clear hw2
  unfold takeV toldV
  go_wp2
  go_loopw [13] (fun i wr => SumW l w i wr) (fun i _ => l.length - (intOf i).toNat)
  case atStart => exact ⟨0, Nat.zero_le _, rfl, by rw [List.take_zero, ← sum_nil]; exact HW2.out⟩
  case round =>
    obtain ⟨k, hk, rfl, rfl⟩ := hrel
    by_cases hlt : k < l.length
    · obtain ⟨b, off, y, rfl, hb, hy, cy⟩ := HR.out.get hlt
      have hwy := HL.out.at hy
      have ht := take_one hy
      have HT := Lib.hid ht
      have cy' : (sumW w (sum (l.take k))).cell? ⟨b, off + k, none⟩ = some (.int .u64 (y : Int)) := by
        unfold sumW wd at *
        rw [World.cell?_alloc_lt _ _ _ (by exact hb)]
        exact cy
      clear ht hy cy
      go_wp2_with fail
      refine (take_is w _ (sum (l.take k)) y rfl (sum_lt _) hwy).mono ?_
      rintro e w3 ⟨rfl, rfl⟩
      go_wp2
      go_roundw
      case rel => exact ⟨k + 1, by omega, by go_num, by rw [HT.out, sum_snoc]⟩
      case measure => simp [intOf]; omega
    · obtain rfl : k = l.length := by omega
      rw [List.take_length]
      go_wp2_with fail
      refine (told_is w _ (sum l) rfl).mono ?_
      rintro e w3 ⟨rfl, rfl⟩
      go_wp2
      go_ret
      exact ⟨rfl, rfl⟩
theorem cSum (l : List Nat) (n : Nat) (hL : l.length = n) (hl : Small l) (A : Option Addr) (c B : Nat) (w : World) (hn : n ≤ 1000) (hB : B ≤ w.heap.size) (hr : Row w B A n (l.map wd)) : Calls Try.prog 40 #[.slice A n c] w (Grows (.int .u64 ((sum l : Nat) : Int)) w) := by
  refine (sum_is l n hL hl A c B w hn hB hr).mono ?_
  rintro e w' ⟨rfl, rfl⟩
  exact ⟨rfl, grow_one _ _⟩

theorem infoW : (Try.prog.info? 61).map (fun i => (i.zero, i.size, i.bytes)) = some (some (.int .u64 0), 1, 8) := by kernel_rfl
theorem sizeW : (Try.prog.info? 61).map (·.size) = some 1 := by kernel_rfl
/-- zero words, as made -/
def zeroW (W : World) (n : Nat) : World := W.alloc (.cells (Array.replicate n (Value.int .u64 0)) 61)
theorem zero_cells (W : World) (n : Nat) : (zeroW W n).heap[W.heap.size]? = some (.cells (List.replicate n (Value.int .u64 0)).toArray 61 (0, 0)) := by
  unfold zeroW; rw [List.toArray_replicate]; exact Cells.new _ _ _
theorem zero_src {W : World} {B n m : Nat} {A : Option Addr} {xs : List Value} (hr : Row W B A n xs) (hB : B ≤ W.heap.size) :
    0 < xs.length → (some ⟨W.heap.size, 0, none⟩ : Option Addr) = some ⟨W.heap.size, 0, none⟩ ∧ ∃ ad, A = some ad ∧ ∀ j v, xs[j]? = some v → (zeroW W m).cell? (ad.add j) = some v := by
  intro h
  obtain ⟨b, off, rfl, hb, hc⟩ := hr.2 (by rw [← hr.1]; exact h)
  refine ⟨rfl, _, rfl, fun j v hv => ?_⟩
  obtain ⟨hj, rfl⟩ := List.getElem?_eq_some_iff.1 hv
  have e : (⟨b, off, none⟩ : Addr).add j = ⟨b, off + j, none⟩ := by unfold Addr.add; split <;> simp_all
  rw [e]
  unfold zeroW
  rw [World.cell?_alloc_lt _ _ _ (by show b < W.heap.size; omega)]
  exact hc j hj
theorem zero_below (W : World) (n : Nat) : Below W.heap.size W (zeroW W n) := (Below.refl _ _).alloc (Nat.le_refl _) _
theorem make_words' (n : Nat) (W : World) (hn : n ≤ 10000) : (Instr.makeSlice 25 (.int .i64 (n : Int)) (.int .i64 (n : Int))).run Try.prog W = .ok (.slice (some ⟨W.heap.size, 0, none⟩) n n) (zeroW W n) := by
  have h := make_row (P := Try.prog) 25 61 (.int .u64 0) 8 Try.underlying25 infoW rfl n (by omega) (by omega) W
  rw [List.toArray_replicate] at h
  exact h

set_option maxRecDepth 100000 in
set_option maxHeartbeats 1000000 in
theorem cSeal (l : List Nat) (n : Nat) (hL : l.length = n) (hl : Small l) (A : Option Addr) (c B : Nat) (w : World) (hn : n ≤ 1000) (hB : B ≤ w.heap.size) (hr : Row w B A n (l.map wd)) : Calls Try.prog 24 #[.slice A n c] w (Sealed l w) := by
  have hmk := fun W => make_words' (n + 1) W (by omega)
  rw [show ((n + 1 : Nat) : Int) = (n : Int) + 1 by omega] at hmk
  have HSRC := Lib.hid (zero_src (m := n + 1) hr hB); have HL := Lib.hid hL; have HS := Lib.hid hl; have HR := Lib.hid hr; have HB := Lib.hid hB
  clear hL hl hr hB
  go_enter Try.func24, Try.ntmps24
  go_wp2_with (with_reducible refine wpList_copy_splice rfl (.tmp 8) (.tmp 9) 25 25 rfl 61 Try.underlying25 sizeW (some ⟨w.heap.size, 0, none⟩) A (n + 1) (n + 1) n c rfl rfl w.heap.size 0 (List.replicate (n + 1) (Value.int .u64 0)) 61 (zero_cells w (n + 1)) (l.map wd) (by rw [List.length_map, HL.out]; exact (Nat.min_eq_left (by omega)).symm) HSRC.out (by simp [HL.out]) (oneW l) w.heap.size w (zero_below w (n + 1)) (Nat.le_refl _) ?_; intro w1 hcell hbel)
  have hg1 : w.heap.size < w1.heap.size := Cells.lt hcell.out
  have hc1 : Cells w1 w.heap.size 61 (l.map wd ++ [Value.int .u64 0]).toArray := by
    have h := hcell.out
    have e : splice (List.replicate (n + 1) (Value.int .u64 0)) 0 (l.map wd) = l.map wd ++ [Value.int .u64 0] := by
      have := HL.out
      simp [splice, this]
    rw [e] at h
    exact h
  have HR1 := Lib.hid ((HR.out.more HB.out).below hbel)
  have HC1 := Lib.hid hc1
  have HBEL := Lib.hid hbel
  clear hcell hc1 hbel
  refine (sum_is l n HL.out HS.out A c w1.heap.size _ hn (Nat.le_refl _) (HR1.out.more (by omega))).mono ?_
  rintro e w2 ⟨rfl, rfl⟩
  have hc2 : Cells (sumW w1 (sum l)) w.heap.size 61 (l.map wd ++ [Value.int .u64 0]).toArray := HC1.out.alloc _
  have cv : (sumW w1 (sum l)).cell? ⟨w.heap.size, n, none⟩ = some (.int .u64 0) := by rw [hc2.cell n]; have := HL.out; simp [this]
  have fv := hc2.free n
  have HC2 := Lib.hid hc2
  have hb2 : Below w.heap.size w (sumW w1 (sum l)) := HBEL.out.alloc (by omega) _
  have HB2 := Lib.hid hb2
  clear hc2 hb2
  go_wp2
  go_ret
  have h := HL.out
  subst h
  refine ⟨w.heap.size, l.length + 1, _, rfl, HC2.out.set l.length _, ?_, Nat.le_refl _, HB2.out.setCell (p := ⟨w.heap.size, l.length, none⟩) (Nat.le_refl _) _, Nat.le_refl _⟩
  simp [wd]
  exact List.take_of_length_le (by simp)

theorem OpenNo.at {A : Option Addr} {c : Nat} {W : World} : OpenNo W (.returned (.tuple #[.slice A 0 c, .bool false])) W := ⟨A, c, rfl, Below.refl _ _⟩
theorem OpenNo.grow {A : Option Addr} {c : Nat} {W w : World} (h : ∃ q os, w = grow (W.drewN q) os) : OpenNo W (.returned (.tuple #[.slice A 0 c, .bool false])) w := by
  obtain ⟨q, os, rfl⟩ := h
  exact ⟨A, c, rfl, below_grow' _ _ _⟩

/-- the region that reads the last word and the sum of the others, walked up to the test -/
theorem row_at_last {w : World} {B n s : Nat} {A : Option Addr} {l : List Nat} (h : Row w B A n ((l ++ [s]).map wd)) (hL : l.length + 1 = n) : ∃ b off, A = some ⟨b, off, none⟩ ∧ b < B ∧ w.cell? ⟨b, off + l.length, none⟩ = some (.int .u64 (s : Int)) := by
  obtain ⟨b, off, y, rfl, hb, hy, cy⟩ := h.get (k := l.length) (by omega)
  obtain rfl : s = y := by simpa using hy
  exact ⟨b, off, rfl, hb, cy⟩
theorem row_but_last {w : World} {B n s : Nat} {A : Option Addr} {l : List Nat} (h : Row w B A n ((l ++ [s]).map wd)) (hL : l.length + 1 = n) : Row w B A l.length (l.map wd) := by
  have := row_take (k := l.length) h (by omega)
  simpa using this
