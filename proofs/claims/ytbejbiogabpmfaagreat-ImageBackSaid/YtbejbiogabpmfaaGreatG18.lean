import Derived.Test.YtbejbiogabpmfaaGreatG00
import Derived.Laws.CopyOwn
import Derived.Test.YtbejbiogabpmfaaGreatG01
import Derived.Test.YtbejbiogabpmfaaGreatG14
import Derived.SizedLaws
import Derived.Test.YtbejbiogabpmfaaGreatG17

/-
  The project's own contracts of layer 7, as the laws' walks use them.
-/
namespace Go.Proofs.YtbejbiogabpmfaaGreat
open Wd U Go.ChangeShapes Go.WideShapes Go.RowKit Go.Sort
set_option linter.unusedVariables false

/-- l with its sum behind it, in a block of its own -/
def Sealed (l : List Nat) (W : World) (e : Ending) (w : World) : Prop :=
  ∃ (g cap : Nat) (cs : Array Value), e = .returned (.slice (some ⟨g, 0, none⟩) (l.length + 1) cap) ∧ Cells w g 59 cs ∧ cs.toList.take (l.length + 1) = (l ++ [sum l]).map wd ∧ W.heap.size ≤ g ∧ Below W.heap.size W w ∧ l.length + 1 ≤ cap
def OpenYes (l : List Nat) (W : World) (e : Ending) (w : World) : Prop :=
  ∃ (A : Option Addr) (c : Nat), e = .returned (.tuple #[.slice A l.length c, .bool true]) ∧ Row w w.heap.size A l.length (l.map wd) ∧ Below W.heap.size W w
def OpenNo (W : World) (e : Ending) (w : World) : Prop :=
  ∃ (A : Option Addr) (c : Nat), e = .returned (.tuple #[.slice A 0 c, .bool false]) ∧ Below W.heap.size W w

theorem more_is (s w : Nat) (hs : s < 18446744073709551616) (hw : w < 18446744073709551616) (W : World) : Calls Tryz.prog 164 #[.int .u64 (s : Int), .int .u64 (w : Int)] W fun e w' => e = .returned (.int .u64 ((more s w : Nat) : Int)) ∧ W = w' := by
  have hx := bits_xor_u64_nat s w hs hw
  have hm := more_wrap s w
  clear hs hw
  go_enter Tryz.func164, Tryz.ntmps164
  go_wp2
  go_ret
  exact ⟨rfl, rfl⟩
theorem start_is (W : World) : Calls Tryz.prog 162 #[] W fun e w' => e = .returned (.int .u64 ((U.start : Nat) : Int)) ∧ W = w' := by
  rw [← start_val]
  go_enter Tryz.func162, Tryz.ntmps162
  go_wp2
  go_ret
  exact ⟨rfl, rfl⟩
/-- the world with one word more, the sum -/
def sumW (W : World) (s : Nat) : World := W.alloc (.cells #[.int .u64 (s : Int)] 59)
def takeV (n : Nat) : Value := .func (.func 163) #[] #[.pointer (some ⟨n, 0, none⟩)]
def toldV (n : Nat) : Value := .func (.func 165) #[] #[.pointer (some ⟨n, 0, none⟩)]
theorem sums_is (W : World) : Calls Tryz.prog 117 #[] W fun e w' => e = .returned (.tuple #[takeV W.heap.size, toldV W.heap.size]) ∧ w' = sumW W U.start := by
  have hmf : ∀ (fn : Fn) (first cap : Array Value) (w : World), (Instr.makeFunc fn first cap).run Tryz.prog w = .ok (.func fn first cap) w := fun _ _ _ _ => rfl
  unfold takeV toldV sumW
  go_enter Tryz.func117, Tryz.ntmps117
  go_wp2_with fail
  refine (start_is _).mono ?_
  rintro e w2 ⟨rfl, rfl⟩
  go_wp2
  go_ret2
  exact ⟨rfl, rfl⟩
theorem take_is (W : World) (n s x : Nat) (hn : n = W.heap.size) (hs : s < 18446744073709551616) (hx : x < 18446744073709551616) : Calls Tryz.prog 163 #[.int .u64 (x : Int), .pointer (some ⟨n, 0, none⟩)] (sumW W s) fun e w' => e = .returned (.tuple #[]) ∧ w' = sumW W (more s x) := by
  subst hn
  unfold sumW
  go_enter Tryz.func163, Tryz.ntmps163
  go_wp2_with fail
  refine (more_is s x hs hx _).mono ?_
  rintro e w2 ⟨rfl, rfl⟩
  go_wp2
  go_end0
  exact ⟨rfl, rfl⟩
theorem told_is (W : World) (n s : Nat) (hn : n = W.heap.size) : Calls Tryz.prog 165 #[.pointer (some ⟨n, 0, none⟩)] (sumW W s) fun e w' => e = .returned (.int .u64 (s : Int)) ∧ w' = sumW W s := by
  subst hn
  unfold sumW
  go_enter Tryz.func165, Tryz.ntmps165
  go_wp2
  go_ret
  exact ⟨rfl, rfl⟩
def SumW (l : List Nat) (W : World) (i : Value) (w : World) : Prop := ∃ k : Nat, k ≤ l.length ∧ i = .int .i64 k ∧ w = sumW W (sum (l.take k))

set_option maxHeartbeats 400000 in
theorem sum_is (l : List Nat) (n : Nat) (hL : l.length = n) (hl : Small l) (A : Option Addr) (c B : Nat) (w : World) (hn : n ≤ 1000000) (hB : B ≤ w.heap.size) (hr : Row w B A n (l.map wd)) : Calls Tryz.prog 74 #[.slice A n c] w fun e w' => e = .returned (.int .u64 ((sum l : Nat) : Int)) ∧ w' = sumW w (sum l) := by
  subst hL
  have HR := Lib.hid (hr.more hB); have HL := Lib.hid hl
  clear hr hl hB
  go_enter Tryz.func74, Tryz.ntmps74
  go_wp2_with fail
  refine (sums_is _).mono ?_
  rintro e w2 ⟨rfl, hw2⟩
  have HW2 := Lib.hid hw2
  clear hw2
  unfold takeV toldV
  go_wp2
  go_loopw [13] (fun i wr => SumW l w i wr) (fun i _ => l.length - (intOf i).toNat)
  case atStart => exact ⟨0, Nat.zero_le _, rfl, by rw [List.take_zero, ← sum_nil]; exact HW2.out⟩
  case round =>
    obtain ⟨k, hk, rfl, rfl⟩ := hrel
    by_cases hlt : k < l.length
    · obtain ⟨b, off, y, rfl, hb, hy, cy⟩ := HR.out.get hlt
      have hwy := HL.out.at hy
      have ht := take_one hy
      have HT := Lib.hid ht
      have cy' : (sumW w (sum (l.take k))).cell? ⟨b, off + k, none⟩ = some (.int .u64 (y : Int)) := by
        unfold sumW wd at *
        rw [World.cell?_alloc_lt _ _ _ (by exact hb)]
        exact cy
      clear ht hy cy
      go_wp2_with fail
      refine (take_is w _ (sum (l.take k)) y rfl (sum_lt _) hwy).mono ?_
      rintro e w3 ⟨rfl, rfl⟩
      go_wp2
      go_roundw
      case rel => exact ⟨k + 1, by omega, by go_num, by rw [HT.out, sum_snoc]⟩
      case measure => simp [intOf]; omega
    · obtain rfl : k = l.length := by omega
      rw [List.take_length]
      go_wp2_with fail
      refine (told_is w _ (sum l) rfl).mono ?_
      rintro e w3 ⟨rfl, rfl⟩
      go_wp2
      go_ret
      exact ⟨rfl, rfl⟩
theorem cSum (l : List Nat) (n : Nat) (hL : l.length = n) (hl : Small l) (A : Option Addr) (c B : Nat) (w : World) (hn : n ≤ 1000000) (hB : B ≤ w.heap.size) (hr : Row w B A n (l.map wd)) : Calls Tryz.prog 74 #[.slice A n c] w (Grows (.int .u64 ((sum l : Nat) : Int)) w) := by
  refine (sum_is l n hL hl A c B w hn hB hr).mono ?_
  rintro e w' ⟨rfl, rfl⟩
  exact ⟨rfl, grow_one _ _⟩

theorem infoW : (Tryz.prog.info? 59).map (fun i => (i.zero, i.size, i.bytes)) = some (some (.int .u64 0), 1, 8) := by kernel_rfl
theorem sizeW : (Tryz.prog.info? 59).map (·.size) = some 1 := by kernel_rfl
/-- zero words, as made -/
def zeroW (W : World) (n : Nat) : World := W.alloc (.cells (Array.replicate n (Value.int .u64 0)) 59)
theorem zero_cellsK (W : World) (n : Nat) : (zeroW W n).heap[W.heap.size]? = some (.cells (List.replicate n (Value.int .u64 0)).toArray 59 (0, 0)) := by
  unfold zeroW; rw [List.toArray_replicate]; exact Cells.new _ _ _
theorem zero_srcK {W : World} {B n m : Nat} {A : Option Addr} {xs : List Value} (hr : Row W B A n xs) (hB : B ≤ W.heap.size) :
    0 < xs.length → (some ⟨W.heap.size, 0, none⟩ : Option Addr) = some ⟨W.heap.size, 0, none⟩ ∧ ∃ ad, A = some ad ∧ ∀ j v, xs[j]? = some v → (zeroW W m).cell? (ad.add j) = some v := by
  intro h
  obtain ⟨b, off, rfl, hb, hc⟩ := hr.2 (by rw [← hr.1]; exact h)
  refine ⟨rfl, _, rfl, fun j v hv => ?_⟩
  obtain ⟨hj, rfl⟩ := List.getElem?_eq_some_iff.1 hv
  have e : (⟨b, off, none⟩ : Addr).add j = ⟨b, off + j, none⟩ := by unfold Addr.add; split <;> simp_all
  rw [e]
  unfold zeroW
  rw [World.cell?_alloc_lt _ _ _ (by show b < W.heap.size; omega)]
  exact hc j hj
theorem zero_belowK (W : World) (n : Nat) : Below W.heap.size W (zeroW W n) := (Below.refl _ _).alloc (Nat.le_refl _) _
theorem make_words' (n : Nat) (W : World) (hn : n ≤ 10000000) : (Instr.makeSlice 48 (.int .i64 (n : Int)) (.int .i64 (n : Int))).run Tryz.prog W = .ok (.slice (some ⟨W.heap.size, 0, none⟩) n n) (zeroW W n) := by
  have h := make_row (P := Tryz.prog) 48 59 (.int .u64 0) 8 Tryz.underlying48 infoW rfl n (by omega) (by omega) W
  rw [List.toArray_replicate] at h
  exact h

set_option maxRecDepth 100000 in
set_option maxHeartbeats 1000000 in
theorem cSeal (l : List Nat) (n : Nat) (hL : l.length = n) (hl : Small l) (A : Option Addr) (c B : Nat) (w : World) (hn : n ≤ 1000000) (hB : B ≤ w.heap.size) (hr : Row w B A n (l.map wd)) : Calls Tryz.prog 52 #[.slice A n c] w (Sealed l w) := by
  have hmk := fun W => make_words' (n + 1) W (by omega)
  rw [show ((n + 1 : Nat) : Int) = (n : Int) + 1 by omega] at hmk
  have HSRC := Lib.hid (zero_srcK (m := n + 1) hr hB); have HL := Lib.hid hL; have HS := Lib.hid hl; have HR := Lib.hid hr; have HB := Lib.hid hB
  clear hL hl hr hB
  go_enter Tryz.func52, Tryz.ntmps52
  go_wp2_with (with_reducible refine wpList_copy_splice rfl (.tmp 8) (.tmp 9) 48 48 rfl 59 Tryz.underlying48 sizeW (some ⟨w.heap.size, 0, none⟩) A (n + 1) (n + 1) n c rfl rfl w.heap.size 0 (List.replicate (n + 1) (Value.int .u64 0)) 59 (zero_cellsK w (n + 1)) (l.map wd) (by rw [List.length_map, HL.out]; exact (Nat.min_eq_left (by omega)).symm) HSRC.out (by simp [HL.out]) (oneW l) w.heap.size w (zero_belowK w (n + 1)) (Nat.le_refl _) ?_; intro w1 hcell hbel)
  have hg1 : w.heap.size < w1.heap.size := Cells.lt hcell.out
  have hc1 : Cells w1 w.heap.size 59 (l.map wd ++ [Value.int .u64 0]).toArray := by
    have h := hcell.out
    have e : splice (List.replicate (n + 1) (Value.int .u64 0)) 0 (l.map wd) = l.map wd ++ [Value.int .u64 0] := by
      have := HL.out
      simp [splice, this]
    rw [e] at h
    exact h
  have HR1 := Lib.hid ((HR.out.more HB.out).below hbel)
  have HC1 := Lib.hid hc1
  have HBEL := Lib.hid hbel
  clear hcell hc1 hbel
  refine (sum_is l n HL.out HS.out A c w1.heap.size _ hn (Nat.le_refl _) (HR1.out.more (by omega))).mono ?_
  rintro e w2 ⟨rfl, rfl⟩
  have hc2 : Cells (sumW w1 (sum l)) w.heap.size 59 (l.map wd ++ [Value.int .u64 0]).toArray := HC1.out.alloc _
  have cv : (sumW w1 (sum l)).cell? ⟨w.heap.size, n, none⟩ = some (.int .u64 0) := by rw [hc2.cell n]; have := HL.out; simp [this]
  have fv := hc2.free n
  have HC2 := Lib.hid hc2
  have hb2 : Below w.heap.size w (sumW w1 (sum l)) := HBEL.out.alloc (by omega) _
  have HB2 := Lib.hid hb2
  clear hc2 hb2
  go_wp2
  go_ret
  have h := HL.out
  subst h
  refine ⟨w.heap.size, l.length + 1, _, rfl, HC2.out.set l.length _, ?_, Nat.le_refl _, HB2.out.setCell (p := ⟨w.heap.size, l.length, none⟩) (Nat.le_refl _) _, Nat.le_refl _⟩
  simp [wd]
  exact List.take_of_length_le (by simp)

theorem OpenNo.at {A : Option Addr} {c : Nat} {W : World} : OpenNo W (.returned (.tuple #[.slice A 0 c, .bool false])) W := ⟨A, c, rfl, Below.refl _ _⟩
theorem OpenNo.grow {A : Option Addr} {c : Nat} {W w : World} (h : ∃ q os, w = grow (W.drewN q) os) : OpenNo W (.returned (.tuple #[.slice A 0 c, .bool false])) w := by
  obtain ⟨q, os, rfl⟩ := h
  exact ⟨A, c, rfl, below_grow' _ _ _⟩

/-- the region that reads the last word and the sum of the others, walked up to the test -/
theorem row_at_last {w : World} {B n s : Nat} {A : Option Addr} {l : List Nat} (h : Row w B A n ((l ++ [s]).map wd)) (hL : l.length + 1 = n) : ∃ b off, A = some ⟨b, off, none⟩ ∧ b < B ∧ w.cell? ⟨b, off + l.length, none⟩ = some (.int .u64 (s : Int)) := by
  obtain ⟨b, off, y, rfl, hb, hy, cy⟩ := h.get (k := l.length) (by omega)
  obtain rfl : s = y := by simpa using hy
  exact ⟨b, off, rfl, hb, cy⟩
theorem row_but_last {w : World} {B n s : Nat} {A : Option Addr} {l : List Nat} (h : Row w B A n ((l ++ [s]).map wd)) (hL : l.length + 1 = n) : Row w B A l.length (l.map wd) := by
  have := row_take (k := l.length) h (by omega)
  simpa using this

set_option maxRecDepth 100000 in
set_option maxHeartbeats 1000000 in
theorem cOpen_no (l : List Nat) (s n : Nat) (hL : l.length + 1 = n) (hl : Small l) (hs : s < 18446744073709551616) (hne : s ≠ sum l) (A : Option Addr) (c B : Nat) (hc : n ≤ c) (w : World) (hn : n ≤ 1000000) (hB : B ≤ w.heap.size) (hr : Row w B A n ((l ++ [s]).map wd)) : Calls Tryz.prog 42 #[.slice A n c] w (OpenNo w) := by
  have hr0 := row_but_last hr hL
  obtain ⟨b, off, rfl, hb, cv⟩ := row_at_last hr hL
  have HR := Lib.hid (hr0.more hB)
  have HS := Lib.hid hl
  obtain ⟨k, hk⟩ : ∃ k, k = l.length := ⟨_, rfl⟩
  rw [← hk] at cv
  have HK := Lib.hid hk
  obtain rfl : n = k + 1 := by omega
  have HBB := Lib.hid (show b < w.heap.size by omega)
  have hk1 : l.length = k := hk.symm
  have ks := fun (c' m : Nat) (os : Array Obj) => cSum l k hk1 hl (some ⟨b, off, none⟩) c' w.heap.size (grow (w.drewN m) os) (by omega) (by simp [grow]) (by rw [← hk1]; exact HR.out.below (below_grow' w m os))
  have KS := Lib.hid (ks c)
  clear hL hl hB hr hr0 hk hk1 ks
  have e1 : (((k + 1 : Nat) : Int) == 0) = false := by rw [beq_eq_false_iff_ne]; omega
  have e2 : ((s : Int) == ((sum l : Nat) : Int)) = false := by rw [beq_eq_false_iff_ne]; omega
  have e3 : (((sum l : Nat) : Int) == (s : Int)) = false := by rw [beq_eq_false_iff_ne]; omega
  have hfol : Tryz.prog.follows .mixedOrders = true := by kernel_rfl
  have cg := cell_grown (a := ⟨b, off + k, none⟩) HBB.out cv
  have e4 : k ≤ c := by omega
  go_enter Tryz.func42, Tryz.ntmps42
  go_wp2_with fail
  refine wp_region_quiet_grown hfol (by kernel_rfl) ?_
  repeat (go_big_quiet_step (first
    | (go_at_call 74; (with_reducible exact Grows.inAt KS.out _ _))))
  refine wpQuiet_nil ?_
  intro _ hw'
  obtain ⟨⟨nr, osr⟩, hw''⟩ := hw'
  subst hw''
  go_wp2
  go_ret2
  exact OpenNo.grow ⟨_, _, rfl⟩

end Go.Proofs.YtbejbiogabpmfaaGreat

/-! The project's check: Open, whose answer is a row of its own. -/
namespace Go.Proofs.YtbejbiogabpmfaaGreat
open Wd U Go.ChangeShapes Go.WideShapes Go.RowKit Go.Sort
set_option linter.unusedVariables false

/-- what was sealed, in a row of its own -/
def OpenOwn (l : List Nat) (W : World) (e : Ending) (w : World) : Prop := ∃ v, e = .returned (.tuple #[v, .bool true]) ∧ RdRow w W.heap.size v l ∧ Below W.heap.size W w
set_option maxRecDepth 100000 in
set_option maxHeartbeats 1000000 in
theorem cOpen_own (l : List Nat) (n : Nat) (hL : l.length + 1 = n) (hl : Small l) (A : Option Addr) (c B : Nat) (hc : n ≤ c) (w : World) (hn : n ≤ 1000000) (hB : B ≤ w.heap.size) (hr : Row w B A n ((l ++ [sum l]).map wd)) : Calls Tryz.prog 42 #[.slice A n c] w (OpenOwn l w) := by
  have hr0 := row_but_last hr hL
  obtain ⟨b, off, rfl, hb, cv⟩ := row_at_last hr hL
  have HR := Lib.hid (hr0.more hB)
  have HS := Lib.hid hl
  obtain ⟨k, hk⟩ : ∃ k, k = l.length := ⟨_, rfl⟩
  rw [← hk] at cv
  have HK := Lib.hid hk
  obtain rfl : n = k + 1 := by omega
  have HBB := Lib.hid (show b < w.heap.size by omega)
  have hk1 : l.length = k := hk.symm
  have ks := fun (c' m : Nat) (os : Array Obj) => cSum l k hk1 hl (some ⟨b, off, none⟩) c' w.heap.size (grow (w.drewN m) os) (by omega) (by simp [grow]) (by rw [← hk1]; exact HR.out.below (below_grow' w m os))
  have KS := Lib.hid (ks c)
  clear hL hl hB hr hr0 hk hk1 ks
  have e1 : (((k + 1 : Nat) : Int) == 0) = false := by rw [beq_eq_false_iff_ne]; omega
  have e2 : (((sum l : Nat) : Int) == ((sum l : Nat) : Int)) = true := beq_self_eq_true _
  have hmk := fun W => make_words' k W (by omega)
  have hfol : Tryz.prog.follows .mixedOrders = true := by kernel_rfl
  have cg := cell_grown (a := ⟨b, off + k, none⟩) HBB.out cv
  have e4 : k ≤ c := by omega
  go_enter Tryz.func42, Tryz.ntmps42
  go_wp2_with fail
  refine wp_region_quiet_grown hfol (by kernel_rfl) ?_
  repeat (go_big_quiet_step (first
    | (go_at_call 74; (with_reducible exact Grows.inAt KS.out _ _))))
  refine wpQuiet_nil ?_
  intro _ hw'
  obtain ⟨⟨nr, osr⟩, hw''⟩ := hw'
  subst hw''
  obtain ⟨w3, hw3⟩ : ∃ w3, w3 = grow (w.drewN nr) osr := ⟨_, rfl⟩
  rw [← hw3]
  have HB3 := Lib.hid (show Below w.heap.size w w3 from hw3 ▸ below_grow' w nr osr)
  clear hw3 cg e4
  have HR3 := Lib.hid ((HR.out.below HB3.out).more HB3.out.size)
  have HR4 := Lib.hid (show Row w3 w3.heap.size (some ⟨b, off, none⟩) k (l.map wd) from HK.out ▸ HR3.out)
  have HSRC := Lib.hid (zero_srcK (m := k) HR4.out (Nat.le_refl _))
  go_wp2_with (with_reducible refine wpList_copy_splice rfl (.tmp 23) (.tmp 24) 48 48 rfl 59 Tryz.underlying48 sizeW (some ⟨w3.heap.size, 0, none⟩) (some ⟨b, off, none⟩) k k (k + 1) c rfl rfl w3.heap.size 0 (List.replicate k (Value.int .u64 0)) 59 (zero_cellsK w3 k) (l.map wd) (by rw [List.length_map, ← HK.out]; exact (Nat.min_eq_right (by omega)).symm) HSRC.out (by have := HK.out; simp [this]) (oneW l) w3.heap.size w3 (zero_belowK w3 k) (Nat.le_refl _) ?_; intro w4 hcell hbel)
  have h4 : Cells w4 w3.heap.size 59 (l.map wd).toArray := by
    have h := hcell.out
    have e : splice (List.replicate k (Value.int .u64 0)) 0 (l.map wd) = l.map wd := by
      have := HK.out
      simp [splice, this]
    rw [e] at h
    exact h
  have H5 := Lib.hid h4
  have HB4 := Lib.hid (HB3.out.trans (hbel.mono HB3.out.size))
  clear hcell hbel h4
  go_ret2
  have hk := HK.out
  subst hk
  refine ⟨_, rfl, .inr ⟨w3.heap.size, 0, l.length, (l.map wd).toArray, rfl, Nat.le_refl _, HB3.out.size, H5.out, fun j x hj => ?_⟩, HB4.out⟩
  rw [Nat.zero_add, List.getElem?_toArray, List.getElem?_map, hj]
  rfl
end Go.Proofs.YtbejbiogabpmfaaGreat

/-! Deeds: effects with refs, in a row. -/
namespace Wd
open Go Go.RowKit Go.ChangeShapes Go.WideShapes Go.ChangeAt Go.Deep
section
variable {H : Type} {enc : TypeId × Value → H} {P : Program} {w : World} {base : Nat} {spare : Nat → Bool} {held : Bool}
theorem trod_fields {t : TypeId} {fs : Array Field} {fuel : Nat} {cs : List Value} {x : DataW H × List MemPlace} (he : P.underlying t = some (.struct fs)) (hone : oneCellFields P fs = true) (hC : P.cellsOf t = fs.size) (h : DataW.trod enc P w base spare held fuel t cs = some x) :
    cs.length = fs.size ∧ ∃ n, ∀ (j : Nat) (f : Field), fs[j]? = some f → ∃ (u : Value) (y : DataW H × List MemPlace), cs[j]? = some u ∧ DataW.trod enc P w base spare held n f.type [u] = some y := by
  obtain ⟨ys, n', _, _, hlen, hyl, hg⟩ := DataW.trod_struct he h
  rw [hC] at hlen
  refine ⟨hlen, n', fun j f hj => ?_⟩
  obtain ⟨ho, hk⟩ := hone_of hone j f hj
  have hjl : j < fs.size := (Array.getElem?_eq_some_iff.1 hj).1
  have h3 := hg j f hj
  rw [ho, hk, show (cs.drop j).take 1 = [cs[j]'(by omega)] from by rw [List.drop_eq_getElem_cons (by omega)]; rfl] at h3
  have hys : ys[j]? = some (ys[j]'(by omega)) := List.getElem?_eq_getElem (by omega)
  exact ⟨cs[j]'(by omega), _, List.getElem?_eq_getElem (by omega), h3.trans hys⟩
/-- a slice of elements of K cells -/
theorem open_elems {r : Reach} {b0 : Nat} {t e : TypeId} {K : Nat} {v : Value} {d : DataW H} {p : List MemPlace} (ht : P.underlying t = some (.slice e)) (hC : P.cellsOf e = K) (hpos : 0 < K)
    (hv : Value.okWide P w r b0 t v) (h : DataW.Trod enc P w base spare held t v d p) :
    ∃ (A : Option Addr) (len cap : Nat), v = .slice A len cap ∧ len ≤ cap ∧ cap ≤ maxLen ∧ (0 < len → ∃ b off, A = some ⟨b, off, none⟩ ∧ b < w.heap.size ∧
      ∀ i, i < len → ∃ (cs : List Value) (n : Nat) (y : DataW H × List MemPlace), cs.length = K ∧ (∀ j, j < K → w.cell? ⟨b, off + (i * K + j), none⟩ = cs[j]?) ∧ DataW.trod enc P w base spare held n e cs = some y) := by
  obtain ⟨a0, len0, cap0, rfl⟩ := okWide_slice ht hv
  obtain ⟨fuel, hf⟩ := h
  rcases open_slice ht hf with ⟨hcs, _⟩ | ⟨a, len, cap, m, n, D, Pl, hcs, _, hl, hm, hmm, _, hi⟩
  · obtain ⟨rfl, rfl, rfl⟩ : a0 = _ ∧ len0 = _ ∧ cap0 = _ := by simpa [Value.cells] using hcs
    exact ⟨none, 0, 0, rfl, Nat.le_refl _, by simp, fun h => absurd h (by omega)⟩
  · obtain ⟨rfl, rfl, rfl⟩ : a0 = _ ∧ len0 = _ ∧ cap0 = _ := by simpa [Value.cells] using hcs
    have hle : len0 ≤ m := by rw [hmm]; split <;> omega
    have each : ∀ i, i < len0 → ∃ (cs : List Value) (n : Nat) (y : DataW H × List MemPlace), cs.length = K ∧ (∀ j, j < K → w.cell? (a.add (i * K + j)) = cs[j]?) ∧ DataW.trod enc P w base spare held n e cs = some y := by
      intro i hil
      obtain ⟨cs', h1, h2⟩ := hi i (by omega)
      rw [hC] at h1
      obtain ⟨_, hcl, hat⟩ := World.cells?_some h1
      refine ⟨cs', n, _, hcl, fun j hj => ?_, h2⟩
      have := hat j hj
      rw [add_add] at this
      exact this
    refine ⟨some a, len0, cap0, rfl, hl, hm, fun hn => ?_⟩
    obtain ⟨b, off, spot⟩ := a
    obtain ⟨cs0, n0, y0, hl0, hx, _⟩ := each 0 hn
    have hc0 := hx 0 hpos
    rw [List.getElem?_eq_getElem (by omega)] at hc0
    have hs : spot = none := by simpa [Addr.add] using World.cell?_spot hc0
    refine ⟨b, off, by rw [hs], by simpa [Addr.add] using World.block_lt_of_cell? _ _ hc0, fun i hil => ?_⟩
    obtain ⟨cs1, n1, y1, hl1, hx, ht1⟩ := each i hil
    refine ⟨cs1, n1, y1, hl1, fun j hj => ?_, ht1⟩
    have := hx j hj
    rw [add_at hs] at this
    exact this
theorem sized_len {t e : TypeId} {ts : List TypeId} {ds : List (DataW H)} {j : Nat} {A : Option Addr} {len cap : Nat} {d : DataW H} {p : List MemPlace} (hsz : (DataW.weightsEach P ts ds).all (· ≤ reachBytes) = true) (hj : ts[j]? = some t) (hd : ds[j]? = some d)
    (ht : P.underlying t = some (.slice e)) (h : DataW.Trod enc P w base spare held t (.slice A len cap) d p) : len * P.bytesOf e ≤ reachBytes := by
  obtain ⟨fuel, hf⟩ := h
  rcases open_slice ht hf with ⟨hcs, _⟩ | ⟨a, len2, cap2, m, n, D, Pl, hcs, _, hl, hm, hmm, hx, hi⟩
  · obtain ⟨rfl, rfl, rfl⟩ : A = _ ∧ len = _ ∧ cap = _ := by simpa [Value.cells] using hcs
    simp
  · obtain ⟨rfl, rfl, rfl⟩ : A = _ ∧ len = _ ∧ cap = _ := by simpa [Value.cells] using hcs
    obtain ⟨hx1, _⟩ := Prod.mk.inj hx
    subst hx1
    have := sized_slice hsz hj hd ht
    simp only [List.length_map, List.length_range] at this
    exact Nat.le_trans (Nat.mul_le_mul_right _ (Nat.le_add_right _ _)) this
end
end Wd
namespace Go.Proofs.YtbejbiogabpmfaaGreat
open Wd U Go.RowKit Go.ChangeShapes Go.WideShapes Go.ChangeAt Go.Deep
set_option linter.unusedVariables false
structure Dd where
  e : Eff
  ref : Int
instance : Inhabited Dd := ⟨⟨default, 0⟩⟩
def Dd.vals (d : Dd) : List Value := d.e.vals ++ [.int .i64 d.ref]
def Dd.val (d : Dd) : Value := .agg #[.int .i64 d.e.kind, .int .i64 d.e.ino, .int .i64 d.e.dir, .int .i64 d.e.dst, .int .i64 d.e.page, .int .i64 d.e.size, .string d.e.name, .string d.e.other, .slice d.e.A d.e.data.length d.e.cp, .int .i64 d.ref]
structure Dd.Ok (d : Dd) (w : World) (B : Nat) : Prop where
  e : d.e.Ok w B
  ref : i64R d.ref
theorem Dd.Ok.below {d : Dd} {w w' : World} {B : Nat} (h : d.Ok w B) (hb : Below B w w') : d.Ok w' B := ⟨h.e.below hb, h.ref⟩
theorem Dd.Ok.more {d : Dd} {w : World} {B B' : Nat} (h : d.Ok w B) (hB : B ≤ B') : d.Ok w B' := ⟨h.e.more hB, h.ref⟩
set_option maxRecDepth 100000 in
theorem deed_of {H : Type} {enc : TypeId × Value → H} {w : World} {base : Nat} {spare : Nat → Bool} {held : Bool} {n : Nat} {cs : List Value} {y : DataW H × List MemPlace}
    (h : DataW.trod enc Tryz.prog w base spare held n 66 cs = some y) : ∃ d : Dd, cs = d.vals ∧ d.Ok w w.heap.size := by
  obtain ⟨y0, y1, m, _, hl, t0, t1⟩ := trod_struct2 Tryz.underlying66 h
  have hC : Tryz.prog.cellsOf 66 = 10 := by kernel_rfl
  have hE : Tryz.prog.cellsOf 64 = 9 := by kernel_rfl
  have hI : Tryz.prog.cellsOf 3 = 1 := by kernel_rfl
  rw [hC] at hl
  dsimp only at t0 t1
  rw [hE, List.drop_zero] at t0
  rw [hI] at t1
  match cs, hl with
  | [u0, u1, u2, u3, u4, u5, u6, u7, u8, u9], _ =>
    obtain ⟨_, n2, hg⟩ := trod_fields Tryz.underlying64 (by kernel_rfl) (by kernel_rfl) t0
    obtain ⟨_, z0, c0, s0⟩ := hg 0 _ rfl
    obtain ⟨_, z1, c1, s1⟩ := hg 1 _ rfl
    obtain ⟨_, z2, c2, s2⟩ := hg 2 _ rfl
    obtain ⟨_, z3, c3, s3⟩ := hg 3 _ rfl
    obtain ⟨_, z4, c4, s4⟩ := hg 4 _ rfl
    obtain ⟨_, z5, c5, s5⟩ := hg 5 _ rfl
    obtain ⟨_, z6, c6, s6⟩ := hg 6 _ rfl
    obtain ⟨_, z7, c7, s7⟩ := hg 7 _ rfl
    obtain ⟨_, z8, c8, s8⟩ := hg 8 _ rfl
    obtain rfl := Option.some.inj c0
    obtain rfl := Option.some.inj c1
    obtain rfl := Option.some.inj c2
    obtain rfl := Option.some.inj c3
    obtain rfl := Option.some.inj c4
    obtain rfl := Option.some.inj c5
    obtain rfl := Option.some.inj c6
    obtain rfl := Option.some.inj c7
    obtain rfl := Option.some.inj c8
    obtain ⟨e, hvals, hok⟩ := eff_of s0 s1 s2 s3 s4 s5 s6 s7 s8
    obtain ⟨a9, q9, _, w9⟩ := DataW.trod_int Tryz.underlying3 (show DataW.trod enc Tryz.prog w base spare held m 3 [u9] = some y1 from t1)
    obtain rfl := (List.cons.inj q9).1
    exact ⟨⟨e, a9⟩, by unfold Dd.vals; rw [hvals]; rfl, hok, i64R_of w9⟩
/-- deeds in a row -/
structure Dds (w : World) (B : Nat) (A : Option Addr) (l : List Dd) : Prop where
  at_ : 0 < l.length → ∃ b off, A = some ⟨b, off, none⟩ ∧ b < B ∧ ∀ (j : Nat) (d : Dd), l[j]? = some d → ∀ (k : Nat) (x : Value), d.vals[k]? = some x → w.cell? ⟨b, off + (j * 10 + k), none⟩ = some x
  ok : ∀ d ∈ l, d.Ok w B
theorem Dds.below {w w' : World} {B : Nat} {A : Option Addr} {l : List Dd} (h : Dds w B A l) (hb : Below B w w') : Dds w' B A l :=
  ⟨fun hn => by
    obtain ⟨b, off, e, hB, hx⟩ := h.at_ hn
    exact ⟨b, off, e, hB, fun j d hj k x hk => (hb.cell (p := ⟨b, _, none⟩) hB).trans (hx j d hj k x hk)⟩, fun d hd => (h.ok d hd).below hb⟩
theorem Dds.more {w : World} {B B' : Nat} {A : Option Addr} {l : List Dd} (h : Dds w B A l) (hB : B ≤ B') : Dds w B' A l :=
  ⟨fun hn => by
    obtain ⟨b, off, e, hb, hx⟩ := h.at_ hn
    exact ⟨b, off, e, Nat.lt_of_lt_of_le hb hB, hx⟩, fun d hd => (h.ok d hd).more hB⟩
theorem dds_cells {w : World} {B : Nat} {A : Option Addr} {l : List Dd} (h : Dds w B A l) {k : Nat} {d : Dd} (hk : l[k]? = some d) : ∃ b off, A = some ⟨b, off, none⟩ ∧ b < B ∧
    w.cell? ⟨b, off + k * 10, none⟩ = some (.int .i64 d.e.kind) ∧ w.cell? ⟨b, off + k * 10 + 1, none⟩ = some (.int .i64 d.e.ino) ∧ w.cell? ⟨b, off + k * 10 + 2, none⟩ = some (.int .i64 d.e.dir) ∧ w.cell? ⟨b, off + k * 10 + 3, none⟩ = some (.int .i64 d.e.dst) ∧
    w.cell? ⟨b, off + k * 10 + 4, none⟩ = some (.int .i64 d.e.page) ∧ w.cell? ⟨b, off + k * 10 + 5, none⟩ = some (.int .i64 d.e.size) ∧ w.cell? ⟨b, off + k * 10 + 6, none⟩ = some (.string d.e.name) ∧ w.cell? ⟨b, off + k * 10 + 7, none⟩ = some (.string d.e.other) ∧
    w.cell? ⟨b, off + k * 10 + 8, none⟩ = some (.slice d.e.A d.e.data.length d.e.cp) ∧ w.cell? ⟨b, off + k * 10 + 9, none⟩ = some (.int .i64 d.ref) := by
  obtain ⟨b, off, rfl, hb, hx⟩ := h.at_ (by have := (List.getElem?_eq_some_iff.1 hk).1; omega)
  have g := hx k d hk
  exact ⟨b, off, rfl, hb, g 0 _ rfl, g 1 _ rfl, g 2 _ rfl, g 3 _ rfl, g 4 _ rfl, g 5 _ rfl, g 6 _ rfl, g 7 _ rfl, g 8 _ rfl, g 9 _ rfl⟩
set_option maxRecDepth 100000 in
theorem open_dds {H : Type} {enc : TypeId × Value → H} {w : World} {base : Nat} {spare : Nat → Bool} {held : Bool} {r : Reach} {b0 : Nat} {v : Value} {d : DataW H} {p : List MemPlace}
    (hv : Value.okWide Tryz.prog w r b0 22 v) (h : DataW.Trod enc Tryz.prog w base spare held 22 v d p) :
    ∃ (A : Option Addr) (c : Nat) (l : List Dd), v = .slice A l.length c ∧ Dds w w.heap.size A l ∧ l.length ≤ c ∧ c ≤ maxLen := by
  obtain ⟨A, len, cap, rfl, h1, h2, h3⟩ := open_elems (K := 10) Tryz.underlying22 (by kernel_rfl) (by decide) hv h
  by_cases hn : 0 < len
  · obtain ⟨b, off, rfl, hb, hx⟩ := h3 hn
    have each : ∀ i, i < len → ∃ d : Dd, (∀ (k : Nat) (x : Value), d.vals[k]? = some x → w.cell? ⟨b, off + (i * 10 + k), none⟩ = some x) ∧ d.Ok w w.heap.size := by
      intro i hi
      obtain ⟨cs, n, y, hl, hc, ht⟩ := hx i hi
      obtain ⟨d, hd, hok⟩ := deed_of ht
      refine ⟨d, fun k x hk => ?_, hok⟩
      rw [← hd] at hk
      rw [hc k (by have := (List.getElem?_eq_some_iff.1 hk).1; omega)]
      exact hk
    obtain ⟨Y, hY⟩ := choose_lt (n := len) (p := fun i (d : Dd) => (∀ (k : Nat) (x : Value), d.vals[k]? = some x → w.cell? ⟨b, off + (i * 10 + k), none⟩ = some x) ∧ d.Ok w w.heap.size) each
    refine ⟨_, cap, (List.range len).map Y, by simp, ⟨fun _ => ⟨b, off, rfl, hb, fun j d hj k x hk => ?_⟩, fun d hd => ?_⟩, by simp; exact h1, h2⟩
    · obtain ⟨hj1, hj2⟩ := List.getElem?_eq_some_iff.1 hj
      simp at hj1 hj2
      subst hj2
      exact (hY j hj1).1 k x hk
    · obtain ⟨i, hi, rfl⟩ := List.mem_map.1 hd
      exact (hY i (List.mem_range.1 hi)).2
  · obtain rfl : len = 0 := by omega
    exact ⟨A, cap, [], rfl, ⟨fun h => absurd h (by simp), fun d hd => by cases hd⟩, by simp, h2⟩
end Go.Proofs.YtbejbiogabpmfaaGreat

/-! The document's State: a name is put, and the row stays one that may grow; what the document's does leaves. -/
namespace Go.Proofs.YtbejbiogabpmfaaGreat
open Wd Ino Sm Go.RowKit Go.ChangeShapes Go.WideShapes Go.Sort
set_option linter.unusedVariables false
set_option maxRecDepth 100000
theorem OwnNs.set {w : World} {base gL c k : Nat} {Ls : List Nd} {n n' : Nd} (h : OwnNs w base (.slice (some ⟨gL, 0, none⟩) Ls.length c) Ls) (hk : Ls[k]? = some n) {j : Nat} {u : Value} (hj : j < 7) (hx : n'.cells = n.cells.set j u) :
    OwnNs (w.setCell ⟨gL, k * 7 + j, none⟩ u) base (.slice (some ⟨gL, 0, none⟩) Ls.length c) (Ls.set k n') := by
  rcases h with ⟨hl, h⟩
  unfold OwnNs
  rw [show ndvals (Ls.set k n') = (ndvals Ls).set (k * 7 + j) u from flat_set cells_len hj hx Ls k hk, List.length_set]
  refine ⟨by rw [List.length_set]; exact hl, ?_⟩
  rcases h with ⟨h0, _⟩ | ⟨g', cap, cur, hv, hb, hh, h1, h2, hs, ht⟩
  · cases h0
  · injection hv with hv _ hc
    injection hv with hv
    injection hv with hv
    subst hv hc
    refine .inr ⟨gL, c, cur.setIfInBounds (k * 7 + j) u, rfl, hb, Cells.set hh (k * 7 + j) u, h1, h2, by rw [Array.size_setIfInBounds]; exact hs, ?_⟩
    rw [Array.toList_setIfInBounds, List.take_set, ht]
theorem OwnNs.below {w w' : World} {base : Nat} {v : Value} {l : List Nd} (h : OwnNs w base v l) (hb : Below w.heap.size w w') : OwnNs w' base v l := (KeepC.of (Ts := []) hb).own (by simp) h
def DGoO (S' : Stt) (base g : Nat) (Ls : List Nd) (v : Value) (w : World) (e : Ending) (w' : World) : Prop := e = .returned (.tuple #[]) ∧ ∃ Ls' v', DSx w' base g Ls' v' S' ∧ OwnNs w' base v' Ls' ∧ Ls'.length ≤ Ls.length ∧ Below base w w' ∧ ∃ gL c, v = .slice (some ⟨gL, 0, none⟩) Ls.length c ∧ Trn w w' [gL]
section
variable {w w' : World} {base g : Nat} {Ls : List Nd} {v : Value} {S : Stt}
set_option maxHeartbeats 4000000 in
theorem rPutSO (h : DSx w base g Ls v S) (hown : OwnNs w base v Ls) (hlen : Ls.length ≤ 1000) (hs : SmS S.l) (ha : AscS S.l) (d : Int) {n0 : Nod} (h0 : atS S.l d = some n0) (s : ByteArray) (hno : hasN s n0.names = false) (i : Int) :
    Calls Tryz.prog 102 #[SPtr g, .int .i64 d, .string s, .int .i64 i] w (DGoO ⟨enterS S.l d s i, S.last⟩ base g Ls v w) := by
  have KA := Lib.hid (rAt h hlen d)
  have hd : n0.ino = d := atS_ino h0
  obtain ⟨n, k, gL, c, h1, h2, h3, rfl, hc, hb, hk, ho, _⟩ := h.at_ h0
  rw [h3] at KA
  have hsm := hs n0 (atS_mem h0)
  rw [← h2] at hsm
  have hq : n.names.length ≤ 1000 := Nat.le_trans hsm.q (by decide)
  have hnn : hasN s n.names = false := by have := hno; rw [← h2] at this; exact this
  have H := Lib.hid h; have HK1 := Lib.hid h1; have HO := Lib.hid ho; have HA := Lib.hid ha; have HLT := Lib.hid hk; have HOW := Lib.hid hown
  have HD := Lib.hid (show n.ino = d by rw [← hd, ← h2]; rfl)
  have hlt2 : (k : Int) < (Ls.length : Int) := Int.ofNat_lt.2 hk
  clear h h0 h1 h2 h3 ho ha hs hd hk hown
  clear hno
  unfold SPtr at *
  go_enter Tryz.func102, Tryz.ntmps102
  go_wp2_with fail
  refine (KA.out).mono ?_
  rintro e w2 ⟨rfl, hw1⟩
  have hb2 := grown_b hw1
  have h5 := H.out.below hb2
  obtain ⟨hbc, hE2⟩ := (HO.out.below hb2).ens
  have KP := Lib.hid (fun wx (b : Below w2.heap.size w2 wx) => rPutO (c := n.bc) (hE2.below (by exact b)) b.size hbc hq s i hnn)
  obtain ⟨cur, hcl, hbl⟩ := h5.blk HLT.out
  have HB2 := Lib.hid hb2; have H5 := Lib.hid h5; have HCL := Lib.hid hcl; have HBL := Lib.hid hbl
  have hx6 := h5.row_cells HK1.out 6 _ rfl
  have HBASE := Lib.hid (show base ≤ w2.heap.size by have := h5.lo; have := h5.cells.lt; omega)
  have HX6 := Lib.hid hx6
  obtain ⟨J, ki, l, t, u, A0, ac, P, B, bc, N⟩ := n
  dsimp only at KP HX6 hbc hq hsm hE2 hx6
  have b0 : Below w2.heap.size w2 w2.drew := below_drewN (Below.refl _ _) 1
  have s9 : ∀ w' : World, (∀ q, q < w2.heap.size → q ≠ gL → w'.heap[q]? = w2.heap[q]?) → w'.cell? ⟨g, 0, none⟩ = some (.slice (some ⟨gL, 0, none⟩) Ls.length c) := fun w' hb' => by
    have d1 : Cells w' g _ _ := (hb' g H5.out.cells.lt (fun e => by subst e; exact H5.out.cells.ne HCL.out (by decide) rfl)).trans H5.out.cells
    exact d1.cell 0
  have S9 := Lib.hid s9
  have x6 := HX6.out.1
  have c0 := H5.out.c0
  clear hw1 hb2 h5 hcl hbl hx6 s9 KA hE2 hsm hbc
  go_upto_region 1 with fail
  go_region_with
    (first
    | (go_at_call 145; (with_reducible refine (KP.out _ b0).mono ?_); rintro e' w3 ⟨B3, bc3, rfl, hc3, ho3, hb3⟩; have b3 := b0.trans (hb3.mono b0.size); have c3 := S9.out _ (fun q hq _ => b3.block q hq); have HO3 := Lib.hid ho3; have y6 := (HCL.out.below' b3).cell (k * 7 + 6); rw [← HCL.out.cell (k * 7 + 6), HX6.out.1] at y6; have z6 := (HCL.out.below' b3).free (k * 7 + 6)))
  all_goals
    have h6 := (H5.out.below b3).set HK1.out HA.out (n' := ⟨J, ki, l, t, u, A0, ac, P, B3, bc3, putR s i N⟩) (f := putNm s i) rfl (j := 6) (u := .slice B3 (putR s i N).length bc3) (by decide) rfl
      ⟨((HO.out.below HB2.out).below b3).1, HO3.out.mono HBASE.out⟩
    have h7 := ((HOW.out.below HB2.out).below b3).set HK1.out (n' := ⟨J, ki, l, t, u, A0, ac, P, B3, bc3, putR s i N⟩) (j := 6) (u := .slice B3 (putR s i N).length bc3) (by decide) rfl
    dsimp only at h6
    rw [show J = d from HD.out] at h6 h7
    have H6 := Lib.hid h6; have H7 := Lib.hid h7
    have HB6 := Lib.hid (show Below base w (w3.setCell ⟨gL, k * 7 + 6, none⟩ (.slice B3 (putR s i N).length bc3)) from ((HB2.out.trans (b3.mono HB2.out.size)).mono (by have := H.out.lo; have := H.out.cells.lt; omega)).setCell (p := ⟨gL, k * 7 + 6, none⟩) HBL.out _)
    have HKC := Lib.hid (show Trn w (w3.setCell ⟨gL, k * 7 + 6, none⟩ (.slice B3 (putR s i N).length bc3)) [gL] from
      ((Trn.of HB2.out).trans (Trn.of b3)).trans (Trn.set w3 (p := ⟨gL, k * 7 + 6, none⟩) (by simp) _))
    clear h6 h7 hc3 ho3 hb3 x6 y6 z6
    go_end0
    exact ⟨rfl, _, _, H6.out, H7.out, (by rw [List.length_set]; exact Nat.le_refl _), HB6.out, gL, c, rfl, HKC.out⟩
end
theorem KeepC.one {w w' : World} {gL : Nat} {T : TypeId} {cs : Array Value} (hc : Cells w gL T cs) (h : ∀ q, q ≠ gL → w'.heap[q]? = w.heap[q]?) : KeepC [T] w w' := fun b t cs' ht hc' => (h b (fun e => ht (by
    subst e
    have : t = T := Decidable.byContradiction fun hne => hc'.ne hc hne rfl
    rw [this]; exact List.mem_singleton.2 rfl))).trans hc'
/-- the seven cells of a node are stored into a row -/
def set7o (w : World) (g o : Nat) (n : Nd) : World :=
  ((((((w.setCell ⟨g, o, none⟩ (.int .i64 n.ino)).setCell ⟨g, o + 1, none⟩ (.int .i64 n.kind)).setCell ⟨g, o + 2, none⟩ (.int .i64 n.links)).setCell ⟨g, o + 3, none⟩ (.int .i64 n.size)).setCell ⟨g, o + 4, none⟩ (.int .i64 n.up)).setCell ⟨g, o + 5, none⟩ (.slice n.A n.pages.length n.ac)).setCell ⟨g, o + 6, none⟩ (.slice n.B n.names.length n.bc)
def sets7 (xs : List Value) (o : Nat) (n : Nd) : List Value :=
  ((((((xs.set o (.int .i64 n.ino)).set (o + 1) (.int .i64 n.kind)).set (o + 2) (.int .i64 n.links)).set (o + 3) (.int .i64 n.size)).set (o + 4) (.int .i64 n.up)).set (o + 5) (.slice n.A n.pages.length n.ac)).set (o + 6) (.slice n.B n.names.length n.bc)
theorem sets7_append (ys xs : List Value) (o : Nat) (n : Nd) : sets7 (ys ++ xs) (ys.length + o) n = ys ++ sets7 xs o n := by
  unfold sets7
  simp only [Nat.add_assoc]
  simp [List.set_append_right]
theorem ndvals_set (n' : Nd) : ∀ (l : List Nd) (k : Nat), k < l.length → ndvals (l.set k n') = sets7 (ndvals l) (k * 7) n' := by
  intro l
  induction l with
  | nil => intro k hk; simp at hk
  | cons x l ih =>
    intro k hk
    have e1 : ∀ (y : Nd) (m : List Nd), ndvals (y :: m) = y.cells ++ ndvals m := fun y m => by unfold ndvals; rw [List.flatMap_cons]
    cases k with
    | zero =>
      rw [List.set_cons_zero, e1, e1]
      simp [sets7, Nd.cells]
    | succ k =>
      rw [List.set_cons_succ, e1, e1, show (k + 1) * 7 = x.cells.length + k * 7 by rw [cells_len]; omega, sets7_append, ih k (by simpa using hk)]
theorem set7o_other {w : World} {g o q : Nat} {n : Nd} (h : q ≠ g) : (set7o w g o n).heap[q]? = w.heap[q]? := by
  unfold set7o
  simp only [Below.heap_setCell _ _ _ q (show q ≠ (⟨g, _, none⟩ : Addr).block from h)]
section
variable {w w' : World} {base g : Nat} {Ls : List Nd} {v : Value} {S : Stt}
theorem set7o_below {B : Nat} {w0 : World} {gL o : Nat} {n : Nd} (h : Below B w0 w) (hg : B ≤ gL) : Below B w0 (set7o w gL o n) := by
  unfold set7o
  exact ((((((h.setCell hg _).setCell hg _).setCell hg _).setCell hg _).setCell hg _).setCell hg _).setCell hg _
theorem DSx.set7 {c gL k : Nat} {n n' : Nd} (h : DSx w base g Ls (.slice (some ⟨gL, 0, none⟩) Ls.length c) S) (hk : Ls[k]? = some n) (ha : AscS S.l) {f : Nod → Nod} (hf : n'.plain = f n.plain) (ho : OwnNd w base n') :
    DSx (set7o w gL (k * 7) n') base g (Ls.set k n') (.slice (some ⟨gL, 0, none⟩) Ls.length c) ⟨modS S.l n.ino f, S.last⟩ := by
  have hkl := (List.getElem?_eq_some_iff.1 hk).1
  obtain ⟨cur, hc, hb⟩ := h.blk hkl
  have hkc : KeepC [51] w (set7o w gL (k * 7) n') := KeepC.one hc (fun q hq => set7o_other hq)
  refine ⟨h.lo, hkc _ _ _ (by decide) h.cells, ?_, fun m hm => ?_, ?_⟩
  · have h1 := ownK_set (ownK_set (ownK_set (ownK_set (ownK_set (ownK_set (ownK_set h.row (k * 7) (.int .i64 n'.ino)) (k * 7 + 1) (.int .i64 n'.kind)) (k * 7 + 2) (.int .i64 n'.links)) (k * 7 + 3) (.int .i64 n'.size)) (k * 7 + 4) (.int .i64 n'.up)) (k * 7 + 5) (.slice n'.A n'.pages.length n'.ac)) (k * 7 + 6) (.slice n'.B n'.names.length n'.bc)
    rw [ndvals_set n' Ls k hkl, List.length_set]
    exact h1
  · rcases List.mem_or_eq_of_mem_set hm with hm | rfl
    · exact (h.own m hm).keep hkc (by decide) (by decide)
    · exact ho.keep hkc (by decide) (by decide)
  · show (Ls.set k n').map Nd.plain = modS S.l n.ino f
    rw [List.map_set, h.eq, hf]
    refine (mod_set ha ?_ rfl).symm
    rw [← h.eq, List.getElem?_map, hk]; rfl
end
/-- what the document's does leaves -/
def DX (o : Option (Stt × List Int)) (S : Stt) (base g : Nat) (Ls : List Nd) (w : World) (en : Ending) (w' : World) : Prop :=
  ∃ A c l Ls' v', en = .returned (.tuple #[.slice A l c, .bool o.isSome]) ∧ DSx w' base g Ls' v' ((o.map Prod.fst).getD S) ∧ Ls'.length ≤ Ls.length + 1 ∧ Below base w w'
end Go.Proofs.YtbejbiogabpmfaaGreat
