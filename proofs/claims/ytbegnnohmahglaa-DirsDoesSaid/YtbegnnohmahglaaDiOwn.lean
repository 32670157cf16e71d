import Derived.Test.YtbegnnohmahglaaDiLook
import Derived.Test.YtbegnnohmahglaaEnOwn
namespace Go.Proofs.Ytbegnnohmahglaa
open Wd Ino Go.RowKit Go.ChangeShapes Go.WideShapes Go.Sort
set_option linter.unusedVariables false
set_option maxRecDepth 100000

/-! a copy of a row of names, with texts of its own -/
theorem grown_below {w w1 w2 : World} (h : Below w.heap.size w w1) (k : ∃ q os, w2 = grow (w1.drewN q) os) : Below w.heap.size w w2 := by
  obtain ⟨q, os, rfl⟩ := k
  exact h.trans ((below_grow' w1 q os).mono h.size)
theorem grown_self {w w1 : World} (k : ∃ q os, w1 = grow (w.drewN q) os) : Below w.heap.size w w1 := by
  obtain ⟨q, os, rfl⟩ := k
  exact below_grow' w q os
def CopyRel (l : List Ent) (v : Value) (w : World) (i : Value) (wr : World) : Prop := ∃ k : Nat, k ≤ l.length ∧ i = .int .i64 k ∧ OwnE wr w.heap.size v l ∧ Below w.heap.size w wr
set_option maxHeartbeats 4000000 in
theorem dOwn {w : World} {hi : Nat} {A : Option Addr} {c : Nat} {l : List Ent} (h : Ens w hi A l) (hh : hi ≤ w.heap.size) (hm : l.length ≤ 1000) (hs : ∀ e ∈ l, e.s.size ≤ 1000) : Calls Try.prog 23 #[.slice A l.length c] w (MadeE l w) := by
  have HS := Lib.hid hs
  have K := Lib.hid (cloneE (c := c) rfl h hh (by omega))
  clear h hs
  go_enter Try.func23, Try.ntmps23
  go_wp2_with fail
  refine K.out.mono ?_
  rintro e1 w1 ⟨v, rfl, ho, hb⟩
  obtain ⟨A1, c1, rfl, _, _⟩ := ho.form
  have HO := Lib.hid ho; have HB := Lib.hid hb
  clear ho hb K
  go_wp2
  go_loopw [9] (fun i wr => CopyRel l (.slice A1 l.length c1) w i wr) (fun i _ => l.length - (intOf i).toNat)
  case atStart => exact ⟨0, Nat.zero_le _, rfl, HO.out, HB.out⟩
  case round =>
    obtain ⟨k, hk, rfl, hown, hb1⟩ := hrel
    have HO1 := Lib.hid hown; have HB1 := Lib.hid hb1
    clear hown hb1
    by_cases hlt : k < l.length
    · obtain ⟨e, he⟩ : ∃ e, l[k]? = some e := ⟨_, List.getElem?_eq_getElem hlt⟩
      obtain ⟨g, cap, hv, hbg, hgw, _, x0, x1, f0, f1⟩ := HO1.out.get he
      injection hv with hv1 _ hv3
      subst hv1 hv3
      have hlt2 : (k : Int) < (l.length : Int) := Int.ofNat_lt.2 hlt
      have KC := Lib.hid (cloneG e.s (by have := HS.out e (List.mem_of_getElem? he); omega))
      have HE := Lib.hid he
      have HG := Lib.hid hbg
      clear he hbg
      go_wp2_with fail
      refine (KC.out _).mono ?_
      rintro e1 w2 ⟨rfl, hw2⟩
      have HB0 := Lib.hid (grown_below ((Below.refl _ wr).alloc (Nat.le_refl _) (.cells (ecells e) 32)) hw2)
      have y0 : w2.cell? ⟨g, k * 2, none⟩ = some (.string e.s) := by rw [HB0.out.cell (p := ⟨g, k * 2, none⟩) hgw]; exact x0
      have z0 : w2.frozen? ⟨g, k * 2, none⟩ = false := by rw [HB0.out.frozen (p := ⟨g, k * 2, none⟩) hgw]; exact f0
      clear hw2 x0 x1 f0 f1
      go_wp2
      go_roundw
      case rel => exact ⟨k + 1, by omega, by go_num, (HO1.out.below HB0.out).setS HE.out, (HB1.out.trans (HB0.out.mono HB1.out.size)).setCell HG.out _⟩
      case measure => simp [intOf]; omega
    · obtain rfl : k = l.length := by omega
      go_wp2
      go_ret
      exact ⟨_, rfl, HO1.out, HB1.out⟩
end Go.Proofs.Ytbegnnohmahglaa
