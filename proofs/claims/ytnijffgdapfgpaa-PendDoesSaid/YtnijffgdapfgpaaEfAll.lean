import Derived.Test.YtnijffgdapfgpaaEfFew
import Derived.Test.YtnijffgdapfgpaaEfSame
import Derived.Test.YtnijffgdapfgpaaEfTch
import Derived.Test.YtnijffgdapfgpaaGrow
import Derived.WalkKit
import Derived.WalkMore
import Derived.BigQuiet
/-! The document's SameAll over effects that are the same (split off RcEq). -/
namespace Go.Proofs.Ytnijffgdapfgpaa
open Wd U Go.ChangeShapes Go.WideShapes Go.RowKit Go.Sort
set_option linter.unusedVariables false
set_option linter.unusedSimpArgs false
def CountGr (n : Nat) (W : World) (i : Value) (w : World) : Prop := ∃ k : Nat, k ≤ n ∧ i = .int .i64 k ∧ ∃ q os, w = grow (W.drewN q) os
set_option maxRecDepth 100000 in
set_option maxHeartbeats 4000000 in
theorem sameAll_eq (la lb : List Eff) (n : Nat) (ha : la.length = n) (hb : lb.length = n) (hn : n ≤ 1000) (hs : ∀ (j : Nat) (a b : Eff), la[j]? = some a → lb[j]? = some b → sameB a b = true) (A C : Option Addr) (c d : Nat) (w : World) (hx : Effs w w.heap.size A la) (hy : Effs w w.heap.size C lb) :
    Calls Try.prog 15 #[.slice A n c, .slice C n d] w (Grows (.bool true) w) := by
  have hfol : Try.prog.follows Departure.mixedOrders = true := by kernel_rfl
  have HX := Lib.hid hx; have HY := Lib.hid hy; have HLA := Lib.hid ha; have HLB := Lib.hid hb; have HSM := Lib.hid hs
  clear hx hy ha hb hs
  go_enter Try.func15, Try.ntmps15
  go_wp2
  go_loopw [13] (fun i wr => CountGr n w i wr) (fun i _ => n - (intOf i).toNat)
  case atStart => exact ⟨0, Nat.zero_le _, rfl, grow_none _⟩
  case round =>
    obtain ⟨k, hk, rfl, hg⟩ := hrel
    have HG := Lib.hid hg
    have hbw : Below w.heap.size w wr := by obtain ⟨q, os, rfl⟩ := hg; exact below_grow' w q os
    have HBW := Lib.hid hbw
    clear hg
    by_cases hlt : k < n
    · obtain ⟨a, ha⟩ : ∃ a, la[k]? = some a := ⟨_, List.getElem?_eq_getElem (by rw [HLA.out]; exact hlt)⟩
      obtain ⟨b, hb⟩ : ∃ b, lb[k]? = some b := ⟨_, List.getElem?_eq_getElem (by rw [HLB.out]; exact hlt)⟩
      have hsab := HSM.out k a b ha hb
      obtain ⟨b1, o1, rfl, h1, x0, x1, x2, x3, x4, x5, x6, x7, x8⟩ := effs_cells (HX.out.below hbw) ha
      obtain ⟨b2, o2, rfl, h2, y0, y1, y2, y3, y4, y5, y6, y7, y8⟩ := effs_cells (HY.out.below hbw) hb
      have xlt : b1 < wr.heap.size := Nat.lt_of_lt_of_le h1 hbw.size
      have ylt : b2 < wr.heap.size := Nat.lt_of_lt_of_le h2 hbw.size
      have xg0 := cell_grown (a := ⟨b1, o1 + k * 9, none⟩) xlt x0
      have xg1 := cell_grown (a := ⟨b1, o1 + k * 9 + 1, none⟩) xlt x1
      have xg2 := cell_grown (a := ⟨b1, o1 + k * 9 + 2, none⟩) xlt x2
      have xg3 := cell_grown (a := ⟨b1, o1 + k * 9 + 3, none⟩) xlt x3
      have xg4 := cell_grown (a := ⟨b1, o1 + k * 9 + 4, none⟩) xlt x4
      have xg5 := cell_grown (a := ⟨b1, o1 + k * 9 + 5, none⟩) xlt x5
      have xg6 := cell_grown (a := ⟨b1, o1 + k * 9 + 6, none⟩) xlt x6
      have xg7 := cell_grown (a := ⟨b1, o1 + k * 9 + 7, none⟩) xlt x7
      have xg8 := cell_grown (a := ⟨b1, o1 + k * 9 + 8, none⟩) xlt x8
      have yg0 := cell_grown (a := ⟨b2, o2 + k * 9, none⟩) ylt y0
      have yg1 := cell_grown (a := ⟨b2, o2 + k * 9 + 1, none⟩) ylt y1
      have yg2 := cell_grown (a := ⟨b2, o2 + k * 9 + 2, none⟩) ylt y2
      have yg3 := cell_grown (a := ⟨b2, o2 + k * 9 + 3, none⟩) ylt y3
      have yg4 := cell_grown (a := ⟨b2, o2 + k * 9 + 4, none⟩) ylt y4
      have yg5 := cell_grown (a := ⟨b2, o2 + k * 9 + 5, none⟩) ylt y5
      have yg6 := cell_grown (a := ⟨b2, o2 + k * 9 + 6, none⟩) ylt y6
      have yg7 := cell_grown (a := ⟨b2, o2 + k * 9 + 7, none⟩) ylt y7
      have yg8 := cell_grown (a := ⟨b2, o2 + k * 9 + 8, none⟩) ylt y8
      have OA := Lib.hid ((HX.out.ok a (List.mem_of_getElem? ha)).at_ hbw)
      have OB := Lib.hid ((HY.out.ok b (List.mem_of_getElem? hb)).at_ hbw)
      clear ha hb h1 h2 hbw xlt ylt x0 y0 x1 y1 x2 y2 x3 y3 x4 y4 x5 y5 x6 y6 x7 y7 x8 y8
      have hjl : (k : Int) < (n : Int) := by omega
      have hj0 : (0 : Int) ≤ (k : Int) := by omega
      have gb := fun n os => below_grow' wr n os
      have K0 := Lib.hid (fun n os => refSame_any a b (grow (wr.drewN n) os) (OA.out.at_ (gb n os)) (OB.out.at_ (gb n os)))
      rw [hsab] at K0
      clear gb hsab
      unfold Eff.val at K0
      go_wp2_with fail
      refine wp_region_quiet_grown hfol (by kernel_rfl) ?_
      repeat (go_big_quiet_step (first
        | (go_at_call 10; (with_reducible exact Grows.inAt K0.out _ _))))
      refine wpQuiet_nil ?_
      intro _ hw'
      obtain ⟨⟨nr, osr⟩, hw''⟩ := hw'
      subst hw''
      go_wp2
      go_roundw
      case rel => exact ⟨k + 1, by omega, by go_num, grow_trans HG.out ⟨nr, osr, rfl⟩⟩
      case measure => simp [intOf]; omega
    · obtain rfl : k = n := by omega
      go_wp2
      go_ret
      exact ⟨rfl, HG.out⟩
end Go.Proofs.Ytnijffgdapfgpaa
