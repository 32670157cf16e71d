import Derived.Test.YtlfmfdbgchpjgaaExPo
import Derived.BigQuiet
namespace Go.Proofs.Ytlfmfdbgchpjgaa
open Wd Ex Go.RowKit Go.ChangeShapes Go.WideShapes Go.Sort
set_option linter.unusedVariables false
set_option maxRecDepth 100000
set_option maxHeartbeats 2000000 in
theorem xSameI (l : List Int) (n : Nat) (hL : l.length = n) (hn : n ≤ 1000) (A C : Option Addr) (c d B B' : Nat) (w : World) (hx : Row w B A n (l.map iv)) (hy : Row w B' C n (l.map iv)) :
    Calls Try.prog 17 #[.slice A n c, .slice C n d] w (Grows (.bool true) w) := by
  have HX := Lib.hid hx; have HY := Lib.hid hy; have HL := Lib.hid hL
  clear hx hy hL
  go_enter Try.func17, Try.ntmps17
  go_wp2
  go_loopw [13] (fun i wr => ∃ k q : Nat, k ≤ n ∧ i = .int .i64 k ∧ wr = w.drewN q) (fun i _ => n - (intOf i).toNat)
  case atStart => exact ⟨0, 0, Nat.zero_le _, rfl, rfl⟩
  case round =>
    obtain ⟨k, q, hk, rfl, rfl⟩ := hrel
    by_cases hlt : k < n
    · obtain ⟨b1, o1, x, rfl, _, gx, cx⟩ := HX.out.get hlt
      obtain ⟨b2, o2, y, rfl, _, gy, cy⟩ := HY.out.get hlt
      obtain rfl : x = y := by rw [gx] at gy; exact Option.some.inj gy
      unfold iv at cx cy
      clear gx gy
      go_wp2
      go_quiet (fail)
      go_wp2
      go_roundw
      case rel => exact ⟨k + 1, q + nq, by omega, by go_num, rfl⟩
      case measure => simp [intOf]; omega
    · obtain rfl : k = n := by omega
      go_wp2
      go_ret
      exact ⟨rfl, grow_drewN (grow_none _) _⟩
set_option maxHeartbeats 2000000 in
theorem xSameX {w : World} {lo hi lo' hi' : Nat} {A C : Option Addr} {c d : Nat} {l : List Ext} (hm : l.length ≤ 1000) (hx : Exs w lo hi A l) (hy : Exs w lo' hi' C l) :
    Calls Try.prog 11 #[.slice A l.length c, .slice C l.length d] w (Grows (.bool true) w) := by
  have HX := Lib.hid hx; have HY := Lib.hid hy
  clear hx hy
  go_enter Try.func11, Try.ntmps11
  go_wp2
  go_loopw [13] (fun i wr => ∃ k q : Nat, k ≤ l.length ∧ i = .int .i64 k ∧ wr = w.drewN q) (fun i _ => l.length - (intOf i).toNat)
  case atStart => exact ⟨0, 0, Nat.zero_le _, rfl, rfl⟩
  case round =>
    obtain ⟨k, q, hk, rfl, rfl⟩ := hrel
    by_cases hlt : k < l.length
    · obtain ⟨e, he⟩ : ∃ e, l[k]? = some e := ⟨_, List.getElem?_eq_getElem hlt⟩
      obtain ⟨b1, o1, rfl, _, _, x0, x1, x2⟩ := exs_cells HX.out he
      obtain ⟨b2, o2, rfl, _, _, y0, y1, y2⟩ := exs_cells HY.out he
      have hE := fun w => neX_any e e w
      rw [extEq_self] at hE
      unfold Ext.val at hE
      clear he
      go_wp2
      go_quiet (fail)
      go_wp2
      go_roundw
      case rel => exact ⟨k + 1, q + nq, by omega, by go_num, rfl⟩
      case measure => simp [intOf]; omega
    · obtain rfl : k = l.length := by omega
      go_wp2
      go_ret
      exact ⟨rfl, grow_drewN (grow_none _) _⟩
/-! whether extents are few -/
def fewB (l : List Ext) : Bool := decide (∀ e ∈ l, e.n ≤ 200) && decide (l.length ≤ 30)
theorem fewB_iff {l : List Ext} : fewB l = true ↔ (∀ e ∈ l, e.n ≤ 200) ∧ l.length ≤ 30 := by unfold fewB; simp
set_option maxHeartbeats 2000000 in
theorem xFew {w : World} {lo hi : Nat} {A : Option Addr} {c : Nat} {l : List Ext} (h : Exs w lo hi A l) (hh : hi ≤ w.heap.size) (hm : l.length ≤ maxLen) : Calls Try.prog 7 #[.slice A l.length c] w (Tells (.bool (fewB l)) w) := by
  have H := Lib.hid h
  unfold maxLen at hm
  clear h
  obtain ⟨F, hF⟩ : ∃ F, fewB l = F := ⟨_, rfl⟩
  rw [hF]
  have HF := Lib.hid hF
  clear hF
  go_enter Try.func7, Try.ntmps7
  go_wp2
  go_loopw [7] (fun i wr => ∃ k : Nat, k ≤ l.length ∧ i = .int .i64 k ∧ (∀ e ∈ l.take k, e.n ≤ 200) ∧ Below w.heap.size w wr) (fun i _ => l.length - (intOf i).toNat)
  case atStart => exact ⟨0, Nat.zero_le _, rfl, by simp, Below.refl _ _⟩
  case round =>
    obtain ⟨k, hk, rfl, hall, hb⟩ := hrel
    have HA := Lib.hid hall; have HB := Lib.hid hb
    clear hall
    by_cases hlt : k < l.length
    · obtain ⟨e, he⟩ : ∃ e, l[k]? = some e := ⟨_, List.getElem?_eq_getElem hlt⟩
      obtain ⟨b1, o1, rfl, _, _, x0, x1, x2⟩ := exs_cells (H.out.below (hb.mono hh)) he
      have hlt2 : (k : Int) < (l.length : Int) := Int.ofNat_lt.2 hlt
      have HE := Lib.hid he
      clear he hb
      by_cases q : 200 < e.n
      · obtain rfl : F = false := by
          cases F
          · rfl
          · have := (fewB_iff.1 HF.out).1 e (List.mem_of_getElem? HE.out); omega
        go_wp2
        go_ret
        exact ⟨rfl, HB.out.alloc HB.out.size _⟩
      · have HN := Lib.hid (show e.n ≤ 200 by omega)
        go_wp2
        go_roundw
        case rel =>
          refine ⟨k + 1, by omega, by go_num, ?_, HB.out.alloc HB.out.size _⟩
          intro x hx
          rw [List.take_add_one, HE.out] at hx
          rcases List.mem_append.1 hx with h | h
          · exact HA.out x h
          · obtain rfl : x = e := by simpa using h
            exact HN.out
        case measure => simp [intOf]; omega
    · obtain rfl : k = l.length := by omega
      by_cases h30 : l.length ≤ 30
      · obtain rfl : F = true := by rw [← HF.out]; exact fewB_iff.2 ⟨by have := HA.out; rwa [List.take_length] at this, h30⟩
        clear hb
        go_wp2
        go_ret
        exact ⟨by show Ending.returned (.bool (decide ((l.length : Int) ≤ 30))) = _; rw [decide_eq_true (by omega)], HB.out⟩
      · obtain rfl : F = false := by
          cases F
          · rfl
          · exact absurd (fewB_iff.1 HF.out).2 h30
        clear hb
        go_wp2
        go_ret
        exact ⟨by show Ending.returned (.bool (decide ((l.length : Int) ≤ 30))) = _; rw [decide_eq_false (by omega)], HB.out⟩
end Go.Proofs.Ytlfmfdbgchpjgaa
