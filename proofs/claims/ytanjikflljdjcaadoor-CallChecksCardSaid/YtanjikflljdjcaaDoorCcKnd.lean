import Derived.Test.YtanjikflljdjcaaDoorCcWrd
import Derived.Deep.MidRow
/-
  The project's Kind: the least place at which a word stands in the table.
-/
namespace Go.Proofs.YtanjikflljdjcaaDoor
open Wd U Go.RowKit Go.ChangeShapes Go.WideShapes Go.Sort
set_option linter.unusedVariables false
set_option maxRecDepth 100000

def wordsV : Array Value := #[.string (wordS (0 : Nat)), .string (wordS (1 : Nat)), .string (wordS (2 : Nat)), .string (wordS (3 : Nat)), .string (wordS (4 : Nat)), .string (wordS (5 : Nat)), .string (wordS (6 : Nat)), .string (wordS (7 : Nat)), .string (wordS (8 : Nat)), .string (wordS (9 : Nat)), .string (wordS (10 : Nat)), .string (wordS (11 : Nat)), .string (wordS (12 : Nat)), .string (wordS (13 : Nat)), .string (wordS (14 : Nat)), .string (wordS (15 : Nat)), .string (wordS (16 : Nat)), .string (wordS (17 : Nat))]
theorem wordsV_size : wordsV.size = 18 := rfl
theorem wordsV_at {j : Nat} (hj : j < 18) : wordsV[j]? = some (.string (wordS j)) := by
  match j, hj with
  | 0, _ => rfl
  | 1, _ => rfl
  | 2, _ => rfl
  | 3, _ => rfl
  | 4, _ => rfl
  | 5, _ => rfl
  | 6, _ => rfl
  | 7, _ => rfl
  | 8, _ => rfl
  | 9, _ => rfl
  | 10, _ => rfl
  | 11, _ => rfl
  | 12, _ => rfl
  | 13, _ => rfl
  | 14, _ => rfl
  | 15, _ => rfl
  | 16, _ => rfl
  | 17, _ => rfl
  | j + 18, hj => omega
theorem infoS : (Tryd.prog.info? 9).map (·.size) = some 1 := by kernel_rfl
theorem idxW {j : Nat} (hj : j < 18) (w : World) : (Instr.index 36 (.agg wordsV) (.int .i64 (j : Int))).run Tryd.prog w = .ok (.string (wordS j)) w := by
  have hs : (sizeOf 9).run Tryd.prog w = .ok 1 w := by
    have h := infoS
    cases hq : Tryd.prog.info? 9 with
    | none => rw [hq] at h; cases h
    | some i => rw [hq] at h; simp at h; simp [sizeOf, typeInfo, hq, h]
  have ha : (isAgg 9).run Tryd.prog w = .ok false w := by
    unfold isAgg
    rw [Sem.run_bind, run_underlying Tryd.underlying9 w]
    rfl
  have hk := wordsV_at hj
  unfold Instr.index
  simp [run_underlying Tryd.underlying36, asIntOf, part, Result.andThen, hs, ha, go_sem]
  rw [if_pos hj, hk]
  rfl
/-- the least place of a word from k on -/
def kindFrom (s : ByteArray) (k : Nat) : Int := if k < 18 then (if (wordS k).toList == s.toList then (k : Int) else kindFrom s (k + 1)) else 0
termination_by 18 - k
def kindS (s : ByteArray) : Int := kindFrom s 0
theorem kindFrom_yes {s : ByteArray} {k : Nat} (hk : k < 18) (h : ((wordS k).toList == s.toList) = true) : kindFrom s k = k := by rw [kindFrom, if_pos hk, if_pos h]
theorem kindFrom_no {s : ByteArray} {k : Nat} (hk : k < 18) (h : ((wordS k).toList == s.toList) = false) : kindFrom s k = kindFrom s (k + 1) := by rw [kindFrom, if_pos hk, if_neg (by rw [h]; simp)]
theorem kindFrom_end {s : ByteArray} {k : Nat} (hk : ¬ k < 18) : kindFrom s k = 0 := by rw [kindFrom, if_neg hk]
theorem Tabs.range {w : World} (hT : Tabs w) : w.rangeAt 0 0 wordsV.toList := by
  intro j v hj
  have hl : j < 18 := by have := (List.getElem?_eq_some_iff.1 hj).1; simpa [wordsV_size] using this
  rw [Array.getElem?_toList, wordsV_at hl] at hj
  cases hj
  rw [Nat.zero_add]
  exact hT.at_ hl
def KnRel (w : World) (s : ByteArray) (i : Value) (wr : World) : Prop := ∃ k : Nat, k ≤ 18 ∧ i = .int .i64 k ∧ kindS s = kindFrom s k ∧ (∃ q os, wr = grow (w.drewN q) os)
set_option maxHeartbeats 1000000 in
theorem cKind (s : ByteArray) {w : World} (hT : Tabs w) : Calls Tryd.prog 17 #[.string s] w (Grows (.int .i64 (kindS s)) w) := by
  have HR := hT.range
  clear hT
  go_enter Tryd.func17, Tryd.ntmps17
  go_wp2_with (refine wpList_load_mid rfl _ _ rfl 0 0 rfl wordsV.toList _ HR Tryd.underlying36 rfl (by kernel_rfl) ?_)
  clear HR
  go_loopw [6] (fun i wr => KnRel w s i wr) (fun i _ => 18 - (intOf i).toNat)
  case atStart => exact ⟨0, Nat.zero_le _, rfl, rfl, grow_none _⟩
  case round =>
    obtain ⟨k, hk, rfl, he, hg⟩ := hrel
    have HE := Lib.hid he; have HG := Lib.hid hg
    clear he hg
    by_cases hlt : k < 18
    · have r1 : decide (k < 18) = true := decide_eq_true hlt
      have r2 : (k : Int) < 18 := by omega
      have hx := idxW hlt
      cases q : ((wordS k).toList == s.toList)
      · have HS := Lib.hid (kindFrom_no hlt q)
        obtain ⟨x, hx'⟩ : ∃ x, wordS k = x := ⟨_, rfl⟩
        rw [hx'] at hx q
        clear hx'
        go_wp2
        go_roundw
        case rel => exact ⟨k + 1, by omega, by go_num, by rw [HE.out, HS.out], HG.out⟩
        case measure => simp [intOf]; omega
      · have HS := Lib.hid (kindFrom_yes hlt q)
        obtain ⟨x, hx'⟩ : ∃ x, wordS k = x := ⟨_, rfl⟩
        rw [hx'] at hx q
        clear hx'
        go_wp2
        go_ret
        exact ⟨by rw [HE.out, HS.out]; rfl, HG.out⟩
    · have HS := Lib.hid (kindFrom_end (s := s) hlt)
      obtain rfl : k = 18 := by omega
      clear hlt
      go_wp2
      go_ret
      exact ⟨by rw [HE.out, HS.out]; rfl, HG.out⟩
end Go.Proofs.YtanjikflljdjcaaDoor
