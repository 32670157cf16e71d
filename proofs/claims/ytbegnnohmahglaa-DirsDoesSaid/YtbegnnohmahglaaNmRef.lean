import Derived.Test.YtbegnnohmahglaaGrow
import Derived.IntWalk
import Derived.Laws.Strings
namespace Go.Proofs.Ytbegnnohmahglaa
open Wd Go.ChangeShapes Go.WideShapes Go.RowKit Go.Sort
set_option linter.unusedVariables false

/-- a byte that no name has -/
def badC (c : UInt8) : Bool := c == 47 || c == 0
/-- the error's number of a name -/
def plainN (l : List UInt8) : Int := if l.any badC then 22 else if 24 < l.length then 36 else 0
def nameN (l : List UInt8) : Int := if l = [] ∨ l = [46] ∨ l = [46, 46] then 22 else plainN l
def IntIs (v : Int) (w : World) (e : Ending) (w' : World) : Prop := e = .returned (.int .i64 v) ∧ w = w'

theorem size_list (s : ByteArray) : s.toList.length = s.size := by
  rw [ByteArray.toList_eq]; simp

def NameRel (s : ByteArray) (W : World) (i : Value) (w : World) : Prop := ∃ k : Nat, k ≤ s.size ∧ i = .int .i64 k ∧ (∀ c ∈ s.toList.take k, badC c = false) ∧ w = W

theorem name_odd (s : ByteArray) (w : World) (h : s.toList = [] ∨ s.toList = [46] ∨ s.toList = [46, 46]) : Calls Try.prog 20 #[.string s] w (IntIs 22 w) := by
  rcases h with h | h | h
  · have h1 : s.toList.isEmpty = true := by rw [h]; rfl
    go_enter Try.func20, Try.ntmps20
    go_wp2
    go_ret
    exact ⟨rfl, rfl⟩
  · have h1 : s.toList.isEmpty = false := by rw [h]; rfl
    have h2 : (s.toList == [46]) = true := by rw [h]; rfl
    clear h
    go_enter Try.func20, Try.ntmps20
    go_wp2
    go_ret
    exact ⟨rfl, rfl⟩
  · have h1 : s.toList.isEmpty = false := by rw [h]; rfl
    have h2 : (s.toList == [46]) = false := by rw [h]; rfl
    have h3 : (s.toList == [46, 46]) = true := by rw [h]; rfl
    clear h
    go_enter Try.func20, Try.ntmps20
    go_wp2
    go_ret
    exact ⟨rfl, rfl⟩

set_option maxHeartbeats 1000000 in
theorem name_plain (s : ByteArray) (w : World) (hs : s.size ≤ 1000) (h1 : s.toList.isEmpty = false) (h2 : (s.toList == [46]) = false) (h3 : (s.toList == [46, 46]) = false) : Calls Try.prog 20 #[.string s] w (IntIs (plainN s.toList) w) := by
  have hn : s.toList ≠ [] := by intro h; rw [h] at h1; cases h1
  go_enter Try.func20, Try.ntmps20
  go_wp2
  go_loopw [3] (fun i wr => NameRel s w i wr) (fun i _ => s.size - (intOf i).toNat)
  case atStart => exact ⟨0, Nat.zero_le _, rfl, by simp, rfl⟩
  case round =>
    obtain ⟨k, hk, rfl, hg, rfl⟩ := hrel
    have HG := Lib.hid hg
    clear hg
    by_cases hlt : k < s.size
    · have hl : k < s.toList.length := by rw [size_list]; exact hlt
      have hget : s.toList[k]? = some s[k] := by
        rw [List.getElem?_eq_getElem hl]
        congr 1
        simp [ByteArray.toList_eq]
        rfl
      have hmem : s[k] ∈ s.toList := List.mem_of_getElem? hget
      have ht : s.toList.take (k + 1) = s.toList.take k ++ [s[k]] := by rw [List.take_add_one, hget]; rfl
      by_cases hb : badC s[k] = true
      · have hany : s.toList.any badC = true := List.any_eq_true.2 ⟨_, hmem, hb⟩
        have HANY := Lib.hid (show plainN s.toList = 22 by unfold plainN; rw [if_pos hany])
        have hc : (s[k].toNat : Int) = 47 ∨ (s[k].toNat : Int) ≠ 47 ∧ (s[k].toNat : Int) = 0 := by
          unfold badC at hb
          simp only [Bool.or_eq_true, beq_iff_eq] at hb
          rcases hb with h | h
          · left; rw [h]; rfl
          · right; rw [h]; exact ⟨by decide, rfl⟩
        have HC := Lib.hid hc
        clear hany hb hget hmem ht hl hc
        rcases HC.out with hc | ⟨hc1, hc2⟩
        · have q1 : ((s[k].toNat : Int) == 47) = true := by simpa using hc
          clear hc
          go_wp2
          go_ret
          exact ⟨by rw [HANY.out]; rfl, rfl⟩
        · have q1 : ((s[k].toNat : Int) == 47) = false := by simpa using hc1
          have q2 : ((s[k].toNat : Int) == 0) = true := by simpa using hc2
          clear hc1 hc2
          go_wp2
          go_ret
          exact ⟨by rw [HANY.out]; rfl, rfl⟩
      · have hb' : badC s[k] = false := by simpa using hb
        have hq : ((s[k].toNat : Int) == 47) = false ∧ ((s[k].toNat : Int) == 0) = false := by
          unfold badC at hb'
          rw [Bool.or_eq_false_iff] at hb'
          refine ⟨?_, ?_⟩
          · rw [beq_eq_false_iff_ne]
            intro h
            have h47 : s[k].toNat = 47 := by omega
            have : s[k] = 47 := UInt8.toNat_inj.1 h47
            rw [this] at hb'
            exact absurd hb'.1 (by decide)
          · rw [beq_eq_false_iff_ne]
            intro h
            have h00 : s[k].toNat = 0 := by omega
            have : s[k] = 0 := UInt8.toNat_inj.1 h00
            rw [this] at hb'
            exact absurd hb'.2 (by decide)
        obtain ⟨q1, q2⟩ := hq
        have HT := Lib.hid ht; have HBB := Lib.hid hb'
        clear hb hb' hget hmem ht hl
        go_wp2
        go_roundw
        case rel =>
          refine ⟨k + 1, by omega, by go_num, ?_, rfl⟩
          rw [HT.out]
          intro c hc
          rcases List.mem_append.1 hc with h | h
          · exact HG.out c h
          · rw [List.mem_singleton.1 h]; exact HBB.out
        case measure => simp [intOf]; omega
    · obtain rfl : k = s.size := by omega
      have hany : ¬ s.toList.any badC = true := by
        intro h
        obtain ⟨c, hc, hb⟩ := List.any_eq_true.1 h
        have := HG.out c (by rw [List.take_of_length_le (by rw [size_list]; exact Nat.le_refl _)]; exact hc)
        rw [this] at hb; cases hb
      have hv : plainN s.toList = if 24 < s.size then 36 else 0 := by unfold plainN; rw [if_neg hany, size_list]
      have HV := Lib.hid hv
      clear hany hv
      by_cases h24 : 24 < s.size
      · go_wp2
        go_ret
        exact ⟨by rw [HV.out, if_pos h24]; rfl, rfl⟩
      · go_wp2
        go_ret
        exact ⟨by rw [HV.out, if_neg h24]; rfl, rfl⟩

theorem refName_any (s : ByteArray) (hs : s.size ≤ 1000) (w : World) : Calls Try.prog 20 #[.string s] w (IntIs (nameN s.toList) w) := by
  by_cases h : s.toList = [] ∨ s.toList = [46] ∨ s.toList = [46, 46]
  · have := name_odd s w h
    rwa [show nameN s.toList = 22 by unfold nameN; rw [if_pos h]]
  · have e : nameN s.toList = plainN s.toList := by unfold nameN; rw [if_neg h]
    rw [e]
    refine name_plain s w hs ?_ ?_ ?_
    · cases hl : s.toList with
      | nil => exact absurd (.inl hl) h
      | cons a t => rfl
    · rw [beq_eq_false_iff_ne]; exact fun h' => h (.inr (.inl h'))
    · rw [beq_eq_false_iff_ne]; exact fun h' => h (.inr (.inr h'))
end Go.Proofs.Ytbegnnohmahglaa
