import Derived.Test.YtnoojhkkojijpaaDoorEfChk
import Derived.Test.YtnoojhkkojijpaaDoorTrue
/-
  The table of the kinds' words; the project's Word; a row of effects' Pages.
-/
namespace Go.Proofs.YtnoojhkkojijpaaDoor
open Wd U Go.RowKit Go.ChangeShapes Go.WideShapes Go.Sort
set_option linter.unusedVariables false

def Words9 : List (List UInt8) := [[], [109, 97, 107, 101], [108, 105, 110, 107], [117, 110, 108, 105, 110, 107], [114, 109, 100, 105, 114], [114, 101, 110, 97, 109, 101], [116, 114, 117, 110, 99], [119, 114, 105, 116, 101], [100, 114, 111, 112]]
/-- what the laid table holds -/
def Tabs (W : World) : Prop := ∀ (j : Nat) (s : List UInt8), Words9[j]? = some s → ∃ b : ByteArray, b.data.toList = s ∧ W.cell? ⟨0, j, none⟩ = some (.string b)
theorem Tabs.lt {w : World} (h : Tabs w) : 0 < w.heap.size := by
  obtain ⟨b, _, hb⟩ := h 0 [] rfl
  exact block_lt_of_cell (a := ⟨0, 0, none⟩) hb
theorem Tabs.below {w w' : World} (h : Tabs w) (hb : Below w.heap.size w w') : Tabs w' := fun j s hj => by
  obtain ⟨b, e, hc⟩ := h j s hj
  exact ⟨b, e, (hb.cell (p := ⟨0, j, none⟩) h.lt).trans hc⟩
def wordS (k : Int) : ByteArray := if 0 ≤ k ∧ k < 9 then ⟨((Words9[k.toNat]?).getD []).toArray⟩ else ⟨#[]⟩
theorem Tabs.at_ {w : World} (h : Tabs w) {j : Nat} (hj : j < 9) : w.cell? ⟨0, j, none⟩ = some (.string (wordS j)) := by
  have hl : j < Words9.length := hj
  obtain ⟨b, e, hc⟩ := h j _ (List.getElem?_eq_getElem hl)
  rw [hc]
  congr 2
  unfold wordS
  rw [if_pos (by omega), Int.toNat_natCast, List.getElem?_eq_getElem hl, Option.getD_some, ← e]
theorem wordS_empty (k : Int) : (wordS k).toList.isEmpty = (decide (k < 1) || decide (8 < k)) := by
  by_cases h : 0 ≤ k ∧ k < 9
  · obtain ⟨n, rfl⟩ := Int.eq_ofNat_of_zero_le h.1
    have hn : n < 9 := by omega
    match n, hn with
    | 0, _ => rw [Lib.toList_data]; rfl
    | 1, _ => rw [Lib.toList_data]; rfl
    | 2, _ => rw [Lib.toList_data]; rfl
    | 3, _ => rw [Lib.toList_data]; rfl
    | 4, _ => rw [Lib.toList_data]; rfl
    | 5, _ => rw [Lib.toList_data]; rfl
    | 6, _ => rw [Lib.toList_data]; rfl
    | 7, _ => rw [Lib.toList_data]; rfl
    | 8, _ => rw [Lib.toList_data]; rfl
    | n + 9, hn => omega
  · unfold wordS
    rw [if_neg h, Lib.toList_data]
    show true = _
    have : k < 1 ∨ 8 < k := by omega
    rcases this with h | h
    · rw [decide_eq_true h]; rfl
    · rw [decide_eq_true h, Bool.or_true]

theorem eWord (k : Int) {w : World} (hT : Tabs w) : Calls Tryd.prog 12 #[.int .i64 k] w (Grows (.string (wordS k)) w) := by
  by_cases h0 : k < 0
  · have q0 : decide (k < 0) = true := decide_eq_true h0
    have e : wordS k = ⟨#[]⟩ := by unfold wordS; rw [if_neg (by omega)]
    rw [e]
    clear e h0
    go_enter Tryd.func12, Tryd.ntmps12
    go_wp2
    go_ret
    exact ⟨rfl, grow_none _⟩
  · have q0 : decide (k < 0) = false := decide_eq_false h0
    by_cases h9 : k ≥ 9
    · have q1 : decide (k ≥ 9) = true := decide_eq_true h9
      have e : wordS k = ⟨#[]⟩ := by unfold wordS; rw [if_neg (by omega)]
      rw [e]
      clear e h0 h9
      go_enter Tryd.func12, Tryd.ntmps12
      go_wp2
      go_ret
      exact ⟨rfl, grow_none _⟩
    · have q1 : decide (k ≥ 9) = false := decide_eq_false h9
      obtain ⟨n, rfl⟩ := Int.eq_ofNat_of_zero_le (by omega : 0 ≤ k)
      have hc := hT.at_ (j := n) (by omega)
      have hn : n < 9 := by omega
      obtain ⟨s, hs⟩ : ∃ s, wordS n = s := ⟨_, rfl⟩
      rw [hs] at hc ⊢
      clear hs h0 h9 hT
      go_enter Tryd.func12, Tryd.ntmps12
      go_wp2
      go_ret
      exact ⟨rfl, grow_none _⟩
end Go.Proofs.YtnoojhkkojijpaaDoor
