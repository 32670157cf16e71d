import Derived.Test.YtanjikflljdjcaaDoorCcOpen
import Derived.Test.YtanjikflljdjcaaDoorTrue
import Derived.WalkKit
import Derived.WalkMore
/-
  The table of the kinds' words; both Words.
-/
namespace Go.Proofs.YtanjikflljdjcaaDoor
open Wd U Go.RowKit Go.ChangeShapes Go.WideShapes Go.Sort
set_option linter.unusedVariables false

def Words18 : List (List UInt8) := [[], [111, 112, 101, 110], [99, 108, 111, 115, 101], [114, 101, 97, 100], [119, 114, 105, 116, 101], [112, 114, 101, 97, 100], [112, 119, 114, 105, 116, 101], [115, 101, 101, 107], [102, 115, 121, 110, 99], [115, 121, 110, 99], [109, 107, 100, 105, 114], [114, 109, 100, 105, 114], [108, 105, 110, 107], [117, 110, 108, 105, 110, 107], [114, 101, 110, 97, 109, 101], [116, 114, 117, 110, 99, 97, 116, 101], [115, 116, 97, 116], [108, 105, 115, 116]]
/-- what the laid table holds -/
def Tabs (W : World) : Prop := ∀ (j : Nat) (s : List UInt8), Words18[j]? = some s → ∃ b : ByteArray, b.data.toList = s ∧ W.cell? ⟨0, j, none⟩ = some (.string b)
theorem Tabs.lt {w : World} (h : Tabs w) : 0 < w.heap.size := by
  obtain ⟨b, _, hb⟩ := h 0 [] rfl
  exact block_lt_of_cell (a := ⟨0, 0, none⟩) hb
theorem Tabs.below {w w' : World} (h : Tabs w) (hb : Below w.heap.size w w') : Tabs w' := fun j s hj => by
  obtain ⟨b, e, hc⟩ := h j s hj
  exact ⟨b, e, (hb.cell (p := ⟨0, j, none⟩) h.lt).trans hc⟩
def wordS (k : Int) : ByteArray := if 0 ≤ k ∧ k < 18 then ⟨((Words18[k.toNat]?).getD []).toArray⟩ else ⟨#[]⟩
theorem Tabs.at_ {w : World} (h : Tabs w) {j : Nat} (hj : j < 18) : w.cell? ⟨0, j, none⟩ = some (.string (wordS j)) := by
  have hl : j < Words18.length := hj
  obtain ⟨b, e, hc⟩ := h j _ (List.getElem?_eq_getElem hl)
  rw [hc]
  congr 2
  unfold wordS
  rw [if_pos (by omega), Int.toNat_natCast, List.getElem?_eq_getElem hl, Option.getD_some, ← e]
theorem wordS_list (k : Nat) (hk : k < 18) : (wordS k).toList = (Words18[k]?).getD [] := by
  unfold wordS
  rw [if_pos (by omega), Int.toNat_natCast, Lib.toList_data]
theorem words18_ne : ∀ i j : Fin 18, ((Words18[i.val]?).getD [] == (Words18[j.val]?).getD []) = decide (i = j) := by decide +kernel
theorem words18_empty : ∀ i : Fin 18, ((Words18[i.val]?).getD []).isEmpty = decide (i.val = 0) := by decide +kernel
theorem wordS_eq {a b : Nat} (ha : a < 18) (hb : b < 18) : ((wordS a).toList == (wordS b).toList) = decide (a = b) := by
  rw [wordS_list a ha, wordS_list b hb]
  have := words18_ne ⟨a, ha⟩ ⟨b, hb⟩
  rw [this]
  simp [Fin.ext_iff]
theorem wordS_out {k : Int} (h : k < 1 ∨ 17 < k) : wordS k = ⟨#[]⟩ := by
  by_cases h0 : k = 0
  · subst h0; rfl
  · unfold wordS; rw [if_neg (by omega)]
theorem wordS_empty (k : Int) : (wordS k).toList.isEmpty = (decide (k < 1) || decide (17 < k)) := by
  by_cases h : k < 1 ∨ 17 < k
  · rw [wordS_out h, Lib.toList_data]
    rcases h with h | h
    · rw [decide_eq_true h]; rfl
    · rw [decide_eq_true h, Bool.or_true]; rfl
  · obtain ⟨n, rfl⟩ := Int.eq_ofNat_of_zero_le (by omega : 0 ≤ k)
    rw [wordS_list n (by omega)]
    have := words18_empty ⟨n, by omega⟩
    rw [this, decide_eq_false (by show ¬ n = 0; omega), decide_eq_false (by omega), decide_eq_false (by omega)]
    rfl

theorem cWord (k : Int) {w : World} (hT : Tabs w) : Calls Tryd.prog 9 #[.int .i64 k] w (Grows (.string (wordS k)) w) := by
  by_cases h0 : k < 0
  · have q0 : decide (k < 0) = true := decide_eq_true h0
    have e : wordS k = ⟨#[]⟩ := by unfold wordS; rw [if_neg (by omega)]
    rw [e]
    clear e h0
    go_enter Tryd.func9, Tryd.ntmps9
    go_wp2
    go_ret
    exact ⟨rfl, grow_none _⟩
  · have q0 : decide (k < 0) = false := decide_eq_false h0
    by_cases h9 : k ≥ 18
    · have q1 : decide (k ≥ 18) = true := decide_eq_true h9
      have e : wordS k = ⟨#[]⟩ := by unfold wordS; rw [if_neg (by omega)]
      rw [e]
      clear e h0 h9
      go_enter Tryd.func9, Tryd.ntmps9
      go_wp2
      go_ret
      exact ⟨rfl, grow_none _⟩
    · have q1 : decide (k ≥ 18) = false := decide_eq_false h9
      obtain ⟨n, rfl⟩ := Int.eq_ofNat_of_zero_le (by omega : 0 ≤ k)
      have hc := hT.at_ (j := n) (by omega)
      have hn : n < 18 := by omega
      obtain ⟨s, hs⟩ : ∃ s, wordS n = s := ⟨_, rfl⟩
      rw [hs] at hc ⊢
      clear hs h0 h9 hT
      go_enter Tryd.func9, Tryd.ntmps9
      go_wp2
      go_ret
      exact ⟨rfl, grow_none _⟩
def wcells18 : Array Value := #[.string ⟨#[]⟩, .string ⟨#[111, 112, 101, 110]⟩, .string ⟨#[99, 108, 111, 115, 101]⟩, .string ⟨#[114, 101, 97, 100]⟩, .string ⟨#[119, 114, 105, 116, 101]⟩, .string ⟨#[112, 114, 101, 97, 100]⟩, .string ⟨#[112, 119, 114, 105, 116, 101]⟩, .string ⟨#[115, 101, 101, 107]⟩, .string ⟨#[102, 115, 121, 110, 99]⟩, .string ⟨#[115, 121, 110, 99]⟩, .string ⟨#[109, 107, 100, 105, 114]⟩, .string ⟨#[114, 109, 100, 105, 114]⟩, .string ⟨#[108, 105, 110, 107]⟩, .string ⟨#[117, 110, 108, 105, 110, 107]⟩, .string ⟨#[114, 101, 110, 97, 109, 101]⟩, .string ⟨#[116, 114, 117, 110, 99, 97, 116, 101]⟩, .string ⟨#[115, 116, 97, 116]⟩, .string ⟨#[108, 105, 115, 116]⟩]
theorem wcells_at (n : Nat) (hn : n < 18) : wcells18[n]? = some (.string (wordS n)) := by
  match n, hn with
  | 0, _ => rfl
  | 1, _ => rfl
  | 2, _ => rfl
  | 3, _ => rfl
  | 4, _ => rfl
  | 5, _ => rfl
  | 6, _ => rfl
  | 7, _ => rfl
  | 8, _ => rfl
  | 9, _ => rfl
  | 10, _ => rfl
  | 11, _ => rfl
  | 12, _ => rfl
  | 13, _ => rfl
  | 14, _ => rfl
  | 15, _ => rfl
  | 16, _ => rfl
  | 17, _ => rfl
  | n + 18, hn => omega
set_option maxRecDepth 100000 in
theorem rWord (k : Int) (w : World) : Calls Tryd.prog 10 #[.int .i64 k] w (Grows (.string (wordS k)) w) := by
  by_cases h0 : k < 1
  · have q0 : decide (k < 1) = true := decide_eq_true h0
    have e : wordS k = ⟨#[]⟩ := wordS_out (.inl h0)
    rw [e]
    clear e h0
    go_enter Tryd.func10, Tryd.ntmps10
    go_wp2
    go_ret
    exact ⟨rfl, grow_one _ _⟩
  · have q0 : decide (k < 1) = false := decide_eq_false h0
    by_cases h9 : k > 17
    · have q1 : decide (k > 17) = true := decide_eq_true h9
      have e : wordS k = ⟨#[]⟩ := wordS_out (.inr h9)
      rw [e]
      clear e h0 h9
      go_enter Tryd.func10, Tryd.ntmps10
      go_wp2
      go_ret
      exact ⟨rfl, grow_one _ _⟩
    · have q1 : decide (k > 17) = false := decide_eq_false h9
      obtain ⟨n, rfl⟩ := Int.eq_ofNat_of_zero_le (by omega : 0 ≤ k)
      have hn : n < 18 := by omega
      have hc : (w.alloc (.cells wcells18 9)).cell? ⟨w.heap.size, n, none⟩ = some (.string (wordS n)) := by rw [(Cells.new w 9 wcells18).cell]; exact wcells_at n hn
      unfold wcells18 at hc
      obtain ⟨s, hs⟩ : ∃ s, wordS n = s := ⟨_, rfl⟩
      rw [hs] at hc ⊢
      clear hs h0 h9
      go_enter Tryd.func10, Tryd.ntmps10
      go_wp2
      go_ret
      exact ⟨rfl, grow_one _ _⟩
end Go.Proofs.YtanjikflljdjcaaDoor
