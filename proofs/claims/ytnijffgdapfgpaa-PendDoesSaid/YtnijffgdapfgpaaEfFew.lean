import Derived.Test.YtnijffgdapfgpaaEfOpen
import Derived.WalkKit
import Derived.WalkMore
namespace Go.Proofs.Ytnijffgdapfgpaa
open Wd U Go.RowKit Go.ChangeShapes Go.WideShapes
set_option linter.unusedVariables false

/-! whether effects are few -/
def Eff.few (e : Eff) : Prop := e.data.length ≤ 300 ∧ e.name.size ≤ 100 ∧ e.other.size ≤ 100
instance (e : Eff) : Decidable e.few := by unfold Eff.few; exact inferInstance
def fewE (l : List Eff) : Bool := l.all (fun e => decide e.few) && decide (l.length ≤ 30)
theorem fewE_iff {l : List Eff} : fewE l = true ↔ (∀ e ∈ l, e.few) ∧ l.length ≤ 30 := by unfold fewE; simp
def FewERel (w : World) (l : List Eff) (i : Value) (wr : World) : Prop := ∃ k : Nat, k ≤ l.length ∧ i = .int .i64 k ∧ (∀ e ∈ l.take k, e.few) ∧ Below w.heap.size w wr
def RetB (w : World) (b : Bool) (e : Ending) (w' : World) : Prop := e = .returned (.bool b) ∧ Below w.heap.size w w'
theorem no_few {l : List Eff} {k : Nat} {e : Eff} (h : l[k]? = some e) (hn : ¬ e.few) : fewE l = false := by
  cases hf : fewE l
  · rfl
  · exact absurd ((fewE_iff.1 hf).1 e (List.mem_of_getElem? h)) hn
theorem effs_cells {w : World} {B : Nat} {A : Option Addr} {l : List Eff} (h : Effs w B A l) {k : Nat} {e : Eff} (hk : l[k]? = some e) : ∃ b off, A = some ⟨b, off, none⟩ ∧ b < B ∧
    w.cell? ⟨b, off + k * 9, none⟩ = some (.int .i64 e.kind) ∧ w.cell? ⟨b, off + k * 9 + 1, none⟩ = some (.int .i64 e.ino) ∧ w.cell? ⟨b, off + k * 9 + 2, none⟩ = some (.int .i64 e.dir) ∧ w.cell? ⟨b, off + k * 9 + 3, none⟩ = some (.int .i64 e.dst) ∧
    w.cell? ⟨b, off + k * 9 + 4, none⟩ = some (.int .i64 e.page) ∧ w.cell? ⟨b, off + k * 9 + 5, none⟩ = some (.int .i64 e.size) ∧ w.cell? ⟨b, off + k * 9 + 6, none⟩ = some (.string e.name) ∧ w.cell? ⟨b, off + k * 9 + 7, none⟩ = some (.string e.other) ∧
    w.cell? ⟨b, off + k * 9 + 8, none⟩ = some (.slice e.A e.data.length e.cp) := by
  obtain ⟨b, off, rfl, hb, hx⟩ := h.at_ (by have := (List.getElem?_eq_some_iff.1 hk).1; omega)
  have g := hx k e hk
  exact ⟨b, off, rfl, hb, g 0 _ rfl, g 1 _ rfl, g 2 _ rfl, g 3 _ rfl, g 4 _ rfl, g 5 _ rfl, g 6 _ rfl, g 7 _ rfl, g 8 _ rfl⟩
theorem take_snocE {α : Type} {l : List α} {k : Nat} {x : α} (h : l[k]? = some x) : l.take (k + 1) = l.take k ++ [x] := by rw [List.take_add_one, h]; rfl

set_option maxRecDepth 100000 in
set_option maxHeartbeats 1000000 in
theorem few_any {w : World} {A : Option Addr} {c : Nat} {l : List Eff} (h : Effs w w.heap.size A l) (hm : l.length ≤ maxLen) : Calls Try.prog 6 #[.slice A l.length c] w (RetB w (fewE l)) := by
  unfold maxLen at hm
  go_enter Try.func6, Try.ntmps6
  go_wp2
  go_loopw [7] (fun i wr => FewERel w l i wr) (fun i _ => l.length - (intOf i).toNat)
  case atStart => exact ⟨0, Nat.zero_le _, rfl, by simp, Below.refl _ _⟩
  case round =>
    obtain ⟨k, hk, rfl, hall, hb⟩ := hrel
    by_cases hlt : k < l.length
    · obtain ⟨e, he⟩ : ∃ e, l[k]? = some e := ⟨_, List.getElem?_eq_getElem hlt⟩
      have hD := h.below hb
      obtain ⟨b, off, rfl, hbB, x0, x1, x2, x3, x4, x5, x6, x7, x8⟩ := effs_cells hD he
      have ok := hD.ok e (List.mem_of_getElem? he)
      have le1 := ok.le
      have le2 := ok.name
      have le3 := ok.other
      unfold maxLen at le1 le2 le3
      have HB := Lib.hid hb; have HA := Lib.hid hall; have HE := Lib.hid he
      clear hD hb hall he ok
      have hkl : (k : Int) < (l.length : Int) := by omega
      by_cases q1 : e.data.length ≤ 300
      · have p1 : decide ((e.data.length : Int) > 300) = false := decide_eq_false (by omega)
        by_cases q2 : e.name.size ≤ 100
        · have p2 : decide ((e.name.size : Int) > 100) = false := decide_eq_false (by omega)
          by_cases q3 : e.other.size ≤ 100
          · have p3 : decide ((e.other.size : Int) > 100) = false := decide_eq_false (by omega)
            have HF := Lib.hid (⟨q1, q2, q3⟩ : e.few)
            go_wp2
            go_roundw
            case rel =>
              refine ⟨k + 1, by omega, by go_num, ?_, HB.out.alloc HB.out.size _⟩
              rw [take_snocE HE.out]
              intro x hx
              rcases List.mem_append.1 hx with h | h
              · exact HA.out x h
              · simp at h; subst h; exact HF.out
            case measure => simp [intOf]; omega
          · have p3 : decide ((e.other.size : Int) > 100) = true := decide_eq_true (by omega)
            have HF := Lib.hid (no_few HE.out fun f => q3 f.2.2)
            clear q3
            go_wp2
            go_ret
            exact ⟨by rw [HF.out]; rfl, HB.out.alloc HB.out.size _⟩
        · have p2 : decide ((e.name.size : Int) > 100) = true := decide_eq_true (by omega)
          have HF := Lib.hid (no_few HE.out fun f => q2 f.2.1)
          clear q2
          go_wp2
          go_ret
          exact ⟨by rw [HF.out]; rfl, HB.out.alloc HB.out.size _⟩
      · have p1 : decide ((e.data.length : Int) > 300) = true := decide_eq_true (by omega)
        have HF := Lib.hid (no_few HE.out fun f => q1 f.1)
        clear q1
        go_wp2
        go_ret
        exact ⟨by rw [HF.out]; rfl, HB.out.alloc HB.out.size _⟩
    · obtain rfl : k = l.length := by omega
      have e : fewE l = decide ((l.length : Int) ≤ 30) := by
        unfold fewE
        rw [List.all_eq_true.2 (fun d hd => by simpa using hall d (by rw [List.take_of_length_le (Nat.le_refl _)]; exact hd)), Bool.true_and]
        by_cases h30 : l.length ≤ 30
        · rw [decide_eq_true h30, decide_eq_true (by omega)]
        · rw [decide_eq_false h30, decide_eq_false (by omega)]
      have HE := Lib.hid e
      have HB := Lib.hid hb
      clear hb hall e h
      go_wp2
      go_ret
      exact ⟨by rw [HE.out]; simp, HB.out⟩
end Go.Proofs.Ytnijffgdapfgpaa
