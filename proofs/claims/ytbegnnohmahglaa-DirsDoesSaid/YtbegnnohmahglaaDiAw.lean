import Derived.Test.YtbegnnohmahglaaDiPut
import Derived.Test.YtbegnnohmahglaaDiNm
import Derived.Test.YtbegnnohmahglaaTrue
import Derived.Test.YtbegnnohmahglaaSpAll
namespace Go.Proofs.Ytbegnnohmahglaa
open Wd Ino Go.RowKit Go.ChangeShapes Go.WideShapes Go.Sort
set_option linter.unusedVariables false
set_option maxRecDepth 100000

/-! the statements' own awake, Few and count -/
def fewE (l : List Ent) : Bool := decide ((∀ e ∈ l, e.s.size ≤ 100) ∧ l.length ≤ 30)
def FewRel (l : List Ent) (w : World) (i : Value) (wr : World) : Prop := ∃ k : Nat, k ≤ l.length ∧ i = .int .i64 k ∧ (∀ e ∈ l.take k, e.s.size ≤ 100) ∧ ∃ q os, wr = grow (w.drewN q) os
set_option maxHeartbeats 4000000 in
theorem lFew {w : World} {hi : Nat} {A : Option Addr} {c : Nat} {l : List Ent} (h : Ens w hi A l) (hh : hi ≤ w.heap.size) (hm : l.length ≤ maxLen) (hs : ∀ e ∈ l, e.s.size ≤ maxLen) : Calls Try.prog 7 #[.slice A l.length c] w (Grows (.bool (fewE l)) w) := by
  have H := Lib.hid h; have HS := Lib.hid hs
  unfold maxLen at hm
  clear h hs
  go_enter Try.func7, Try.ntmps7
  go_wp2
  go_loopw [7] (fun i wr => FewRel l w i wr) (fun i _ => l.length - (intOf i).toNat)
  case atStart => exact ⟨0, Nat.zero_le _, rfl, by simp, grow_none _⟩
  case round =>
    obtain ⟨k, hk, rfl, hno, hgr⟩ := hrel
    have HNO := Lib.hid hno; have HG := Lib.hid hgr
    have HB := Lib.hid (grown_self hgr)
    clear hno hgr
    by_cases hlt : k < l.length
    · obtain ⟨e, he⟩ : ∃ e, l[k]? = some e := ⟨_, List.getElem?_eq_getElem hlt⟩
      obtain ⟨bl, off, rfl, hbB, x0, x1⟩ := ens_cells (H.out.below (HB.out.mono hh)) he
      have hlt2 : (k : Int) < (l.length : Int) := Int.ofNat_lt.2 hlt
      have HE := Lib.hid he
      have hse := HS.out e (List.mem_of_getElem? he)
      unfold maxLen at hse
      clear he
      by_cases hn : 100 < e.s.size
      · have q0 : decide ((100 : Int) < (e.s.size : Int)) = true := decide_eq_true (by omega)
        have HF := Lib.hid (show fewE l = false from decide_eq_false (fun h => by have := h.1 e (List.mem_of_getElem? HE.out); omega))
        clear hn
        go_wp2
        go_ret
        exact ⟨by rw [HF.out]; rfl, grow_alloc HG.out _⟩
      · have q0 : decide ((100 : Int) < (e.s.size : Int)) = false := decide_eq_false (by omega)
        have HN := Lib.hid (show ∀ x ∈ l.take (k + 1), x.s.size ≤ 100 by
          rw [take_snoc HE.out]
          intro x hx
          rcases List.mem_append.1 hx with hx | hx
          · exact HNO.out x hx
          · rw [List.mem_singleton.1 hx]; omega)
        clear hn
        go_wp2
        go_roundw
        case rel => exact ⟨k + 1, by omega, by go_num, HN.out, grow_alloc HG.out _⟩
        case measure => simp [intOf]; omega
    · obtain rfl : k = l.length := by omega
      have hno := HNO.out
      rw [List.take_length] at hno
      have HF := Lib.hid (show fewE l = decide (l.length ≤ 30) by
        unfold fewE
        by_cases h30 : l.length ≤ 30
        · rw [decide_eq_true h30]; exact decide_eq_true ⟨hno, h30⟩
        · rw [decide_eq_false h30]; exact decide_eq_false (fun h => h30 h.2))
      clear hno
      by_cases h30 : l.length ≤ 30
      · have q0 : decide ((l.length : Int) ≤ 30) = true := decide_eq_true (by omega)
        have HQ := Lib.hid (decide_eq_true h30)
        clear h30
        go_wp2
        go_ret
        exact ⟨by rw [HF.out, HQ.out]; rfl, HG.out⟩
      · have q0 : decide ((l.length : Int) ≤ 30) = false := decide_eq_false (by omega)
        have HQ := Lib.hid (decide_eq_false h30)
        clear h30
        go_wp2
        go_ret
        exact ⟨by rw [HF.out, HQ.out]; rfl, HG.out⟩

theorem lCount (b : Bool) (w : World) : Calls Try.prog 21 #[.bool b] w (Grows (.int .i64 (if b then 1 else 0)) w) := by
  cases b <;>
  · go_enter Try.func21, Try.ntmps21
    go_wp2
    go_ret
    exact ⟨rfl, grow_none _⟩

def aText : ByteArray := ⟨#[97]⟩
theorem lAwake (w : World) : Calls Try.prog 6 #[] w (TrueB w) := by
  have KP := Lib.hid (fun w => dPut (hi := 0) (c := 0) (Ens.nil w 0 none) (Nat.zero_le _) (by decide) (fun e he => absurd he (List.not_mem_nil)) aText (by decide) 2)
  rw [show putR aText 2 [] = [⟨aText, 2⟩] from rfl, show (!hasN aText []) = true from rfl] at KP
  have hn : nameIs aText ⟨aText, 2⟩ = true := nameIs_iff.2 rfl
  have HH := Lib.hid (show hasN aText [⟨aText, 2⟩] = true by unfold hasN; simp [hn])
  have HI := Lib.hid (show inoN aText [⟨aText, 2⟩] = 2 by unfold inoN; rw [if_pos hn])
  unfold aText at KP HH HI
  clear hn
  go_enter Try.func6, Try.ntmps6
  go_wp2_with fail
  refine (KP.out _).mono ?_
  rintro e1 w1 ⟨A1, c1, rfl, hc1, hx1, hb1⟩
  have HB1 := Lib.hid hb1
  have KF := Lib.hid (dFind (c := c1) hx1 (Nat.le_refl _) (by decide) ⟨#[97]⟩)
  rw [HH.out, HI.out] at KF
  clear hx1 hb1 KP
  go_wp2_with fail
  refine KF.out.mono ?_
  rintro e1 w2 hg
  obtain ⟨rfl, hb2⟩ := hg.below
  have HB2 := Lib.hid (HB1.out.trans (hb2.mono HB1.out.size))
  clear hg hb2 KF
  go_wp2
  go_ret
  exact ⟨rfl, HB2.out⟩
end Go.Proofs.Ytbegnnohmahglaa
