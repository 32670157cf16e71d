import Derived.Test.YtbegnnohmahglaaDiMath
import Derived.Test.YtbegnnohmahglaaEnCl
import Derived.Test.YtbegnnohmahglaaEnEq
namespace Go.Proofs.Ytbegnnohmahglaa
open Wd Ino Go.RowKit Go.ChangeShapes Go.WideShapes Go.Sort
set_option linter.unusedVariables false
set_option maxRecDepth 100000

/-! where a name stands, or would stand -/
theorem nLess (a b : ByteArray) (w : World) : Calls Try.prog 29 #[.string a, .string b] w (Grows (.bool (lessN a b)) w) := by
  go_enter Try.func29, Try.ntmps29
  go_wp2
  go_ret
  exact ⟨rfl, grow_none _⟩
/-- an entry's block: its two cells -/
def ecells (e : Ent) : Array Value := #[.string e.s, .int .i64 e.n]
theorem ecells2 {w : World} {g : Nat} {t : TypeId} {e : Ent} (h : Cells w g t (ecells e)) : w.cell? ⟨g, 0, none⟩ = some (.string e.s) ∧ w.cell? ⟨g, 1, none⟩ = some (.int .i64 e.n) := ⟨h.cell 0, h.cell 1⟩
def LookRel (s : ByteArray) (l : List Ent) (w : World) (v b i : Value) (wr : World) : Prop := ∃ (k m : Nat), k ≤ l.length ∧ b = .bool false ∧ i = .int .i64 k ∧ v = .int .i64 m ∧ (∀ x ∈ l.take k, nameIs s x = false) ∧
  ((m = l.length ∧ ∀ x ∈ l.take k, foreE s x = false) ∨ (m < k ∧ l.findIdx (foreE s) = m)) ∧ ∃ q os, wr = grow (w.drewN q) os
set_option maxHeartbeats 4000000 in
theorem dLook {w : World} {hi : Nat} {A : Option Addr} {c : Nat} {l : List Ent} (h : Ens w hi A l) (hh : hi ≤ w.heap.size) (hm : l.length ≤ 1000) (s : ByteArray) : Calls Try.prog 22 #[.slice A l.length c, .string s] w (Grows (.tuple #[.int .i64 (lookN s l), .bool (hasN s l)]) w) := by
  have H := Lib.hid h
  clear h
  go_enter Try.func22, Try.ntmps22
  go_wp2
  go_step3
  go_wp2
  go_step3
  go_wp2
  go_loopw [6, 7, 14] (fun v b i wr => LookRel s l w v b i wr) (fun _ _ i _ => l.length - (intOf i).toNat)
  case atStart => exact ⟨0, l.length, Nat.zero_le _, rfl, rfl, rfl, by simp, .inl ⟨rfl, by simp⟩, grow_none _⟩
  case round =>
    obtain ⟨k, m, hk, rfl, rfl, rfl, hno, hat, hgr⟩ := hrel
    have HNO := Lib.hid hno; have HAT := Lib.hid hat; have HG := Lib.hid hgr
    have hb := (Grows.below (e := .returned (.bool true)) ⟨rfl, hgr⟩).2
    have HB := Lib.hid hb
    clear hno hat hgr hb
    by_cases hlt : k < l.length
    · obtain ⟨e, he⟩ : ∃ e, l[k]? = some e := ⟨_, List.getElem?_eq_getElem hlt⟩
      obtain ⟨bl, off, rfl, hbB, x0, x1⟩ := ens_cells (H.out.below (HB.out.mono hh)) he
      have hlt2 : (k : Int) < (l.length : Int) := Int.ofNat_lt.2 hlt
      have HE := Lib.hid he
      clear he
      cases hn : nameIs s e with
      | true =>
        have q0 : (e.s.toList == s.toList) = true := hn
        have HR := Lib.hid (look_yes HNO.out HE.out hn)
        clear hn
        go_wp2_with fail
        rw [Exit.noGoto_ret]
        go_ret2
        exact ⟨by rw [HR.out.1, HR.out.2.1]; rfl, grow_alloc HG.out _⟩
      | false =>
        have q0 : (e.s.toList == s.toList) = false := hn
        have HN := Lib.hid (none_snoc HE.out HNO.out hn)
        clear hn
        by_cases hm2 : m < l.length
        · have hm3 : (m : Int) < (l.length : Int) := Int.ofNat_lt.2 hm2
          go_wp2_with fail
          go_roundw
          case rel => exact ⟨k + 1, m, by omega, rfl, by go_num, rfl, HN.out, by rcases HAT.out with h | h; omega; exact .inr ⟨by omega, h.2⟩, grow_alloc HG.out _⟩
          case measure => simp [intOf]; omega
        · have hm4 : m = l.length ∧ ∀ x ∈ l.take k, foreE s x = false := by rcases HAT.out with h | h; exact h; omega
          obtain ⟨rfl, hf⟩ := hm4
          have HF := Lib.hid hf
          clear hf hm2
          have K := Lib.hid (fun w => nLess s e.s w)
          cases hl : foreE s e with
          | true =>
            have hl2 : lessN s e.s = true := hl
            rw [hl2] at K
            have HL := Lib.hid (findIdx_at HF.out HE.out hl)
            clear hl hl2
            go_wp2_with fail
            refine (K.out _).mono ?_
            rintro e1 w2 ⟨rfl, hw2⟩
            have HW2 := Lib.hid hw2
            clear hw2
            go_wp2_with fail
            go_roundw
            case rel => exact ⟨k + 1, k, by omega, rfl, by go_num, rfl, HN.out, .inr ⟨by omega, HL.out⟩, grow_trans (grow_alloc HG.out _) HW2.out⟩
            case measure => simp [intOf]; omega
          | false =>
            have hl2 : lessN s e.s = false := hl
            rw [hl2] at K
            have HL := Lib.hid (none_snoc HE.out HF.out hl)
            clear hl hl2
            go_wp2_with fail
            refine (K.out _).mono ?_
            rintro e1 w2 ⟨rfl, hw2⟩
            have HW2 := Lib.hid hw2
            clear hw2
            go_wp2_with fail
            go_roundw
            case rel => exact ⟨k + 1, l.length, by omega, rfl, by go_num, rfl, HN.out, .inl ⟨rfl, HL.out⟩, grow_trans (grow_alloc HG.out _) HW2.out⟩
            case measure => simp [intOf]; omega
    · obtain rfl : k = l.length := by omega
      have hno := HNO.out
      rw [List.take_length] at hno
      have hm4 : l.findIdx (foreE s) = m := by
        rcases HAT.out with h | h
        · rw [List.take_length] at h; rw [h.1]; exact findIdx_all h.2
        · exact h.2
      have HR := Lib.hid (look_no hno)
      have HM := Lib.hid hm4
      clear hno hm4
      go_wp2_with fail
      rw [Exit.noGoto_ret]
      go_ret2
      exact ⟨by rw [HR.out.1, HR.out.2.1, HM.out]; rfl, HG.out⟩
end Go.Proofs.Ytbegnnohmahglaa
