import Derived.Test.YtnoojhkkojijpaaDoorEfFew
import Derived.Test.YtnoojhkkojijpaaDoorEfSml
namespace Go.Proofs.YtnoojhkkojijpaaDoor
open Wd U Go.RowKit Go.ChangeShapes Go.WideShapes Go.Sort
set_option linter.unusedVariables false
def pagesT (l : List Eff) : Nat := (l.filter (fun e => decide (e.kind = 7))).length
theorem pagesT_take {l : List Eff} {k : Nat} {e : Eff} (h : l[k]? = some e) : pagesT (l.take (k + 1)) = pagesT (l.take k) + (if e.kind = 7 then 1 else 0) := by
  unfold pagesT
  rw [take_snocE h, List.filter_append, List.length_append]
  by_cases h7 : e.kind = 7 <;> simp [h7]
def PgRel (w : World) (l : List Eff) (m i : Value) (wr : World) : Prop := ∃ k : Nat, k ≤ l.length ∧ i = .int .i64 k ∧ m = .int .i64 (pagesT (l.take k)) ∧ pagesT (l.take k) ≤ k ∧ Below w.heap.size w wr
set_option maxRecDepth 100000 in
set_option maxHeartbeats 1000000 in
theorem ePages {w : World} {A : Option Addr} {c : Nat} {l : List Eff} (h : Effs w w.heap.size A l) (hm : l.length ≤ 1000) : Calls Tryd.prog 16 #[.slice A l.length c] w fun e w' => e = .returned (.int .i64 (pagesT l)) ∧ Below w.heap.size w w' := by
  go_enter Tryd.func16, Tryd.ntmps16
  go_wp2
  go_loopw [3, 8] (fun m i wr => PgRel w l m i wr) (fun m i _ => l.length - (intOf i).toNat)
  case atStart => exact ⟨0, Nat.zero_le _, rfl, rfl, Nat.le_refl _, Below.refl _ _⟩
  case round =>
    obtain ⟨k, hk, rfl, rfl, hle, hb⟩ := hrel
    by_cases hlt : k < l.length
    · obtain ⟨e, he⟩ : ∃ e, l[k]? = some e := ⟨_, List.getElem?_eq_getElem hlt⟩
      have hD := h.below hb
      obtain ⟨b, off, rfl, hbB, x0, x1, x2, x3, x4, x5, x6, x7, x8⟩ := effs_cells hD he
      have hs := pagesT_take he
      obtain ⟨m, hm'⟩ : ∃ m, pagesT (l.take k) = m := ⟨_, rfl⟩
      rw [hm'] at hs hle ⊢
      have HB := Lib.hid hb; have HS := Lib.hid hs; have HE := Lib.hid he
      clear hD hb he hs hm'
      have hkl : (k : Int) < (l.length : Int) := by omega
      by_cases q : e.kind = 7
      · have q1 : (e.kind == 7) = true := by simpa using q
        have HQ := Lib.hid q
        clear q
        have hwr : wrap64 ((m : Int) + 1) = ((m + 1 : Nat) : Int) := by unfold wrap64; omega
        go_wp2
        go_roundw
        case rel => exact ⟨k + 1, by omega, by go_num, by rw [HS.out, if_pos HQ.out]; go_num, by rw [HS.out, if_pos HQ.out]; omega, HB.out.alloc HB.out.size _⟩
        case measure => simp [intOf]; omega
      · have q1 : (e.kind == 7) = false := by simpa using q
        have HQ := Lib.hid q
        clear q
        go_wp2
        go_roundw
        case rel => exact ⟨k + 1, by omega, by go_num, by rw [HS.out, if_neg HQ.out]; rfl, by rw [HS.out, if_neg HQ.out]; omega, HB.out.alloc HB.out.size _⟩
        case measure => simp [intOf]; omega
    · obtain rfl : k = l.length := by omega
      rw [List.take_of_length_le (Nat.le_refl _)] at hle ⊢
      obtain ⟨m, hm'⟩ : ∃ m, pagesT l = m := ⟨_, rfl⟩
      rw [hm'] at hle ⊢
      have HM := Lib.hid hm'
      have HB := Lib.hid hb
      clear hb h hm'
      go_wp2
      go_ret
      exact ⟨by rw [HM.out]; rfl, HB.out⟩
end Go.Proofs.YtnoojhkkojijpaaDoor
