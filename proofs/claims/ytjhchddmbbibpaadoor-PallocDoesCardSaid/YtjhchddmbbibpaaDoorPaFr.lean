import Derived.Test.YtjhchddmbbibpaaDoorPaTk
namespace Go.Proofs.YtjhchddmbbibpaaDoor
open Wd Pa Go.ChangeShapes Go.WideShapes Go.RowKit Go.Sort
set_option linter.unusedVariables false
def FreeRel (n : Nat) (ws : List Nat) (W : World) (i s : Value) (w : World) : Prop := ∃ k d c : Nat, k ≤ ws.length ∧ c = n - tot (ws.take k) ∧ i = .int .i64 k ∧ s = .int .i64 c ∧ w = W.drewN d
/-- it tells a number, and nothing but draws -/
def Counts (c : Nat) (w : World) (e : Ending) (w' : World) : Prop := e = .returned (.int .i64 c) ∧ ∃ d, w' = w.drewN d
section
variable {w : World} {B n : Nat} {f : Pp} {U : Nat → Bool} {ws : List Nat}
theorem take_all (ws : List Nat) : ws.take ws.length = ws := List.take_length
set_option maxRecDepth 100000 in
set_option maxHeartbeats 400000 in
theorem free_is (h : PgAt w B f n U ws) : Calls Tryd.prog 16 #[f.ptr] w (Counts (n - (upto U n).length) w) := by
  have hfew := h.few
  have KM := Lib.hid (made_yes h)
  have cN := h.cN
  have cW := h.cW
  have HW := Lib.hid h
  have hlen : ws.length < 16385 := by have := h.wds.len; omega
  unfold Pp.ptr at KM ⊢
  clear h
  go_enter Tryd.func16, Tryd.ntmps16
  go_wp2_with (go_at_call 26; refine KM.out.mono ?_; rintro e w1 ⟨rfl, rfl⟩)
  go_loopw [18, 3] (fun i s wr => FreeRel n ws w i s wr) (fun i _ _ => ws.length - (intOf i).toNat)
  case atStart => exact ⟨0, 0, n, Nat.zero_le _, by simp [tot], rfl, rfl, rfl⟩
  case round =>
    obtain ⟨k, d, c, hk, hc, rfl, rfl, rfl⟩ := hrel
    by_cases hlt : k < ws.length
    · have hlt2 : (k : Int) < (ws.length : Int) := Int.ofNat_lt.2 hlt
      obtain ⟨x, hx, hx2, _⟩ := HW.out.wds.word hlt
      have cx := (HW.out.drewN d).cX hx
      obtain ⟨t1, t2⟩ := tot_step HW.out.wds hx
      obtain ⟨o, ho⟩ : ∃ o, ones 64 x = o := ⟨_, rfl⟩
      have KO := Lib.hid (fun W => ones_is x hx2 W)
      rw [ho] at KO t1
      clear hx2 hx ho
      obtain ⟨c2, hc2⟩ : ∃ c2, n - tot (ws.take (k + 1)) = c2 := ⟨_, rfl⟩
      have q1 : wrap64 ((c : Int) - (o : Int)) = (c2 : Int) := by unfold wrap64; omega
      have HC := Lib.hid hc2
      clear hc hc2 t1 t2
      go_wp2_with (go_at_call 27; refine (KO.out _).mono ?_; rintro e w1 ⟨rfl, rfl⟩)
      go_roundw
      case rel => exact ⟨k + 1, d, c2, by omega, HC.out.symm, by go_num, by rw [q1], rfl⟩
      case measure => simp [intOf]; omega
    · obtain rfl : k = ws.length := by omega
      rw [take_all, tot_all HW.out.wds] at hc
      have HC := Lib.hid hc
      clear hc
      go_wp2
      go_ret
      exact ⟨by rw [← HC.out]; rfl, d, rfl⟩
end
end Go.Proofs.YtjhchddmbbibpaaDoor
