import Derived.Test.YtnjikgcigobcdaaGreatBlTr
namespace Go.Proofs.YtnjikgcigobcdaaGreat
open Wd Pm Go.Maps Go.RowKit Go.Sort
set_option linter.unusedVariables false

set_option maxRecDepth 100000 in
set_option maxHeartbeats 8000000 in
theorem lays_true (n at_ arm : Int) (harm : (Lit.int .i64 arm).wf = true) (A : Option Addr) (c : Nat) (l : List Deed) (A3 : Option Addr) (c3 : Nat) (ws : List Int) (w : World) (r1 : Deeds w w.heap.size A l) (m1 : l.length ≤ maxLen) (r3 : RowB w A3 ws) (u3 : ∀ v ∈ ws, U64 v) :
    Calls Tryz.prog 3 #[.int .i64 n, .slice A l.length c, .int .i64 at_, .slice A3 ws.length c3, .int .i64 arm] w (TrueB w) := by
  by_cases hall : fewB l = true ∧ ws.length ≤ 200 ∧ n ≤ 4096 ∧ 0 ≤ at_ ∧ at_ ≤ 5000
  · obtain ⟨f1, f3, hn, h0, h1⟩ := hall
    exact lays_go n at_ arm (i64_le harm) A c l A3 c3 ws w r1 m1 r3 u3 f1 f3 hn h0 h1
  have R1 := Lib.hid r1; have M1 := Lib.hid m1; have HALL := Lib.hid hall
  obtain ⟨L, hL⟩ : ∃ L, ws.length = L := ⟨_, rfl⟩
  have HL := Lib.hid hL
  rw [hL]
  clear r1 m1 r3 u3 hL hall harm
  go_enter Tryz.func3, Tryz.ntmps3
  go_wp2_with fail
  refine (awake_bank w).mono ?_
  rintro e w1 ⟨rfl, b1⟩
  go_wp2_with fail
  refine (few_any (deeds_at R1.out b1) M1.out).mono ?_
  rintro e w2 ⟨rfl, b2⟩
  have B := Lib.hid (b1.trans (b2.mono b1.size))
  clear b1 b2
  cases f1 : fewB l with
  | false =>
    clear f1
    go_wp2
    go_ret
    exact ⟨rfl, B.out⟩
  | true =>
    have F1 := Lib.hid f1
    clear f1
    go_wp2_with fail
    refine (few_is _ _ _ _).mono ?_
    rintro e w' ⟨rfl, rfl⟩
    by_cases f3 : L ≤ 200
    rotate_left
    · rw [decide_eq_false f3]
      clear f3
      go_wp2
      go_ret
      exact ⟨rfl, B.out⟩
    rw [decide_eq_true f3]
    by_cases c1 : n > 4096
    · have q1 : decide (n > 4096) = true := by simpa using c1
      go_wp2
      go_ret
      exact ⟨rfl, B.out⟩
    have q1 : decide (n > 4096) = false := by simpa using c1
    by_cases c2 : at_ < 0
    · have q2 : decide (at_ < 0) = true := by simpa using c2
      go_wp2
      go_ret
      exact ⟨rfl, B.out⟩
    have q2 : decide (at_ < 0) = false := by simpa using c2
    have c3' : at_ > 5000 := by
      by_cases h : at_ > 5000
      · exact h
      · exact absurd ⟨F1.out, by have := HL.out; omega, by omega, by omega, by omega⟩ HALL.out
    have q3 : decide (at_ > 5000) = true := by simpa using c3'
    go_wp2
    go_ret
    exact ⟨rfl, B.out⟩
end Go.Proofs.YtnjikgcigobcdaaGreat
