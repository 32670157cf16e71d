import Derived.Test.YtcimmfhbffofjaaMC
import Derived.Test.YtcimmfhbffofjaaEfRef
import Derived.Test.YtcimmfhbffofjaaEfCel
import Derived.Test.YtcimmfhbffofjaaEfSame
import Derived.Lib.BufferWrite
import Derived.Lib.UnsafeStr
/-
  The project's small functions of layer 9: within, node, place, reaches, Touches; strings.Clone as 'returns its text, some blocks more'.
-/
namespace Go.Proofs.Ytcimmfhbffofjaa
open Wd U Go.RowKit Go.ChangeShapes Go.WideShapes Go.Sort
set_option linter.unusedVariables false

theorem Eff.Ok.at_ {e : Eff} {w w' : World} (h : e.Ok w w.heap.size) (b : Below w.heap.size w w') : e.Ok w' w'.heap.size := (h.below b).more b.size
/-- where nothing that was there has turned, and no draw is undone, the world has grown -/
theorem grow_of_below {w w' : World} (h : Below w.heap.size w w') (hd : w.drawn ≤ w'.drawn) : ∃ q os, w' = grow (w.drewN q) os := by
  refine ⟨w'.drawn - w.drawn, w'.heap.extract w.heap.size, ?_⟩
  obtain ⟨hp, tp, dr, os, out⟩ := w
  obtain ⟨hp', tp', dr', os', out'⟩ := w'
  obtain ⟨h1, h2, h3, h4, h5⟩ := h
  simp only at h1 h2 h3 h4 h5 hd
  subst h1 h2 h3
  have hh : hp' = hp ++ hp'.extract hp.size := by
    apply Array.ext_getElem?
    intro i
    by_cases hi : i < hp.size
    · rw [Array.getElem?_append_left hi]; exact h5 i hi
    · rw [Array.getElem?_append_right (by omega), Array.getElem?_extract]
      by_cases hj : i < hp'.size
      · rw [if_pos (by omega)]; congr 1; omega
      · rw [if_neg (by omega)]; exact Array.getElem?_eq_none (by omega)
  unfold grow World.drewN
  simp only [World.mk.injEq, and_true]
  exact ⟨hh, trivial, by omega⟩
theorem Grows.of_below {v : Value} {w w' : World} (h : Below w.heap.size w w') (hd : w.drawn ≤ w'.drawn) : Grows v w (.returned v) w' := ⟨rfl, grow_of_below h hd⟩
theorem Grows.drawn {v : Value} {w w' : World} {e : Ending} (h : Grows v w e w') : w.drawn ≤ w'.drawn := by
  obtain ⟨_, q, os, rfl⟩ := h
  show w.drawn ≤ w.drawn + q
  omega

theorem eWithin (x a b : Int) (w : World) : Calls Try.prog 50 #[.int .i64 x, .int .i64 a, .int .i64 b] w (Grows (.bool (decide (a ≤ x) && decide (x ≤ b))) w) := by
  by_cases h1 : a ≤ x
  · have q1 : decide (a ≤ x) = true := decide_eq_true h1
    by_cases h2 : x ≤ b
    · have q2 : decide (x ≤ b) = true := decide_eq_true h2
      rw [q1, q2]
      clear h1 h2
      go_enter Try.func50, Try.ntmps50
      go_wp2
      go_ret
      exact ⟨rfl, grow_none _⟩
    · have q2 : decide (x ≤ b) = false := decide_eq_false h2
      rw [q1, q2]
      clear h1 h2
      go_enter Try.func50, Try.ntmps50
      go_wp2
      go_ret
      exact ⟨rfl, grow_none _⟩
  · have q1 : decide (a ≤ x) = false := decide_eq_false h1
    rw [q1, Bool.false_and]
    clear h1
    go_enter Try.func50, Try.ntmps50
    go_wp2
    go_ret
    exact ⟨rfl, grow_none _⟩

theorem eNode (n : Int) (w : World) : Calls Try.prog 48 #[.int .i64 n] w (Grows (.bool (ndB n)) w) := by
  have e : (decide (1 ≤ n) && decide (n ≤ 1048576)) = ndB n := by unfold ndB; simp
  go_enter Try.func48, Try.ntmps48
  go_wp2_with fail
  refine (eWithin n 1 1048576 _).mono ?_
  rintro e' w1 ⟨rfl, hw⟩
  rw [e]
  go_wp2
  go_ret
  exact ⟨rfl, hw⟩

theorem ePlace (d : Int) (s : ByteArray) (hs : s.size ≤ 1000) (w : World) : Calls Try.prog 49 #[.int .i64 d, .string s] w (Grows (.bool (ndB d && nmB s)) w) := by
  have hb : (nameN s.toList == 0) = nmB s := by unfold nmB; rfl
  cases hd : ndB d
  · rw [Bool.false_and]
    go_enter Try.func49, Try.ntmps49
    go_wp2_with fail
    refine (eNode d _).mono ?_
    rintro e' w1 ⟨rfl, hw⟩
    rw [hd]
    go_wp2
    go_ret
    exact ⟨rfl, hw⟩
  · rw [Bool.true_and]
    obtain ⟨n, hn⟩ : ∃ n, nameN s.toList = n := ⟨_, rfl⟩
    rw [hn] at hb
    have HN := Lib.hid hn
    clear hn
    go_enter Try.func49, Try.ntmps49
    go_wp2_with fail
    refine (eNode d _).mono ?_
    rintro e' w1 ⟨rfl, hw⟩
    rw [hd]
    clear hd
    go_wp2_with fail
    refine (nCheck s hs _).mono ?_
    rintro e' w2 ⟨rfl, hw2⟩
    rw [HN.out]
    go_wp2
    go_ret
    exact ⟨rfl, grow_trans hw hw2⟩

/-- whether a file of that size may have that page -/
def rcB (page size : Int) : Bool := (decide (0 ≤ page) && decide (page ≤ 63)) && (decide (256 * page + 1 ≤ size) && decide (size ≤ 16384))
theorem eReaches (page size : Int) (w : World) : Calls Try.prog 51 #[.int .i64 page, .int .i64 size] w (Grows (.bool (rcB page size)) w) := by
  unfold rcB
  cases hp : (decide (0 ≤ page) && decide (page ≤ 63))
  · rw [Bool.false_and]
    go_enter Try.func51, Try.ntmps51
    go_wp2_with fail
    refine (eWithin page 0 63 _).mono ?_
    rintro e' w1 ⟨rfl, hw⟩
    rw [hp]
    go_wp2
    go_ret
    exact ⟨rfl, hw⟩
  · rw [Bool.true_and]
    simp at hp
    have g1 : wrap64 (256 * page) = 256 * page := by unfold wrap64; omega
    have g2 : wrap64 (256 * page + 1) = 256 * page + 1 := by unfold wrap64; omega
    have p0 : (decide (0 ≤ page) && decide (page ≤ 63)) = true := by simp; omega
    have P0 := Lib.hid p0
    clear hp p0
    go_enter Try.func51, Try.ntmps51
    go_wp2_with fail
    refine (eWithin page 0 63 _).mono ?_
    rintro e' w1 ⟨rfl, hw⟩
    rw [P0.out]
    go_wp2_with fail
    refine (eWithin size (256 * page + 1) 16384 _).mono ?_
    rintro e' w2 ⟨rfl, hw2⟩
    go_wp2
    go_ret
    exact ⟨rfl, grow_trans hw hw2⟩
