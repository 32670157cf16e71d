import Derived.Test.YtdfgehmabfacbaaCaRow
import Derived.BigQuiet
/-! The document's SameInts where both are alike; numbers found and left out. -/
namespace Go.Proofs.Ytdfgehmabfacbaa
open Wd Sm Go.RowKit Go.ChangeShapes Go.WideShapes Go.Sort
set_option linter.unusedVariables false
set_option maxRecDepth 100000
set_option maxHeartbeats 2000000 in
theorem cSameI (l : List Int) (n : Nat) (hL : l.length = n) (hn : n ≤ 1000) (A C : Option Addr) (c d B B' : Nat) (w : World) (hx : Row w B A n (l.map iz)) (hy : Row w B' C n (l.map iz)) :
    Calls Try.prog 11 #[.slice A n c, .slice C n d] w (Grows (.bool true) w) := by
  have HX := Lib.hid hx; have HY := Lib.hid hy; have HL := Lib.hid hL
  clear hx hy hL
  go_enter Try.func11, Try.ntmps11
  go_wp2
  go_loopw [13] (fun i wr => ∃ k q : Nat, k ≤ n ∧ i = .int .i64 k ∧ wr = w.drewN q) (fun i _ => n - (intOf i).toNat)
  case atStart => exact ⟨0, 0, Nat.zero_le _, rfl, rfl⟩
  case round =>
    obtain ⟨k, q, hk, rfl, rfl⟩ := hrel
    by_cases hlt : k < n
    · obtain ⟨b1, o1, x, rfl, _, gx, cx⟩ := HX.out.get hlt
      obtain ⟨b2, o2, y, rfl, _, gy, cy⟩ := HY.out.get hlt
      obtain rfl : x = y := by rw [gx] at gy; exact Option.some.inj gy
      unfold iz at cx cy
      clear gx gy
      go_wp2
      go_quiet (fail)
      go_wp2
      go_roundw
      case rel => exact ⟨k + 1, q + nq, by omega, by go_num, rfl⟩
      case measure => simp [intOf]; omega
    · obtain rfl : k = n := by omega
      go_wp2
      go_ret
      exact ⟨rfl, grow_drewN (grow_none _) _⟩
theorem rise_lt {l : List Int} (h : l.Pairwise (· < ·)) {s t : Nat} {x y : Int} (hst : s < t) (hs : l[s]? = some x) (ht : l[t]? = some y) : x < y := by
  obtain ⟨h1, rfl⟩ := List.getElem?_eq_some_iff.1 hs
  obtain ⟨h2, rfl⟩ := List.getElem?_eq_some_iff.1 ht
  exact List.pairwise_iff_getElem.1 h s t h1 h2 hst
theorem filter_at : ∀ {l : List Int} {s : Nat} {y : Int}, l.Pairwise (· < ·) → l[s]? = some y → l.filter (fun x => decide (x ≠ y)) = l.take s ++ l.drop (s + 1)
  | [], s, y, _, h => by simp at h
  | x :: l, 0, y, hp, h => by
    obtain rfl : x = y := by simpa using h
    have hp' := List.pairwise_cons.1 hp
    rw [List.filter_cons_of_neg (by simp)]
    simp only [List.take_zero, List.nil_append, List.drop_succ_cons, List.drop_zero, Nat.zero_add]
    exact List.filter_eq_self.2 fun a ha => by
      have := hp'.1 a ha
      rw [decide_eq_true_eq]
      omega
  | x :: l, s + 1, y, hp, h => by
    have hp' := List.pairwise_cons.1 hp
    have h' : l[s]? = some y := by simpa using h
    have hy : y ∈ l := List.mem_of_getElem? h'
    have := hp'.1 y hy
    rw [List.filter_cons_of_pos (by rw [decide_eq_true_eq]; omega)]
    rw [filter_at hp'.2 h']
    rfl
def FoundK (l : List Int) (y : Int) (t : Nat) (k : Value) : Prop := (k = .int .i64 (-1) ∧ ∀ s, s < t → l[s]? ≠ some y) ∨ ∃ s : Nat, s < t ∧ k = .int .i64 s ∧ l[s]? = some y
def InRel (l : List Int) (y : Int) (w : World) (k idx : Value) (wr : World) : Prop := ∃ t : Nat, t ≤ l.length ∧ idx = .int .i64 t ∧ FoundK l y t k ∧ wr = w
theorem FoundK.hit {l : List Int} {y : Int} {t : Nat} (ht : l[t]? = some y) : FoundK l y (t + 1) (.int .i64 t) := .inr ⟨t, Nat.lt_succ_self _, rfl, ht⟩
theorem FoundK.miss {l : List Int} {y x : Int} {t : Nat} {k : Value} (h : FoundK l y t k) (ht : l[t]? = some x) (hne : x ≠ y) : FoundK l y (t + 1) k := by
  rcases h with ⟨rfl, h⟩ | ⟨s, h1, rfl, h2⟩
  · refine .inl ⟨rfl, fun s hs e => ?_⟩
    by_cases hst : s = t
    · subst hst
      rw [ht] at e
      exact hne (Option.some.inj e)
    · exact h s (by omega) e
  · exact .inr ⟨s, by omega, rfl, h2⟩
theorem FoundK.start (l : List Int) (y : Int) : FoundK l y 0 (.int .i64 (-1)) := .inl ⟨rfl, fun s hs => by omega⟩
theorem FoundK.all {S : Cst} (ok : S.Ok) {y : Int} {k : Value} (h : FoundK S.ids y S.ids.length k) : (k = .int .i64 (-1) ∧ S.F y = none) ∨ ∃ s : Nat, k = .int .i64 s ∧ S.ids[s]? = some y ∧ (S.F y).isSome = true := by
  rcases h with ⟨rfl, h⟩ | ⟨s, _, rfl, h2⟩
  · refine .inl ⟨rfl, ?_⟩
    cases hf : S.F y with
    | none => rfl
    | some v =>
      have := (ok.mem y).2 (by rw [hf]; rfl)
      obtain ⟨s, hs, e⟩ := List.getElem_of_mem this
      exact absurd (by rw [List.getElem?_eq_getElem hs, e]) (h s hs)
  · exact .inr ⟨s, rfl, h2, (ok.mem y).1 (List.mem_of_getElem? h2)⟩
theorem zero_none {S : Cst} (ok : S.Ok) : S.F 0 = none := by
  cases hf : S.F 0 with
  | none => rfl
  | some v => have := ok.le 0 ((ok.mem 0).2 (by rw [hf]; rfl)); omega
theorem last_none {S : Cst} (ok : S.Ok) {c : Array Value} : (putC S c).F ((S.last : Int) + 1) = some (.agg c) := by unfold putC; simp
end Go.Proofs.Ytdfgehmabfacbaa
