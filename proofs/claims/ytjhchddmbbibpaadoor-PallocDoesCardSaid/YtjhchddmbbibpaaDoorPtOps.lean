import Derived.Test.YtjhchddmbbibpaaDoorPtGive
import Derived.Test.YtjhchddmbbibpaaDoorPtMath
import Derived.Test.YtjhchddmbbibpaaDoorPaFace
namespace Go.Proofs.YtjhchddmbbibpaaDoor
open Wd Pa Go.ChangeShapes Go.WideShapes Go.RowKit Go.Sort
set_option linter.unusedVariables false
/-- the document's pages at g, made since w0 -/
structure TkB (w0 w : World) (g n : Nat) (U : Nat → Bool) : Prop where
  t : ∃ v, TkV w w0.heap.size g n (upto U n) v
  b : Below w0.heap.size w0 w
  dom : ∀ i, U i = true → 1 ≤ i ∧ i ≤ n
  few : n ≤ 1048576
theorem hasB_upto {U : Nat → Bool} {n : Nat} (hd : ∀ i, U i = true → 1 ≤ i ∧ i ≤ n) (i : Int) : hasB (upto U n) i = U i.toNat := by
  unfold hasB
  cases hu : U i.toNat with
  | true =>
    obtain ⟨h1, h2⟩ := hd _ hu
    exact decide_eq_true ⟨i.toNat, mem_upto.2 ⟨⟨h1, h2⟩, hu⟩, by omega⟩
  | false =>
    refine decide_eq_false ?_
    rintro ⟨x, hx, e⟩
    have h1 := (mem_upto.1 hx).2
    rw [show i.toNat = x by omega, h1] at hu
    cases hu
theorem put_dom {U : Nat → Bool} {n r : Nat} (hd : ∀ i, U i = true → 1 ≤ i ∧ i ≤ n) (b : Bool) (hr : b = true → 1 ≤ r ∧ r ≤ n) : ∀ i, put U r b i = true → 1 ≤ i ∧ i ≤ n := by
  intro i hi
  unfold put at hi
  split at hi
  · next e => subst e; exact hr hi
  · exact hd i hi
section
variable {w0 w w' : World} {g n : Nat} {U : Nat → Bool}
theorem TkB.below (h : TkB w0 w g n U) (hb : Below w.heap.size w w') : TkB w0 w' g n U := by
  obtain ⟨⟨v, t⟩, b, d, f⟩ := h
  exact ⟨⟨v, t.below hb⟩, b.trans (hb.mono b.size), d, f⟩
theorem TkB.len (h : TkB w0 w g n U) : (upto U n).length ≤ 1048576 := Nat.le_trans upto_len_le h.few
theorem TkB.step {U' : Nat → Bool} {v' : Value} (h : TkB w0 w g n U) (t : TkV w' w0.heap.size g n (upto U' n) v') (hd : ∀ i, U' i = true → 1 ≤ i ∧ i ≤ n) (hg : w.grownBy w' (some g)) : TkB w0 w' g n U' := by
  obtain ⟨⟨v, q⟩, b, d, f⟩ := h
  exact ⟨⟨v', t⟩, b.grown hg b.size (by intro q' hq; cases hq; exact q.gB), hd, f⟩
/-- they stay where pages alone have changed -/
theorem TkB.pages {f : Pp} {m : Nat} {V : Nat → Bool} (h : TkB w0 w g n U) (p : PgB w0 w f m V) (hg : w.grownBy w' (some f.h)) : TkB w0 w' g n U := by
  obtain ⟨⟨v, q⟩, b, d, k⟩ := h
  obtain ⟨⟨ws, p⟩, _⟩ := p
  exact ⟨⟨v, q.grown hg p.words (by decide) (by decide)⟩, b.grown hg b.size (by intro q' hq; cases hq; exact p.hB), d, k⟩
/-- pages stay where these alone have changed -/
theorem PgB.taken {f : Pp} {m : Nat} {V : Nat → Bool} (p : PgB w0 w f m V) (h : TkB w0 w g n U) (hg : w.grownBy w' (some g)) : PgB w0 w' f m V := by
  obtain ⟨⟨v, q⟩, b, d, k⟩ := h
  obtain ⟨⟨ws, r⟩, _⟩ := id p
  exact p.kept hg (r.cells.ne q.c (by decide)) (r.words.ne q.c (by decide)) q.gB
theorem tkb_has (h : TkB w0 w g n U) (i : Int) : Calls Tryd.prog 15 #[.pointer (some ⟨g, 0, none⟩), .int .i64 i] w fun e w' => e = .returned (.bool (U i.toNat)) ∧ w = w' := by
  obtain ⟨⟨v, t⟩, b, d, k⟩ := id h
  have := thas_is t h.len i
  rwa [hasB_upto d] at this
theorem tkb_use (h : TkB w0 w g n U) (i : Nat) (h1 : 1 ≤ i) (h2 : i ≤ n) (hu : U i = false) : Calls Tryd.prog 24 #[.pointer (some ⟨g, 0, none⟩), .int .i64 i] w fun e w' => e = .returned (.tuple #[]) ∧ TkB w0 w' g n (put U i true) ∧ w.grownBy w' (some g) := by
  obtain ⟨⟨v, t⟩, b, d, k⟩ := id h
  refine (use_yes t h.len i h1 h2 (by rw [hasB_upto d]; simpa using hu) (by omega)).mono ?_
  rintro e w' ⟨rfl, q, v', hq, hlow, hge, t', hg⟩
  rw [upto_ins h1 h2 hq hlow hge hu] at t'
  exact ⟨rfl, h.step t' (put_dom d true fun _ => ⟨h1, h2⟩) hg, hg⟩
theorem tkb_use_no (h : TkB w0 w g n U) (i : Int) (hi : i < 1 ∨ (n : Int) < i ∨ U i.toNat = true) : Calls Tryd.prog 24 #[.pointer (some ⟨g, 0, none⟩), .int .i64 i] w fun e w' => e = .returned (.tuple #[]) ∧ w = w' := by
  obtain ⟨⟨v, t⟩, b, d, k⟩ := id h
  exact use_no t h.len i (by rw [hasB_upto d]; exact hi)
theorem tkb_give (h : TkB w0 w g n U) (i : Int) (u : Bool) (hu : U i.toNat = u) : Calls Tryd.prog 13 #[.pointer (some ⟨g, 0, none⟩), .int .i64 i] w fun e w' => e = .returned (.bool u) ∧ TkB w0 w' g n (if u then put U i.toNat false else U) ∧ w.grownBy w' (some g) := by
  obtain ⟨⟨v, t⟩, b, d, k⟩ := id h
  refine (tgive_is t h.len i).mono ?_
  rintro e w' (⟨q, v', x, hq, hx, rfl, t', hg⟩ | ⟨hn, rfl, rfl⟩)
  · have hx2 : i.toNat = x := by omega
    have hm := mem_upto.1 (List.mem_of_getElem? hq)
    rw [hx2, hm.2] at hu
    subst hu
    rw [upto_del hq] at t'
    rw [if_pos rfl, hx2]
    exact ⟨rfl, h.step t' (put_dom d false fun h => by cases h) hg, hg⟩
  · rw [hasB_upto d] at hn
    rw [hn] at hu
    subst hu
    exact ⟨rfl, h, ⟨rfl, rfl, rfl, Nat.le_refl _, fun _ _ _ => rfl⟩⟩
def SeekRel (n r : Nat) (W : World) (i : Value) (w : World) : Prop := ∃ k : Nat, 1 ≤ k ∧ k ≤ r ∧ i = .int .i64 k ∧ w = W
set_option maxRecDepth 100000 in
set_option maxHeartbeats 400000 in
theorem tkb_take_some (h : TkB w0 w g n U) (r : Nat) (r1 : 1 ≤ r) (r2 : r ≤ n) (r3 : U r = false) (r4 : ∀ q, 1 ≤ q → q < r → U q = true) : Calls Tryd.prog 11 #[.pointer (some ⟨g, 0, none⟩)] w fun e w' => e = .returned (.tuple #[.int .i64 r, .bool true]) ∧ TkB w0 w' g n (put U r true) ∧ w.grownBy w' (some g) := by
  have H := Lib.hid h
  have hf := h.few
  obtain ⟨⟨v, t⟩, b, d, k⟩ := id h
  have c0 := t.c0
  have KU := Lib.hid (tkb_use h r r1 r2 r3)
  have R3 := Lib.hid r3; have R4 := Lib.hid r4
  clear h t b d k r3 r4
  go_enter Tryd.func11, Tryd.ntmps11
  go_wp2
  go_loopw [4] (fun i wr => SeekRel n r w i wr) (fun i _ => r - (intOf i).toNat)
  case atStart => exact ⟨1, Nat.le_refl _, r1, rfl, rfl⟩
  case round =>
    obtain ⟨k, k1, k2, rfl, rfl⟩ := hrel
    have KH := Lib.hid (tkb_has H.out (k : Int))
    rw [Int.toNat_natCast] at KH
    by_cases e : k = r
    · subst e
      rw [R3.out] at KH
      have t1 : decide ((n : Int) < (k : Int)) = false := decide_eq_false (by omega)
      have t2 : decide (n < k) = false := decide_eq_false (by omega)
      have t3 : ¬ n < k := by omega
      go_wp2_with (first
        | (go_at_call 15; refine KH.out.mono ?_; rintro e w1 ⟨rfl, rfl⟩)
        | (go_at_call 24; refine KU.out.mono ?_; rintro e w1 ⟨rfl, t1, g1⟩; have T1 := Lib.hid t1; have G1 := Lib.hid g1; clear t1 g1))
      go_ret2
      exact ⟨rfl, T1.out, G1.out⟩
    · rw [R4.out k k1 (by omega)] at KH
      go_wp2_with (first
        | (go_at_call 15; refine KH.out.mono ?_; rintro e w1 ⟨rfl, rfl⟩))
      go_roundw
      case rel => exact ⟨k + 1, by omega, by omega, by go_num, rfl⟩
      case measure => simp [intOf]; omega
set_option maxRecDepth 100000 in
set_option maxHeartbeats 400000 in
theorem tkb_take_none (h : TkB w0 w g n U) (hall : ∀ q, 1 ≤ q → q ≤ n → U q = true) : Calls Tryd.prog 11 #[.pointer (some ⟨g, 0, none⟩)] w fun e w' => e = .returned (.tuple #[.int .i64 0, .bool false]) ∧ w = w' := by
  have H := Lib.hid h
  have hf := h.few
  have hno : U (n + 1) = false := by
    cases hu : U (n + 1) with
    | false => rfl
    | true => have := h.dom _ hu; omega
  obtain ⟨⟨v, t⟩, b, d, k⟩ := id h
  have c0 := t.c0
  have R3 := Lib.hid hno; have R4 := Lib.hid hall
  clear h t b d k hno hall
  go_enter Tryd.func11, Tryd.ntmps11
  go_wp2
  go_loopw [4] (fun i wr => SeekRel n (n + 1) w i wr) (fun i _ => n + 1 - (intOf i).toNat)
  case atStart => exact ⟨1, Nat.le_refl _, by omega, rfl, rfl⟩
  case round =>
    obtain ⟨k, k1, k2, rfl, rfl⟩ := hrel
    have KH := Lib.hid (tkb_has H.out (k : Int))
    rw [Int.toNat_natCast] at KH
    by_cases e : k = n + 1
    · have t1 : decide ((n : Int) < (k : Int)) = true := decide_eq_true (by omega)
      have t2 : decide (n < k) = true := decide_eq_true (by omega)
      have t3 : n < k := by omega
      rw [e, R3.out, ← e] at KH
      clear e
      go_wp2_with (first
        | (go_at_call 15; refine KH.out.mono ?_; rintro e w1 ⟨rfl, rfl⟩))
      go_ret2
      exact ⟨rfl, rfl⟩
    · rw [R4.out k k1 (by omega)] at KH
      go_wp2_with (first
        | (go_at_call 15; refine KH.out.mono ?_; rintro e w1 ⟨rfl, rfl⟩))
      go_roundw
      case rel => exact ⟨k + 1, by omega, by omega, by go_num, rfl⟩
      case measure => simp [intOf]; omega
end
end Go.Proofs.YtjhchddmbbibpaaDoor
