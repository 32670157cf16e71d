import Derived.Test.YthonpifdhjpbgaaMtBoxes
namespace Go.Proofs.Ythonpifdhjpbgaa
open Wd So Go.ChangeShapes Go.WideShapes Go.RowKit
set_option linter.unusedVariables false

/-- counts in a block of its own, of some rising row of these floats -/
def RefBoxed (l xs : List Nat) (m : Nat) (W : World) (e : Ending) (w : World) : Prop :=
  ∃ g os, e = .returned (.slice (some ⟨g, 0, none⟩) (m + 1) (m + 1)) ∧ os.Perm xs ∧ Srt rk 0 m os ∧ IRow w g (boxes (os.map rk) (l.map rk)) ∧ Below W.heap.size W w

theorem row_far {w : World} {B n : Nat} {A : Option Addr} {xs : List Value} (h : Row w B A n xs) (i : Nat) (u : Value) : Row (w.setCell ⟨B, i, none⟩ u) B A n xs :=
  h.below ((Below.refl B w).setCell (p := ⟨B, i, none⟩) (Nat.le_refl B) u)

def RefBoxesRel (l os : List Nat) (B : Nat) (Ao : Option Addr) (n o : Nat) (W : World) (i : Value) (w : World) : Prop :=
  ∃ k : Nat, k ≤ l.length ∧ i = .int .i64 k ∧ IRow w o (boxes (os.map rk) ((l.take k).map rk)) ∧ Row w B Ao n (os.map (Value.float .f64)) ∧ Below W.heap.size W w

def BxRel (os : List Nat) (x n : Nat) (W : World) (i : Value) (w : World) : Prop :=
  ∃ k : Nat, k ≤ n ∧ i = .int .i64 k ∧ (∀ j e, j < k → os[j]? = some e → rk e ≤ rk x) ∧ w = W

theorem in_step {os : List Nat} {x k y : Nat} (h : ∀ j e, j < k → os[j]? = some e → rk e ≤ rk x) (hy : os[k]? = some y) (hl : lsB x y = false) : ∀ j e, j < k + 1 → os[j]? = some e → rk e ≤ rk x := by
  intro j e hj he
  by_cases c : j = k
  · subst c
    rw [hy] at he; cases he
    unfold lsB at hl
    have := of_decide_eq_false hl; omega
  · exact h j e (by omega) he
theorem in_done {os : List Nat} {x k n : Nat} (h : ∀ j e, j < k → os[j]? = some e → rk e ≤ rk x) (hn : os.length = n) (hk : k ≤ n) (hl : ∀ y, os[k]? = some y → lsB x y = true) : bx (os.map rk) (rk x) = k := by
  refine bx_of (by rw [List.length_map]; omega) (fun j e hj he => ?_) (fun e he => ?_)
  · rw [List.getElem?_map] at he
    obtain ⟨z, hz, rfl⟩ := Option.map_eq_some_iff.1 he
    exact h j z hj hz
  · rw [List.getElem?_map] at he
    obtain ⟨z, hz, rfl⟩ := Option.map_eq_some_iff.1 he
    have := hl z hz
    unfold lsB at this
    exact of_decide_eq_true this

set_option maxHeartbeats 2000000 in
theorem refBoxes_any (l xs : List Nat) (A E : Option Addr) (c d m : Nat) (w : World) (hn : l.length ≤ 1000) (hL : xs.length = m) (hm : m ≤ 40)
    (hr : Row w w.heap.size A l.length (l.map (Value.float .f64))) (hx : Row w w.heap.size E m (xs.map (Value.float .f64))) :
    Calls Try.prog 19 #[.slice A l.length c, .slice E m d] w (RefBoxed l xs m w) := by
  subst hL
  have hmk := fun W => make_row (P := Try.prog) 36 3 (.int .i64 0) 8 Try.underlying36 infoInt rfl (xs.length + 1) (by omega) (by omega) W
  rw [show ((xs.length + 1 : Nat) : Int) = (xs.length : Int) + 1 from rfl] at hmk
  have HR := Lib.hid hr; have HX := Lib.hid hx
  clear hr hx
  go_enter Try.func19, Try.ntmps19
  go_wp2_with fail
  refine (refSorted_any E d xs _ (by omega) HX.out).mono ?_
  rintro e w2 ⟨v, os, rfl, hp, hs, hown, hb⟩
  obtain ⟨Ao, co, rfl, hrow⟩ := Row.of_own hown
  have hol : os.length = xs.length := hp.length_eq
  have HP := Lib.hid hp; have HS := Lib.hid hs; have HB := Lib.hid hb; have HOL := Lib.hid hol; have HROW := Lib.hid hrow
  have hbs : w.heap.size ≤ w2.heap.size := hb.size
  clear hp hs hb hol hrow hown
  go_wp2
  go_loopw [18] (fun i wr => RefBoxesRel l os w2.heap.size Ao xs.length w2.heap.size w i wr) (fun i _ => l.length - (intOf i).toNat)
  case atStart =>
    refine ⟨0, Nat.zero_le _, rfl, ?_, HROW.out.below ((Below.refl _ _).alloc (Nat.le_refl _) _), HB.out.alloc hbs _⟩
    have := Cells.new w2 3 ((List.replicate (xs.length + 1) (nat_ 0))).toArray
    unfold IRow boxes
    rw [List.take_zero, List.map_nil, List.foldl_nil, List.map_replicate, List.length_map, HOL.out]
    exact this
  case round =>
    obtain ⟨k, hk, rfl, hi, hf, hbl⟩ := hrel
    have HI := Lib.hid hi; have HF := Lib.hid hf; have HBL := Lib.hid hbl
    clear hi hf
    by_cases hlt : k < l.length
    · obtain ⟨b, off, x, rfl, hbb, hx, cx⟩ := (HR.out.below hbl).get hlt
      have ht := take_one hx
      have HT := Lib.hid ht
      clear ht hx hbl
      obtain ⟨wo, rfl⟩ : ∃ wo : World, wo = wr := ⟨_, rfl⟩
      go_wp2
      go_loopw [9] (fun i wr => BxRel os x xs.length wo i wr) (fun i _ => xs.length - (intOf i).toNat)
      case atStart => exact ⟨0, Nat.zero_le _, rfl, fun j e h => by omega, rfl⟩
      case round =>
        obtain ⟨i, hin, rfl, hlow, rfl⟩ := hrel
        have HLOW := Lib.hid hlow
        clear hlow
        by_cases hil : i < xs.length
        · obtain ⟨b2, o2, y, rfl, _, hy, cy⟩ := HF.out.get hil
          have HY := Lib.hid hy
          clear hy
          cases hl : lsB x y
          · have HLS := Lib.hid hl
            go_wp2_with (go_at_call 16; refine (refLess_any x y _).mono ?_; rintro e w' ⟨rfl, rfl⟩)
            go_roundw
            case rel => exact ⟨i + 1, by omega, by go_num, in_step HLOW.out HY.out HLS.out, rfl⟩
            case measure => simp [intOf]; omega
          · have HLS := Lib.hid hl
            have hbx : bx (os.map rk) (rk x) = i := in_done HLOW.out HOL.out hin (fun z hz => by rw [HY.out] at hz; cases hz; exact HLS.out)
            have HII := Lib.hid hbx
            clear hbx
            have hiu : i ≤ xs.length := hin
            obtain ⟨q, hq⟩ : ∃ q, (boxes (os.map rk) ((l.take k).map rk))[i]? = some q := ⟨_, List.getElem?_eq_getElem (by rw [boxes_len, List.length_map, HOL.out]; omega)⟩
            have hq1 : q ≤ 1000 := by have := boxes_bd hq; rw [List.length_map, List.length_take] at this; omega
            have cq := HI.out.cell hq
            have fq : wr.frozen? ⟨w2.heap.size, i, none⟩ = false := Cells.free HI.out i
            have HQ := Lib.hid hq
            have i1 : (i : Int) < (xs.length : Int) + 1 := by omega
            clear hq
            go_wp2_with (go_at_call 16; refine (refLess_any x y _).mono ?_; rintro e w' ⟨rfl, rfl⟩)
            go_roundw
            case rel =>
              refine ⟨k + 1, by omega, by go_num, ?_, row_far HF.out i _, HBL.out.setCell hbs _⟩
              · rw [HT.out, List.map_append, List.map_cons, List.map_nil, boxes_snoc, HII.out]
                unfold bump
                rw [HQ.out]
                exact HI.out.set i (q + 1)
            case measure => simp [intOf]; omega
        · have hbx : bx (os.map rk) (rk x) = i := in_done HLOW.out HOL.out hin (fun z hz => by have := (List.getElem?_eq_some_iff.1 hz).1; have := HOL.out; omega)
          have HII := Lib.hid hbx
          clear hbx
          have hiu : i ≤ xs.length := hin
          obtain ⟨q, hq⟩ : ∃ q, (boxes (os.map rk) ((l.take k).map rk))[i]? = some q := ⟨_, List.getElem?_eq_getElem (by rw [boxes_len, List.length_map, HOL.out]; omega)⟩
          have hq1 : q ≤ 1000 := by have := boxes_bd hq; rw [List.length_map, List.length_take] at this; omega
          have cq := HI.out.cell hq
          have fq : wr.frozen? ⟨w2.heap.size, i, none⟩ = false := Cells.free HI.out i
          have HQ := Lib.hid hq
          have i1 : (i : Int) < (xs.length : Int) + 1 := by omega
          clear hq
          go_wp2
          go_roundw
          case rel =>
            refine ⟨k + 1, by omega, by go_num, ?_, row_far HF.out i _, HBL.out.setCell hbs _⟩
            · rw [HT.out, List.map_append, List.map_cons, List.map_nil, boxes_snoc, HII.out]
              unfold bump
              rw [HQ.out]
              exact HI.out.set i (q + 1)
          case measure => simp [intOf]; omega
    · obtain rfl : k = l.length := by omega
      go_wp2
      go_ret
      refine ⟨_, os, rfl, HP.out, HS.out, ?_, HBL.out⟩
      have := HI.out
      rw [List.take_length] at this
      exact this
end Go.Proofs.Ythonpifdhjpbgaa
