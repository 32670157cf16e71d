import Derived.Test.YtohilconpcgjeaaPoRun
namespace Go.Proofs.Ytohilconpcgjeaa
open Wd Go.ChangeShapes Go.WideShapes Go.RowKit
set_option linter.unusedVariables false

def ScoreRel (K G L : Nat) (l : List Bool) (B p g : Nat) (W : World) (i v : Value) (w : World) : Prop :=
  ∃ (k : Nat) (r : Nat), k ≤ l.length ∧ i = .int .i64 k ∧ v = .float .f64 r ∧ r < 18446744073709551616 ∧ Fl.cv r = Fl.sc K G (l.take k) ∧ Kept K G L p g (Fl.sc K G (l.take k)) w ∧ Below B W w

set_option maxHeartbeats 400000 in
theorem score_any (K G L : Nat) (l : List Bool) (A : Option Addr) (c : Nat) (w : World) (hn : l.length ≤ 1000) (hl : Row w w.heap.size A l.length (l.map Value.bool)) :
    Calls Try.prog 20 #[.agg #[.float .f64 K, .float .f64 G, .float .f64 L], .slice A l.length c] w (FloatB (Fl.sc K G l) w) := by
  have HL := Lib.hid hl; clear hl
  go_enter Try.func20, Try.ntmps20
  go_wp2_with fail
  refine (scores_any K G L _).mono ?_
  rintro e w1 ⟨p, g, rfl, hp, hg, hk, hb⟩
  have hb0 : Below w.heap.size w w1 := ((Below.refl _ _).alloc (Nat.le_refl _) _).trans (hb.mono (by simp))
  simp only [World.size_alloc] at hp hg
  go_wp2
  go_loopw [13, 6] (fun i v wr => ScoreRel K G L l w.heap.size p g w i v wr) (fun i _ _ => l.length - (intOf i).toNat)
  case atStart => exact ⟨0, 0, Nat.zero_le _, rfl, rfl, by omega, by rw [List.take_zero]; exact Fl.cv_zero, hk, hb0⟩
  case round =>
    obtain ⟨k, r0, hkl, rfl, rfl, hr0, hc0, hke, hbe⟩ := hrel
    by_cases hlt : k < l.length
    · obtain ⟨b, off, rfl, hbb, hcell⟩ := (HL.out.below hbe).at hlt
      rw [List.getElem_map] at hcell
      have HC0 := Lib.hid hc0; clear hc0
      go_wp2_with fail
      refine (tell_any K G L _ l[k] p g _ hke).mono ?_
      rintro e w2 ⟨r, rfl, hr, hc, hk2, hgr⟩
      have HC := Lib.hid hc; clear hc
      go_wp2
      go_roundw
      case rel =>
        exact ⟨k + 1, r, by omega, by go_num, rfl, hr, by rw [Fl.sc_take K G l k hlt]; exact HC.out, by rw [Fl.sc_take K G l k hlt]; exact hk2, hbe.grown hgr hbe.size (fun q hq => by injection hq with hq; omega)⟩
      case measure => simp [intOf]; omega
    · have HC0 := Lib.hid hc0; clear hc0
      go_wp2
      go_ret
      obtain rfl : k = l.length := by omega
      exact ⟨r0, rfl, hr0, by rw [HC0.out, List.take_length], hbe⟩

/-- where the first is that is eager, from place k on -/
def FirstAt (K G L : Nat) (l : List Bool) (i : Nat) (is : Bool) : Prop :=
  (is = true → i < l.length ∧ Fl.geO (Fl.sc K G (l.take (i + 1))) (Fl.cv L) = true ∧ ∀ j, j < i → Fl.geO (Fl.sc K G (l.take (j + 1))) (Fl.cv L) = false) ∧
  (is = false → i = 0 ∧ ∀ j, j < l.length → Fl.geO (Fl.sc K G (l.take (j + 1))) (Fl.cv L) = false)

def First (K G L : Nat) (l : List Bool) (W : World) (e : Ending) (w : World) : Prop :=
  ∃ (i : Nat) (is : Bool), e = .returned (.tuple #[.int .i64 i, .bool is]) ∧ FirstAt K G L l i is ∧ Below W.heap.size W w

def FirstRel (K G L : Nat) (l : List Bool) (B p g b : Nat) (W : World) (i : Value) (w : World) : Prop :=
  ∃ (k : Nat), k ≤ l.length ∧ i = .int .i64 k ∧ (∀ j, j < k → Fl.geO (Fl.sc K G (l.take (j + 1))) (Fl.cv L) = false) ∧ Kept K G L p g (Fl.sc K G (l.take k)) w ∧ Below B W w ∧ Cells w b 32 #[.float .f64 K, .float .f64 G, .float .f64 L]

set_option maxHeartbeats 400000 in
theorem first_any (K G L : Nat) (l : List Bool) (A : Option Addr) (c : Nat) (w : World) (hn : l.length ≤ 1000) (hl : Row w w.heap.size A l.length (l.map Value.bool)) :
    Calls Try.prog 18 #[.agg #[.float .f64 K, .float .f64 G, .float .f64 L], .slice A l.length c] w (First K G L l w) := by
  have HL := Lib.hid hl; clear hl
  go_enter Try.func18, Try.ntmps18
  go_wp2_with fail
  refine (scores_any K G L _).mono ?_
  rintro e w1 ⟨p, g, rfl, hp, hg, hk, hb⟩
  have hb0 : Below w.heap.size w w1 := ((Below.refl _ _).alloc (Nat.le_refl _) _).trans (hb.mono (by simp))
  have hbx : Cells w1 w.heap.size 32 #[.float .f64 K, .float .f64 G, .float .f64 L] := (Cells.new w _ _).below' hb
  simp only [World.size_alloc] at hp hg
  go_wp2
  go_loopw [13] (fun i wr => FirstRel K G L l w.heap.size p g w.heap.size w i wr) (fun i _ => l.length - (intOf i).toNat)
  case atStart => exact ⟨0, Nat.zero_le _, rfl, fun j hj => absurd hj (by omega), hk, hb0, hbx⟩
  case round =>
    obtain ⟨k, hkl, rfl, hfa, hke, hbe, hbx⟩ := hrel
    have HF := Lib.hid hfa; clear hfa
    by_cases hlt : k < l.length
    · obtain ⟨b, off, rfl, hbb, hcell⟩ := (HL.out.below hbe).at hlt
      rw [List.getElem_map] at hcell
      have hne : w.heap.size ≠ g := by omega
      have b0 := hbx.cell 0
      have b1 := hbx.cell 1
      have b2 := hbx.cell 2
      simp only [List.getElem?_toArray, List.getElem?_cons_zero, List.getElem?_cons_succ] at b0 b1 b2
      go_wp2
      go_region_held3 (fun w' => w'.cell? ⟨w.heap.size, 0, none⟩ = some (.float .f64 K) ∧ w'.cell? ⟨w.heap.size, 1, none⟩ = some (.float .f64 G) ∧ w'.cell? ⟨w.heap.size, 2, none⟩ = some (.float .f64 L)) (go_keep)
        (first
          | (go_at_call 37; refine (tell_any K G L (Fl.sc K G (l.take k)) l[k] p g _ ?_).mono ?_; (first | exact hke | exact hke.drewN _); rintro e w2 ⟨r, rfl, hr, hc, hk2, hgr⟩; have hz2 := Nat.lt_of_lt_of_le hbx.lt hgr.size; have c0 := hgr.cell (a := ⟨w.heap.size, 0, none⟩) b0 (fun e => hne (Option.some.inj e)); have c1 := hgr.cell (a := ⟨w.heap.size, 1, none⟩) b1 (fun e => hne (Option.some.inj e)); have c2 := hgr.cell (a := ⟨w.heap.size, 2, none⟩) b2 (fun e => hne (Option.some.inj e)))
          | (go_at_call 22; refine (eager_any _ _ _ _ _).mono ?_; rintro e w3 ⟨rfl, hb3⟩; have d0 := (hb3.cell (p := ⟨w.heap.size, 0, none⟩) hz2).trans c0; have d1 := (hb3.cell (p := ⟨w.heap.size, 1, none⟩) hz2).trans c1; have d2 := (hb3.cell (p := ⟨w.heap.size, 2, none⟩) hz2).trans c2))
      have hgw : wr.grownBy w2 (some g) := ⟨hgr.os, hgr.tape, hgr.output, hgr.size, hgr.block⟩
      have hb4 : Below w.heap.size w w3 := (hbe.grown hgw hbe.size (fun q hq => by injection hq with hq; omega)).trans (hb3.mono (by omega))
      rw [← Fl.sc_take K G l k hlt] at hk2 ⊢
      clear hc c0 c1 c2 b0 b1 b2
      cases hq : Fl.geO (Fl.sc K G (l.take (k + 1))) (Fl.cv L)
      · have HQ := Lib.hid hq; clear hq
        go_wp2
        go_roundw
        case rel =>
          refine ⟨k + 1, by omega, by go_num, fun j hj => ?_, hk2.below hb3, hb4, ?_⟩
          · by_cases e : j = k
            · rw [e]; exact HQ.out
            · exact HF.out j (by omega)
          · exact (hbx.grown hgw (fun e => hne (Option.some.inj e))).below' hb3
        case measure => simp [intOf]; omega
      · have HQ := Lib.hid hq; clear hq
        go_wp2
        go_ret2
        exact ⟨k, true, rfl, ⟨fun _ => ⟨hlt, HQ.out, HF.out⟩, (fun h => by cases h)⟩, hb4⟩
    · go_wp2
      go_ret2
      obtain rfl : k = l.length := by omega
      exact ⟨0, false, rfl, ⟨(fun h => by cases h), fun _ => ⟨rfl, HF.out⟩⟩, hbe⟩
end Go.Proofs.Ytohilconpcgjeaa
