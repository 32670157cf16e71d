import Derived.Test.YtohilconpcgjeaaPoSteps
import Derived.Test.YtohilconpcgjeaaPoRise
import Derived.Shelf.SlSortCmp.QuietGrown
import Derived.BigQuiet
namespace Go.Proofs.Ytohilconpcgjeaa
open Wd Go.ChangeShapes Go.WideShapes Go.RowKit
set_option linter.unusedVariables false

def ToldN (K G : Nat) (l : List Bool) (n : Nat) (W : World) (e : Ending) (w : World) : Prop :=
  ∃ o rs, e = .returned (.slice (some ⟨o, 0, none⟩) n n) ∧ Upto K G l rs n ∧ Cells w o 26 (rs.map (Value.float .f64)).toArray ∧ W.heap.size ≤ o ∧ Below W.heap.size W w

theorem run_len (K G L : Nat) (l : List Bool) (n : Nat) (h : l.length = n) (A : Option Addr) (c : Nat) (w : World) (hn : n ≤ 1000) (hl : Row w w.heap.size A n (l.map Value.bool)) :
    Calls Try.prog 19 #[.agg #[.float .f64 K, .float .f64 G, .float .f64 L], .slice A n c] w (ToldN K G l n w) := by
  subst h; exact run_any K G L l A c w hn hl

/-- both lists, up to k -/
def Mix (l ms bs : List Bool) (k : Nat) : Prop := bs.length = l.length ∧ ∀ j, j < l.length → bs[j]? = some (if j < k then l.getD j false || ms.getD j false else l.getD j false)

theorem Mix.start (l ms : List Bool) : Mix l ms l 0 := ⟨rfl, fun j hj => by rw [if_neg (by omega), List.getElem?_eq_getElem hj]; simp [List.getD, hj]⟩
theorem Mix.step {l ms bs : List Bool} {k : Nat} (h : Mix l ms bs k) (hk : k < l.length) : Mix l ms (bs.set k (l.getD k false || ms.getD k false)) (k + 1) := by
  refine ⟨by rw [List.length_set]; exact h.1, fun j hj => ?_⟩
  by_cases e : j = k
  · subst e
    rw [List.getElem?_set_self (by rw [h.1]; exact hj), if_pos (by omega)]
  · rw [List.getElem?_set_ne (by omega), h.2 j hj]
    by_cases c : j < k
    · rw [if_pos c, if_pos (by omega)]
    · rw [if_neg c, if_neg (by omega)]
theorem Mix.here {l ms bs : List Bool} {k : Nat} (h : Mix l ms bs k) (hk : k < l.length) : (bs.map Value.bool)[k]? = some (.bool (l.getD k false)) := by
  rw [List.getElem?_map, h.2 k hk, if_neg (by omega)]; rfl
theorem Mix.more {l ms bs : List Bool} (h : Mix l ms bs l.length) : ∀ i, (hi : i < l.length) → l[i] = true → bs[i]'(by rw [h.1]; exact hi) = true := by
  intro i hi ht
  have := h.2 i hi
  rw [if_pos hi, List.getElem?_eq_getElem (by rw [h.1]; exact hi)] at this
  rw [Option.some.inj this]
  simp [List.getD, hi, ht]

def BothRel (K G L : Nat) (l ms : List Bool) (A2 : Option Addr) (c2 : Nat) (W : World) (i : Value) (w : World) : Prop :=
  ∃ (k : Nat) (bs : List Bool), k ≤ l.length ∧ i = .int .i64 k ∧ Mix l ms bs k ∧ w.ownsRow (W.heap.size + 1) 4 1 (.slice A2 l.length c2) l.length (bs.map Value.bool) ∧
    Cells w W.heap.size 32 #[.float .f64 K, .float .f64 G, .float .f64 L] ∧ Below W.heap.size W w

theorem own_norm {w : World} {base : Nat} {e : TypeId} {v : Value} {n : Nat} {xs : List Value} (h : w.ownsRow base e 1 v (0 + n) ([] ++ xs)) : w.ownsRow base e 1 v n xs := by
  rw [Nat.zero_add, List.nil_append] at h; exact h
theorem own_row {w : World} {base : Nat} {e : TypeId} {A : Option Addr} {n c : Nat} {xs : List Value} (h : w.ownsRow base e 1 (.slice A n c) n xs) : Row w w.heap.size A n xs := by
  obtain ⟨A', c', e, h'⟩ := Row.of_own h
  injection e with e1 e2 e3
  subst e1; exact h'

def RiseRel (K G L : Nat) (n : Nat) (ra rb : List Nat) (oa ob B : Nat) (W : World) (i : Value) (w : World) : Prop :=
  ∃ k : Nat, k ≤ n ∧ i = .int .i64 k ∧ Cells w B 32 #[.float .f64 K, .float .f64 G, .float .f64 L] ∧ Cells w oa 26 (ra.map (Value.float .f64)).toArray ∧ Cells w ob 26 (rb.map (Value.float .f64)).toArray ∧ Below B W w

def Up (x y : Nat) : Prop := Fl.good x ∧ Fl.good y ∧ Fl.rung x ≤ Fl.rung y

theorem rises_at {K G L : Nat} (hp : plainB K G L = true) {l ms bs : List Bool} {ra rb : List Nat} (ha : Upto K G l ra l.length) (hb : Upto K G bs rb l.length) (hm : Mix l ms bs l.length) (j : Nat) (hj : j < l.length) :
    ∃ x y, ra[j]? = some x ∧ rb[j]? = some y ∧ Up x y := by
  obtain ⟨p1, p2, p3, p4, p5, p6, _⟩ := plain_fin hp
  have hT := Fl.sc_up (K := K) (G := G) ⟨p1, p3⟩ (by unfold Fl.inf; omega) ⟨p4, p6⟩ (by unfold Fl.inf; omega) l bs hm.1 hm.more (j + 1) (by omega)
  obtain ⟨x, y, e1, e2, g1, g2, l1, _⟩ := hT
  obtain ⟨r, a1, _, a3⟩ := ha.2 j hj
  obtain ⟨q, b1, _, b3⟩ := hb.2 j hj
  obtain rfl := cv_inj (a3.trans e1)
  obtain rfl := cv_inj (b3.trans e2)
  exact ⟨_, _, a1, b1, g1, g2, l1⟩

theorem up_ge {x y : Nat} (h : Up x y) : (FloatKind.f64.format.order y x == some .gt || FloatKind.f64.format.order y x == some .eq) = true := by
  rw [ge_key, Fl.cv_some h.1.1, Fl.cv_some h.2.1.1]
  show decide (Fl.key x ≤ Fl.key y) = true
  rw [Fl.good_key h.1, Fl.good_key h.2.1]
  exact decide_eq_true (by have := h.2.2; omega)
theorem up_pos {x y : Nat} (h : Up x y) : (FloatKind.f64.format.order x 0 == some .lt) = false := by
  rw [lt_zero, h.1.1]
  unfold zeroB
  cases hn : Fl.neg x
  · rfl
  · rw [h.1.2 hn]; rfl
theorem up_eager {x y L : Nat} (h : Up x y) (he : Fl.geO (Fl.cv x) (Fl.cv L) = true) : Fl.geO (Fl.cv y) (Fl.cv L) = true := by
  rw [Fl.cv_some h.1.1] at he
  rw [Fl.cv_some h.2.1.1]
  unfold Fl.cv at he ⊢
  cases hL : Fl.nan L
  · rw [hL] at he
    have he' : Fl.key L ≤ Fl.key x := of_decide_eq_true he
    show decide (Fl.key L ≤ Fl.key y) = true
    rw [Fl.good_key h.1] at he'
    rw [Fl.good_key h.2.1]
    exact decide_eq_true (by have := h.2.2; omega)
  · rw [hL] at he; cases he

theorem eager_grows (K G L x : Nat) (b : Bool) (h : Fl.geO (Fl.cv x) (Fl.cv L) = b) (w : World) : Calls Try.prog 22 #[.agg #[.float .f64 K, .float .f64 G, .float .f64 L], .float .f64 x] w fun e w' => e = .returned (.bool b) ∧ ∃ q os', w' = Go.Sort.grow (w.drewN q) os' := by
  subst h
  have hk := ge_key x L
  have HK := Lib.hid hk; clear hk
  go_enter Try.func22, Try.ntmps22
  go_wp2
  go_ret
  exact ⟨by rw [← HK.out]; rfl, 0, #[_], Go.Sort.alloc_eq_grow _ _⟩
theorem eager_grown (K G L x : Nat) (b : Bool) (w : World) (n : Nat) (os : Array Obj) (h : Fl.geO (Fl.cv x) (Fl.cv L) = b) : Calls Try.prog 22 #[.agg #[.float .f64 K, .float .f64 G, .float .f64 L], .float .f64 x] (Go.Sort.grow (w.drewN n) os) fun e w'' => e = .returned (.bool b) ∧ ∃ p : GrownBy, w'' = Go.Sort.grow (w.drewN p.n) p.os :=
  Calls.grown_of (eager_grows K G L x b h _)
theorem below_grow (w : World) (n : Nat) (os : Array Obj) : Below w.heap.size w (Go.Sort.grow (w.drewN n) os) :=
  ⟨rfl, rfl, rfl, by simp, fun k hk => Go.Sort.heap_grow_old (w.drewN n) os hk⟩

set_option maxHeartbeats 4000000 in
theorem policyRises_any (K G L : Nat) (l ms : List Bool) (A C : Option Addr) (c d : Nat) (w : World) (hn : l.length ≤ 100) (hml : ms.length = l.length) (hp : plainB K G L = true) (hl : Row w w.heap.size A l.length (l.map Value.bool)) (hm : Row w w.heap.size C l.length (ms.map Value.bool)) :
    Calls Try.prog 5 #[.agg #[.float .f64 K, .float .f64 G, .float .f64 L], .slice A l.length c, .slice C l.length d] w (TrueB w) := by
  have HL := Lib.hid hl; have HM := Lib.hid hm; have HML := Lib.hid hml; have HP := Lib.hid hp
  clear hl hm hml hp
  go_enter Try.func5, Try.ntmps5
  go_wp2_with fail
  refine (poAwake_any _).mono ?_
  rintro e w1 ⟨rfl, hb1⟩
  have hbx : Cells w1 w.heap.size 32 #[.float .f64 K, .float .f64 G, .float .f64 L] := (Cells.new w _ _).below' hb1
  have hb1' : Below w.heap.size w w1 := ((Below.refl _ _).alloc (Nat.le_refl _) _).trans (hb1.mono (by simp))
  have p0 := hbx.cell 0
  have p1 := hbx.cell 1
  have p2 := hbx.cell 2
  simp only [List.getElem?_toArray, List.getElem?_cons_zero, List.getElem?_cons_succ] at p0 p1 p2
  go_wp2_with fail
  refine (plain_is2 K G L true _ HP.out).mono ?_
  rintro e w2 ⟨rfl, hb2⟩
  have hb2' : Below w.heap.size w w2 := hb1'.trans (hb2.mono hb1'.size)
  have hbx2 := hbx.below' hb2
  have hz2 := hbx2.lt
  clear p0 p1 p2
  go_wp2_with (at_builtin; refine wpList_append_row _ rfl _ _ 33 rfl (w.heap.size + 1) 4 (.bool false) 1 Try.underlying33 infob2 rfl (.slice none 0 0) 0 [] rfl (own_nil _ _ _) w2.heap.size A l.length c (l.map Value.bool) rfl ((HL.out.below hb2').more hb2'.size) (oneB l) (by unfold maxLen; omega) (by omega) (by omega) ?_; intro v3 w3 hown3 hgr3 hat3; obtain ⟨A2, c2, rfl, hrow3⟩ := Row.of_own (own_norm hown3))
  have hown := own_norm hown3
  have hbw3 : Below w2.heap.size w2 w3 := below_of_grown hgr3
  have hb3' : Below w.heap.size w w3 := hb2'.trans (hbw3.mono hb2'.size)
  have hbx3 := hbx2.below' hbw3
  clear hown3 hgr3 hat3 hrow3
  go_loopw [33] (fun i wr => BothRel K G L l ms A2 c2 w i wr) (fun i _ => l.length - (intOf i).toNat)
  case atStart => exact ⟨0, l, Nat.zero_le _, rfl, Mix.start l ms, hown, hbx3, hb3'⟩
  case round =>
    clear hown hbx3 hb3'
    obtain ⟨k, bs, hk, rfl, hmx, hown, hbx3, hbe⟩ := hrel
    by_cases hlt : k < l.length
    · obtain ⟨g, cap, hv, hbg, hlg⟩ := hown.form (by omega)
      obtain ⟨rfl, rfl⟩ : A2 = some ⟨g, 0, none⟩ ∧ c2 = cap := by injection hv with e1 e2 e3; exact ⟨e1, e3⟩
      clear hv
      have own := (hown.cellAt k (by omega)).trans (hmx.here hlt)
      have frz := hown.frozenAt k
      obtain ⟨b, off, y, rfl, _, gy, cy⟩ := (HM.out.below hbe).get hlt
      have hy : ms.getD k false = y := by simp [List.getD, gy]
      have HY := Lib.hid hy
      clear hy gy
      have hst := fun u => (hown.stored k u).1
      have hmx2 := hmx.step hlt
      rw [HY.out] at hmx2
      have HMX := Lib.hid hmx2
      clear hmx2 hown
      cases hx : l.getD k false
      all_goals
        rw [hx] at own HMX
        have HX := Lib.hid hx
        clear hx
        go_wp2
        go_roundw
        case rel =>
          refine ⟨k + 1, _, by omega, by go_num, HMX.out, ?_, hbx3.far (p := ⟨g, k, none⟩) (by show w.heap.size ≠ g; omega) _, hbe.setCell (by show w.heap.size ≤ g; omega) _⟩
          rw [List.map_set]
          exact hst _
        case measure => simp [intOf]; omega
    · obtain rfl : k = l.length := by omega
      have hz3 := hbx3.lt
      have HMX := Lib.hid hmx
      have HBL := Lib.hid hmx.1
      have HRL := Lib.hid ((HL.out.below hbe).more hbe.size)
      have HRB := Lib.hid (own_row hown)
      have q0 := hbx3.cell 0
      have q1 := hbx3.cell 1
      have q2 := hbx3.cell 2
      simp only [List.getElem?_toArray, List.getElem?_cons_zero, List.getElem?_cons_succ] at q0 q1 q2
      have HOWN := Lib.hid hown
      clear hmx hown
      go_wp2
      go_region_held3 (fun w' => w'.cell? ⟨w.heap.size, 0, none⟩ = some (.float .f64 K) ∧ w'.cell? ⟨w.heap.size, 1, none⟩ = some (.float .f64 G) ∧ w'.cell? ⟨w.heap.size, 2, none⟩ = some (.float .f64 L)) (go_keep)
        (first
          | (go_at_call 19; (with_reducible refine (run_len K G L bs l.length HBL.out A2 c2 _ (by omega) ?_).mono ?_); (exact (HRB.out.below hbw8).more hbw8.size); rintro e w9 ⟨ob, rb, rfl, hub, hob, hgb, hbB⟩; have hbw9 := hbw8.trans (hbB.mono hbw8.size); have hoa9 := hoa.below' hbB; have hob9 := hob; have q09 := (hbw9.cell (p := ⟨w.heap.size, 0, none⟩) hz3).trans q0; have q19 := (hbw9.cell (p := ⟨w.heap.size, 1, none⟩) hz3).trans q1; have q29 := (hbw9.cell (p := ⟨w.heap.size, 2, none⟩) hz3).trans q2)
          | (go_at_call 19; (with_reducible refine (run_len K G L l l.length rfl A c _ (by omega) ?_).mono ?_); (exact (HRL.out.below hbw8).more hbw8.size); rintro e w9 ⟨oa, ra, rfl, hua, hoa, hga, hbA⟩; have hbw9 := hbw8.trans (hbA.mono hbw8.size); have hob9 := hob.below' hbA; have hoa9 := hoa; have q09 := (hbw9.cell (p := ⟨w.heap.size, 0, none⟩) hz3).trans q0; have q19 := (hbw9.cell (p := ⟨w.heap.size, 1, none⟩) hz3).trans q1; have q29 := (hbw9.cell (p := ⟨w.heap.size, 2, none⟩) hz3).trans q2)
          | (go_at_call 19; (with_reducible refine (run_len K G L l l.length rfl A c _ (by omega) ?_).mono ?_); (exact HRL.out); rintro e w8 ⟨oa, ra, rfl, hua, hoa, hga, hbA⟩; have hbw8 := undrew hbA; have q08 := (hbw8.cell (p := ⟨w.heap.size, 0, none⟩) hz3).trans q0; have q18 := (hbw8.cell (p := ⟨w.heap.size, 1, none⟩) hz3).trans q1; have q28 := (hbw8.cell (p := ⟨w.heap.size, 2, none⟩) hz3).trans q2)
          | (go_at_call 19; (with_reducible refine (run_len K G L bs l.length HBL.out A2 c2 _ (by omega) ?_).mono ?_); (exact HRB.out); rintro e w8 ⟨ob, rb, rfl, hub, hob, hgb, hbB⟩; have hbw8 := undrew hbB; have q08 := (hbw8.cell (p := ⟨w.heap.size, 0, none⟩) hz3).trans q0; have q18 := (hbw8.cell (p := ⟨w.heap.size, 1, none⟩) hz3).trans q1; have q28 := (hbw8.cell (p := ⟨w.heap.size, 2, none⟩) hz3).trans q2))
      all_goals
        have hb9 : Below w.heap.size w w9 := hbe.trans (hbw9.mono hbe.size)
        have hbx9 := hbx3.below' hbw9
        have hris := fun j hj => rises_at HP.out (l := l) hua hub HMX.out j hj
        have HRI := Lib.hid hris
        have hla := hua.1
        have HUA := Lib.hid hua; have HUB := Lib.hid hub
        clear hris hla hua hub q09 q19 q29 q08 q18 q28 q0 q1 q2
        go_wp2
        go_loopw [70] (fun i wr => RiseRel K G L l.length ra rb oa ob w.heap.size w i wr) (fun i _ => l.length - (intOf i).toNat)
        case atStart => exact ⟨0, Nat.zero_le _, rfl, hbx9, hoa9, hob9, hb9⟩
        case round =>
          clear hbx9 hoa9 hob9 hb9
          obtain ⟨k, hk, rfl, hbx9, hoa9, hob9, hb9⟩ := hrel
          by_cases hlt : k < l.length
          · obtain ⟨x, y, gx, gy, hup⟩ := HRI.out k hlt
            have q0 := hbx9.cell 0
            have q1 := hbx9.cell 1
            have q2 := hbx9.cell 2
            simp only [List.getElem?_toArray, List.getElem?_cons_zero, List.getElem?_cons_succ] at q0 q1 q2
            have ax : wr.cell? ⟨oa, k, none⟩ = some (.float .f64 x) := by rw [hoa9.cell k]; simp [gx]
            have ay : wr.cell? ⟨ob, k, none⟩ = some (.float .f64 y) := by rw [hob9.cell k]; simp [gy]
            have hge := up_ge hup
            have hps := up_pos hup
            have hea := fun h => up_eager (L := L) hup h
            have HEA := Lib.hid hea
            clear hea gx gy hup
            have k1 : (0 : Int) ≤ (k : Int) := by omega
            have k2 : (k : Int) < (l.length : Int) := by omega
            have hzr := hbx9.lt
            have hza := hoa9.lt
            have hzb := hob9.lt
            have hfol : Try.prog.follows Departure.mixedOrders = true := by kernel_rfl
            have g0 := cell_grown hzr q0
            have g1 := cell_grown hzr q1
            have g2 := cell_grown hzr q2
            have ga := cell_grown hza ax
            have gb := cell_grown hzb ay
            clear q0 q1 q2 ax ay
            cases he : Fl.geO (Fl.cv x) (Fl.cv L)
            · have HE := Lib.hid he; clear he
              go_wp2
              refine wp_region_quiet_grown hfol (by kernel_rfl) ?_
              repeat (go_big_quiet_step (first | (go_at_call 22; exact eager_grown K G L x false _ _ _ HE.out)))
              refine wpQuiet_nil ?_
              intro _ hw'
              obtain ⟨⟨nq, osq⟩, hw''⟩ := hw'
              subst hw''
              go_wp2
              go_roundw
              case rel => exact ⟨k + 1, by omega, by go_num, hbx9.below' (below_grow _ _ _), hoa9.below' (below_grow _ _ _), hob9.below' (below_grow _ _ _), hb9.trans ((below_grow _ _ _).mono hb9.size)⟩
              case measure => simp [intOf]; omega
            · have HE := Lib.hid he
              have HE2 := Lib.hid (HEA.out he)
              clear he
              go_wp2
              refine wp_region_quiet_grown hfol (by kernel_rfl) ?_
              repeat (go_big_quiet_step (first | (go_at_call 22; first | exact eager_grown K G L x true _ _ _ HE.out | exact eager_grown K G L y true _ _ _ HE2.out)))
              refine wpQuiet_nil ?_
              intro _ hw'
              obtain ⟨⟨nq, osq⟩, hw''⟩ := hw'
              subst hw''
              go_wp2
              go_roundw
              case rel => exact ⟨k + 1, by omega, by go_num, hbx9.below' (below_grow _ _ _), hoa9.below' (below_grow _ _ _), hob9.below' (below_grow _ _ _), hb9.trans ((below_grow _ _ _).mono hb9.size)⟩
              case measure => simp [intOf]; omega
          · go_wp2
            go_ret
            exact ⟨rfl, hb9⟩

theorem policyRises_far (K G L : Nat) (n m : Nat) (A C : Option Addr) (c d : Nat) (w : World) (hn : 100 < n) :
    Calls Try.prog 5 #[.agg #[.float .f64 K, .float .f64 G, .float .f64 L], .slice A n c, .slice C m d] w (TrueB w) := by
  have hd : decide ((100 : Int) < (n : Int)) = true := decide_eq_true (by omega)
  go_enter Try.func5, Try.ntmps5
  go_wp2_with fail
  refine (poAwake_any _).mono ?_
  rintro e w1 ⟨rfl, hb1⟩
  go_wp2
  go_ret
  exact ⟨rfl, ((Below.refl _ _).alloc (Nat.le_refl _) _).trans (hb1.mono (by simp))⟩
theorem policyRises_unlike (K G L : Nat) (n m : Nat) (A C : Option Addr) (c d : Nat) (w : World) (hn : n ≤ 100) (hm : m ≠ n) :
    Calls Try.prog 5 #[.agg #[.float .f64 K, .float .f64 G, .float .f64 L], .slice A n c, .slice C m d] w (TrueB w) := by
  have hd : decide ((100 : Int) < (n : Int)) = false := decide_eq_false (by omega)
  have hu : ((m : Int) != (n : Int)) = true := by simp; omega
  have HM := Lib.hid hm; clear hm
  go_enter Try.func5, Try.ntmps5
  go_wp2_with fail
  refine (poAwake_any _).mono ?_
  rintro e w1 ⟨rfl, hb1⟩
  go_wp2
  go_ret
  exact ⟨rfl, ((Below.refl _ _).alloc (Nat.le_refl _) _).trans (hb1.mono (by simp))⟩
theorem policyRises_odd (K G L : Nat) (n : Nat) (A C : Option Addr) (c d : Nat) (w : World) (hn : n ≤ 100) (hp : plainB K G L = false) :
    Calls Try.prog 5 #[.agg #[.float .f64 K, .float .f64 G, .float .f64 L], .slice A n c, .slice C n d] w (TrueB w) := by
  have hd : decide ((100 : Int) < (n : Int)) = false := decide_eq_false (by omega)
  have HP := Lib.hid hp; clear hp
  go_enter Try.func5, Try.ntmps5
  go_wp2_with fail
  refine (poAwake_any _).mono ?_
  rintro e w1 ⟨rfl, hb1⟩
  have hbx : Cells w1 w.heap.size 32 #[.float .f64 K, .float .f64 G, .float .f64 L] := (Cells.new w _ _).below' hb1
  have hb1' : Below w.heap.size w w1 := ((Below.refl _ _).alloc (Nat.le_refl _) _).trans (hb1.mono (by simp))
  have p0 := hbx.cell 0
  have p1 := hbx.cell 1
  have p2 := hbx.cell 2
  simp only [List.getElem?_toArray, List.getElem?_cons_zero, List.getElem?_cons_succ] at p0 p1 p2
  go_wp2_with fail
  refine (plain_is2 K G L false _ HP.out).mono ?_
  rintro e w2 ⟨rfl, hb2⟩
  go_wp2
  go_ret
  exact ⟨rfl, hb1'.trans (hb2.mono hb1'.size)⟩

theorem policyRises_walk (K G L : Nat) (l : List Bool) (A : Option Addr) (c : Nat) {w : World} (hl : Row w w.heap.size A l.length (l.map Value.bool)) (_ : ∀ y ∈ l, True) (_ : l.length ≤ maxLen)
    (ms : List Bool) (C : Option Addr) (d : Nat) (hm : Row w w.heap.size C ms.length (ms.map Value.bool)) (_ : ∀ y ∈ ms, True) (_ : ms.length ≤ maxLen) (_ : World) :
    Calls Try.prog 5 #[.agg #[.float .f64 K, .float .f64 G, .float .f64 L], .slice A l.length c, .slice C ms.length d] w (TrueB w) := by
  by_cases hn : l.length ≤ 100
  · by_cases he : ms.length = l.length
    · rw [he] at hm ⊢
      cases hp : plainB K G L
      · exact policyRises_odd K G L _ _ _ _ _ _ hn hp
      · exact policyRises_any K G L l ms A C c d w hn he hp hl hm
    · exact policyRises_unlike K G L _ _ _ _ _ _ _ hn he
  · exact policyRises_far K G L _ _ _ _ _ _ _ (by omega)
end Go.Proofs.Ytohilconpcgjeaa
