import Derived.Test.YtnoojhkkojijpaaDoorEfIts
import Derived.Test.YtnoojhkkojijpaaDoorEfCel
/-
  The project's Last: the place of the last effect of a row that touches a node.
-/
namespace Go.Proofs.YtnoojhkkojijpaaDoor
open Wd U Go.RowKit Go.ChangeShapes Go.WideShapes Go.Shelf
set_option linter.unusedVariables false
attribute [local go_sem] Oper.semAt_some

def lastStep (n : Int) (r : Nat × Bool) (p : Eff × Nat) : Nat × Bool := if p.1.ino = n then (p.2, true) else r
def lastT (n : Int) (l : List Eff) : Nat × Bool := l.zipIdx.foldl (lastStep n) (0, false)
theorem lastT_snoc {n : Int} {l : List Eff} {k : Nat} {e : Eff} (h : l[k]? = some e) : lastT n (l.take (k + 1)) = if e.ino = n then (k, true) else lastT n (l.take k) := by
  have hk : k < l.length := (List.getElem?_eq_some_iff.1 h).1
  rw [take_snocE h]
  unfold lastT
  rw [List.zipIdx_append, List.foldl_append, List.length_take, Nat.min_eq_left (by omega)]
  show lastStep n _ (e, 0 + k) = _
  unfold lastStep
  rw [Nat.zero_add]
/-- where none of the last ones touches it, the last one is among the first -/
theorem lastT_none {n : Int} {l : List Eff} : ∀ {k : Nat}, k ≤ l.length → (∀ x ∈ backs l k, x.2.ino ≠ n) → lastT n l = lastT n (l.take (l.length - k)) := by
  intro k
  induction k with
  | zero => intro _ _; rw [Nat.sub_zero, List.take_of_length_le (Nat.le_refl _)]
  | succ k ih =>
    intro hk hx
    rw [backs_succ] at hx
    rw [ih (by omega) (fun x h => hx x (List.mem_append_left _ h))]
    obtain ⟨p, hp⟩ : ∃ p, l.length - k = p + 1 := ⟨l.length - 1 - k, by omega⟩
    have hpl : p < l.length := by omega
    have h1 := hx (l.length - 1 - k, (l[l.length - 1 - k]?).getD default) (List.mem_append_right _ (List.mem_singleton.2 rfl))
    rw [show l.length - 1 - k = p by omega, List.getElem?_eq_getElem hpl, Option.getD_some] at h1
    rw [hp, lastT_snoc (List.getElem?_eq_getElem hpl), if_neg h1, show l.length - (k + 1) = p by omega]
theorem lastT_out {n : Int} {l : List Eff} (hx : ∀ x ∈ backs l l.length, x.2.ino ≠ n) : lastT n l = (0, false) := by
  rw [lastT_none (Nat.le_refl _) hx, Nat.sub_self]; rfl
theorem lastT_at {n : Int} {l : List Eff} {k : Nat} (hk : k ≤ l.length) {ini : List (Nat × Eff)} {x : Nat × Eff} (he : backs l k = ini ++ [x]) (hx : ∀ y ∈ ini, y.2.ino ≠ n) (hn : x.2.ino = n) : lastT n l = (x.1, true) := by
  cases k with
  | zero => exact absurd he (by simp [backs])
  | succ k =>
    rw [backs_succ] at he
    obtain ⟨rfl, e5⟩ := List.append_inj' he rfl
    obtain rfl := List.singleton_inj.1 e5
    obtain ⟨p, hp⟩ : ∃ p, l.length - k = p + 1 := ⟨l.length - 1 - k, by omega⟩
    have hpl : p < l.length := by omega
    rw [show l.length - 1 - k = p by omega, List.getElem?_eq_getElem hpl, Option.getD_some] at hn ⊢
    rw [lastT_none (by omega) hx, hp, lastT_snoc (List.getElem?_eq_getElem hpl), if_pos hn]

theorem back_make (F : Fence) (n : Nat) (h5 : F.fn 24) (hro : F.round = none) (a : Option Addr) (len cap : Nat) (w : World) :
    CallsIn F n Tryd.prog 24 #[.slice a len cap] w fun e w' => e = .returned (.func (.func 30) #[] #[.pointer (some ⟨w.heap.size, 0, none⟩)]) ∧ w' = w.alloc (.cells #[.slice a len cap] 27) := by
  refine callsIn_of_wp Tryd.func24 rfl h5 ?_ hro
  simp only [Tryd.ntmps24, List.size_toArray, List.length_cons, List.length_nil, Nat.reduceAdd, Nat.reduceSub, Array.replicate_succ, Array.replicate_zero, List.push_toArray, List.append_toArray, List.nil_append, List.cons_append]
  gi_wp2
  go_ret
  exact ⟨rfl, rfl⟩

/-- what a loop's body has of its own effect -/
def LastA (w : World) (A : Option Addr) (len cap : Nat) (n : Int) (x : Nat × Eff) (a' : Act) (W : World) : Prop :=
  ∃ Bx, w.heap.size + 4 ≤ Bx ∧ Cells W Bx 24 (effCells x.2) ∧ a' = { tmps := #[.slice A len cap, .int .i64 n, undef, .pointer (some ⟨w.heap.size, 0, none⟩), .pointer (some ⟨w.heap.size + 1, 0, none⟩), .pointer (some ⟨w.heap.size + 1 + 1, 0, none⟩), .int .i64 (x.1 : Int), .pointer (some ⟨Bx, 0, none⟩), .slice A len cap, .func (.func 30) #[] #[.pointer (some ⟨w.heap.size + 1 + 1 + 1, 0, none⟩)], .int .i64 (x.1 : Int), x.2.val, undef, undef, undef, undef], defers := [] }

set_option maxRecDepth 100000 in
set_option maxHeartbeats 4000000 in
theorem eLast_in (n0 : Nat) (hn : 3 ≤ n0) {w : World} {A : Option Addr} {c : Nat} {l : List Eff} (n : Int) (h : Effs w w.heap.size A l) (hm : l.length ≤ 1000) : CallsIn Fence.wide n0 Tryd.prog 15 #[.slice A l.length c, .int .i64 n] w fun e w' => e = .returned (.tuple #[.int .i64 (lastT n l).1, .bool (lastT n l).2]) ∧ Below w.heap.size w w' := by
  have h1 : 1 ≤ n0 := by omega
  have hro : Fence.wide.round = none := rfl
  refine callsIn_of_wp_marks Tryd.func15 rfl trivial ?_ hro
  simp only [Tryd.ntmps15, List.size_toArray, List.length_cons, List.length_nil, Nat.reduceAdd, Nat.reduceSub, Array.replicate_succ, Array.replicate_zero, List.push_toArray, List.append_toArray, List.nil_append, List.cons_append]
  gi_wp2_with (refine ⟨trivial, ?_⟩; gi_at_call 24; refine (back_make Fence.wide (n0 - 1) trivial hro _ _ _ _).mono ?_; rintro e w' ⟨rfl, rfl⟩)
  obtain ⟨W0, hW0⟩ : ∃ W0, (((w.alloc (.cells #[.int .i64 n] 3)).alloc (.cells #[.int .i64 0] 3)).alloc (.cells #[.bool false] 4)).alloc (.cells #[.slice A l.length c] 27) = W0 := ⟨_, rfl⟩
  have s1 : (w.alloc (.cells #[.int .i64 n] 3)).heap.size = w.heap.size + 1 := by simp
  have s2 : ((w.alloc (.cells #[.int .i64 n] 3)).alloc (.cells #[.int .i64 0] 3)).heap.size = w.heap.size + 1 + 1 := by simp
  have s3 : (((w.alloc (.cells #[.int .i64 n] 3)).alloc (.cells #[.int .i64 0] 3)).alloc (.cells #[.bool false] 4)).heap.size = w.heap.size + 1 + 1 + 1 := by simp
  have hsz : W0.heap.size = w.heap.size + 4 := by rw [← hW0]; simp
  have hN : Cells W0 w.heap.size 3 #[.int .i64 n] := by rw [← hW0]; exact (((Cells.new _ _ _).alloc _).alloc _).alloc _
  have hR : Cells W0 (w.heap.size + 1) 3 #[.int .i64 0] := by rw [← hW0]; have := Cells.new (w.alloc (.cells #[.int .i64 n] 3)) 3 #[.int .i64 0]; rw [s1] at this; exact (this.alloc _).alloc _
  have hT : Cells W0 (w.heap.size + 1 + 1) 4 #[.bool false] := by rw [← hW0]; have := Cells.new ((w.alloc (.cells #[.int .i64 n] 3)).alloc (.cells #[.int .i64 0] 3)) 4 #[.bool false]; rw [s2] at this; exact this.alloc _
  have hS : Cells W0 (w.heap.size + 1 + 1 + 1) 27 #[.slice A l.length c] := by rw [← hW0]; have := Cells.new (((w.alloc (.cells #[.int .i64 n] 3)).alloc (.cells #[.int .i64 0] 3)).alloc (.cells #[.bool false] 4)) 27 #[.slice A l.length c]; rw [s3] at this; exact this
  have hB0 : Below w.heap.size w W0 := by rw [← hW0]; exact ((((Below.refl _ w).alloc (Nat.le_refl _) _).alloc (by simp) _).alloc (by simp; omega) _).alloc (by simp; omega) _
  have hz : (((w.alloc (.cells #[.int .i64 n] 3)).alloc (.cells #[.int .i64 0] 3)).alloc (.cells #[.bool false] 4)).heap.size = w.heap.size + 1 + 1 + 1 := s3
  clear s1 s2 s3 hz
  rw [hW0]
  clear hW0
  refine wpIn_rangeFunc_ownH hro h1 (gf := 30) (lb := #[.pointer (some ⟨w.heap.size + 1 + 1 + 1, 0, none⟩)]) (encs := fun x : Nat × Eff => #[Value.int .i64 (x.1 : Int), x.2.val]) (Kp := Below (w.heap.size + 4)) (S := fun xs => xs = backs l l.length) (Sp := fun pre => ∃ k, k ≤ l.length ∧ pre = backs l k) (N := l.length) (w0 := W0)
    rfl trivial (enters_of Tryd.func30 (by kernel_rfl) rfl)
    (fun lp J Jx W hW _ _ hY h0 => (back_in Fence.wide (n0 - 1) trivial hro (by omega) lp (w.heap.size + 1 + 1 + 1) (w.heap.size + 4) A c l hm J Jx hY W (by have := (hS.below hW (by omega)).cell 0; exact this) (by omega) ((((h.below hB0).more (by omega))).below (hW.mono (by omega))) h0).mono fun e W' he => ⟨he.1, he.2.imp (fun hj => ⟨_, rfl, hj⟩) (fun ⟨k, hk, hj⟩ => ⟨_, ⟨k, hk, rfl⟩, hj⟩)⟩)
    belowK_t (belowK_b (by omega)) (Below.refl _ _) (fun _ => rfl)
    (fun pre W => (∀ x ∈ pre, x.2.ino ≠ n) ∧ Below (w.heap.size + 4) W0 W)
    (fun c pre W => (c = .ret ∧ ∃ ini x, pre = ini ++ [x] ∧ (∀ y ∈ ini, y.2.ino ≠ n) ∧ x.2.ino = n ∧ Cells W (w.heap.size + 1) 3 #[.int .i64 (x.1 : Int)] ∧ Cells W (w.heap.size + 1 + 1) 4 #[.bool true]) ∧ Below w.heap.size w W)
    (OwnFrom.and (ownFrom_pure _ _) (ownFrom_below (by omega) (by omega)))
    (fun c => OwnFrom.and (Own.from (fun s X Y row hs hg hr => by obtain ⟨hc, ini, x, e1, e2, e3, e4, e5⟩ := hs; exact ⟨hc, ini, x, e1, e2, e3, (grownBy_keeps_cells hg hr e4 rfl).trans e4, (grownBy_keeps_cells hg hr e5 rfl).trans e5⟩) _) (ownFrom_below (Nat.le_refl _) (by omega)))
    ⟨by simp, Below.refl _ _⟩
    (LastA w A l.length c n)
    (fun x a' _ X Y row hs hg hr => by obtain ⟨Bx, g1, g2, g3⟩ := hs; exact ⟨Bx, g1, (grownBy_keeps_cells hg (fun r e => (hr r e).2) g2 rfl).trans g2, g3⟩)
    ?assign ?body ?done ?stop
  case assign =>
    rintro lp pre x W K ⟨g0, hB1⟩ hK
    have hW4 : w.heap.size + 4 ≤ W.heap.size := Nat.le_trans (by omega) hB1.size
    have hK' := hK { tmps := #[.slice A l.length c, .int .i64 n, undef, .pointer (some ⟨w.heap.size, 0, none⟩), .pointer (some ⟨w.heap.size + 1, 0, none⟩), .pointer (some ⟨w.heap.size + 1 + 1, 0, none⟩), .int .i64 (x.1 : Int), .pointer (some ⟨W.heap.size, 0, none⟩), .slice A l.length c, .func (.func 30) #[] #[.pointer (some ⟨w.heap.size + 1 + 1 + 1, 0, none⟩)], .int .i64 (x.1 : Int), x.2.val, undef, undef, undef, undef], defers := [] } (W.alloc (.cells (effCells x.2) 24)) ((KeepsOthers.alloc _ _).from _) ((Below.refl _ W).alloc hW4 _) ⟨g0, hB1.alloc (by omega) _⟩ ⟨W.heap.size, hW4, Cells.new _ _ _, rfl⟩
    unfold Eff.val effCells at hK'
    unfold Eff.val
    clear hK
    gi_wp2
    exact hK'
  case body =>
    rintro lp pre x a' W hl ⟨r, hr⟩ ⟨g0, hB1⟩ ⟨Bx, hBx, cX, rfl⟩ hlt
    have hW4 : w.heap.size + 4 ≤ W.heap.size := Nat.le_trans (by omega) hB1.size
    have cN := (hN.below hB1 (by omega)).cell 0
    have x0 := cX.cell 0
    have x1 := cX.cell 1
    have x2 := cX.cell 2
    have x3 := cX.cell 3
    have x4 := cX.cell 4
    have x5 := cX.cell 5
    have x6 := cX.cell 6
    have x7 := cX.cell 7
    have x8 := cX.cell 8
    have G0 := Lib.hid g0
    have h1' : 1 ≤ n0 - 1 - 1 := by omega
    have HB1 := Lib.hid hB1
    have HW4 := Lib.hid hW4
    have HR := Lib.hid (hR.below hB1 (by omega)); have HT := Lib.hid (hT.below hB1 (by omega))
    have K0 := Lib.hid (fun w => eTouches x.2 n w)
    unfold Eff.val at K0
    unfold effCells at x0 x1 x2 x3 x4 x5 x6 x7 x8
    simp at cN x0 x1 x2 x3 x4 x5 x6 x7 x8
    clear g0 hB1 hW4
    obtain ⟨t, ht⟩ : ∃ t, (x.2.ino == n) = t := ⟨_, rfl⟩
    rw [ht] at K0
    have HT2 := Lib.hid ht
    clear ht
    cases t
    · gi_wp2_with (refine ⟨trivial, ?_⟩; gi_at_call 14; refine (CallsIn.inRound lp (callsIn_wide.2 (K0.out _))).mono ?_; rintro e w1 h1; obtain ⟨rfl, b1⟩ := h1.below; have HB2 := Lib.hid b1; have cR := (HR.out.below' b1).cell 0; have cT := (HT.out.below' b1).cell 0; have fR := (HR.out.below' b1).free 0; have fT := (HT.out.below' b1).free 0; simp at cR cT; clear h1 b1)
      exact ⟨KeepsFrom.of_grownBy (grown_of_below HB2.out none) (fun j e => by cases e), HB2.out.mono HW4.out, fun y hy => (List.mem_append.1 hy).elim (G0.out y) (fun e => by rw [List.mem_singleton.1 e]; simpa using HT2.out), HB1.out.trans (HB2.out.mono HW4.out)⟩
    · gi_wp2_with (refine ⟨trivial, ?_⟩; gi_at_call 14; refine (CallsIn.inRound lp (callsIn_wide.2 (K0.out _))).mono ?_; rintro e w1 h1; obtain ⟨rfl, b1⟩ := h1.below; have HB2 := Lib.hid b1; have cR := (HR.out.below' b1).cell 0; have cT := (HT.out.below' b1).cell 0; have fR := (HR.out.below' b1).free 0; have fT := (HT.out.below' b1).free 0; simp at cR cT; clear h1 b1)
      exact ⟨(KeepsFrom.of_grownBy (grown_of_below HB2.out none) (fun j e => by cases e)).trans (((KeepsOthers.setCell _ _ _).trans (KeepsOthers.setCell _ _ _)).from _), ⟨rfl, pre, x, rfl, G0.out, by simpa using HT2.out, ((HR.out.below' HB2.out).set 0 _).far (by simp) _, ((HT.out.below' HB2.out).far (by simp) _).set 0 _⟩, ((hB0.trans ((HB1.out.trans (HB2.out.mono HW4.out)).mono (by omega))).setCell (p := ⟨w.heap.size + 1, 0, none⟩) (by simp) _).setCell (p := ⟨w.heap.size + 1 + 1, 0, none⟩) (by simp; omega) _⟩
  case done =>
    rintro D ys W hD rfl ⟨hne, hB1⟩ hK
    have hR1 := hR.below hB1 (by omega)
    have hT1 := hT.below hB1 (by omega)
    have cR := hR1.cell 0
    have cT := hT1.cell 0
    have fR := hR1.free 0
    have fT := hT1.free 0
    have hBW := hB0.trans (hB1.mono (by omega))
    simp at cR cT
    gi_wp2
    have hK' := ((KeepsOthers.setCell W ⟨w.heap.size + 1, 0, none⟩ (.int .i64 0)).trans (KeepsOthers.setCell _ ⟨w.heap.size + 1 + 1, 0, none⟩ (.bool false))).same D _ hK rfl
    refine ⟨by simp, .inl ⟨_, _, rfl, run_takeDeferred hK', ?_⟩⟩
    have hR2 : Cells ((W.setCell ⟨w.heap.size + 1, 0, none⟩ (.int .i64 0)).setCell ⟨w.heap.size + 1 + 1, 0, none⟩ (.bool false)) (w.heap.size + 1) 3 #[.int .i64 0] := (hR1.set 0 (.int .i64 0)).far (by simp) _
    have hT2 : Cells ((W.setCell ⟨w.heap.size + 1, 0, none⟩ (.int .i64 0)).setCell ⟨w.heap.size + 1 + 1, 0, none⟩ (.bool false)) (w.heap.size + 1 + 1) 4 #[.bool false] := (hT1.far (by simp) _).set 0 (.bool false)
    have hR3 := (grownBy_keeps_cells (grownBy_putObj' _ D (.deferred none)) (fun r e => by cases e; exact ⟨_, hK', rfl⟩) hR2 rfl).trans hR2
    have hT3 := (grownBy_keeps_cells (grownBy_putObj' _ D (.deferred none)) (fun r e => by cases e; exact ⟨_, hK', rfl⟩) hT2 rfl).trans hT2
    have cR3 := Cells.cell hR3 0
    have cT3 := Cells.cell hT3 0
    simp at cR3 cT3
    refine ⟨.tuple #[.int .i64 0, .bool false], ?_, ?_, ((hBW.setCell (p := ⟨w.heap.size + 1, 0, none⟩) (by simp) _).setCell (p := ⟨w.heap.size + 1 + 1, 0, none⟩) (by simp; omega) _).trans (belowK_b (w := w) (Nat.le_refl _) _ D _ _ (by omega) hK' rfl rfl)⟩
    · simp [results, Tryd.f15, go_sem, cR3, cT3]
    · rw [lastT_out hne]; rfl
  case stop =>
    rintro D c pre W hD ⟨k, hk, rfl⟩ ⟨⟨rfl, ini, x, e1, e2, e3, hR1, hT1⟩, hB⟩ hK
    gi_wp2
    refine ⟨by simp, .inl ⟨_, _, rfl, run_takeDeferred hK, ?_⟩⟩
    have hR3 := (grownBy_keeps_cells (grownBy_putObj' _ D (.deferred none)) (fun r e => by cases e; exact ⟨_, hK, rfl⟩) hR1 rfl).trans hR1
    have hT3 := (grownBy_keeps_cells (grownBy_putObj' _ D (.deferred none)) (fun r e => by cases e; exact ⟨_, hK, rfl⟩) hT1 rfl).trans hT1
    have cR3 := Cells.cell hR3 0
    have cT3 := Cells.cell hT3 0
    simp at cR3 cT3
    refine ⟨.tuple #[.int .i64 (x.1 : Int), .bool true], ?_, ?_, hB.trans (belowK_b (w := w) (Nat.le_refl _) _ D _ _ (by omega) hK rfl rfl)⟩
    · simp [results, Tryd.f15, go_sem, cR3, cT3]
    · rw [lastT_at hk e1 e2 e3]
theorem eLast {w : World} {A : Option Addr} {c : Nat} {l : List Eff} (n : Int) (h : Effs w w.heap.size A l) (hm : l.length ≤ 1000) : Calls Tryd.prog 15 #[.slice A l.length c, .int .i64 n] w fun e w' => e = .returned (.tuple #[.int .i64 (lastT n l).1, .bool (lastT n l).2]) ∧ Below w.heap.size w w' := (callsIn_wide (n := 3)).1 (eLast_in 3 (Nat.le_refl _) n h hm)
end Go.Proofs.YtnoojhkkojijpaaDoor
