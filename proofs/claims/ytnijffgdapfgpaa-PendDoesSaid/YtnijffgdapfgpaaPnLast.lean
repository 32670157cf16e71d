import Derived.Test.YtnijffgdapfgpaaPnIts
/-! The project's Last: the number of the last one that touches a node. -/
namespace Go.Proofs.Ytnijffgdapfgpaa
open Wd U Go.RowKit Go.ChangeShapes Go.WideShapes Go.Shelf
set_option linter.unusedVariables false
attribute [local go_sem] Oper.semAt_some
/-- one behind the place of the last one that touches it; 0 where none does -/
def lastStepN (n : Int) (r : Nat) (p : (Eff × Int) × Nat) : Nat := if p.1.1.ino = n then p.2 + 1 else r
def lastN (n : Int) (l : List (Eff × Int)) : Nat := l.zipIdx.foldl (lastStepN n) 0
theorem take_snocW {α : Type} {l : List α} {k : Nat} {x : α} (h : l[k]? = some x) : l.take (k + 1) = l.take k ++ [x] := by rw [List.take_add_one, h]; rfl
theorem lastN_snoc {n : Int} {l : List (Eff × Int)} {k : Nat} {e : Eff × Int} (h : l[k]? = some e) : lastN n (l.take (k + 1)) = if e.1.ino = n then k + 1 else lastN n (l.take k) := by
  have hk : k < l.length := (List.getElem?_eq_some_iff.1 h).1
  rw [take_snocW h]
  unfold lastN
  rw [List.zipIdx_append, List.foldl_append, List.length_take, Nat.min_eq_left (by omega)]
  show lastStepN n _ (e, 0 + k) = _
  unfold lastStepN
  rw [Nat.zero_add]
theorem lastN_none {n : Int} {l : List (Eff × Int)} : ∀ {k : Nat}, k ≤ l.length → (∀ x ∈ wbacks l k, x.2.1.ino ≠ n) → lastN n l = lastN n (l.take (l.length - k)) := by
  intro k
  induction k with
  | zero => intro _ _; rw [Nat.sub_zero, List.take_of_length_le (Nat.le_refl _)]
  | succ k ih =>
    intro hk hx
    rw [wbacks_succ] at hx
    rw [ih (by omega) (fun x h => hx x (List.mem_append_left _ h))]
    obtain ⟨p, hp⟩ : ∃ p, l.length - k = p + 1 := ⟨l.length - 1 - k, by omega⟩
    have hpl : p < l.length := by omega
    have h1 := hx (l.length - 1 - k, (l[l.length - 1 - k]?).getD default) (List.mem_append_right _ (List.mem_singleton.2 rfl))
    rw [show l.length - 1 - k = p by omega, List.getElem?_eq_getElem hpl, Option.getD_some] at h1
    rw [hp, lastN_snoc (List.getElem?_eq_getElem hpl), if_neg h1, show l.length - (k + 1) = p by omega]
theorem lastN_out {n : Int} {l : List (Eff × Int)} (hx : ∀ x ∈ wbacks l l.length, x.2.1.ino ≠ n) : lastN n l = 0 := by
  rw [lastN_none (Nat.le_refl _) hx, Nat.sub_self]; rfl
theorem lastN_at {n : Int} {l : List (Eff × Int)} {k : Nat} (hk : k ≤ l.length) {ini : List (Nat × Eff × Int)} {x : Nat × Eff × Int} (he : wbacks l k = ini ++ [x]) (hx : ∀ y ∈ ini, y.2.1.ino ≠ n) (hn : x.2.1.ino = n) : lastN n l = l.length - ini.length ∧ ini.length < l.length := by
  cases k with
  | zero => exact absurd he (by simp [wbacks])
  | succ k =>
    rw [wbacks_succ] at he
    obtain ⟨rfl, e5⟩ := List.append_inj' he rfl
    obtain rfl := List.singleton_inj.1 e5
    obtain ⟨p, hp⟩ : ∃ p, l.length - k = p + 1 := ⟨l.length - 1 - k, by omega⟩
    have hpl : p < l.length := by omega
    rw [wbacks_length]
    rw [show l.length - 1 - k = p by omega, List.getElem?_eq_getElem hpl, Option.getD_some] at hn
    rw [lastN_none (by omega) hx, hp, lastN_snoc (List.getElem?_eq_getElem hpl), if_pos hn]
    exact ⟨rfl, by omega⟩
theorem wback_make (F : Fence) (n : Nat) (h5 : F.fn 19) (hro : F.round = none) (a : Option Addr) (len cap : Nat) (w : World) :
    CallsIn F n Try.prog 19 #[.slice a len cap] w fun e w' => e = .returned (.func (.func 22) #[] #[.pointer (some ⟨w.heap.size, 0, none⟩)]) ∧ w' = w.alloc (.cells #[.slice a len cap] 27) := by
  refine callsIn_of_wp Try.func19 rfl h5 ?_ hro
  simp only [Try.ntmps19, List.size_toArray, List.length_cons, List.length_nil, Nat.reduceAdd, Nat.reduceSub, Array.replicate_succ, Array.replicate_zero, List.push_toArray, List.append_toArray, List.nil_append, List.cons_append]
  gi_wp2
  go_ret
  exact ⟨rfl, rfl⟩
/-- what a round of the loop keeps: all below m, and the two boxes beside the number's own -/
structure KpN (m : Nat) (X Y : World) : Prop where
  below : Below m X Y
  b0 : Y.heap[m]? = X.heap[m]?
  b2 : Y.heap[m + 2]? = X.heap[m + 2]?
theorem KpN.trans {m : Nat} {X Y Z : World} (h : KpN m X Y) (k : KpN m Y Z) : KpN m X Z := ⟨h.below.trans k.below, k.b0.trans h.b0, k.b2.trans h.b2⟩
theorem KpN.refl (m : Nat) (X : World) : KpN m X X := ⟨Below.refl _ _, rfl, rfl⟩
theorem KpN.of_below {m : Nat} {X Y : World} (h : Below (m + 3) X Y) : KpN m X Y := ⟨h.mono (by omega), h.block _ (by omega), h.block _ (by omega)⟩
theorem kp_set {m : Nat} {W w1 : World} (h : Below W.heap.size W w1) (hm : m + 3 ≤ W.heap.size) (v : Value) : KpN m W (w1.setCell ⟨m + 1, 0, none⟩ v) :=
  (KpN.of_below (h.mono hm)).trans ⟨(Below.refl m w1).setCell (p := ⟨m + 1, 0, none⟩) (by simp) v, Below.heap_setCell w1 ⟨m + 1, 0, none⟩ v m (by simp), Below.heap_setCell w1 ⟨m + 1, 0, none⟩ v (m + 2) (by simp)⟩
/-- what a loop's body has of its own row -/
def LastWA (w : World) (pv : Value) (g N c : Nat) (A : Option Addr) (n : Int) (x : Nat × Eff × Int) (a' : Act) (W : World) : Prop :=
  ∃ Bx, w.heap.size + 3 ≤ Bx ∧ Cells W Bx 44 (wcells x.2).toArray ∧ a' = { tmps := #[pv, .int .i64 n, undef, .pointer (some ⟨w.heap.size, 0, none⟩), .int .i64 0, .pointer (some ⟨w.heap.size + 1, 0, none⟩), undef, .pointer (some ⟨Bx, 0, none⟩), pv, .int .i64 (g : Int), pv, .int .i64 (N : Int), .int .i64 ((g : Int) + (N : Int)), pv, .slice A N c, .func (.func 22) #[] #[.pointer (some ⟨w.heap.size + 1 + 1, 0, none⟩)], .int .i64 (x.1 : Int), wval x.2, undef, undef, undef, undef, undef, undef, undef], defers := [] }
theorem own_kp {m B : Nat} {W0 : World} (hB : m + 3 ≤ B) (hB0 : B ≤ W0.heap.size) : OwnFrom B (fun (_ : List (Nat × Eff × Int)) W => KpN m W0 W) := fun _ X Y row hs hg hr => by
  have hz := hs.below.size
  have ne : ∀ k, k < m + 3 → some k ≠ row := fun k hk e => by have := (hr k e.symm).1; omega
  exact hs.trans ⟨⟨hg.os, hg.tape, hg.output, hg.size, fun k hk => hg.block k (by omega) (ne k (by omega))⟩, hg.block _ (by omega) (ne _ (by omega)), hg.block _ (by omega) (ne _ (by omega))⟩
set_option maxRecDepth 100000 in
set_option maxHeartbeats 4000000 in
theorem pnLast_in (n0 : Nat) (hn : 3 ≤ n0) {w : World} (pv : Value) (rows : List (Eff × Int)) (g N c : Nat) (A : Option Addr) (hN : rows.length = N) (hle : N ≤ 1000) (hge : g ≤ 1000000) (n : Int)
    (k1 : ∀ (W : World), Below w.heap.size w W → Calls Try.prog 12 #[pv] W fun e w' => e = .returned (.int .i64 (g : Int)) ∧ W = w')
    (k2 : ∀ (W : World), Below w.heap.size w W → Calls Try.prog 11 #[pv] W fun e w' => e = .returned (.int .i64 (N : Int)) ∧ W = w')
    (k3 : ∀ (W : World), Below w.heap.size w W → Calls Try.prog 18 #[pv] W fun e w' => e = .returned (.slice A N c) ∧ W = w')
    (hrow : ∀ (W : World), Below w.heap.size w W → ∀ (k : Nat) (x : Eff × Int), rows[k]? = some x → ∃ q off, A = some ⟨q, off, none⟩ ∧ ∀ (j : Nat) (u : Value), (wcells x)[j]? = some u → W.cell? ⟨q, off + (k * 10 + j), none⟩ = some u) :
    CallsIn Fence.wide n0 Try.prog 14 #[pv, .int .i64 n] w fun e w' => e = .returned (.int .i64 ((g + lastN n rows : Nat) : Int)) ∧ Below w.heap.size w w' := by
  have h1 : 1 ≤ n0 := by omega
  have hro : Fence.wide.round = none := rfl
  have K1 := Lib.hid k1; have K2 := Lib.hid k2; have K3 := Lib.hid k3; have HROW := Lib.hid hrow
  have K4 := Lib.hid (fun (a : Option Addr) (len cap : Nat) (W : World) => callsIn_wide.1 (wback_make Fence.wide n0 trivial rfl a len cap W))
  have q1 : wrap64 ((g : Int) + (N : Int)) = ((g + N : Nat) : Int) := by unfold wrap64; omega
  have HN := Lib.hid hN
  clear k1 k2 k3 hrow hN
  refine callsIn_of_wp_marks Try.func14 rfl trivial ?_ hro
  simp only [Try.ntmps14, List.size_toArray, List.length_cons, List.length_nil, Nat.reduceAdd, Nat.reduceSub, Array.replicate_succ, Array.replicate_zero, List.push_toArray, List.append_toArray, List.nil_append, List.cons_append]
  refine wpIn_wide.2 ?_
  go_wp2
  go_step3
  go_wp2_with (first
    | (go_at_call 12; refine (K1.out _ ((Below.refl _ w).alloc (Nat.le_refl _) _)).mono ?_; rintro e w' ⟨rfl, rfl⟩)
    | (go_at_call 11; refine (K2.out _ ((Below.refl _ w).alloc (Nat.le_refl _) _)).mono ?_; rintro e w' ⟨rfl, rfl⟩)
    | (go_at_call 18; refine (K3.out _ (((Below.refl _ w).alloc (Nat.le_refl _) _).alloc (by simp) _)).mono ?_; rintro e w' ⟨rfl, rfl⟩)
    | (go_at_call 19; refine (K4.out _ _ _ _).mono ?_; rintro e w' ⟨rfl, rfl⟩))
  go_step3
  go_wp2_with (first
    | (go_at_call 12; refine (K1.out _ ((Below.refl _ w).alloc (Nat.le_refl _) _)).mono ?_; rintro e w' ⟨rfl, rfl⟩)
    | (go_at_call 11; refine (K2.out _ ((Below.refl _ w).alloc (Nat.le_refl _) _)).mono ?_; rintro e w' ⟨rfl, rfl⟩)
    | (go_at_call 18; refine (K3.out _ (((Below.refl _ w).alloc (Nat.le_refl _) _).alloc (by simp) _)).mono ?_; rintro e w' ⟨rfl, rfl⟩)
    | (go_at_call 19; refine (K4.out _ _ _ _).mono ?_; rintro e w' ⟨rfl, rfl⟩))
  obtain ⟨W0, hW0⟩ : ∃ W0, ((w.alloc (.cells #[.int .i64 n] 3)).alloc (.cells #[.int .i64 ((g : Int) + (N : Int))] 3)).alloc (.cells #[.slice A N c] 27) = W0 := ⟨_, rfl⟩
  have s1 : (w.alloc (.cells #[.int .i64 n] 3)).heap.size = w.heap.size + 1 := by simp
  have s2 : ((w.alloc (.cells #[.int .i64 n] 3)).alloc (.cells #[.int .i64 ((g : Int) + (N : Int))] 3)).heap.size = w.heap.size + 1 + 1 := by simp
  have hsz : W0.heap.size = w.heap.size + 3 := by rw [← hW0]; simp
  have hI : Cells W0 w.heap.size 3 #[.int .i64 n] := by rw [← hW0]; exact ((Cells.new _ _ _).alloc _).alloc _
  have hV : Cells W0 (w.heap.size + 1) 3 #[.int .i64 ((g : Int) + (N : Int))] := by rw [← hW0]; have := Cells.new (w.alloc (.cells #[.int .i64 n] 3)) 3 #[.int .i64 ((g : Int) + (N : Int))]; rw [s1] at this; exact this.alloc _
  have hS : Cells W0 (w.heap.size + 2) 27 #[.slice A N c] := by rw [← hW0]; have := Cells.new ((w.alloc (.cells #[.int .i64 n] 3)).alloc (.cells #[.int .i64 ((g : Int) + (N : Int))] 3)) 27 #[.slice A N c]; rw [s2] at this; exact this
  have hB0 : Below w.heap.size w W0 := by rw [← hW0]; exact (((Below.refl _ w).alloc (Nat.le_refl _) _).alloc (by simp) _).alloc (by simp; omega) _
  clear s1 s2 K1 K2 K3 K4
  rw [hW0]
  clear hW0
  refine (wpIn_wide (n := n0)).1 ?_
  refine wpIn_rangeFunc_ownH hro h1 (gf := 22) (lb := #[.pointer (some ⟨w.heap.size + 1 + 1, 0, none⟩)]) (encs := fun x : Nat × Eff × Int => #[Value.int .i64 (x.1 : Int), wval x.2]) (Kp := KpN w.heap.size) (S := fun xs => xs = wbacks rows rows.length) (Sp := fun pre => ∃ k, k ≤ rows.length ∧ pre = wbacks rows k) (N := rows.length) (w0 := W0)
    rfl trivial (enters_of Try.func22 (by kernel_rfl) rfl)
    (fun lp J Jx W hW _ _ hY h0 => (wback_in Fence.wide (n0 - 1) trivial hro (by omega) lp (w.heap.size + 1 + 1) A c rows (by rw [HN.out]; exact hle) J Jx (KpN w.heap.size) (fun X => Below w.heap.size w X ∧ X.heap[w.heap.size + 2]? = W0.heap[w.heap.size + 2]?) (fun X Y hk hd => ⟨hd.1.trans hk.below, hk.b2.trans hd.2⟩)
      (fun X hd => ⟨by have := Cells.cell (hd.2.trans hS) 0; rw [HN.out]; exact this, HROW.out X hd.1⟩) hY W h0 ⟨hB0.trans (hW.mono (by omega)), hW.block _ (by omega)⟩).mono fun e W' he => ⟨he.1, he.2.imp (fun hj => ⟨_, rfl, hj⟩) (fun ⟨k, hk, hj⟩ => ⟨_, ⟨k, hk, rfl⟩, hj⟩)⟩)
    (fun h k => h.trans k) (fun W l o o' hl ho hc _ => ⟨belowK_b (by omega) W l o o' hl ho hc ‹_›, World.putObj_heap_other (by omega), World.putObj_heap_other (by omega)⟩) (Below.refl _ _) (fun _ => rfl)
    (fun pre W => (∀ x ∈ pre, x.2.1.ino ≠ n) ∧ Below w.heap.size w W ∧ KpN w.heap.size W0 W ∧ Cells W (w.heap.size + 1) 3 #[.int .i64 ((g : Int) + (N : Int) - (pre.length : Int))])
    (fun c pre W => (c = .exit 0 ∧ ∃ ini x, pre = ini ++ [x] ∧ (∀ y ∈ ini, y.2.1.ino ≠ n) ∧ x.2.1.ino = n ∧ Cells W (w.heap.size + 1) 3 #[.int .i64 ((g : Int) + (N : Int) - (ini.length : Int))]) ∧ Below w.heap.size w W)
    (OwnFrom.and (ownFrom_pure _ _) (OwnFrom.and (ownFrom_below (by omega) (by omega)) (OwnFrom.and (own_kp (by omega) (by omega)) (Own.from (I := fun (pre : List (Nat × Eff × Int)) W => Cells W (w.heap.size + 1) 3 #[.int .i64 ((g : Int) + (N : Int) - (pre.length : Int))]) (fun s X Y row hs hg hr => (grownBy_keeps_cells hg hr hs rfl).trans hs) _))))
    (fun c => OwnFrom.and (Own.from (fun s X Y row hs hg hr => by obtain ⟨hc, ini, x, e1, e2, e3, e4⟩ := hs; exact ⟨hc, ini, x, e1, e2, e3, (grownBy_keeps_cells hg hr e4 rfl).trans e4⟩) _) (ownFrom_below (Nat.le_refl _) (by omega)))
    ⟨by simp, hB0, KpN.refl _ _, by simpa using hV⟩
    (LastWA w pv g N c A n)
    (fun x a' _ X Y row hs hg hr => by obtain ⟨Bx, g1, g2, g3⟩ := hs; exact ⟨Bx, g1, (grownBy_keeps_cells hg (fun r e => (hr r e).2) g2 rfl).trans g2, g3⟩)
    ?assign ?body ?done ?stop
  case assign =>
    rintro lp pre x W K ⟨g0, hB1, hk1, hv1⟩ hK
    have hW4 : w.heap.size + 3 ≤ W.heap.size := Nat.le_trans (by omega) hk1.below.size
    have hb2 : Below (w.heap.size + 3) W (W.alloc (.cells (wcells x.2).toArray 44)) := (Below.refl _ W).alloc hW4 _
    have hK' := hK { tmps := #[pv, .int .i64 n, undef, .pointer (some ⟨w.heap.size, 0, none⟩), .int .i64 0, .pointer (some ⟨w.heap.size + 1, 0, none⟩), undef, .pointer (some ⟨W.heap.size, 0, none⟩), pv, .int .i64 (g : Int), pv, .int .i64 (N : Int), .int .i64 ((g : Int) + (N : Int)), pv, .slice A N c, .func (.func 22) #[] #[.pointer (some ⟨w.heap.size + 1 + 1, 0, none⟩)], .int .i64 (x.1 : Int), wval x.2, undef, undef, undef, undef, undef, undef, undef], defers := [] } (W.alloc (.cells (wcells x.2).toArray 44)) ((KeepsOthers.alloc _ _).from _) (KpN.of_below hb2) ⟨g0, hB1.trans (hb2.mono (by omega)), hk1.trans (KpN.of_below hb2), hv1.alloc _⟩ ⟨W.heap.size, hW4, Cells.new _ _ _, rfl⟩
    unfold wval wcells Eff.vals at hK'
    unfold wval
    clear hK
    gi_wp2
    exact hK'
  case body =>
    rintro lp pre x a' W hl ⟨r, hr⟩ ⟨g0, hB1, hk1, hv1⟩ ⟨Bx, hBx, cX, rfl⟩ hlt
    have hW4 : w.heap.size + 3 ≤ W.heap.size := Nat.le_trans (by omega) hk1.below.size
    have cN := Cells.cell (hk1.b0.trans hI) 0
    have x0 := cX.cell 0; have x1 := cX.cell 1; have x2 := cX.cell 2; have x3 := cX.cell 3; have x4 := cX.cell 4; have x5 := cX.cell 5; have x6 := cX.cell 6; have x7 := cX.cell 7; have x8 := cX.cell 8
    have G0 := Lib.hid g0; have HB1 := Lib.hid hB1; have HK1 := Lib.hid hk1; have HW4 := Lib.hid hW4
    have h1' : 1 ≤ n0 - 1 - 1 := by omega
    obtain ⟨p, hp⟩ : ∃ p, pre.length = p := ⟨_, rfl⟩
    have HPL := Lib.hid hp
    rw [hp] at hv1 hlt
    have HV := Lib.hid hv1
    have K0 := Lib.hid (fun w => eTouches x.2.1 n w)
    unfold Eff.val at K0
    unfold wcells Eff.vals at x0 x1 x2 x3 x4 x5 x6 x7 x8
    simp at cN x0 x1 x2 x3 x4 x5 x6 x7 x8
    have hlt2 : p < N := by have := HN.out; omega
    have hq : wrap64 ((g : Int) + (N : Int) - (p : Int) - 1) = (g : Int) + (N : Int) - ((p + 1 : Nat) : Int) := by unfold wrap64; omega
    clear g0 hB1 hk1 hW4 hp hv1 hlt cX
    obtain ⟨t, ht⟩ : ∃ t, (x.2.1.ino == n) = t := ⟨_, rfl⟩
    rw [ht] at K0
    have HT2 := Lib.hid ht
    clear ht
    cases t
    · gi_wp2_with (refine ⟨trivial, ?_⟩; gi_at_call 20; refine (CallsIn.inRound lp (callsIn_wide.2 (K0.out _))).mono ?_; rintro e w1 h1; obtain ⟨rfl, b1⟩ := h1.below; have HB2 := Lib.hid b1; have cR := (HV.out.below' b1).cell 0; have fR := (HV.out.below' b1).free 0; simp only [List.getElem?_toArray, List.getElem?_cons_zero] at cR; clear h1 b1)
      exact ⟨(KeepsFrom.of_grownBy (grown_of_below HB2.out none) (fun j e => by cases e)).trans ((KeepsOthers.setCell _ _ _).from _), kp_set HB2.out HW4.out _, fun y hy => (List.mem_append.1 hy).elim (G0.out y) (fun e => by rw [List.mem_singleton.1 e]; simpa using HT2.out), HB1.out.trans ((kp_set HB2.out HW4.out _).below), HK1.out.trans (kp_set HB2.out HW4.out _), by rw [List.length_append, HPL.out, show (g : Int) + (N : Int) - ((p + [x].length : Nat) : Int) = (g : Int) + (N : Int) - (p : Int) - 1 by simp; omega]; exact (HV.out.below' HB2.out).set 0 _⟩
    · gi_wp2_with (refine ⟨trivial, ?_⟩; gi_at_call 20; refine (CallsIn.inRound lp (callsIn_wide.2 (K0.out _))).mono ?_; rintro e w1 h1; obtain ⟨rfl, b1⟩ := h1.below; have HB2 := Lib.hid b1; have cR := (HV.out.below' b1).cell 0; have fR := (HV.out.below' b1).free 0; simp only [List.getElem?_toArray, List.getElem?_cons_zero] at cR; clear h1 b1)
      exact ⟨KeepsFrom.of_grownBy (grown_of_below HB2.out none) (fun j e => by cases e), ⟨rfl, pre, x, rfl, G0.out, by simpa using HT2.out, by rw [HPL.out]; exact HV.out.below' HB2.out⟩, HB1.out.trans (HB2.out.mono (by have := HW4.out; omega))⟩
  case done =>
    rintro D ys W hD rfl ⟨hne, hB1, hk1, hv1⟩ hK
    have cV := hv1.cell 0
    rw [wbacks_length, HN.out] at cV
    simp only [List.getElem?_toArray, List.getElem?_cons_zero] at cV
    have hl := lastN_out hne
    have HKD := Lib.hid hK; have HL := Lib.hid hl; have HB := Lib.hid hB1
    have HGN := Lib.hid (show (g : Int) + (N : Int) - (N : Int) = ((g + 0 : Nat) : Int) by omega)
    clear hne hB1 hk1 hv1 hK hl
    refine (?_ : Exit.inBlock 0 _ _ _ _)
    go_wp2
    rw [Exit.noGoto_ret]
    refine ⟨by simp, .inl ⟨_, _, rfl, run_takeDeferred HKD.out, ?_⟩⟩
    refine ⟨.int .i64 ((g : Int) + (N : Int) - (N : Int)), ?_, ?_, HB.out.trans (belowK_b (w := w) (Nat.le_refl _) _ D _ _ (by omega) HKD.out rfl rfl)⟩
    · simp [results, Try.f14, go_sem]
    · rw [HL.out, HGN.out]
  case stop =>
    rintro D c pre W hD ⟨k, hk, he⟩ ⟨⟨rfl, ini, x, e1, e2, e3, hv1⟩, hB⟩ hK
    have hl := lastN_at hk (he.symm.trans e1) e2 e3
    have cV := hv1.cell 0
    simp only [List.getElem?_toArray, List.getElem?_cons_zero] at cV
    have HKD := Lib.hid hK; have HB := Lib.hid hB
    obtain ⟨I, hI2⟩ : ∃ I, ini.length = I := ⟨_, rfl⟩
    rw [hI2] at cV hl
    rw [HN.out] at hl
    have HL := Lib.hid hl.1
    have HGN := Lib.hid (show (g : Int) + (N : Int) - (I : Int) = ((g + (N - I) : Nat) : Int) by omega)
    clear hk he e1 e2 e3 hv1 hB hK hl hI2
    refine wpIn_wide.2 ?_
    go_wp2
    rw [Exit.noGoto_ret]
    refine ⟨by simp, .inl ⟨_, _, rfl, run_takeDeferred HKD.out, ?_⟩⟩
    refine ⟨.int .i64 ((g : Int) + (N : Int) - (I : Int)), ?_, ?_, HB.out.trans (belowK_b (w := w) (Nat.le_refl _) _ D _ _ (by omega) HKD.out rfl rfl)⟩
    · simp [results, Try.f14, go_sem]
    · rw [HL.out, HGN.out]
theorem pnLast {w : World} {B b : Nat} {S : Pst} (h : PnAt w B b S) (n : Int) : Calls Try.prog 14 #[PPtr b, .int .i64 n] w fun e w' => e = .returned (.int .i64 ((S.gone + lastN n S.rows : Nat) : Int)) ∧ Below w.heap.size w w' := by
  obtain ⟨A, c, hc, hr⟩ := h.open_
  exact (callsIn_wide (n := 3)).1 (pnLast_in 3 (Nat.le_refl _) (PPtr b) S.rows S.gone S.rows.length c A rfl h.len h.few n (fun W hb => pnGone (hc.below' hb)) (fun W hb => pnLen (hc.below' hb)) (fun W hb => pnAll (hc.below' hb)) (fun W hb k x hk => by
    obtain ⟨q, off, cur, hA, hBq, hcur, hx⟩ := off_at hr rfl hk
    exact ⟨q, off, hA, fun j u hj => (hb.cell (p := ⟨q, off + (k * 10 + j), none⟩) hcur.lt).trans (hx j u hj)⟩))
theorem pnLast_nil (w : World) (n : Int) : Calls Try.prog 14 #[.pointer none, .int .i64 n] w fun e w' => e = .returned (.int .i64 0) ∧ Below w.heap.size w w' :=
  (callsIn_wide (n := 3)).1 (pnLast_in 3 (Nat.le_refl _) (.pointer none) [] 0 0 0 none rfl (by omega) (by omega) n (fun W _ => pnGone_nil W) (fun W _ => pnLen_nil W) (fun W _ => pnAll_nil W) (fun W hb k x hk => by simp at hk))
end Go.Proofs.Ytnijffgdapfgpaa
