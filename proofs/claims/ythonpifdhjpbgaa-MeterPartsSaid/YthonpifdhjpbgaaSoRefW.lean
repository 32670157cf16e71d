import Derived.Test.YthonpifdhjpbgaaSoMath
import Derived.Test.YthonpifdhjpbgaaSoTop
import Derived.Test.YthonpifdhjpbgaaFlSame
import Derived.Test.YthonpifdhjpbgaaApp
import Derived.Deep.RegionLawGrows
import Derived.Deep.RegionLaw
namespace So
/-- one more laid in -/
theorem srt_insert {rk : Nat → Int} {os : List Nat} {i x : Nat} (h : Srt rk 0 os.length os) (hi : i ≤ os.length) (h1 : ∀ t y, t < i → os[t]? = some y → rk y ≤ rk x) (h2 : ∀ t y, i ≤ t → os[t]? = some y → rk x ≤ rk y) :
    Srt rk 0 (os.length + 1) (os.take i ++ x :: os.drop i) := by
  have hl : (os.take i).length = i := by rw [List.length_take]; omega
  have e1 : ∀ t, t < i → (os.take i ++ x :: os.drop i)[t]? = os[t]? := fun t ht => by
    rw [List.getElem?_append_left (by omega), List.getElem?_take_of_lt ht]
  have e2 : (os.take i ++ x :: os.drop i)[i]? = some x := by
    rw [List.getElem?_append_right (by omega), hl, Nat.sub_self]; rfl
  have e3 : ∀ t, i < t → (os.take i ++ x :: os.drop i)[t]? = os[t - 1]? := fun t ht => by
    rw [List.getElem?_append_right (by omega), hl]
    obtain ⟨d, hd⟩ : ∃ d, t - i = d + 1 := ⟨t - i - 1, by omega⟩
    rw [hd, List.getElem?_cons_succ, List.getElem?_drop]
    congr 1; omega
  intro p q y z _ h4 h5 hy hz
  by_cases c0 : p = q
  · subst c0; rw [hy] at hz; cases hz; exact Int.le_refl _
  · by_cases c1 : p < i
    · rw [e1 p c1] at hy
      by_cases c2 : q < i
      · rw [e1 q c2] at hz
        exact h p q y z (Nat.zero_le _) h4 (by omega) hy hz
      · by_cases c3 : q = i
        · subst c3; rw [e2] at hz; cases hz; exact h1 p y c1 hy
        · rw [e3 q (by omega)] at hz
          exact h p (q - 1) y z (Nat.zero_le _) (by omega) (by omega) hy hz
    · by_cases c3 : p = i
      · subst c3
        rw [e2] at hy
        cases hy
        rw [e3 q (by omega)] at hz
        exact h2 (q - 1) z (by omega) hz
      · rw [e3 p (by omega)] at hy
        rw [e3 q (by omega)] at hz
        exact h (p - 1) (q - 1) y z (Nat.zero_le _) (by omega) (by omega) hy hz
end So
namespace Go.Proofs.Ythonpifdhjpbgaa
open Wd So Go.ChangeShapes Go.WideShapes Go.RowKit
set_option linter.unusedVariables false

theorem own_mono {w : World} {base base' : Nat} {e : TypeId} {size n : Nat} {v : Value} {xs : List Value} (h : w.ownsRow base e size v n xs) (hb : base' ≤ base) : w.ownsRow base' e size v n xs := by
  refine ⟨h.1, ?_⟩
  rcases h.2 with h2 | ⟨g, cap, cur, hv, hg, r⟩
  · exact .inl h2
  · exact .inr ⟨g, cap, cur, hv, by omega, r⟩

theorem own_rowF {w : World} {base : Nat} {e : TypeId} {A : Option Addr} {n c : Nat} {xs : List Value} (h : w.ownsRow base e 1 (.slice A n c) n xs) : Row w w.heap.size A n xs := by
  obtain ⟨A', c', e, h'⟩ := Row.of_own h
  injection e with e1 e2 e3
  subst e1; exact h'
theorem own_cells {w : World} {base : Nat} {e : TypeId} {g n c : Nat} {xs : List Value} (h : w.ownsRow base e 1 (.slice (some ⟨g, 0, none⟩) n c) n xs) : ∀ j u, xs[j]? = some u → w.cell? ((⟨g, 0, none⟩ : Addr).add j) = some u := by
  intro j u hu
  have hj := (List.getElem?_eq_some_iff.1 hu).1
  have e : (⟨g, 0, none⟩ : Addr).add j = ⟨g, j, none⟩ := by unfold Addr.add; split <;> simp_all
  rw [e, h.cellAt j (by have := h.1; omega), hu]
theorem row_tail {wr : World} {base : Nat} {g k cap i x : Nat} {os : List Nat} {t : TypeId} (h : wr.ownsRow base t 1 (.slice (some ⟨g, 0, none⟩) k cap) k (os.map (Value.float .f64))) (hl : os.length = k) (hi : i ≤ k) (hc : k ≤ cap) :
    Row (wr.alloc (.cells #[.float .f64 x] t)).drew wr.heap.size (if cap = i then some ⟨g, 0, none⟩ else some ⟨g, i, none⟩) (k - i) ((os.drop i).map (Value.float .f64)) := by
  refine ⟨by rw [List.length_map, List.length_drop]; omega, fun hp => ?_⟩
  rw [if_neg (by omega)]
  have hr := own_rowF h
  obtain ⟨b, off, e, hb, hcell⟩ := hr.2 (by omega)
  injection e with e
  injection e with e1 e2
  subst e1 e2
  refine ⟨_, i, rfl, hb, fun j hj => ?_⟩
  have hj2 : i + j < os.length := by rw [List.length_map, List.length_drop] at hj; omega
  have h2 := hcell (i + j) (by simpa using hj2)
  show (wr.alloc (.cells #[.float .f64 x] t)).cell? ⟨g, i + j, none⟩ = _
  rw [World.cell?_alloc_lt _ _ _ (by exact hb)]
  rw [Nat.zero_add] at h2
  rw [h2]
  simp
theorem own_head {wr w4 : World} {base : Nat} {g k cap i x : Nat} {os : List Nat} {t : TypeId} (h : wr.ownsRow base t 1 (.slice (some ⟨g, 0, none⟩) k cap) k (os.map (Value.float .f64))) (hl : os.length = k) (hi : i ≤ k)
    (hg : (wr.alloc (.cells #[.float .f64 x] t)).drew.grownBy w4 (some wr.heap.size)) : ∀ j u, ((os.take i).map (Value.float .f64))[j]? = some u → w4.cell? ((⟨g, 0, none⟩ : Addr).add j) = some u := by
  intro j u hu
  have hj := (List.getElem?_eq_some_iff.1 hu).1
  rw [List.length_map, List.length_take] at hj
  have e : (⟨g, 0, none⟩ : Addr).add j = ⟨g, j, none⟩ := by unfold Addr.add; split <;> simp_all
  have hgl : g < wr.heap.size := by
    rcases h.2 with ⟨h', _⟩ | ⟨g', cap', cur, h', _, hh, _⟩
    · cases h'
    · injection h' with h1; injection h1 with h1; injection h1 with h1
      subst h1; exact lt_of_block hh
  have hu2 : (os.map (Value.float .f64))[j]? = some u := by
    rw [List.getElem?_map, List.getElem?_take_of_lt (by omega)] at hu
    rw [List.getElem?_map]; exact hu
  have hc := h.cellAt j (by omega)
  rw [hu2] at hc
  rw [e]
  refine hg.cell (a := ⟨g, j, none⟩) ?_ (fun h => Nat.ne_of_lt hgl (Option.some.inj h))
  show (wr.alloc (.cells #[.float .f64 x] t)).cell? ⟨g, j, none⟩ = _
  rw [World.cell?_alloc_lt _ _ _ (by exact hgl)]
  exact hc
theorem laid_grow {wr w4 : World} {o : Obj} {row : Option Nat} (h : (wr.alloc o).drew.grownBy w4 row) : wr.grownBy w4 row :=
  grown_trans (grown_of_below (below_drewN ((Below.refl wr.heap.size wr).alloc (Nat.le_refl _) o) 1) row) h
theorem laid_own {w5 : World} {B base : Nat} {t : TypeId} {v : Value} {k i x : Nat} {os : List Nat} (h : w5.ownsRow base t 1 v (i + (1 + (k - i))) ((os.take i).map (Value.float .f64) ++ ([Value.float .f64 x] ++ (os.drop i).map (Value.float .f64)))) (hi : i ≤ k) (hb : B ≤ base) :
    w5.ownsRow B t 1 v (k + 1) ((os.take i ++ x :: os.drop i).map (Value.float .f64)) := by
  rw [show i + (1 + (k - i)) = k + 1 from by omega] at h
  rw [List.map_append, List.map_cons]
  exact own_mono h hb
theorem laid_on {xs os : List Nat} {k i x : Nat} (hs : Srt rk 0 k os) (hp : os.Perm (xs.take k)) (hl : os.length = k) (hi : i ≤ k) (h1 : ∀ t y, t < i → os[t]? = some y → rk y ≤ rk x) (h2 : ∀ t y, i ≤ t → os[t]? = some y → rk x < rk y) (hx : xs[k]? = some x) :
    (os.take i ++ x :: os.drop i).Perm (xs.take (k + 1)) ∧ Srt rk 0 (k + 1) (os.take i ++ x :: os.drop i) := by
  constructor
  · rw [take_one hx]
    have e1 : (os.take i ++ x :: os.drop i).Perm (x :: (os.take i ++ os.drop i)) := List.perm_middle
    rw [List.take_append_drop] at e1
    exact (e1.trans (hp.cons x)).trans (List.perm_append_singleton x _).symm
  · subst hl
    exact srt_insert hs hi h1 (fun t y ht hy => by have := h2 t y ht hy; omega)

def LaidRel (xs : List Nat) (W : World) (iv ov : Value) (w : World) : Prop :=
  ∃ (k : Nat) (os : List Nat), k ≤ xs.length ∧ iv = .int .i64 k ∧ os.Perm (xs.take k) ∧ Srt rk 0 k os ∧ w.ownsRow W.heap.size 26 1 ov k (os.map (Value.float .f64)) ∧ (k = 0 → ov = .slice none 0 0) ∧ Below W.heap.size W w
def SeekRel (x k : Nat) (os : List Nat) (W : World) (iv : Value) (w : World) : Prop :=
  ∃ i : Nat, i ≤ k ∧ iv = .int .i64 i ∧ (∀ t y, i ≤ t → os[t]? = some y → rk x < rk y) ∧ w = W
def LaidDone (xs : List Nat) (W : World) (e : Ending) (w : World) : Prop :=
  ∃ v os, e = .returned v ∧ os.Perm xs ∧ Srt rk 0 xs.length os ∧ w.ownsRow W.heap.size 26 1 v xs.length (os.map (Value.float .f64)) ∧ Below W.heap.size W w

set_option maxHeartbeats 2000000 in
theorem refSorted_any (A : Option Addr) (c : Nat) (xs : List Nat) (w : World) (hn : xs.length ≤ 1000) (hr : Row w w.heap.size A xs.length (xs.map (Value.float .f64))) :
    Calls Try.prog 8 #[.slice A xs.length c] w (LaidDone xs w) := by
  obtain ⟨i0, hi, hz0, hz1, hz2⟩ := info_parts infof64
  have HI := Lib.hid hi; have HZ0 := Lib.hid hz0; have HZ1 := Lib.hid hz1; have HZ2 := Lib.hid hz2; clear hi hz0 hz1 hz2
  have HR := Lib.hid hr; clear hr
  go_enter Try.func8, Try.ntmps8
  go_wp2
  go_loopw [9, 3] (fun i o wr => LaidRel xs w i o wr) (fun i _ _ => xs.length - (intOf i).toNat)
  case atStart => exact ⟨0, [], Nat.zero_le _, rfl, .refl _, Srt.empty (by omega), ⟨rfl, .inl ⟨rfl, rfl⟩⟩, (fun _ => rfl), Below.refl _ _⟩
  case round =>
    obtain ⟨k, os, hk, rfl, hpm, hso, hown, hnil, hbe⟩ := hrel
    have hol : os.length = k := by have := hpm.length_eq; rw [List.length_take] at this; omega
    have HOL := Lib.hid hol; have HPM := Lib.hid hpm; have HSO := Lib.hid hso
    clear hol hpm hso
    by_cases hlt : k < xs.length
    · obtain ⟨b, off, x, rfl, hbb, hx, cx⟩ := (HR.out.below hbe).get hlt
      have HX := Lib.hid hx; clear hx
      by_cases hk0 : 0 < k
      · obtain ⟨g, cap, rfl, hgb, hgl⟩ := hown.form hk0
        have hkc : k ≤ cap := by rcases hown.2 with ⟨h, _⟩ | ⟨g', cap', cur, h, _, _, h2, _⟩; cases h; injection h with _ _ h; omega
        have hcm : cap ≤ 9223372036854775807 := by rcases hown.2 with ⟨h, _⟩ | ⟨g', cap', cur, h, _, _, _, h2, _⟩; cases h; injection h with _ _ h; unfold maxLen at h2; omega
        clear hnil
        obtain ⟨wo, rfl⟩ : ∃ wo : World, wo = wr := ⟨_, rfl⟩
        go_wp2
        go_loopw [6] (fun i wr => SeekRel x k os wo i wr) (fun i _ => (intOf i).toNat)
        case atStart => exact ⟨k, Nat.le_refl _, rfl, fun t y h1 hy => by have := (List.getElem?_eq_some_iff.1 hy).1; have := HOL.out; omega, rfl⟩
        case round =>
          obtain ⟨i, hik, rfl, habove, rfl⟩ := hrel
          have HAB := Lib.hid habove; clear habove
          by_cases hi0 : 0 < i
          · obtain ⟨y, hy⟩ : ∃ y, os[i - 1]? = some y := ⟨_, List.getElem?_eq_getElem (by have := HOL.out; omega)⟩
            have cy : wr.cell? ⟨g, i - 1, none⟩ = some (.float .f64 y) := by rw [hown.cellAt (i - 1) (by omega), List.getElem?_map, hy]; rfl
            have HY := Lib.hid hy
            clear hy
            have t0 : decide ((0 : Int) < (i : Int)) = true := decide_eq_true (by omega)
            have t2 : ((i : Int) - 1).toNat = i - 1 := by omega
            have t3 : (0 : Int) ≤ (i : Int) - 1 := by omega
            have t4 : (i : Int) - 1 < (k : Int) := by omega
            cases hc : lsB x y
            · have hlow : ∀ t z, t < i → os[t]? = some z → rk z ≤ rk x := by
                intro t z ht hz
                have hyx : rk y ≤ rk x := by unfold lsB at hc; have := of_decide_eq_false hc; omega
                have := HSO.out t (i - 1) z y (Nat.zero_le _) (by omega) (by omega) hz HY.out
                omega
              have HC := Lib.hid hc
              have HLOW0 := Lib.hid hlow
              clear hlow
              go_wp2_with fail
              refine (refLess_any x y _).mono ?_
              rintro e w' ⟨rfl, rfl⟩
              clear t0 t2
              have hlow := HLOW0.out
              clear HLOW0
              have HLO := Lib.hid hlow
              clear hlow
              have i1 : (0 : Int) ≤ (i : Int) := by omega
              have i2 : (i : Int) ≤ (k : Int) := by omega
              have i3 : (k : Int) ≤ (cap : Int) := by omega
              have i4 : (i : Int) ≤ (cap : Int) := by omega
              have hrows : Row (wr.alloc (.cells #[.float .f64 x] 26)).drew wr.heap.size (if cap = i then some ⟨g, 0, none⟩ else some ⟨g, i, none⟩) (k - i) ((os.drop i).map (Value.float .f64)) := row_tail hown HOL.out hik hkc
              have hlo : ((os.take i).map (Value.float .f64)).length = i * 1 := by rw [List.length_map, List.length_take, Nat.mul_one]; have := HOL.out; omega
              have hholds : ∀ w4, (wr.alloc (.cells #[.float .f64 x] 26)).drew.grownBy w4 (some wr.heap.size) → ∀ j u, ((os.take i).map (Value.float .f64))[j]? = some u → w4.cell? ((⟨g, 0, none⟩ : Addr).add j) = some u := fun w4 hg4 => own_head hown HOL.out hik hg4
              have ROWS := Lib.hid hrows; have LENO := Lib.hid hlo; have HOLDS := Lib.hid hholds
              clear hrows hlo hholds
              go_wp2
              go_region_law (first | ((with_reducible refine step_shape (by rfl) ?_); refine wp_append_row _ (.tmp 33) (.tmp 36) 22 (by rfl) 0 26 (.float .f64 0) 8 Try.underlying22 infof64 (by rfl) (.slice (some ⟨wr.heap.size, 0, none⟩) 1 1) 1 [.float .f64 x] (by rfl) (World.ownsRow_lit wr #[.float .f64 x] 1 (Nat.zero_le _) (by decide) rfl) wr.heap.size (if cap = i then some ⟨g, 0, none⟩ else some ⟨g, i, none⟩) (k - i) (cap - i) ((os.drop i).map (Value.float .f64)) (by rfl) ROWS.out (oneF _) (by unfold maxLen; omega) (by omega) (Nat.zero_le _) ?_; intro v4 w4 hown4 hgr4 hat4; obtain ⟨g4, c4, rfl, hb4, hl4⟩ := hown4.form (by omega)) | (refine step_append_grows (by rfl) (.tmp 31) (.tmp 37) 22 (by rfl) 26 i0 (.float .f64 0) 1 8 Try.underlying22 HI.out HZ0.out HZ1.out HZ2.out (by rfl) (by decide) (some ⟨g, 0, none⟩) i i ((os.take i).map (Value.float .f64)) (by rfl) (fun h => by cases h) LENO.out (fun b h => by injection h with h; subst h; exact HOLDS.out w4 hgr4) ⟨g4, 0, none⟩ (1 + (k - i)) c4 ([Value.float .f64 x] ++ (os.drop i).map (Value.float .f64)) (by rfl) (hown4.1) (own_cells hown4) (oneF (x :: os.drop i)) (by omega) (by unfold maxLen; omega) (by omega) ?_; intro v5 w5 hown5 hgr5))
              all_goals
                have hfin := laid_on (x := x) HSO.out HPM.out HOL.out hik HLO.out HAB.out HX.out
                have HF := Lib.hid hfin
                have hb5 : Below w.heap.size w w5 := (hbe.grown (laid_grow hgr4) hbe.size (fun q hq => by have hq2 : wr.heap.size = q := Option.some.inj hq; have := hbe.size; omega)).grown hgr5 (Nat.le_trans hbe.size (laid_grow hgr4).size) (fun q hq => by cases hq)
                have ho5 := laid_own hown5 hik (Nat.le_trans hbe.size (laid_grow hgr4).size)
                clear hfin
                go_wp2
                go_roundw
                case rel => exact ⟨k + 1, os.take i ++ x :: os.drop i, by omega, by go_num, HF.out.1, HF.out.2, ho5, (fun h => by omega), hb5⟩
                case measure => simp [intOf]; omega
            · have hlt2 : rk x < rk y := by unfold lsB at hc; exact of_decide_eq_true hc
              have HC := Lib.hid hlt2
              clear hlt2
              go_wp2_with fail
              refine (refLess_any x y _).mono ?_
              rintro e w' ⟨rfl, rfl⟩
              go_wp2
              go_roundw
              case rel =>
                refine ⟨i - 1, by omega, num_eq (by omega), fun t z h1 hz => ?_, rfl⟩
                by_cases e : t = i - 1
                · subst e
                  have h2 := HY.out
                  rw [h2] at hz
                  cases hz
                  exact HC.out
                · exact HAB.out t z (by omega) hz
              case measure => simp [intOf]; omega
          · have hlow : ∀ t z, t < i → os[t]? = some z → rk z ≤ rk x := fun t z h => by omega
            have HLO := Lib.hid hlow
            clear hlow
            have i1 : (0 : Int) ≤ (i : Int) := by omega
            have i2 : (i : Int) ≤ (k : Int) := by omega
            have i3 : (k : Int) ≤ (cap : Int) := by omega
            have i4 : (i : Int) ≤ (cap : Int) := by omega
            have hrows : Row (wr.alloc (.cells #[.float .f64 x] 26)).drew wr.heap.size (if cap = i then some ⟨g, 0, none⟩ else some ⟨g, i, none⟩) (k - i) ((os.drop i).map (Value.float .f64)) := row_tail hown HOL.out hik hkc
            have hlo : ((os.take i).map (Value.float .f64)).length = i * 1 := by rw [List.length_map, List.length_take, Nat.mul_one]; have := HOL.out; omega
            have hholds : ∀ w4, (wr.alloc (.cells #[.float .f64 x] 26)).drew.grownBy w4 (some wr.heap.size) → ∀ j u, ((os.take i).map (Value.float .f64))[j]? = some u → w4.cell? ((⟨g, 0, none⟩ : Addr).add j) = some u := fun w4 hg4 => own_head hown HOL.out hik hg4
            have ROWS := Lib.hid hrows; have LENO := Lib.hid hlo; have HOLDS := Lib.hid hholds
            clear hrows hlo hholds
            go_wp2
            go_region_law (first | ((with_reducible refine step_shape (by rfl) ?_); refine wp_append_row _ (.tmp 33) (.tmp 36) 22 (by rfl) 0 26 (.float .f64 0) 8 Try.underlying22 infof64 (by rfl) (.slice (some ⟨wr.heap.size, 0, none⟩) 1 1) 1 [.float .f64 x] (by rfl) (World.ownsRow_lit wr #[.float .f64 x] 1 (Nat.zero_le _) (by decide) rfl) wr.heap.size (if cap = i then some ⟨g, 0, none⟩ else some ⟨g, i, none⟩) (k - i) (cap - i) ((os.drop i).map (Value.float .f64)) (by rfl) ROWS.out (oneF _) (by unfold maxLen; omega) (by omega) (Nat.zero_le _) ?_; intro v4 w4 hown4 hgr4 hat4; obtain ⟨g4, c4, rfl, hb4, hl4⟩ := hown4.form (by omega)) | (refine step_append_grows (by rfl) (.tmp 31) (.tmp 37) 22 (by rfl) 26 i0 (.float .f64 0) 1 8 Try.underlying22 HI.out HZ0.out HZ1.out HZ2.out (by rfl) (by decide) (some ⟨g, 0, none⟩) i i ((os.take i).map (Value.float .f64)) (by rfl) (fun h => by cases h) LENO.out (fun b h => by injection h with h; subst h; exact HOLDS.out w4 hgr4) ⟨g4, 0, none⟩ (1 + (k - i)) c4 ([Value.float .f64 x] ++ (os.drop i).map (Value.float .f64)) (by rfl) (hown4.1) (own_cells hown4) (oneF (x :: os.drop i)) (by omega) (by unfold maxLen; omega) (by omega) ?_; intro v5 w5 hown5 hgr5))
            all_goals
              have hfin := laid_on (x := x) HSO.out HPM.out HOL.out hik HLO.out HAB.out HX.out
              have HF := Lib.hid hfin
              have hb5 : Below w.heap.size w w5 := (hbe.grown (laid_grow hgr4) hbe.size (fun q hq => by have hq2 : wr.heap.size = q := Option.some.inj hq; have := hbe.size; omega)).grown hgr5 (Nat.le_trans hbe.size (laid_grow hgr4).size) (fun q hq => by cases hq)
              have ho5 := laid_own hown5 hik (Nat.le_trans hbe.size (laid_grow hgr4).size)
              clear hfin
              go_wp2
              go_roundw
              case rel => exact ⟨k + 1, os.take i ++ x :: os.drop i, by omega, by go_num, HF.out.1, HF.out.2, ho5, (fun h => by omega), hb5⟩
              case measure => simp [intOf]; omega
      · obtain rfl : k = 0 := by omega
        obtain rfl := hnil rfl
        have ho : os = [] := List.eq_nil_of_length_eq_zero HOL.out
        have HO := Lib.hid ho
        clear ho
        rw [Nat.add_zero] at cx
        obtain ⟨wo, rfl⟩ : ∃ wo : World, wo = wr := ⟨_, rfl⟩
        go_wp2
        go_loopw [6] (fun i w' => i = .int .i64 0 ∧ w' = wo) (fun _ _ => 0)
        case atStart => exact ⟨rfl, rfl⟩
        case round =>
          obtain ⟨rfl, rfl⟩ := hrel
          go_wp2
          go_region_law (first | ((with_reducible refine step_shape (by rfl) ?_); refine wp_append_row _ (.tmp 33) (.tmp 36) 22 (by rfl) 0 26 (.float .f64 0) 8 Try.underlying22 infof64 (by rfl) (.slice (some ⟨wr.heap.size, 0, none⟩) 1 1) 1 [.float .f64 x] (by rfl) (World.ownsRow_lit wr #[.float .f64 x] 1 (Nat.zero_le _) (by decide) rfl) wr.heap.size none 0 0 ([]) (by rfl) Row.nil (by simp) (by unfold maxLen; omega) (by omega) (Nat.zero_le _) ?_; intro v4 w4 hown4 hgr4 hat4; obtain ⟨g4, c4, rfl, hb4, hl4⟩ := hown4.form (by omega)) | (refine step_append_grows (by rfl) (.tmp 31) (.tmp 37) 22 (by rfl) 26 i0 (.float .f64 0) 1 8 Try.underlying22 HI.out HZ0.out HZ1.out HZ2.out (by rfl) (by decide) none 0 0 ([]) (by rfl) (fun _ => ⟨rfl, rfl⟩) rfl (fun b h => by cases h) ⟨g4, 0, none⟩ (1 + 0) c4 ([Value.float .f64 x] ++ []) (by rfl) rfl (own_cells hown4) (by simp [Value.oneCell']) (by omega) (by unfold maxLen; omega) (by omega) ?_; intro v5 w5 hown5 hgr5))
          all_goals
            have hpx : [x].Perm (xs.take (0 + 1)) := by rw [take_one HX.out]; exact .refl _
            have hb5 : Below w.heap.size w w5 := (hbe.grown (laid_grow hgr4) hbe.size (fun q hq => by have hq2 : wr.heap.size = q := Option.some.inj hq; have := hbe.size; omega)).grown hgr5 (Nat.le_trans hbe.size (laid_grow hgr4).size) (fun q hq => by cases hq)
            have ho5 := own_mono hown5 (Nat.le_trans hbe.size (laid_grow hgr4).size)
            have HPX := Lib.hid hpx
            clear hpx
            go_wp2
            go_roundw
            case rel => exact ⟨1, [x], by omega, by first | rfl | go_num, HPX.out, Srt.empty (by omega), ho5, (fun h => by omega), hb5⟩
            case measure => simp [intOf]; omega
    · obtain rfl : k = xs.length := by omega
      have hpx : os.Perm xs := by have := HPM.out; rw [List.take_length] at this; exact this
      have HPX := Lib.hid hpx
      clear hpx
      go_wp2
      go_ret
      exact ⟨_, os, rfl, HPX.out, HSO.out, hown, hbe⟩
end Go.Proofs.Ythonpifdhjpbgaa
