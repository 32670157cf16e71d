import Derived.Test.YtbejbiogabpmfaaGreatG00
import Derived.Deep.DeepCutAuto
import Derived.Laws.BytesString
import Derived.Deep.WholeRow
import Derived.ProofKit
import Derived.OpenShut
import Derived.Carry
import Derived.SizedLaws
import Derived.Deep.Slices
import Derived.Deep.Grids
import Derived.Lib.SmallJoins
import Derived.Laws.Cover2
import Derived.ScopeJumps
import Derived.WalkMore
import Derived.StillTailTactics
import Derived.Laws.Bits64b
import Derived.Laws.IdiomStrings
import Derived.Deep.RegionLaw
import Derived.Lib.SliceRun

namespace Go.Proofs.YtbejbiogabpmfaaGreat
open Wd U Go.ChangeShapes Go.WideShapes Go.RowKit Go.Sort
set_option linter.unusedVariables false

def AlikeW (xs ys : List Nat) (W : World) (i : Value) (w : World) : Prop := ∃ k d : Nat, k ≤ xs.length ∧ i = .int .i64 k ∧ xs.take k = ys.take k ∧ w = W.drewN d

set_option maxHeartbeats 400000 in
theorem sameWords_any (xs ys : List Nat) (n m : Nat) (hn : xs.length = n) (hm : ys.length = m) (hle : n ≤ 1000000) (A C : Option Addr) (c d B : Nat) (w : World) (hx : Row w B A n (xs.map wd)) (hy : Row w B C m (ys.map wd)) :
    Calls Tryz.prog 22 #[.slice A n c, .slice C m d] w (Grows (.bool (decide (xs = ys))) w) := by
  subst hn hm
  have HX := Lib.hid hx; have HY := Lib.hid hy
  clear hx hy
  by_cases hl : xs.length = ys.length
  · have HL := Lib.hid hl
    have hb : ((xs.length : Int) != (ys.length : Int)) = false := by simp [hl]
    clear hl
    go_enter Tryz.func22, Tryz.ntmps22
    go_wp2
    go_loopw [13] (fun i wr => AlikeW xs ys w i wr) (fun i _ => xs.length - (intOf i).toNat)
    case atStart => exact ⟨0, 0, Nat.zero_le _, rfl, rfl, rfl⟩
    case round =>
      obtain ⟨k, q, hk, rfl, ht, rfl⟩ := hrel
      have HT := Lib.hid ht; clear ht
      by_cases hlt : k < xs.length
      · have hlt2 : k < ys.length := by have := HL.out; omega
        have i1 : (k : Int) < (xs.length : Int) := by omega
        have i2 : (k : Int) < (ys.length : Int) := by omega
        have i0 : (0 : Int) ≤ (k : Int) := by omega
        obtain ⟨b1, o1, x, rfl, _, gx, cx⟩ := HX.out.get hlt
        obtain ⟨b2, o2, y, rfl, _, gy, cy⟩ := HY.out.get hlt2
        have HGX := Lib.hid gx; have HGY := Lib.hid gy
        clear gx gy
        unfold wd at cx cy
        by_cases hxy : x = y
        · subst hxy
          go_wp2
          go_quiet (fail)
          go_wp2
          go_roundw
          case rel => exact ⟨k + 1, q + nq, by omega, by go_num, by rw [take_one HGX.out, take_one HGY.out, HT.out], rfl⟩
          case measure => simp [intOf]; omega
        · have hne : ((x : Int) != (y : Int)) = true := by rw [bne_iff_ne]; omega
          have hdec : decide (xs = ys) = false := by
            apply decide_eq_false
            intro h
            have h1 := HGX.out
            rw [h, HGY.out] at h1
            exact hxy (Option.some.inj h1).symm
          have HDEC := Lib.hid hdec
          clear hxy hdec
          go_wp2
          go_quiet (fail)
          go_wp2
          go_ret
          exact ⟨by rw [HDEC.out]; rfl, grow_drewN (grow_drewN (grow_none w) _) _⟩
      · obtain rfl : k = xs.length := by omega
        have hdec : decide (xs = ys) = true := by
          apply decide_eq_true
          have h := HT.out
          rw [List.take_length, List.take_of_length_le (by have := HL.out; omega)] at h
          exact h
        have HDEC := Lib.hid hdec
        clear hdec
        go_wp2
        go_ret
        exact ⟨by rw [HDEC.out]; rfl, grow_drewN (grow_none w) _⟩
  · have hb : ((xs.length : Int) != (ys.length : Int)) = true := by rw [bne_iff_ne]; omega
    have hdec : decide (xs = ys) = false := decide_eq_false (fun h => hl (by rw [h]))
    have HDEC := Lib.hid hdec
    clear hl hdec
    go_enter Tryz.func22, Tryz.ntmps22
    go_wp2
    go_ret
    exact ⟨by rw [HDEC.out]; rfl, grow_none w⟩

/-- bytes in a block -/
def BRow (w : World) (g : Nat) (bs : List Nat) : Prop := Cells w g 5 (bs.map bt).toArray
theorem BRow.set {w : World} {g : Nat} {bs : List Nat} (h : BRow w g bs) (j c : Nat) : BRow (w.setCell ⟨g, j, none⟩ (.int .u8 (c : Int))) g (bs.set j c) := by
  have := Cells.set h j (.int .u8 (c : Int))
  unfold BRow
  rw [List.map_set, ← List.setIfInBounds_toArray]
  exact this
theorem BRow.row {w : World} {g n B : Nat} {bs : List Nat} (h : BRow w g bs) (hn : bs.length = n) (hg : g < B) : Row w B (some ⟨g, 0, none⟩) n (bs.map bt) := by
  have := Row.of_cells (B := B) h hg
  rw [show (List.map bt bs).toArray.size = n by rw [List.size_toArray, List.length_map]; exact hn] at this
  exact this

def Unpacked (l : List Nat) (n : Int) (b : Bool) (W : World) (e : Ending) (w : World) : Prop :=
  ∃ (A : Option Addr) (c k : Nat), e = .returned (.tuple #[.slice A k c, .bool b]) ∧ k = (if b then n.toNat else 0) ∧ (b = true → Row w w.heap.size A n.toNat ((bytesOf l n.toNat).map bt)) ∧ Below W.heap.size W w
def noU (W : World) (e : Ending) (w : World) : Prop := e = .returned (.tuple #[.slice none 0 0, .bool false]) ∧ w = W

end Go.Proofs.YtbejbiogabpmfaaGreat

namespace Go.Proofs.YtbejbiogabpmfaaGreat
open Wd U Go.ChangeShapes Go.WideShapes Go.RowKit Go.Sort
set_option linter.unusedVariables false

def DivRel (v r : Nat) (W : World) (x j : Value) (w : World) : Prop := ∃ q : Nat, q ≤ r ∧ j = .int .i64 q ∧ x = .int .u64 ((v / 256 ^ q : Nat) : Int) ∧ w = W
def LayRel (l : List Nat) (N g : Nat) (W : World) (i : Value) (w : World) : Prop := ∃ k : Nat, k ≤ N ∧ i = .int .i64 k ∧ BRow w g (bytesOf l k ++ List.replicate (N - k) 0) ∧ Below W.heap.size W w
theorem lay_step {l : List Nat} {N k v : Nat} (hk : k < N) (hv : l[k / 8]? = some v) : (bytesOf l k ++ List.replicate (N - k) 0).set k (v / 256 ^ (k % 8) % 256) = bytesOf l (k + 1) ++ List.replicate (N - (k + 1)) 0 := by
  rw [bytesOf_snoc, hv, Option.getD_some, List.append_assoc]
  have e : List.replicate (N - k) 0 = 0 :: List.replicate (N - (k + 1)) 0 := by
    rw [show N - k = (N - (k + 1)) + 1 by omega, List.replicate_succ]
  rw [e, List.set_append_right _ _ (by rw [bytesOf_len]; exact Nat.le_refl _), bytesOf_len, Nat.sub_self]
  rfl

end Go.Proofs.YtbejbiogabpmfaaGreat

namespace Go.Proofs.YtbejbiogabpmfaaGreat
open Wd U Go.ChangeShapes Go.WideShapes Go.RowKit Go.Sort
set_option linter.unusedVariables false

end Go.Proofs.YtbejbiogabpmfaaGreat

namespace Wd
open Go Go.RowKit Go.ChangeShapes Go.WideShapes Go.ChangeAt

section
variable {H : Type} {enc : TypeId × Value → H} {P : Program}

/-- every argument reads in a world that has grown as it did -/
theorem trodAll_below (hl : laidOutB P = true) {W W' : World} (hb : Below W.heap.size W W') : ∀ {ts : List TypeId} {vs : List Value} {ds : List (DataW H)} {ps : List MemPlace},
    (∀ t ∈ ts, P.readableRec t = true ∧ t < P.types.size) → DataW.TrodAll enc P W 0 (fun _ => true) true ts vs ds ps → (∀ x ∈ ps, x.block < W.heap.size) →
    DataW.TrodAll enc P W' 0 (fun b => decide (b < W.heap.size)) true ts vs ds ps := by
  intro ts
  induction ts with
  | nil =>
    intro vs ds ps _ h _
    cases vs <;> cases ds <;> simp [DataW.TrodAll] at h ⊢
    exact h
  | cons t ts ih =>
    intro vs ds ps hr h hlt
    obtain ⟨v, vs', d, ds', p, q, rfl, rfl, rfl, hd, hrest⟩ := trodAll_cons h
    have h1 := hr t (by simp)
    exact trodAll_cons_mk (Below.trod hl h1.1 h1.2 hd hb (fun x hx => hlt x (by simp [hx]))) (ih (fun t' ht => hr t' (by simp [ht])) hrest (fun x hx => hlt x (by simp [hx])))

/-- a law's post: it answers true, and nothing that was there has turned -/
theorem law_post {f : Func} {s : ChangeSpec} {W W' : World} {args : Array Value} {ds gs : List (DataW H)} {before : List MemPlace} {tb : TypeId}
    (hl : laidOutB P = true) (hr : ∀ t ∈ f.params.toList, P.readableRec t = true ∧ t < P.types.size) (ht : f.resultTypes = #[tb]) (hu : P.underlying tb = some .bool) (hv : s.vars = [])
    (e1 : (s.fn H (ds ++ gs)).results = [.lit (.bool true)]) (e2 : (s.fn H (ds ++ gs)).args = ds) (e3 : (s.fn H (ds ++ gs)).vars = [])
    (hW : DataW.Whole enc P f.params.toList s.vars false W args.toList ds gs before) (hb : Below W.heap.size W W') :
    s.post enc P f false true false false W args (.bool true) W' := by
  have hlt : ∀ p ∈ before, p.block < W.heap.size := fun p hp => hW.lt p hp
  have hW' := hW
  obtain ⟨p, q, hA, hV, rfl, _, _⟩ := hW'
  rw [hv] at hV
  obtain ⟨_, rfl⟩ := trodVars_none hV
  refine ⟨ds, gs, _, [], p, [], hW, ?_, ?_, ?_, hb.frame _, fun h => by cases h⟩
  · rw [e1, ht]
    exact trodAll_cons_mk (shut_bool hu _) trodAll_mk0
  · rw [e2]
    exact trodAll_below hl hb hr hA (fun x hx => hlt x (by simp [hx]))
  · rw [e3, hv]
    rfl
variable {w : World} {base : Nat} {spare : Nat → Bool} {held : Bool}

end
end Wd

namespace Go.Proofs.YtbejbiogabpmfaaGreat
open Wd U Go.ChangeShapes Go.WideShapes Go.RowKit Go.Sort
set_option linter.unusedVariables false

/-! the project's own: Need, place, Pack, Equal, Unpack -/
def needIW (n : Int) : Int := if 0 < n then (n + 7) / 8 else 0
theorem need_isW (n : Int) (h0 : -9223372036854775808 ≤ n) (h1 : n ≤ 9223372036854775807) (w : World) : Calls Tryz.prog 86 #[.int .i64 n] w fun e w' => e = .returned (.int .i64 (needIW n)) ∧ w = w' := by
  by_cases h : n < 1
  · have e : needIW n = 0 := by unfold needIW; rw [if_neg (by omega)]
    rw [e]
    clear e
    go_enter Tryz.func86, Tryz.ntmps86
    go_wp2
    go_ret
    exact ⟨rfl, rfl⟩
  · have e : needIW n = (n - 1) / 8 + 1 := by unfold needIW; rw [if_pos (by omega)]; omega
    rw [e]
    clear e
    go_enter Tryz.func86, Tryz.ntmps86
    go_wp2
    go_ret
    exact ⟨rfl, rfl⟩
theorem needI_natW (n : Nat) : needIW (n : Int) = ((need n : Nat) : Int) := by unfold needIW need; split <;> omega
theorem place_is (k d r : Nat) (hk : k ≤ 10000) (hd : d = k / 8) (hr : r = k % 8) (w : World) : Calls Tryz.prog 171 #[.int .i64 k] w fun e w' => e = .returned (.tuple #[.int .i64 d, .int .i64 ((r : Int) * 8)]) ∧ w = w' := by
  have e1 : (k : Int) / 8 = (d : Int) := by omega
  have e2 : (k : Int) % 8 = (r : Int) := by omega
  have hr8 : r < 8 := by omega
  clear hd hr
  go_enter Tryz.func171, Tryz.ntmps171
  go_wp2
  go_ret2
  exact ⟨rfl, rfl⟩

def PackJ (b : List Nat) (n c g K : Nat) (A : Option Addr) (W : World) (a : Act) (w : World) : Prop :=
  ∃ (k : Nat) (u5 u6 u7 u8 u9 u10 u11 u12 u13 u14 u15 u16 u17 u18 u19 u20 u21 u22 u23 u24 u25 u26 u27 u28 u29 u30 u31 u32 u33 u34 u35 : Value), a = { tmps := #[.slice A n c, undef, .slice none 0 0, .slice (some ⟨g, 0, none⟩) K K, .int .i64 k, u5, u6, u7, u8, u9, u10, u11, u12, u13, u14, u15, u16, u17, u18, u19, u20, u21, u22, u23, u24, u25, u26, u27, u28, u29, u30, u31, u32, u33, u34, u35], defers := [] } ∧ k ≤ n ∧ WRow w g 59 (padW b k) ∧ Below W.heap.size W w
def PackedR (b : List Nat) (W : World) (e : Ending) (w : World) : Prop := ∃ (A : Option Addr) (c : Nat), e = .returned (.slice A (pk b).length c) ∧ Row w w.heap.size A (pk b).length ((pk b).map wd) ∧ Below W.heap.size W w
def PackStep (b : List Nat) (n c g k : Nat) (A : Option Addr) (W w : World) : Prop := k ≤ n ∧ WRow w g 59 (padW b k) ∧ Below W.heap.size W w
theorem PackStep.end_ {b : List Nat} {n c g : Nat} {A : Option Addr} {W w : World} (h : PackStep b n c g n A W w) (hL : b.length = n) : PackedR b W (.returned (.slice (some ⟨g, 0, none⟩) (need n) (need n))) w := by
  obtain ⟨_, h2, h3⟩ := h
  subst hL
  rw [padW_all] at h2
  have e : need b.length = (pk b).length := (pk_len b).symm
  refine ⟨some ⟨g, 0, none⟩, need b.length, by rw [e], ?_, h3⟩
  exact h2.row rfl (Cells.lt h2)

set_option maxRecDepth 100000 in
set_option maxHeartbeats 4000000 in
theorem wPack (b : List Nat) (n : Nat) (hL : b.length = n) (hb : Bytes b) (A : Option Addr) (c : Nat) (w : World) (hn : n ≤ 1000) (hr : Row w w.heap.size A n (b.map bt)) : Calls Tryz.prog 123 #[.slice A n c] w (PackedR b w) := by
  have hK : need n ≤ 126 := by unfold need; omega
  have hmk := fun W => make_row (P := Tryz.prog) 48 59 (.int .u64 0) 8 Tryz.underlying48 infoU64' rfl (need n) (by omega) (by omega) W
  have HL := Lib.hid hL; have HB := Lib.hid hb; have HR := Lib.hid hr
  obtain ⟨K, hKK⟩ : ∃ K, need n = K := ⟨_, rfl⟩
  have hnI : needIW (n : Int) = (K : Int) := by rw [needI_natW, hKK]
  rw [hKK] at hmk hK
  have HN := Lib.hid hnI; have HK := Lib.hid hKK
  clear hL hb hr hnI hKK
  have hg : w.heap.size = w.heap.size := rfl
  clear hg
  go_enter Tryz.func123, Tryz.ntmps123
  go_wp2
  refine wp_scope_jumps 0 (PackJ b n c w.heap.size K A w) (fun a' _ => n - (intOf (a'.tmps.getD 4 undef)).toNat) rfl ?_ ?_
  · go_wp2_with fail
    refine (need_isW (n : Int) (by omega) (by omega) _).mono ?_
    rintro e w1 ⟨rfl, rfl⟩
    rw [HN.out]
    go_wp2
    clear hmk
    have hc0 := Cells.new w 59 (Array.replicate K (Value.int .u64 0))
    have hb0 : Below w.heap.size w (w.alloc (.cells (Array.replicate K (Value.int .u64 0)) 59)) := (Below.refl _ _).alloc (Nat.le_refl _) _
    obtain ⟨wr, hwr⟩ : ∃ wr, w.alloc (.cells (Array.replicate K (Value.int .u64 0)) 59) = wr := ⟨_, rfl⟩
    rw [hwr] at hc0 hb0 ⊢
    obtain ⟨g, hg⟩ : ∃ g, w.heap.size = g := ⟨_, rfl⟩
    rw [hg] at hc0 ⊢
    obtain ⟨k, hk, hw, hbl, hkI⟩ : ∃ k : Nat, k ≤ n ∧ WRow wr g 59 (padW b k) ∧ Below w.heap.size w wr ∧ (0 : Int) = (k : Int) := ⟨0, Nat.zero_le _, by
      unfold WRow
      rw [padW_zero, HL.out, HK.out, List.map_replicate, List.toArray_replicate]
      exact hc0, hb0, rfl⟩
    rw [hkI]
    have HG := Lib.hid hg
    clear hkI hc0 hb0 hwr hg
    go_step3
    by_cases heq : k = n
    · subst heq
      have hend := PackStep.end_ (c := c) (A := A) ⟨hk, hw, hbl⟩ HL.out
      rw [HK.out] at hend
      have HE := Lib.hid hend
      clear hend hw hbl hk
      go_wp2
      simp only [Exit.jump]
      go_ret
      exact HE.out
    · have hkn : k < n := by omega
      have hne : ((k : Int) == (n : Int)) = false := by rw [beq_eq_false_iff_ne]; omega
      obtain ⟨b1, o1, x, hA, _, hx, cx⟩ := (HR.out.below hbl).get hkn
      obtain ⟨v, hv1, hv2, hv3, hv4⟩ := padW_step HB.out hx
      have hx2 := HB.out.at hx
      obtain ⟨d, hd⟩ : ∃ d : Nat, d = k / 8 := ⟨_, rfl⟩
      obtain ⟨r, hr⟩ : ∃ r : Nat, r = k % 8 := ⟨_, rfl⟩
      rw [← hd] at hv1 hv4
      rw [← hr] at hv2 hv3 hv4
      have hr8 : r < 8 := by omega
      have hdK : d < K := by have := HK.out; unfold need at this; omega
      have d1 : (d : Int) < (K : Int) := by omega
      have cv := hw.cell hv1
      have fv := Cells.free hw d
      obtain ⟨z, hz⟩ : ∃ z : Nat, z = x * 256 ^ r := ⟨_, rfl⟩
      obtain ⟨y, hy⟩ : ∃ y : Nat, y = v + z := ⟨_, rfl⟩
      rw [← hz] at hv3 hv4
      rw [← hy] at hv3 hv4
      have hsh : IntKind.u64.wrap ((x : Int) * 2 ^ (r * 8)) = (z : Int) := by
        rw [IntKind.wrap_u64]
        have e : ((x : Int) * 2 ^ (r * 8)) = (z : Int) := by rw [hz, ← pow_two]; simp
        rw [e]
        omega
      have hor : bits .or .u64 (v : Int) (z : Int) = (y : Int) := by
        rw [bits_or_u64_nat _ _ (by omega) (by omega), hz, ← pow_two, or_mul' _ _ _ (by rw [pow_two]; exact hv2), hy, hz, ← pow_two]
      clear hz hy
      unfold bt at cx
      have HW := Lib.hid hw; have HBL := Lib.hid hbl; have HV4 := Lib.hid hv4; have HX := Lib.hid hx; have HD := Lib.hid hd; have HRR := Lib.hid hr
      have HV3 := Lib.hid hv3; have HV2 := Lib.hid hv2
      clear hw hbl hv1 hv2 hv3 hv4 hx hd hr
      subst hA
      go_wp2_with (go_at_call 171; refine (place_is k d r (by omega) HD.out HRR.out _).mono ?_; rintro e w1 ⟨rfl, rfl⟩)
      go_still_tail 13, (by kernel_rfl)
      go_wp2
      go_step3
      exact ⟨rfl, k + 1, _, _, _, _, _, _, _, _, _, _, _, _, _, _, _, _, _, _, _, _, _, _, _, _, _, _, _, _, _, _, _, by first | rfl | (rw [HG.out]; rfl), by omega, (by rw [HV4.out]; first | exact HW.out.set d y | (rw [HG.out]; exact HW.out.set d y)), below_drewN (HBL.out.setCell (p := ⟨g, d, none⟩) (Nat.le_of_eq HG.out) (.int .u64 (y : Int))) 1⟩
  · rintro a' wr ⟨k, u5, u6, u7, u8, u9, u10, u11, u12, u13, u14, u15, u16, u17, u18, u19, u20, u21, u22, u23, u24, u25, u26, u27, u28, u29, u30, u31, u32, u33, u34, u35, rfl, hk, hw, hbl⟩
    obtain ⟨g, hg⟩ : ∃ g, w.heap.size = g := ⟨_, rfl⟩
    rw [hg] at hw ⊢
    have HG := Lib.hid hg
    clear hg hmk
    by_cases heq : k = n
    · subst heq
      have hend := PackStep.end_ (c := c) (A := A) ⟨hk, hw, hbl⟩ HL.out
      rw [HK.out] at hend
      have HE := Lib.hid hend
      clear hend hw hbl hk
      go_wp2
      simp only [Exit.jump]
      go_ret
      exact HE.out
    · have hkn : k < n := by omega
      have hne : ((k : Int) == (n : Int)) = false := by rw [beq_eq_false_iff_ne]; omega
      obtain ⟨b1, o1, x, hA, _, hx, cx⟩ := (HR.out.below hbl).get hkn
      obtain ⟨v, hv1, hv2, hv3, hv4⟩ := padW_step HB.out hx
      have hx2 := HB.out.at hx
      obtain ⟨d, hd⟩ : ∃ d : Nat, d = k / 8 := ⟨_, rfl⟩
      obtain ⟨r, hr⟩ : ∃ r : Nat, r = k % 8 := ⟨_, rfl⟩
      rw [← hd] at hv1 hv4
      rw [← hr] at hv2 hv3 hv4
      have hr8 : r < 8 := by omega
      have hdK : d < K := by have := HK.out; unfold need at this; omega
      have d1 : (d : Int) < (K : Int) := by omega
      have cv := hw.cell hv1
      have fv := Cells.free hw d
      obtain ⟨z, hz⟩ : ∃ z : Nat, z = x * 256 ^ r := ⟨_, rfl⟩
      obtain ⟨y, hy⟩ : ∃ y : Nat, y = v + z := ⟨_, rfl⟩
      rw [← hz] at hv3 hv4
      rw [← hy] at hv3 hv4
      have hsh : IntKind.u64.wrap ((x : Int) * 2 ^ (r * 8)) = (z : Int) := by
        rw [IntKind.wrap_u64]
        have e : ((x : Int) * 2 ^ (r * 8)) = (z : Int) := by rw [hz, ← pow_two]; simp
        rw [e]
        omega
      have hor : bits .or .u64 (v : Int) (z : Int) = (y : Int) := by
        rw [bits_or_u64_nat _ _ (by omega) (by omega), hz, ← pow_two, or_mul' _ _ _ (by rw [pow_two]; exact hv2), hy, hz, ← pow_two]
      clear hz hy
      unfold bt at cx
      have HW := Lib.hid hw; have HBL := Lib.hid hbl; have HV4 := Lib.hid hv4; have HX := Lib.hid hx; have HD := Lib.hid hd; have HRR := Lib.hid hr
      have HV3 := Lib.hid hv3; have HV2 := Lib.hid hv2
      clear hw hbl hv1 hv2 hv3 hv4 hx hd hr
      subst hA
      go_wp2_with (go_at_call 171; refine (place_is k d r (by omega) HD.out HRR.out _).mono ?_; rintro e w1 ⟨rfl, rfl⟩)
      go_still_tail 13, (by kernel_rfl)
      go_wp2
      go_step3
      refine ⟨rfl, ⟨k + 1, _, _, _, _, _, _, _, _, _, _, _, _, _, _, _, _, _, _, _, _, _, _, _, _, _, _, _, _, _, _, _, by first | rfl | (rw [HG.out]; rfl), by omega, (by rw [HV4.out]; first | exact HW.out.set d y | (rw [HG.out]; exact HW.out.set d y)), below_drewN (HBL.out.setCell (p := ⟨g, d, none⟩) (Nat.le_of_eq HG.out) (.int .u64 (y : Int))) 1⟩, ?_⟩
      simp [intOf]; omega


/-- slices.Equal over words -/
def EqualJ (xs ys : List Nat) (W : World) (i : Value) (w : World) : Prop := ∃ k d : Nat, k ≤ xs.length ∧ i = .int .i64 k ∧ xs.take k = ys.take k ∧ w = W.drewN d
set_option maxHeartbeats 400000 in
theorem equal_any (xs ys : List Nat) (n m : Nat) (hn : xs.length = n) (hm : ys.length = m) (hle : n ≤ 1000) (A C : Option Addr) (c d B : Nat) (w : World) (hx : Row w B A n (xs.map wd)) (hy : Row w B C m (ys.map wd)) :
    Calls Tryz.prog 186 #[.slice A n c, .slice C m d] w (Grows (.bool (decide (xs = ys))) w) := by
  subst hn hm
  have HX := Lib.hid hx; have HY := Lib.hid hy
  clear hx hy
  by_cases hl : xs.length = ys.length
  · have HL := Lib.hid hl
    have hb : ((xs.length : Int) != (ys.length : Int)) = false := by simp [hl]
    clear hl
    go_enter Tryz.func186, Tryz.ntmps186
    go_wp2
    go_loopw [13] (fun i wr => EqualJ xs ys w i wr) (fun i _ => xs.length - (intOf i).toNat)
    case atStart => exact ⟨0, 0, Nat.zero_le _, rfl, rfl, rfl⟩
    case round =>
      obtain ⟨k, q, hk, rfl, ht, rfl⟩ := hrel
      have HT := Lib.hid ht; clear ht
      by_cases hlt : k < xs.length
      · have hlt2 : k < ys.length := by have := HL.out; omega
        have i1 : (k : Int) < (xs.length : Int) := by omega
        have i2 : (k : Int) < (ys.length : Int) := by omega
        have i0 : (0 : Int) ≤ (k : Int) := by omega
        obtain ⟨b1, o1, x, rfl, _, gx, cx⟩ := HX.out.get hlt
        obtain ⟨b2, o2, y, rfl, _, gy, cy⟩ := HY.out.get hlt2
        have HGX := Lib.hid gx; have HGY := Lib.hid gy
        clear gx gy
        unfold wd at cx cy
        by_cases hxy : x = y
        · subst hxy
          go_wp2
          go_quiet (fail)
          go_wp2
          go_roundw
          case rel => exact ⟨k + 1, q + nq, by omega, by go_num, by rw [take_one HGX.out, take_one HGY.out, HT.out], rfl⟩
          case measure => simp [intOf]; omega
        · have hne : ((x : Int) != (y : Int)) = true := by rw [bne_iff_ne]; omega
          have hdec : decide (xs = ys) = false := by
            apply decide_eq_false
            intro h
            have h1 := HGX.out
            rw [h, HGY.out] at h1
            exact hxy (Option.some.inj h1).symm
          have HDEC := Lib.hid hdec
          clear hxy hdec
          go_wp2
          go_quiet (fail)
          go_wp2
          go_ret
          exact ⟨by rw [HDEC.out]; rfl, grow_drewN (grow_drewN (grow_none w) _) _⟩
      · obtain rfl : k = xs.length := by omega
        have hdec : decide (xs = ys) = true := by
          apply decide_eq_true
          have h := HT.out
          rw [List.take_length, List.take_of_length_le (by have := HL.out; omega)] at h
          exact h
        have HDEC := Lib.hid hdec
        clear hdec
        go_wp2
        go_ret
        exact ⟨by rw [HDEC.out]; rfl, grow_drewN (grow_none w) _⟩
  · have hb : ((xs.length : Int) != (ys.length : Int)) = true := by rw [bne_iff_ne]; omega
    have hdec : decide (xs = ys) = false := decide_eq_false (fun h => hl (by rw [h]))
    have HDEC := Lib.hid hdec
    clear hl hdec
    go_enter Tryz.func186, Tryz.ntmps186
    go_wp2
    go_ret
    exact ⟨by rw [HDEC.out]; rfl, grow_none w⟩
end Go.Proofs.YtbejbiogabpmfaaGreat

namespace Go.Proofs.YtbejbiogabpmfaaGreat
open Wd U Go.ChangeShapes Go.WideShapes Go.RowKit Go.Sort
set_option linter.unusedVariables false

set_option maxHeartbeats 2000000 in
theorem wUnpack_good (l : List Nat) (L N : Nat) (hL : l.length = L) (hl : Small l) (hle : L ≤ 100) (hN : need N = L) (b : Bool) (hb : decide (pk (bytesOf l N) = l) = b) (A : Option Addr) (c : Nat) (w : World) (hr : Row w w.heap.size A L (l.map wd)) :
    Calls Tryz.prog 166 #[.slice A L c, .int .i64 (N : Int)] w (Unpacked l N b w) := by
  have hN2 : N ≤ 800 := by unfold need at hN; omega
  have hmk := fun W => make_row (P := Tryz.prog) 62 5 (.int .u8 0) 1 Tryz.underlying62 infoU8 rfl N (by omega) (by omega) W
  have hnI : needIW (N : Int) = (L : Int) := by rw [needI_natW, hN]
  have HNI := Lib.hid hnI
  have HL := Lib.hid hL; have HS := Lib.hid hl; have HR := Lib.hid hr; have HN := Lib.hid hN; have HBB := Lib.hid hb; have HMK := Lib.hid hmk
  have n0 : (0 : Int) ≤ (N : Int) := by omega
  clear hL hl hr hN hb hmk hnI
  go_enter Tryz.func166, Tryz.ntmps166
  go_upto_region 1 with fail
  go_cut [18] from 10 to 17 (fun x wx => x = .bool false ∧ wx = w)
  case first =>
    go_wp2_with (go_at_call 86; refine (need_isW (N : Int) (by omega) (by omega) _).mono ?_; rintro e w1 ⟨rfl, rfl⟩; rw [HNI.out])
    go_meet
    exact ⟨rfl, rfl⟩
  case rest =>
  obtain ⟨rfl, rfl⟩ := hcut
  have hmk := HMK.out
  go_wp2
  clear hmk
  go_loopw [23] (fun i wr => LayRel l N wc.heap.size wc i wr) (fun i _ => N - (intOf i).toNat)
  case atStart =>
    refine ⟨0, Nat.zero_le _, rfl, ?_, (Below.refl _ _).alloc (Nat.le_refl _) _⟩
    have := Cells.new wc 5 (Array.replicate N (Value.int .u8 0))
    unfold BRow
    rw [show bytesOf l 0 = [] from rfl, List.nil_append, Nat.sub_zero, List.map_replicate, List.toArray_replicate]
    exact this
  case round =>
    obtain ⟨k, hk, rfl, hbr, hbl⟩ := hrel
    have HBR := Lib.hid hbr; have HBL := Lib.hid hbl
    clear hbr
    by_cases hlt : k < N
    · have hkL : k / 8 < L := by have := HN.out; unfold need at this; omega
      obtain ⟨b1, o1, v, hA, _, hv, cv⟩ := (HR.out.below hbl).get (k := k / 8) hkL
      have hvs := HS.out.at hv
      have hst := lay_step hlt hv
      obtain ⟨d, hd⟩ : ∃ d : Nat, d = k / 8 := ⟨k / 8, rfl⟩
      obtain ⟨r, hr⟩ : ∃ r : Nat, r = k % 8 := ⟨k % 8, rfl⟩
      rw [← hd] at cv hkL
      rw [← hr] at hst
      have hr8 : r < 8 := by omega
      obtain ⟨y, hy⟩ : ∃ y, y = v / 256 ^ r := ⟨_, rfl⟩
      have hsh : (v : Int) / 2 ^ (r * 8) = (y : Int) := by
        have e : ((2 : Int) ^ (r * 8)) = ((256 ^ r : Nat) : Int) := by rw [← pow_two]; simp
        rw [e, hy]
        exact (Int.natCast_ediv v (256 ^ r)).symm
      obtain ⟨z, hz⟩ : ∃ z, z = y % 256 := ⟨_, rfl⟩
      have hw8 : IntKind.u8.wrap (y : Int) = (z : Int) := by
        rw [hz]
        simp [IntKind.wrap, IntKind.bits, IntKind.signed]
      have hbl2 : (bytesOf l k ++ List.replicate (N - k) 0).length = N := by rw [List.length_append, bytesOf_len, List.length_replicate]; omega
      obtain ⟨o, ho⟩ : ∃ o, (bytesOf l k ++ List.replicate (N - k) 0)[k]? = some o := ⟨_, List.getElem?_eq_getElem (by omega)⟩
      have oz : wr.cell? ⟨wc.heap.size, k, none⟩ = some (bt o) := by rw [Cells.cell HBR.out, List.getElem?_toArray, List.getElem?_map, ho]; rfl
      have fz := Cells.free HBR.out k
      rw [← hy, ← hz] at hst
      have HST := Lib.hid hst; have HD := Lib.hid hd; have HRR := Lib.hid hr
      have d1 : (d : Int) < (L : Int) := by omega
      unfold wd at cv
      unfold bt at oz
      clear hv hst hd hr hbl2 ho hbl hy hz
      subst hA
      go_wp2_with (go_at_call 171; refine (place_is k d r (by omega) HD.out HRR.out _).mono ?_; rintro e w1 ⟨rfl, rfl⟩)
      go_roundw
      case rel =>
        refine ⟨k + 1, by omega, by go_num, ?_, HBL.out.setCell (Nat.le_refl _) _⟩
        rw [← HST.out]
        have := BRow.set HBR.out k z
        exact this
      case measure => simp [intOf]; omega
    · obtain rfl : k = N := by omega
      have hbr := HBR.out
      rw [Nat.sub_self, List.replicate_zero, List.append_nil] at hbr
      have hrow := hbr.row (B := wr.heap.size) (bytesOf_len l k) (Cells.lt hbr)
      have HROW := Lib.hid hrow; have HBR2 := Lib.hid hbr
      have HRr := Lib.hid ((HR.out.below hbl).more hbl.size)
      clear hbr hrow hbl
      go_wp2_with fail
      refine (wPack (bytesOf l k) k (bytesOf_len l k) (bytesOf_bytes l k) _ _ _ (by omega) HROW.out).mono ?_
      rintro e w5 ⟨A5, c5, rfl, hrow5, hb5⟩
      have hpl : (pk (bytesOf l k)).length = L := by rw [pk_len, bytesOf_len]; exact HN.out
      rw [hpl] at hrow5 ⊢
      have HR5 := Lib.hid ((HRr.out.below hb5).more hb5.size)
      have HW5 := Lib.hid hrow5
      have HB5 := Lib.hid (HBL.out.trans (hb5.mono HBL.out.size))
      have HBR5 := Lib.hid (Cells.below' HBR2.out hb5)
      have HPL := Lib.hid hpl
      clear hb5 hrow5 hpl
      go_wp2_with fail
      refine (equal_any (pk (bytesOf l k)) l L L HPL.out HL.out (by omega) _ _ _ _ w5.heap.size _ HW5.out HR5.out).mono ?_
      rintro e w6 ⟨rfl, hgr⟩
      rw [HBB.out]
      have hb6 : Below w5.heap.size w5 w6 := by obtain ⟨q, os, rfl⟩ := hgr; exact below_grow' _ _ _
      have HB6 := Lib.hid (HB5.out.trans (hb6.mono HB5.out.size))
      have hbr6 : BRow w6 wc.heap.size (bytesOf l k) := Cells.below' HBR5.out hb6
      have HBR6 := Lib.hid hbr6
      clear hgr hb6 hbr6
      cases b
      · go_wp2
        go_ret2
        exact ⟨none, 0, 0, rfl, rfl, (fun h => by cases h), HB6.out⟩
      · go_wp2
        go_ret2
        refine ⟨_, _, k, rfl, by simp, fun _ => ?_, HB6.out⟩
        rw [Int.toNat_natCast]
        exact HBR6.out.row (bytesOf_len l k) (Cells.lt HBR6.out)

theorem wUnpack_bad (L : Nat) (hL : L ≤ 1000) (A : Option Addr) (c : Nat) (n : Int) (h0 : -9223372036854775808 ≤ n) (h1 : n ≤ 9223372036854775807) (w : World) (h : n < 0 ∨ 0 ≤ n ∧ needIW n ≠ L) :
    Calls Tryz.prog 166 #[.slice A L c, .int .i64 n] w (noU w) := by
  rcases h with h | ⟨h2, h3⟩
  · go_enter Tryz.func166, Tryz.ntmps166
    go_wp2
    go_ret2
    exact ⟨rfl, rfl⟩
  · obtain ⟨m, hm⟩ : ∃ m, needIW n = m := ⟨_, rfl⟩
    have HM := Lib.hid hm
    have hq : (m != (L : Int)) = true := by rw [bne_iff_ne, ← hm]; exact h3
    have hm0 : 0 ≤ m ∧ m ≤ 9223372036854775807 := by rw [← hm]; unfold needIW; split <;> omega
    clear h3 hm
    go_enter Tryz.func166, Tryz.ntmps166
    go_wp2_with (go_at_call 86; refine (need_isW n (by omega) (by omega) _).mono ?_; rintro e w1 ⟨rfl, rfl⟩; rw [HM.out])
    go_ret2
    exact ⟨rfl, rfl⟩
/-- the project's Unpack, whatever is asked -/
theorem wUnpack (l : List Nat) (L : Nat) (n : Int) (h0 : -9223372036854775808 ≤ n) (h1 : n ≤ 9223372036854775807) (hL : l.length = L) (hl : Small l) (hle : L ≤ 100) (b : Bool) (hb : mayU l n = b) (A : Option Addr) (c : Nat) (w : World) (hr : Row w w.heap.size A L (l.map wd)) :
    Calls Tryz.prog 166 #[.slice A L c, .int .i64 n] w (Unpacked l n b w) := by
  by_cases h : 0 ≤ n ∧ need n.toNat = L
  · obtain ⟨N, rfl⟩ : ∃ N : Nat, n = (N : Int) := ⟨n.toNat, by omega⟩
    rw [Int.toNat_natCast] at h
    have hb' : decide (pk (bytesOf l N) = l) = b := by
      rw [← hb]
      unfold mayU
      rw [Int.toNat_natCast, hL]
      simp [h.1, h.2]
    exact wUnpack_good l L N hL hl hle h.2 b hb' A c w hr
  · have hb' : b = false := by
      rw [← hb]
      unfold mayU
      rw [hL, Bool.and_eq_false_iff, Bool.and_eq_false_iff]
      left
      by_cases h1 : 0 ≤ n
      · right; exact decide_eq_false (fun h2 => h ⟨h1, h2⟩)
      · left; exact decide_eq_false h1
    subst hb'
    refine (wUnpack_bad L (by omega) A c n h0 h1 w ?_).mono ?_
    · by_cases h1 : n < 0
      · exact .inl h1
      · refine .inr ⟨by omega, fun h2 => h ⟨by omega, ?_⟩⟩
        have e : n = ((n.toNat : Nat) : Int) := by omega
        rw [e, needI_natW] at h2
        omega
    · rintro e w' ⟨rfl, rfl⟩
      exact ⟨none, 0, 0, rfl, rfl, (fun h => by cases h), Below.refl _ _⟩
end Go.Proofs.YtbejbiogabpmfaaGreat

namespace Go.Proofs.YtbejbiogabpmfaaGreat
open Wd U Go.ChangeShapes Go.WideShapes Go.RowKit Go.Sort
set_option linter.unusedVariables false

/-! a Writer's words -/
def bsOfW (s : ByteArray) : List Nat := s.data.toList.map (·.toNat)
theorem bsOf_lenW (s : ByteArray) : (bsOfW s).length = s.size := by unfold bsOfW; rw [List.length_map, Array.length_toList]; rfl
theorem bsOf_bytesW (s : ByteArray) : Bytes (bsOfW s) := by
  intro x hx
  obtain ⟨y, _, rfl⟩ := List.mem_map.1 hx
  exact y.toNat_lt
def WrSt (W : World) (g : Nat) (xs : List Nat) (w : World) : Prop :=
  Below W.heap.size W w ∧ W.heap.size ≤ g ∧ ∃ v, Cells w g 95 #[v] ∧ w.ownsRow W.heap.size 59 1 v xs.length (xs.map wd)
theorem WrSt.new (W w : World) (hb : Below W.heap.size W w) : WrSt W w.heap.size [] (w.alloc (.cells #[.slice none 0 0] 95)) :=
  ⟨hb.alloc hb.size _, hb.size, _, Cells.new _ _ _, own_nil _ _ _⟩
theorem own_belowW {w w' : World} {base n sz : Nat} {e : TypeId} {v : Value} {xs : List Value} (h : w.ownsRow base e sz v n xs) (hb : Below w.heap.size w w') : w'.ownsRow base e sz v n xs := by
  rcases h with ⟨hl, h⟩
  refine ⟨hl, ?_⟩
  rcases h with h | ⟨g, cap, cur, hv, hg, hh, h1⟩
  · exact .inl h
  · exact .inr ⟨g, cap, cur, hv, hg, Cells.below' hh hb, h1⟩
theorem WrSt.below {W w w' : World} {g : Nat} {xs : List Nat} (h : WrSt W g xs w) (hb : Below w.heap.size w w') : WrSt W g xs w' := by
  obtain ⟨h1, h2, v, h3, h4⟩ := h
  exact ⟨h1.trans (hb.mono h1.size), h2, v, h3.below' hb, own_belowW h4 hb⟩
theorem WrSt.ne {w : World} {g n base : Nat} {xs : List Value} {v : Value} (h3 : Cells w g 95 #[v]) (h4 : w.ownsRow base 59 1 v n xs) : some g ≠ v.ownBlock := by
  intro e
  rcases h4.2 with ⟨rfl, _⟩ | ⟨g', cap, cur, rfl, _, hh, _⟩
  · cases e
  · have : g = g' := by simpa [Value.ownBlock] using e
    exact h3.ne (show Cells w g' 59 cur from hh) (by decide) this
theorem grow_alloc' {w w' : World} {o : Obj} {row : Option Nat} (h : (w.alloc o).grownBy w' row) : w.grownBy w' row :=
  ⟨h.os, h.tape, h.output, Nat.le_trans (by simp) h.size, fun k hk hn => (h.block k (by simp; omega) hn).trans (Below.heap_alloc w o k hk)⟩
/-- the row is another one, and the Writer holds it -/
theorem WrSt.put {W w w' : World} {g : Nat} {xs ys : List Nat} {v v' : Value} (h1 : Below W.heap.size W w) (h2 : W.heap.size ≤ g) (h3 : Cells w g 95 #[v]) (h4 : w.ownsRow W.heap.size 59 1 v xs.length (xs.map wd))
    (k1 : w'.ownsRow W.heap.size 59 1 v' (xs.length + ys.length) (xs.map wd ++ ys.map wd)) (k2 : w.grownBy w' v.ownBlock) : WrSt W g (xs ++ ys) (w'.setCell ⟨g, 0, none⟩ v') := by
  have hne := WrSt.ne h3 h4
  have hc := h3.grown k2 hne
  have hb : Below W.heap.size W w' := h1.grown k2 h1.size (own_base h4)
  refine ⟨hb.setCell (p := ⟨g, 0, none⟩) h2 _, h2, v', ?_, ?_⟩
  · have := hc.set 0 v'
    simpa using this
  · rw [List.length_append, List.map_append]
    rcases k1 with ⟨hl, k⟩
    refine ⟨hl, ?_⟩
    rcases k with k | ⟨g', cap, cur, hv, hg, hh, h1⟩
    · exact .inl k
    · exact .inr ⟨g', cap, cur, hv, hg, Cells.far (show Cells w' g' 59 cur from hh) (fun e => (hc.ne (show Cells w' g' 59 cur from hh) (by decide)) e.symm) _, h1⟩

def WroteR (W : World) (g : Nat) (xs : List Nat) (e : Ending) (w : World) : Prop := e = .returned (.tuple #[]) ∧ WrSt W g xs w
set_option maxRecDepth 100000 in
set_option maxHeartbeats 1000000 in
/-- the word of a number -/
def uw (k : Int) : Nat := (k % 18446744073709551616).toNat
theorem uw_lt (k : Int) : uw k < 18446744073709551616 := by unfold uw; omega
theorem uw_nat {k : Nat} (h : k < 18446744073709551616) : uw (k : Int) = k := by unfold uw; omega
/-- the bytes of a text, as a row -/
theorem bytes_rowW (w : World) (s : ByteArray) (n : Nat) (hn : s.size = n) (e : TypeId) (c : Nat) (fz : Nat × Nat) : Row (w.alloc (.cells (bytesRow s c) e fz)).drew.drew (w.alloc (.cells (bytesRow s c) e fz)).drew.drew.heap.size (some ⟨w.heap.size, 0, none⟩) n ((bsOfW s).map bt) := by
  have hL := bsOf_lenW s
  subst hn
  refine ⟨by rw [List.length_map]; exact hL, fun _ => ⟨w.heap.size, 0, rfl, by simp, fun j hj => ?_⟩⟩
  rw [List.length_map] at hj
  have hh : (w.alloc (.cells (bytesRow s c) e fz)).drew.drew.heap[w.heap.size]? = some (.cells (bytesRow s c) e fz) := heap_alloc_new w _
  rw [Nat.zero_add, cell_of_row _ _ _ _ _ _ hh]
  unfold bytesRow bsOfW at *
  have hj2 : j < s.data.size := by simpa using hj
  rw [Array.getElem?_append_left (by simpa using hj2)]
  simp [bt]
  exact ⟨_, Array.getElem?_eq_getElem hj2, rfl⟩
theorem below_marked {w w' : World} {o : Obj} (h : Below (w.alloc o).drew.drew.heap.size (w.alloc o).drew.drew w') : Below w.heap.size w w' := by
  have b1 : Below w.heap.size w (w.alloc o).drew.drew := below_drewN ((Below.refl w.heap.size w).alloc (Nat.le_refl _) o) 2
  exact b1.trans (h.mono b1.size)
end Go.Proofs.YtbejbiogabpmfaaGreat

namespace Wd
open Go Go.RowKit
/-- a law's end: it answers true, and nothing that was there has turned -/
def TrueB (w : World) (e : Ending) (w' : World) : Prop := e = .returned (.bool true) ∧ Below w.heap.size w w'
end Wd

namespace Go.Proofs.YtbejbiogabpmfaaGreat
open Wd U Go.ChangeShapes Go.WideShapes Go.RowKit Go.Sort
set_option linter.unusedVariables false

/-- words that a row holds somewhere, from a block on -/
def RdRow (w : World) (B : Nat) (v : Value) (xs : List Nat) : Prop :=
  (v = .slice none 0 0 ∧ xs = []) ∨ ∃ (q off c : Nat) (cs : Array Value), v = .slice (some ⟨q, off, none⟩) xs.length c ∧ xs.length ≤ c ∧ B ≤ q ∧ Cells w q 59 cs ∧ ∀ j x, xs[j]? = some x → cs[off + j]? = some (wd x)
theorem RdRow.of_own {w : World} {B : Nat} {v : Value} {xs : List Nat} (h : w.ownsRow B 59 1 v xs.length (xs.map wd)) : RdRow w B v xs := by
  rcases h.2 with ⟨rfl, h0⟩ | ⟨g, cap, cur, rfl, hb, hh, h1, h2, hs, ht⟩
  · exact .inl ⟨rfl, List.eq_nil_of_length_eq_zero h0⟩
  · refine .inr ⟨g, 0, cap, cur, rfl, h1, hb, hh, fun j x hj => ?_⟩
    rw [Nat.mul_one] at ht
    have hjn : j < xs.length := (List.getElem?_eq_some_iff.1 hj).1
    have e : (xs.map wd)[j]? = some (wd x) := by rw [List.getElem?_map, hj]; rfl
    rw [← ht, List.getElem?_take_of_lt hjn] at e
    rw [Nat.zero_add]
    simpa using e
theorem row_at {w : World} {q off n : Nat} {cs : Array Value} {xs : List Nat} (hn : xs.length = n) (hh : Cells w q 59 cs) (hx : ∀ j x, xs[j]? = some x → cs[off + j]? = some (wd x)) : Row w w.heap.size (some ⟨q, off, none⟩) n (xs.map wd) := by
  refine ⟨by rw [List.length_map]; exact hn, fun hp => ⟨q, off, rfl, hh.lt, fun j hj => ?_⟩⟩
  have hj' : j < xs.length := by simpa using hj
  rw [hh.cell, hx j xs[j] (List.getElem?_eq_getElem hj')]
  simp
theorem RdRow.row {w : World} {B : Nat} {v : Value} {xs : List Nat} (h : RdRow w B v xs) : ∃ A c, v = .slice A xs.length c ∧ xs.length ≤ c ∧ Row w w.heap.size A xs.length (xs.map wd) := by
  rcases h with ⟨rfl, rfl⟩ | ⟨q, off, c, cs, rfl, hc, _, hh, hx⟩
  · exact ⟨none, 0, rfl, Nat.le_refl _, Row.nil⟩
  · exact ⟨_, c, rfl, hc, row_at rfl hh hx⟩
theorem RdRow.keep {w w' : World} {B : Nat} {v : Value} {xs : List Nat} (h : RdRow w B v xs) (hk : ∀ g cs, Cells w g 59 cs → w'.heap[g]? = w.heap[g]?) : RdRow w' B v xs := by
  rcases h with h | ⟨q, off, c, cs, hv, hc, hB, hh, hx⟩
  · exact .inl h
  · exact .inr ⟨q, off, c, cs, hv, hc, hB, (hk q cs hh).trans hh, hx⟩
theorem RdRow.below {w w' : World} {B : Nat} {v : Value} {xs : List Nat} (h : RdRow w B v xs) (hb : Below w.heap.size w w') : RdRow w' B v xs := h.keep fun g cs hc => hb.block g hc.lt

def ClonedW (W : World) (xs : List Nat) (e : Ending) (w : World) : Prop := ∃ v, e = .returned v ∧ RdRow w W.heap.size v xs ∧ Below W.heap.size W w
set_option maxRecDepth 100000 in
theorem wclone {w : World} {B n c : Nat} {A : Option Addr} {xs : List Nat} (hn : xs.length = n) (h : Row w B A n (xs.map wd)) (hB : B ≤ w.heap.size) (hle : n ≤ 1000000) : Calls Tryz.prog 81 #[.slice A n c] w (ClonedW w xs) := by
  cases A with
  | none =>
    have h0 : n = 0 := by
      apply Classical.byContradiction
      intro hc
      obtain ⟨b, off, e, _⟩ := h.2 (by omega)
      cases e
    subst h0
    obtain rfl : xs = [] := List.eq_nil_of_length_eq_zero hn
    have hq := fun (w : World) => Lib.run_eql_slice_nil (P := Tryz.prog) w 48 59 none 0 c 0 0 Tryz.underlying48
    clear h hn
    go_enter Tryz.func81, Tryz.ntmps81
    go_wp2
    go_ret
    exact ⟨_, rfl, .inl ⟨rfl, rfl⟩, Below.refl _ _⟩
  | some a =>
    have ho : (w.alloc (.cells #[] 59)).ownsRow w.heap.size 59 1 (.slice (some ⟨w.heap.size, 0, none⟩) 0 0) 0 [] := ⟨rfl, .inr ⟨w.heap.size, 0, #[], rfl, Nat.le_refl _, Cells.new w _ _, Nat.le_refl _, by decide, rfl, rfl⟩⟩
    have HO := Lib.hid ho
    have hr' : Row (w.alloc (.cells #[] 59)) w.heap.size (some a) n (xs.map wd) := (h.more hB).below ((Below.refl w.heap.size w).alloc (Nat.le_refl _) _)
    have HR := Lib.hid hr'
    have HN := Lib.hid hn
    have hq := fun (w : World) => Lib.run_eql_slice_nil (P := Tryz.prog) w 48 59 (some a) n c 0 0 Tryz.underlying48
    clear ho hr' h hn
    go_enter Tryz.func81, Tryz.ntmps81
    go_wp2_with (at_builtin; refine wpList_append_row _ rfl (.tmp 5) (.tmp 6) 48 rfl w.heap.size 59 (.int .u64 0) 8 Tryz.underlying48 infoU64' rfl _ _ _ rfl HO.out _ (some a) n c (xs.map wd) rfl HR.out (oneW _) (by unfold maxLen; omega) (by omega) (by simp) ?_; intro v5 w5 hown5 hgr5 hat5; have HO5 := Lib.hid hown5; have HG5 := Lib.hid hgr5; have HA5 := Lib.hid hat5; clear hown5 hgr5 hat5)
    go_ret
    have hb5 : Below w.heap.size w w5 := ((Below.refl _ _).alloc (Nat.le_refl _) _).grown HG5.out (by simp) (own_base HO.out)
    have ho5 := HO5.out
    rw [Nat.zero_add, List.nil_append, ← HN.out] at ho5
    exact ⟨_, rfl, RdRow.of_own ho5, hb5⟩

/-- a Writer's words -/
theorem words_w {W w : World} {g : Nat} {xs : List Nat} (h : WrSt W g xs w) (hl : xs.length ≤ 400000) :
    Calls Tryz.prog 53 #[.pointer (some ⟨g, 0, none⟩)] w (ClonedW w xs) := by
  obtain ⟨h1, h2, v, h3, h4⟩ := h
  have c0 : w.cell? ⟨g, 0, none⟩ = some v := h3.cell 0
  obtain ⟨A, c, rfl, hr⟩ := Row.of_own h4
  obtain ⟨n, hn⟩ : ∃ n, xs.length = n := ⟨_, rfl⟩
  rw [hn] at c0 hr hl
  have HN := Lib.hid hn; have HR := Lib.hid hr
  clear h1 h3 h4 hr hn
  go_enter Tryz.func53, Tryz.ntmps53
  go_wp2_with (go_at_call 81; refine (wclone HN.out HR.out (Nat.le_refl _) (by omega)).mono ?_; rintro e w' ⟨v', rfl, r', b'⟩; have HR' := Lib.hid r'; have HB' := Lib.hid b'; clear r' b')
  go_ret
  exact ⟨_, rfl, HR'.out, HB'.out⟩
end Go.Proofs.YtbejbiogabpmfaaGreat
