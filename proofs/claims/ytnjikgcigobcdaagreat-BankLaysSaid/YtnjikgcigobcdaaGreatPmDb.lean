import Derived.Test.YtnjikgcigobcdaaGreatPmDa
import Derived.Test.YtnjikgcigobcdaaGreatMB
namespace Go.Proofs.YtnjikgcigobcdaaGreat
open Wd Pm Go.Maps Go.RowKit
set_option linter.unusedVariables false

/-! what the document's device says of its words -/

def RW.val (r : RW) : Int := if r.dirty = true then r.holds else r.stays

def findL (x : Int) (l : List RW) : Option RW := l.find? (fun r => r.at_ == x)

def holdsL (x : Int) (l : List RW) : Int := match findL x l with | some r => r.val | none => 0

def staysL (x : Int) (l : List RW) : Int := match findL x l with | some r => r.stays | none => 0

theorem find_at {x : Int} : ∀ {l : List RW} {k : Nat} {r : RW}, l[k]? = some r → (∀ y ∈ l.take k, y.at_ ≠ x) → r.at_ = x → findL x l = some r
  | [], _, _, h, _, _ => by simp at h
  | a :: l, 0, r, h, _, e => by
    simp at h; subst h
    unfold findL
    rw [List.find?_cons_of_pos (by simpa using e)]
  | a :: l, k + 1, r, h, hn, e => by
    have ha : a.at_ ≠ x := hn a (by simp)
    unfold findL
    rw [List.find?_cons_of_neg (by simpa using ha)]
    exact find_at (k := k) (by simpa using h) (fun y hy => hn y (by simp [hy])) e

theorem find_none {x : Int} {l : List RW} (h : ∀ y ∈ l, y.at_ ≠ x) : findL x l = none := by
  unfold findL
  rw [List.find?_eq_none]
  intro y hy
  simpa using h y hy

def LookRel (w : World) (l : List RW) (x : Int) (i : Value) (wr : World) : Prop := ∃ k : Nat, k ≤ l.length ∧ i = .int .i64 k ∧ (∀ y ∈ l.take k, y.at_ ≠ x) ∧ Below w.heap.size w wr

theorem take_not {l : List RW} {k : Nat} {x : Int} {r : RW} (h : ∀ y ∈ l.take k, y.at_ ≠ x) (hr : l[k]? = some r) (hx : r.at_ ≠ x) : ∀ y ∈ l.take (k + 1), y.at_ ≠ x := by
  rw [take_snoc' hr]
  intro y hy
  rcases List.mem_append.1 hy with h1 | h1
  · exact h y h1
  · simp at h1; subst h1; exact hx

def RSaid (w : World) (v : Int) (e : Ending) (w' : World) : Prop := e = .returned (.int .u64 v) ∧ Below w.heap.size w w'

set_option maxHeartbeats 1000000 in
theorem rstays_dev {w : World} {B q : Nat} {ρ : RSt} (h : RDev w B q ρ) (x : Int) : Calls Tryz.prog 19 #[.pointer (some ⟨q, 0, none⟩), .int .i64 x] w (RSaid w (staysL x ρ.l)) := by
  obtain ⟨v, hv⟩ := h.v
  obtain ⟨A, c, rfl⟩ := hv.form
  have k1 := hv.reads.c1
  have few := hv.2.1.few
  have HV := Lib.hid hv
  clear hv
  go_enter Tryz.func19, Tryz.ntmps19
  go_wp2
  go_loopw [12] (fun i wr => LookRel w ρ.l x i wr) (fun i _ => ρ.l.length - (intOf i).toNat)
  case atStart => exact ⟨0, Nat.zero_le _, rfl, by simp, Below.refl _ _⟩
  case round =>
    obtain ⟨k, hk, rfl, hn, hb⟩ := hrel
    by_cases hlt : k < ρ.l.length
    · obtain ⟨r, hr⟩ : ∃ r, ρ.l[k]? = some r := ⟨_, List.getElem?_eq_getElem hlt⟩
      obtain ⟨g, rfl, w6, hneq, hgl, hql, a0, a1, ok, rk1⟩ := (HV.out.below hb).at rfl hr
      have x0 := w6.x0; have x1 := w6.x1; have x2 := w6.x2; have x3 := w6.x3; have x4 := w6.x4; have x5 := w6.x5
      have HR := Lib.hid hr
      have HN := Lib.hid hn
      have HB := Lib.hid hb
      clear hr hn hb ok w6
      by_cases hx : r.at_ = x
      · have p1 : (r.at_ == x) = true := by simpa using hx
        have hf := find_at HR.out HN.out hx
        have hh : staysL x ρ.l = r.stays := by unfold staysL; rw [hf]
        have HH := Lib.hid hh
        clear hh hf hx
        go_wp2
        go_ret
        exact ⟨by rw [HH.out]; rfl, HB.out.alloc HB.out.size _⟩
      · have p1 : (r.at_ == x) = false := by simpa using hx
        have HX := Lib.hid hx
        clear hx
        go_wp2
        go_roundw
        case rel => exact ⟨k + 1, by omega, by go_num, take_not HN.out HR.out HX.out, HB.out.alloc HB.out.size _⟩
        case measure => simp [intOf]; omega
    · obtain rfl : k = ρ.l.length := by omega
      rw [List.take_of_length_le (Nat.le_refl _)] at hn
      have hf := find_none hn
      have hh : staysL x ρ.l = 0 := by unfold staysL; rw [hf]
      have HH := Lib.hid hh
      have HB := Lib.hid hb
      clear hh hf hn hb
      go_wp2
      go_ret
      exact ⟨by rw [HH.out]; rfl, HB.out⟩

/-- the dirty words' places -/
def dirtyR (l : List RW) : List Int := (l.filter (fun r => r.dirty)).map (fun r => r.at_)

theorem dirtyR_snoc {l : List RW} {k : Nat} {r : RW} (h : l[k]? = some r) : dirtyR (l.take (k + 1)) = dirtyR (l.take k) ++ (if r.dirty = true then [r.at_] else []) := by
  unfold dirtyR
  rw [take_snoc' h, List.filter_append, List.map_append]
  congr 1
  cases hd : r.dirty <;> simp [hd]

theorem dirtyR_le (l : List RW) : (dirtyR l).length ≤ l.length := by unfold dirtyR; rw [List.length_map]; exact List.length_filter_le _ _

def RDirtRel (w : World) (l : List RW) (v i : Value) (wr : World) : Prop := ∃ k : Nat, k ≤ l.length ∧ i = .int .i64 k ∧ wr.ownsRow w.heap.size 3 1 v (dirtyR (l.take k)).length ((dirtyR (l.take k)).map (Value.int .i64)) ∧ Below w.heap.size w wr

set_option maxRecDepth 100000 in
set_option maxHeartbeats 1000000 in
theorem rdirty_dev {w : World} {B q : Nat} {ρ : RSt} (h : RDev w B q ρ) : Calls Tryz.prog 17 #[.pointer (some ⟨q, 0, none⟩)] w (MadeRow w (dirtyR ρ.l)) := by
  obtain ⟨v, hv⟩ := h.v
  obtain ⟨A, c, rfl⟩ := hv.form
  have k1 := hv.reads.c1
  have few := hv.2.1.few
  have HV := Lib.hid hv
  clear hv
  go_enter Tryz.func17, Tryz.ntmps17
  go_wp2
  go_loopw [3, 11] (fun v i wr => RDirtRel w ρ.l v i wr) (fun _ i _ => ρ.l.length - (intOf i).toNat)
  case atStart => exact ⟨0, Nat.zero_le _, rfl, own_nil _ _ _, Below.refl _ _⟩
  case round =>
    obtain ⟨k, hk, rfl, hown, hb⟩ := hrel
    have hs := hb.size
    by_cases hlt : k < ρ.l.length
    · obtain ⟨r, hr⟩ : ∃ r, ρ.l[k]? = some r := ⟨_, List.getElem?_eq_getElem hlt⟩
      obtain ⟨g, rfl, w6, hneq, hgl, hql, a0, a1, ok, rk1⟩ := (HV.out.below hb).at rfl hr
      have x0 := w6.x0; have x1 := w6.x1; have x2 := w6.x2; have x3 := w6.x3; have x4 := w6.x4; have x5 := w6.x5
      have hle := dirtyR_le (ρ.l.take k)
      have hle2 : (ρ.l.take k).length ≤ 1000000 := by rw [List.length_take]; omega
      have HR := Lib.hid hr
      have HO := Lib.hid hown
      have HB := Lib.hid hb
      clear hr hown hb ok w6
      obtain ⟨wo, rfl⟩ : ∃ wo : World, wo = wr := ⟨_, rfl⟩
      cases hd : r.dirty
      · rw [hd] at x3
        have HD := Lib.hid hd
        clear hd
        go_wp2
        go_roundw
        case rel =>
          refine ⟨k + 1, by omega, by go_num, ?_, HB.out.alloc hs _⟩
          rw [dirtyR_snoc HR.out, HD.out, if_neg (by decide), List.append_nil]
          exact HO.out.alloc _
        case measure => simp [intOf]; omega
      · rw [hd] at x3
        have HD := Lib.hid hd
        have h1 := Row.one (wo.alloc (.cells #[.int .i64 r.at_, .int .u64 r.stays, .int .u64 r.holds, .bool true, .bool r.way, .int .u64 r.sent] 74)) (.int .i64 r.at_) 3
        rw [World.size_alloc wo] at h1
        have hone := Lib.hid h1
        clear hd h1
        go_wp2_with (at_builtin; refine wpList_append_row _ rfl (.tmp 17) (.tmp 20) 44 rfl w.heap.size 3 (.int .i64 0) 8 Tryz.underlying44 infoInt rfl _ _ _ rfl ((HO.out.alloc _).alloc _) _ (some ⟨wo.heap.size + 1, 0, none⟩) 1 1 [.int .i64 r.at_] rfl hone.out (by simp [Value.oneCell']) (by unfold maxLen; omega) (by omega) (by simp; omega) ?_; intro v5 w5 hown5 hgr5 hat5; have hb5 := Lib.hid (show Below w.heap.size w w5 from ((HB.out.alloc hs _).alloc (by simp; omega) _).grown hgr5 (by simp; omega) (own_base HO.out)); have HO5 := Lib.hid hown5; clear hown5 hgr5 hat5)
        go_roundw
        case rel =>
          refine ⟨k + 1, by omega, by go_num, ?_, hb5.out⟩
          rw [dirtyR_snoc HR.out, HD.out, if_pos rfl]
          simpa using HO5.out
        case measure => simp [intOf]; omega
    · obtain rfl : k = ρ.l.length := by omega
      rw [List.take_of_length_le (Nat.le_refl _)] at hown
      have HO := Lib.hid hown
      have HB := Lib.hid hb
      clear hown hb
      go_wp2
      go_ret
      exact ⟨_, rfl, HO.out, HB.out⟩

/-- the same rows are the same -/
def SameRel (w : World) (l : List Int) (i : Value) (wr : World) : Prop := ∃ k : Nat, k ≤ l.length ∧ i = .int .i64 k ∧ Below w.heap.size w wr

theorem same_any {w : World} (l : List Int) (hm : l.length ≤ 33554432) (A C : Option Addr) (c d : Nat) (ra : Row w w.heap.size A l.length (l.map (Value.int .i64))) (rc : Row w w.heap.size C l.length (l.map (Value.int .i64))) : Calls Tryz.prog 15 #[.slice A l.length c, .slice C l.length d] w fun e w' => e = .returned (.bool true) ∧ Below w.heap.size w w' := by
  have HA := Lib.hid ra
  have HC := Lib.hid rc
  have qn : ((l.length : Int) != (l.length : Int)) = false := by simp
  clear ra rc
  go_enter Tryz.func15, Tryz.ntmps15
  go_wp2
  go_loopw [13] (fun i wr => SameRel w l i wr) (fun i _ => l.length - (intOf i).toNat)
  case atStart => exact ⟨0, Nat.zero_le _, rfl, Below.refl _ _⟩
  case round =>
    obtain ⟨k, hk, rfl, hb⟩ := hrel
    by_cases hlt : k < l.length
    · obtain ⟨b1, o1, y, rfl, hb1, gx, cx⟩ := (HA.out.below hb).get hlt
      obtain ⟨b2, o2, y2, rfl, hb2, gy, cy⟩ := (HC.out.below hb).get hlt
      obtain rfl : y = y2 := Option.some.inj (gx.symm.trans gy)
      have i0 : (0 : Int) ≤ (k : Int) := by omega
      have i1 : (k : Int) < (l.length : Int) := by omega
      have qq : (y != y) = false := by simp
      have HB := Lib.hid hb
      clear gx gy hb
      go_wp2
      go_quiet (fail)
      go_wp2
      go_roundw
      case rel => exact ⟨k + 1, by omega, by go_num, below_drewN HB.out _⟩
      case measure => simp [intOf]; omega
    · obtain rfl : k = l.length := by omega
      have HB := Lib.hid hb
      clear hb
      go_wp2
      go_ret
      exact ⟨rfl, HB.out⟩
end Go.Proofs.YtnjikgcigobcdaaGreat
