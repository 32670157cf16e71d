import Derived.Test.YtamndllolppmoaaGreatG03
import Derived.ScopeJumps
import Derived.WalkMore
import Derived.StillTailTactics
import Derived.Test.YtamndllolppmoaaGreatG02
import Derived.Lib.SliceRun
import Derived.OwnWalk
import Derived.Deep.RegionWith
import Derived.Deep.RegionHeld3
import Derived.Deep.RegionLaw
import Derived.Deep.CutRange
import Derived.Deep.DeepCutAuto

namespace Go.Proofs.YtamndllolppmoaaGreat
open Wd Ino U Go.RowKit Go.ChangeShapes Go.WideShapes Go.Sort
set_option linter.unusedVariables false
set_option maxRecDepth 100000

/-! how many words a node has -/
def wsum : List Ent → Nat
  | [] => 0
  | e :: l => 2 + need e.s.size + wsum l
theorem wsum_append : ∀ (l m : List Ent), wsum (l ++ m) = wsum l + wsum m := by
  intro l m
  induction l with
  | nil => simp [wsum]
  | cons e l ih => rw [List.cons_append, wsum, ih, wsum]; omega
theorem wsum_take {l : List Ent} {k : Nat} {e : Ent} (h : l[k]? = some e) : wsum (l.take (k + 1)) = wsum (l.take k) + (2 + need e.s.size) := by
  rw [take_two h, wsum_append]
  rfl
/-- small enough -/
structure Nd.Few (n : Nd) : Prop where
  names : n.names.length ≤ 30
  pages : n.pages.length ≤ 100
  size : ∀ e ∈ n.names, e.s.size ≤ 100
theorem wsum_le : ∀ {l : List Ent}, (∀ e ∈ l, e.s.size ≤ 100) → wsum l ≤ l.length * 15 := by
  intro l
  induction l with
  | nil => intro _; exact Nat.zero_le _
  | cons e l ih =>
    intro h
    have h1 := h e List.mem_cons_self
    have h2 := ih (fun x hx => h x (List.mem_cons_of_mem _ hx))
    have h3 : need e.s.size ≤ 13 := by unfold need; omega
    rw [wsum, List.length_cons]; omega
theorem wsum_part {l : List Ent} (h : ∀ e ∈ l, e.s.size ≤ 100) (hl : l.length ≤ 30) (k : Nat) : wsum (l.take k) ≤ 450 := by
  have h1 := wsum_le (l := l.take k) (fun e he => h e (List.mem_of_mem_take he))
  rw [List.length_take] at h1
  omega
/-- not too great -/
structure Nd.Mod (n : Nd) : Prop where
  names : n.names.length ≤ 1000
  pages : n.pages.length ≤ 1000
  size : ∀ e ∈ n.names, e.s.size ≤ 1000
theorem Nd.Few.mod {n : Nd} (h : n.Few) : n.Mod := ⟨Nat.le_trans h.names (by decide), Nat.le_trans h.pages (by decide), fun e he => Nat.le_trans (h.size e he) (by decide)⟩
theorem wsum_leM : ∀ {l : List Ent}, (∀ e ∈ l, e.s.size ≤ 1000) → wsum l ≤ l.length * 130 := by
  intro l
  induction l with
  | nil => intro _; exact Nat.zero_le _
  | cons e l ih =>
    intro h
    have h1 := h e List.mem_cons_self
    have h2 := ih (fun x hx => h x (List.mem_cons_of_mem _ hx))
    have h3 : need e.s.size ≤ 128 := by unfold need; omega
    rw [wsum, List.length_cons]; omega
theorem wsum_partM {l : List Ent} (h : ∀ e ∈ l, e.s.size ≤ 1000) (hl : l.length ≤ 1000) (k : Nat) : wsum (l.take k) ≤ 130000 := by
  have h1 := wsum_leM (l := l.take k) (fun e he => h e (List.mem_of_mem_take he))
  rw [List.length_take] at h1
  omega
def WordsRel (np : Nat) (l : List Ent) (w : World) (s i : Value) (wr : World) : Prop := ∃ k : Nat, k ≤ l.length ∧ i = .int .i64 k ∧ s = .int .i64 ((7 + np + wsum (l.take k) : Nat) : Int) ∧ ∃ q os, wr = grow (w.drewN q) os
def Nd.words (n : Nd) : Int := ((7 + n.pages.length + wsum n.names : Nat) : Int)
set_option maxHeartbeats 8000000 in
theorem iWordsM (n : Nd) (w : World) (h : n.In w) (hf : n.Mod) : Calls Tryz.prog 64 #[n.val] w (Grows (.int .i64 n.words) w) := by
  obtain ⟨i, ki, l, s, u, A, ac, P, B, bc, N⟩ := n
  obtain ⟨f1, f2, f3⟩ := hf
  dsimp only at f1 f2 f3
  have he := h.ens
  dsimp only at he
  have hc := Cells.new w 55 (ncells i ki l s u (.slice A P.length ac) (.slice B N.length bc))
  have hg := grow_one w (.cells (ncells i ki l s u (.slice A P.length ac) (.slice B N.length bc)) 55)
  obtain ⟨c0, c1, c2, c3, c4, c5, c6⟩ := cells7 hc
  have HG := Lib.hid hg
  have H := Lib.hid he
  have HP := Lib.hid (wsum_partM f3 f1)
  have F3 := Lib.hid f3
  unfold Nd.val Nd.words
  dsimp only
  unfold ncells at c5 c6 HG
  obtain ⟨p, hp⟩ : ∃ p, P.length = p := ⟨_, rfl⟩
  rw [hp] at f2 HG c5 c6 ⊢
  have w1 : wrap64 (7 + (p : Int)) = ((7 + p : Nat) : Int) := by unfold wrap64; omega
  clear hc hg h he f3 c0 c1 c2 c3 c4 hp
  go_enter Tryz.func64, Tryz.ntmps64
  go_wp2
  go_loopw [3, 13] (fun s i wr => WordsRel p N w s i wr) (fun _ i _ => N.length - (intOf i).toNat)
  case atStart => exact ⟨0, Nat.zero_le _, rfl, by simp [wsum], HG.out⟩
  case round =>
    obtain ⟨k, hk, rfl, rfl, hgr⟩ := hrel
    have HGR := Lib.hid hgr
    by_cases hlt : k < N.length
    · obtain ⟨e, hek⟩ : ∃ e, N[k]? = some e := ⟨_, List.getElem?_eq_getElem hlt⟩
      obtain ⟨b1, o1, rfl, hbb, x0, x1⟩ := ens_cells (H.out.below (grown_b hgr)) hek
      have hlt2 : (k : Int) < (N.length : Int) := Int.ofNat_lt.2 hlt
      have e1 := wsum_take hek
      have e2 := HP.out (k + 1)
      have e3 := F3.out e (List.mem_of_getElem? hek)
      obtain ⟨t, ht⟩ : ∃ t, wsum (N.take k) = t := ⟨_, rfl⟩
      obtain ⟨t', ht'⟩ : ∃ t, wsum (N.take (k + 1)) = t := ⟨_, rfl⟩
      obtain ⟨d, hd⟩ : ∃ d, need e.s.size = d := ⟨_, rfl⟩
      obtain ⟨z, hz⟩ : ∃ z, e.s.size = z := ⟨_, rfl⟩
      rw [ht, ht', hd] at e1
      rw [ht'] at e2
      rw [hz] at e3 hd
      rw [ht]
      have KN := Lib.hid (fun w => need_is (z : Int) (by omega) (by omega) w)
      rw [needI_nat, hd] at KN
      have a1 : (((7 + p + t : Nat) : Int) + (2 + (d : Int))) = ((7 + p + t' : Nat) : Int) := by omega
      have HT' := Lib.hid ht'
      have HA := Lib.hid a1
      obtain ⟨m, hm⟩ : ∃ m, 7 + p + t = m := ⟨_, rfl⟩
      obtain ⟨m', hm'⟩ : ∃ m, 7 + p + t' = m := ⟨_, rfl⟩
      have q1 : m + (2 + d) = m' := by omega
      have q2 : m' ≤ 200000 := by omega
      have HM' := Lib.hid hm'
      rw [hm]
      rw [hm] at HA
      have HZ := Lib.hid hz
      have HQ := Lib.hid (show ((m : Int) + (2 + (d : Int))) = (m' : Int) by omega)
      clear hgr hek e1 e2 e3 ht ht' hd hm hm' a1 hz
      go_wp2_with (go_at_call 102; rw [HZ.out]; refine (KN.out _).mono ?_; rintro e' w1 ⟨rfl, rfl⟩)
      go_roundw
      case rel => exact ⟨k + 1, by omega, by go_num, by rw [HT'.out, HM'.out, HQ.out], grow_alloc HGR.out _⟩
      case measure => simp [intOf]; omega
    · obtain rfl : k = N.length := by omega
      rw [List.take_length]
      clear hgr
      go_wp2
      go_ret
      exact ⟨rfl, HGR.out⟩
theorem iWords (n : Nd) (w : World) (h : n.In w) (hf : n.Few) : Calls Tryz.prog 64 #[n.val] w (Grows (.int .i64 n.words) w) := iWordsM n w h hf.mod

def WordsRelB (np : Nat) (l : List Ent) (w : World) (s i : Value) (wr : World) : Prop := ∃ k : Nat, k ≤ l.length ∧ i = .int .i64 k ∧ s = .int .i64 ((7 + np + wsum (l.take k) : Nat) : Int) ∧ Below w.heap.size w wr
/-- it tells v; nothing that was there has turned -/
def Tells (v : Value) (w : World) (e : Ending) (w' : World) : Prop := e = .returned v ∧ Below w.heap.size w w'
set_option maxHeartbeats 8000000 in
theorem rWords (n : Nd) (w : World) (h : n.In w) (hf : n.Few) : Calls Tryz.prog 38 #[n.val] w (Tells (.int .i64 n.words) w) := by
  obtain ⟨i, ki, l, s, u, A, ac, P, B, bc, N⟩ := n
  obtain ⟨f1, f2, f3⟩ := hf
  dsimp only at f1 f2 f3
  have he := h.ens
  dsimp only at he
  have hc := Cells.new w 55 (ncells i ki l s u (.slice A P.length ac) (.slice B N.length bc))
  have hg := grow_one w (.cells (ncells i ki l s u (.slice A P.length ac) (.slice B N.length bc)) 55)
  obtain ⟨c0, c1, c2, c3, c4, c5, c6⟩ := cells7 hc
  have HG := Lib.hid hg
  have H := Lib.hid he
  have HP := Lib.hid (wsum_part f3 f1)
  have F3 := Lib.hid f3
  unfold Nd.val Nd.words
  dsimp only
  unfold ncells at c5 c6 HG
  obtain ⟨p, hp⟩ : ∃ p, P.length = p := ⟨_, rfl⟩
  rw [hp] at f2 HG c5 c6 ⊢
  have w1 : wrap64 (7 + (p : Int)) = ((7 + p : Nat) : Int) := by unfold wrap64; omega
  clear hc hg h he f3 c0 c1 c2 c3 c4 hp
  go_enter Tryz.func38, Tryz.ntmps38
  go_wp2
  go_loopw [3, 13] (fun s i wr => WordsRelB p N w s i wr) (fun _ i _ => N.length - (intOf i).toNat)
  case atStart => exact ⟨0, Nat.zero_le _, rfl, by simp [wsum], grown_b HG.out⟩
  case round =>
    obtain ⟨k, hk, rfl, rfl, hgr⟩ := hrel
    have HGR := Lib.hid hgr
    have hgr0 := hgr
    by_cases hlt : k < N.length
    · obtain ⟨e, hek⟩ : ∃ e, N[k]? = some e := ⟨_, List.getElem?_eq_getElem hlt⟩
      obtain ⟨b1, o1, rfl, hbb, x0, x1⟩ := ens_cells (H.out.below hgr) hek
      have hlt2 : (k : Int) < (N.length : Int) := Int.ofNat_lt.2 hlt
      have e1 := wsum_take hek
      have e2 := HP.out (k + 1)
      have e3 := F3.out e (List.mem_of_getElem? hek)
      obtain ⟨t, ht⟩ : ∃ t, wsum (N.take k) = t := ⟨_, rfl⟩
      obtain ⟨t', ht'⟩ : ∃ t, wsum (N.take (k + 1)) = t := ⟨_, rfl⟩
      obtain ⟨d, hd⟩ : ∃ d, need e.s.size = d := ⟨_, rfl⟩
      obtain ⟨z, hz⟩ : ∃ z, e.s.size = z := ⟨_, rfl⟩
      rw [ht, ht', hd] at e1
      rw [ht'] at e2
      rw [hz] at e3 hd
      rw [ht]
      have KN := Lib.hid (fun w => refText_any e.s (by omega) w)
      have hL : (encT e.s).length = 1 + d := by unfold encT; rw [List.length_append, pk_len, bsOf_len, hz, hd]; rfl
      have HL := Lib.hid hL
      have a1 : (((7 + p + t : Nat) : Int) + (1 + ((1 + d : Nat) : Int))) = ((7 + p + t' : Nat) : Int) := by omega
      have HT' := Lib.hid ht'
      have HA := Lib.hid a1
      obtain ⟨m, hm⟩ : ∃ m, 7 + p + t = m := ⟨_, rfl⟩
      obtain ⟨m', hm'⟩ : ∃ m, 7 + p + t' = m := ⟨_, rfl⟩
      have q1 : m + (2 + d) = m' := by omega
      have q2 : m' ≤ 1000 := by omega
      have HM' := Lib.hid hm'
      rw [hm]
      rw [hm] at HA
      have HZ := Lib.hid hz
      obtain ⟨dd, hdd⟩ : ∃ x, 1 + d = x := ⟨_, rfl⟩
      rw [hdd] at HL
      have HQ := Lib.hid (show ((m : Int) + (1 + (dd : Int))) = (m' : Int) by omega)
      have dd1 : dd ≤ 1000 := by omega
      clear hgr hgr0 hek e1 e2 e3 ht ht' hd hm hm' a1 hz hL hdd HA
      go_wp2_with fail
      refine (KN.out _).mono ?_
      rintro e' w1 ⟨v, rfl, ho, hb⟩
      obtain ⟨A3, c3, rfl, _⟩ := Row.of_own ho
      rw [HL.out]
      have HB := Lib.hid ((HGR.out.alloc HGR.out.size _).trans (hb.mono (HGR.out.alloc HGR.out.size _).size))
      clear hb ho
      go_wp2
      go_roundw
      case rel => exact ⟨k + 1, by omega, by go_num, by rw [HT'.out, HM'.out, HQ.out], HB.out⟩
      case measure => simp [intOf]; omega
    · obtain rfl : k = N.length := by omega
      rw [List.take_length]
      clear hgr hgr0
      go_wp2
      go_ret
      exact ⟨rfl, HGR.out⟩
end Go.Proofs.YtamndllolppmoaaGreat

namespace Go.Proofs.YtamndllolppmoaaGreat
open Wd Ino Go.RowKit Go.ChangeShapes Go.WideShapes Go.Sort
set_option linter.unusedVariables false
set_option maxRecDepth 100000

/-! the pages that aren't holes -/
def refsP (l : List Int) : List Int := l.filter (fun x => x != 0)
theorem infoI : (Tryz.prog.info? 3).map (fun i => (i.zero, i.size, i.bytes)) = some (some (.int .i64 0), 1, 8) := by kernel_rfl
/-- a row of ints that the call made -/
def OwnI (w : World) (base : Nat) (v : Value) (l : List Int) : Prop := w.ownsRow base 3 1 v l.length (l.map iv)
def MadeI (l : List Int) (w : World) (e : Ending) (w' : World) : Prop := ∃ v, e = .returned v ∧ OwnI w' w.heap.size v l ∧ Below w.heap.size w w'
theorem OwnI.nil (w : World) (base : Nat) : OwnI w base (.slice none 0 0) [] := own_nil _ _ _
theorem OwnI.below {w w' : World} {base : Nat} {v : Value} {l : List Int} (h : OwnI w base v l) (hb : Below w.heap.size w w') : OwnI w' base v l := own_below h hb
theorem OwnI.mono {w : World} {b1 b2 : Nat} {v : Value} {l : List Int} (h : OwnI w b1 v l) (hb : b2 ≤ b1) : OwnI w b2 v l := by
  rcases h with ⟨h1, h2⟩
  refine ⟨h1, ?_⟩
  rcases h2 with h2 | ⟨g, cap, cur, h2, h3, h4⟩
  · exact .inl h2
  · exact .inr ⟨g, cap, cur, h2, Nat.le_trans hb h3, h4⟩
theorem OwnI.row {w : World} {base : Nat} {v : Value} {l : List Int} (h : OwnI w base v l) : ∃ A c, v = .slice A l.length c ∧ Row w w.heap.size A l.length (l.map iv) := Row.of_own h
theorem refs_take {l : List Int} {k : Nat} {x : Int} (h : l[k]? = some x) : refsP (l.take (k + 1)) = refsP (l.take k) ++ (if x = 0 then [] else [x]) := by
  rw [take_two h]
  unfold refsP
  rw [List.filter_append]
  by_cases hx : x = 0
  · simp [hx]
  · simp [hx]
theorem refs_len (l : List Int) : (refsP l).length ≤ l.length := List.length_filter_le _ _
theorem getI {w : World} {B n : Nat} {A : Option Addr} {l : List Int} (h : Row w B A n (l.map iv)) {k : Nat} (hk : k < n) : ∃ b off x, A = some ⟨b, off, none⟩ ∧ b < B ∧ l[k]? = some x ∧ w.cell? ⟨b, off + k, none⟩ = some (.int .i64 x) := h.get hk
def GathJ (l : List Int) (n c : Nat) (A : Option Addr) (W : World) (a : Act) (w : World) : Prop :=
  ∃ (k : Nat) (v : Value) (u5 u6 u7 u8 u9 u10 u11 u12 u13 u14 u15 u16 u17 u18 u19 u20 u21 u22 u23 : Value), a = { tmps := #[.slice A n c, undef, .slice none 0 0, v, .int .i64 k, u5, u6, u7, u8, u9, u10, u11, u12, u13, u14, u15, u16, u17, u18, u19, u20, u21, u22, u23], defers := [] } ∧ k ≤ n ∧ OwnI w W.heap.size v (refsP (l.take k)) ∧ Below W.heap.size W w

set_option maxHeartbeats 8000000 in
theorem iGather (l : List Int) (n : Nat) (hL : l.length = n) (A : Option Addr) (c : Nat) (w : World) (hn : n ≤ 1000) (hr : Row w w.heap.size A n (l.map iv)) : Calls Tryz.prog 115 #[.slice A n c] w (MadeI (refsP l) w) := by
  have HL := Lib.hid hL; have HR := Lib.hid hr
  clear hL hr
  go_enter Tryz.func115, Tryz.ntmps115
  go_wp2
  refine wp_scope_jumps 0 (GathJ l n c A w) (fun a' _ => n - (intOf (a'.tmps.getD 4 undef)).toNat) rfl ?_ ?_
  · go_wp2
    obtain ⟨k, wr, hk, hown, hbl, hkI, hwr⟩ : ∃ (k : Nat) (wr : World), k ≤ n ∧ OwnI wr w.heap.size (.slice none 0 0) (refsP (l.take k)) ∧ Below w.heap.size w wr ∧ (0 : Int) = (k : Int) ∧ w = wr := ⟨0, w, Nat.zero_le _, OwnI.nil _ _, Below.refl _ _, rfl, rfl⟩
    rw [hkI]
    have H0 : (w.heap.size) = w.heap.size := rfl
    clear H0 hkI
    subst hwr
    go_step3
    by_cases heq : k = n
    · subst heq
      rw [List.take_of_length_le (by rw [HL.out]; exact Nat.le_refl _)] at hown
      have HO := Lib.hid hown; have HBL := Lib.hid hbl
      clear hbl hown hk
      go_wp2
      simp only [Exit.jump]
      go_ret
      exact ⟨_, rfl, HO.out, HBL.out⟩
    · have hkn : k < n := by omega
      have hne : ((k : Int) == (n : Int)) = false := by rw [beq_eq_false_iff_ne]; omega
      obtain ⟨b1, o1, x, hA, hbb, hx, cx⟩ := getI (HR.out.below hbl) hkn
      have ht := refs_take hx
      have hle := Nat.le_trans (refs_len (l.take k)) (by rw [List.length_take]; exact Nat.min_le_left k _)
      have HO := Lib.hid hown; have HBL := Lib.hid hbl
      have hsz := hbl.size
      by_cases hx0 : x = 0
      · have hz : (x != 0) = false := by simp [hx0]
        rw [if_pos hx0, List.append_nil] at ht
        have HT := Lib.hid ht
        clear hbl hown hx ht heq hx0 hle
        subst hA
        go_wp2
        go_step3
        exact ⟨rfl, k + 1, _, _, _, _, _, _, _, _, _, _, _, _, _, _, _, _, _, _, _, _, rfl, by omega, by rw [HT.out]; exact HO.out, HBL.out⟩
      · have hz : (x != 0) = true := by simp [hx0]
        rw [if_neg hx0] at ht
        have HT := Lib.hid ht
        have hle2 : (refsP (l.take k)).length + 1 ≤ 1001 := by omega
        have HO2 := Lib.hid (show (w.alloc (.cells #[.int .i64 x] 3)).ownsRow w.heap.size 3 1 (.slice none 0 0) (refsP (l.take k)).length ((refsP (l.take k)).map iv) from own_below hown ((Below.refl _ _).alloc (Nat.le_refl _) _))
        have HR2 := Lib.hid (Row.one w (.int .i64 x) 3)
        clear hbl hown hx ht heq hx0 hle
        subst hA
        go_wp2_with (at_builtin; refine wpList_append_row _ rfl (.tmp 15) (.tmp 20) 40 rfl w.heap.size 3 (.int .i64 0) 8 Tryz.underlying40 infoI rfl (.slice none 0 0) (refsP (l.take k)).length ((refsP (l.take k)).map iv) rfl HO2.out _ (some ⟨w.heap.size, 0, none⟩) 1 1 [.int .i64 x] rfl HR2.out (by simp [Value.oneCell']) (by unfold maxLen; omega) (by omega) (by simp <;> omega) ?_; intro v5 w5 hown5 hgr5 hat5; have hb5 := Lib.hid (show Below w.heap.size w w5 from (HBL.out.alloc hsz _).grown hgr5 (by simp <;> omega) (own_base HO2.out)); have HO5 := Lib.hid hown5; clear hown5 hgr5 hat5)
        go_step3
        exact ⟨rfl, k + 1, _, _, _, _, _, _, _, _, _, _, _, _, _, _, _, _, _, _, _, _, rfl, by omega, by rw [HT.out]; unfold OwnI; rw [List.length_append, List.map_append]; exact HO5.out, hb5.out⟩
  · rintro a' wr ⟨k, v, u5, u6, u7, u8, u9, u10, u11, u12, u13, u14, u15, u16, u17, u18, u19, u20, u21, u22, u23, rfl, hk, hown, hbl⟩
    by_cases heq : k = n
    · subst heq
      rw [List.take_of_length_le (by rw [HL.out]; exact Nat.le_refl _)] at hown
      have HO := Lib.hid hown; have HBL := Lib.hid hbl
      clear hbl hown hk
      go_wp2
      simp only [Exit.jump]
      go_ret
      exact ⟨_, rfl, HO.out, HBL.out⟩
    · have hkn : k < n := by omega
      have hne : ((k : Int) == (n : Int)) = false := by rw [beq_eq_false_iff_ne]; omega
      obtain ⟨b1, o1, x, hA, hbb, hx, cx⟩ := getI (HR.out.below hbl) hkn
      have ht := refs_take hx
      have hle := Nat.le_trans (refs_len (l.take k)) (by rw [List.length_take]; exact Nat.min_le_left k _)
      have HO := Lib.hid hown; have HBL := Lib.hid hbl
      have hsz := hbl.size
      by_cases hx0 : x = 0
      · have hz : (x != 0) = false := by simp [hx0]
        rw [if_pos hx0, List.append_nil] at ht
        have HT := Lib.hid ht
        clear hbl hown hx ht heq hx0 hle
        subst hA
        go_wp2
        go_step3
        exact ⟨rfl, ⟨k + 1, _, _, _, _, _, _, _, _, _, _, _, _, _, _, _, _, _, _, _, _, rfl, by omega, by rw [HT.out]; exact HO.out, HBL.out⟩, by simp [intOf]; omega⟩
      · have hz : (x != 0) = true := by simp [hx0]
        rw [if_neg hx0] at ht
        have HT := Lib.hid ht
        have hle2 : (refsP (l.take k)).length + 1 ≤ 1001 := by omega
        have HO2 := Lib.hid (show (wr.alloc (.cells #[.int .i64 x] 3)).ownsRow w.heap.size 3 1 v (refsP (l.take k)).length ((refsP (l.take k)).map iv) from own_below hown ((Below.refl _ _).alloc (Nat.le_refl _) _))
        have HR2 := Lib.hid (Row.one wr (.int .i64 x) 3)
        clear hbl hown hx ht heq hx0 hle
        subst hA
        go_wp2_with (at_builtin; refine wpList_append_row _ rfl (.tmp 15) (.tmp 20) 40 rfl w.heap.size 3 (.int .i64 0) 8 Tryz.underlying40 infoI rfl v (refsP (l.take k)).length ((refsP (l.take k)).map iv) rfl HO2.out _ (some ⟨wr.heap.size, 0, none⟩) 1 1 [.int .i64 x] rfl HR2.out (by simp [Value.oneCell']) (by unfold maxLen; omega) (by omega) (by simp <;> omega) ?_; intro v5 w5 hown5 hgr5 hat5; have hb5 := Lib.hid (show Below w.heap.size w w5 from (HBL.out.alloc hsz _).grown hgr5 (by simp <;> omega) (own_base HO2.out)); have HO5 := Lib.hid hown5; clear hown5 hgr5 hat5)
        go_step3
        exact ⟨rfl, ⟨k + 1, _, _, _, _, _, _, _, _, _, _, _, _, _, _, _, _, _, _, _, _, rfl, by omega, by rw [HT.out]; unfold OwnI; rw [List.length_append, List.map_append]; exact HO5.out, hb5.out⟩, by simp [intOf]; omega⟩
end Go.Proofs.YtamndllolppmoaaGreat

namespace Go.Proofs.YtamndllolppmoaaGreat
open Wd Ino Go.RowKit Go.ChangeShapes Go.WideShapes Go.Sort
set_option linter.unusedVariables false
set_option maxRecDepth 100000

/-! slices.Clone of names -/
def MadeE (l : List Ent) (w : World) (e : Ending) (w' : World) : Prop := ∃ v, e = .returned v ∧ OwnE w' w.heap.size v l ∧ Below w.heap.size w w'
theorem ownE_base {w : World} {base : Nat} {v : Value} {l : List Ent} (h : OwnE w base v l) : ∀ q, v.ownBlock = some q → base ≤ q := own_base h
set_option maxHeartbeats 4000000 in
theorem cloneE {w : World} {B n c : Nat} {A : Option Addr} {xs : List Ent} (hn : xs.length = n) (h : Ens w B A xs) (hB : B ≤ w.heap.size) (hle : n ≤ 50000) : Calls Tryz.prog 78 #[.slice A n c] w (MadeE xs w) := by
  subst hn
  cases A with
  | none =>
    obtain rfl : xs = [] := by
      cases xs with
      | nil => rfl
      | cons e l =>
        obtain ⟨b, off, e, _⟩ := h (by simp)
        cases e
    have hq := fun (w : World) => Lib.run_eql_slice_nil (P := Tryz.prog) w 53 114 none 0 c 0 0 Tryz.underlying53
    clear h
    go_enter Tryz.func78, Tryz.ntmps78
    go_wp2
    go_ret
    exact ⟨_, rfl, own_nilE _ _, Below.refl _ _⟩
  | some a =>
    have ho : OwnE (w.alloc (.cells #[] 114)) w.heap.size (.slice (some ⟨w.heap.size, 0, none⟩) 0 0) [] := ⟨rfl, .inr ⟨w.heap.size, 0, #[], rfl, Nat.le_refl _, Cells.new w _ _, Nat.le_refl _, by decide, rfl, rfl⟩⟩
    have HO := Lib.hid ho
    have hr' : Ens (w.alloc (.cells #[] 114)) w.heap.size (some a) xs := (h.more hB).below ((Below.refl w.heap.size w).alloc (Nat.le_refl _) _)
    have HR := Lib.hid hr'
    have hl3 : ([] : List Ent).length + xs.length ≤ 100000 := by rw [List.length_nil]; omega
    have hs3 : w.heap.size ≤ (w.alloc (.cells #[] 114)).heap.size := by simp
    have hq := fun (w : World) => Lib.run_eql_slice_nil (P := Tryz.prog) w 53 114 (some a) xs.length c 0 0 Tryz.underlying53
    clear ho hr' h
    go_enter Tryz.func78, Tryz.ntmps78
    go_wp2_with (at_builtin; refine wpList_append_ens rfl (.tmp 5) (.tmp 6) rfl rfl rfl HO.out HR.out hl3 hs3 ?_; intro v5 w5 hown5 hgr5 hat5; have HO5 := Lib.hid hown5; have HG5 := Lib.hid hgr5; clear hown5 hgr5 hat5)
    go_ret
    have hb5 : Below w.heap.size w w5 := ((Below.refl _ _).alloc (Nat.le_refl _) _).grown HG5.out (by simp) (ownE_base HO.out)
    have ho5 := HO5.out
    rw [List.nil_append] at ho5
    exact ⟨_, rfl, ho5, hb5⟩
end Go.Proofs.YtamndllolppmoaaGreat

namespace Go.Proofs.YtamndllolppmoaaGreat
open Wd Ino Go.RowKit Go.ChangeShapes Go.WideShapes Go.Sort
set_option linter.unusedVariables false
set_option maxRecDepth 100000

/-! slices.Clone of ints and of names -/
theorem oneI (l : List Int) : ∀ u ∈ l.map iv, u.oneCell' = true := by
  intro u hu
  obtain ⟨x, _, rfl⟩ := List.mem_map.1 hu
  rfl
set_option maxHeartbeats 4000000 in
theorem cloneI {w : World} {B n c : Nat} {A : Option Addr} {xs : List Int} (hn : xs.length = n) (h : Row w B A n (xs.map iv)) (hB : B ≤ w.heap.size) (hle : n ≤ 100000) : Calls Tryz.prog 77 #[.slice A n c] w (MadeI xs w) := by
  cases A with
  | none =>
    have h0 : n = 0 := by
      apply Classical.byContradiction
      intro hc
      obtain ⟨b, off, e, _⟩ := h.2 (by omega)
      cases e
    subst h0
    obtain rfl : xs = [] := List.eq_nil_of_length_eq_zero hn
    have hq := fun (w : World) => Lib.run_eql_slice_nil (P := Tryz.prog) w 40 3 none 0 c 0 0 Tryz.underlying40
    clear h hn
    go_enter Tryz.func77, Tryz.ntmps77
    go_wp2
    go_ret
    exact ⟨_, rfl, OwnI.nil _ _, Below.refl _ _⟩
  | some a =>
    have ho : (w.alloc (.cells #[] 3)).ownsRow w.heap.size 3 1 (.slice (some ⟨w.heap.size, 0, none⟩) 0 0) 0 [] := ⟨rfl, .inr ⟨w.heap.size, 0, #[], rfl, Nat.le_refl _, Cells.new w _ _, Nat.le_refl _, by decide, rfl, rfl⟩⟩
    have HO := Lib.hid ho
    have hr' : Row (w.alloc (.cells #[] 3)) w.heap.size (some a) n (xs.map iv) := (h.more hB).below ((Below.refl w.heap.size w).alloc (Nat.le_refl _) _)
    have HR := Lib.hid hr'
    have HN := Lib.hid hn
    have hq := fun (w : World) => Lib.run_eql_slice_nil (P := Tryz.prog) w 40 3 (some a) n c 0 0 Tryz.underlying40
    clear ho hr' h hn
    go_enter Tryz.func77, Tryz.ntmps77
    go_wp2_with (at_builtin; refine wpList_append_row _ rfl (.tmp 5) (.tmp 6) 40 rfl w.heap.size 3 (.int .i64 0) 8 Tryz.underlying40 infoI rfl _ _ _ rfl HO.out _ (some a) n c (xs.map iv) rfl HR.out (oneI _) (by unfold maxLen; omega) (by omega) (by simp) ?_; intro v5 w5 hown5 hgr5 hat5; have HO5 := Lib.hid hown5; have HG5 := Lib.hid hgr5; clear hown5 hgr5 hat5)
    go_ret
    have hb5 : Below w.heap.size w w5 := ((Below.refl _ _).alloc (Nat.le_refl _) _).grown HG5.out (by simp) (own_base HO.out)
    have ho5 := HO5.out
    rw [Nat.zero_add, List.nil_append, ← HN.out] at ho5
    exact ⟨_, rfl, ho5, hb5⟩
/-- a node's refs -/
theorem iRefs (n : Nd) (w : World) (h : n.In w) (hp : n.pages.length ≤ 1000) : Calls Tryz.prog 69 #[n.val] w (MadeI (refsP n.pages) w) := by
  obtain ⟨i, ki, l, s, u, A, ac, P, B, bc, N⟩ := n
  dsimp only at hp
  have hr := h.row
  dsimp only at hr
  have hb := (Below.refl w.heap.size w).alloc (Nat.le_refl _) (.cells (ncells i ki l s u (.slice A P.length ac) (.slice B N.length bc)) 55)
  have KG := Lib.hid (iGather P _ rfl A ac _ hp ((hr.below hb).more hb.size))
  have hc := Cells.new w 55 (ncells i ki l s u (.slice A P.length ac) (.slice B N.length bc))
  obtain ⟨c0, c1, c2, c3, c4, c5, c6⟩ := cells7 hc
  have HB := Lib.hid hb
  unfold Nd.val
  dsimp only
  unfold ncells at c5 HB KG
  clear hc hb hr h c0 c1 c2 c3 c4 c6
  go_enter Tryz.func69, Tryz.ntmps69
  go_wp2_with fail
  refine KG.out.mono ?_
  rintro e w2 ⟨v, rfl, ho, hb2⟩
  have HO := Lib.hid ho; have HB2 := Lib.hid hb2
  clear ho hb2
  go_wp2
  go_ret
  exact ⟨_, rfl, HO.out.mono HB.out.size, HB.out.trans (HB2.out.mono HB.out.size)⟩
end Go.Proofs.YtamndllolppmoaaGreat

namespace Go.Proofs.YtamndllolppmoaaGreat
open Wd Ino Go.RowKit Go.ChangeShapes Go.WideShapes Go.Sort
set_option linter.unusedVariables false
set_option maxRecDepth 100000

/-- a node of that: its numbers, its pages and its names in rows of their own -/
structure OwnN (w : World) (base : Nat) (V : Value) (i k l s u : Int) (P : List Int) (N : List Ent) (A : Option Addr) (ac : Nat) (B : Option Addr) (bc : Nat) : Prop where
  val : V = nv i k l s u (.slice A P.length ac) (.slice B N.length bc)
  pages : OwnI w base (.slice A P.length ac) P
  names : OwnE w base (.slice B N.length bc) N
theorem fill2 {w : World} {g : Nat} {i k l s u : Int} {pv mv : Value} (h : Cells w g 55 (ncells i k l s u pv mv)) (p m : Value) : Cells ((w.setCell ⟨g, 5, none⟩ p).setCell ⟨g, 6, none⟩ m) g 55 (ncells i k l s u p m) := by
  have h1 := Cells.set h 5 p
  have h2 := Cells.set h1 6 m
  exact h2
theorem own_far {w : World} {base : Nat} {e : TypeId} {sz n : Nat} {v : Value} {xs : List Value} (h : w.ownsRow base e sz v n xs) {p : Addr} (hp : p.block < base) (u : Value) : (w.setCell p u).ownsRow base e sz v n xs := by
  rcases h with ⟨hl, h⟩
  refine ⟨hl, ?_⟩
  rcases h with h | ⟨g, cap, cur, hv, hb, hh, h1⟩
  · exact .inl h
  · exact .inr ⟨g, cap, cur, hv, hb, (Below.heap_setCell _ _ _ g (by omega)).trans hh, h1⟩
/-- a node's seven cells written -/
def set7 (w : World) (g : Nat) (i k l s u : Int) (p m : Value) : World :=
  ((((((w.setCell ⟨g, 0, none⟩ (.int .i64 i)).setCell ⟨g, 1, none⟩ (.int .i64 k)).setCell ⟨g, 2, none⟩ (.int .i64 l)).setCell ⟨g, 3, none⟩ (.int .i64 s)).setCell ⟨g, 4, none⟩ (.int .i64 u)).setCell ⟨g, 5, none⟩ p).setCell ⟨g, 6, none⟩ m
theorem set7_cells {w : World} {g : Nat} {i k l s u i' k' l' s' u' : Int} {p m p' m' : Value} (h : Cells w g 55 (ncells i' k' l' s' u' p' m')) : Cells (set7 w g i k l s u p m) g 55 (ncells i k l s u p m) := by
  have h0 : Cells _ g 55 (ncells i k' l' s' u' p' m') := Cells.set h 0 (.int .i64 i)
  have h1 : Cells _ g 55 (ncells i k l' s' u' p' m') := Cells.set h0 1 (.int .i64 k)
  have h2 : Cells _ g 55 (ncells i k l s' u' p' m') := Cells.set h1 2 (.int .i64 l)
  have h3 : Cells _ g 55 (ncells i k l s u' p' m') := Cells.set h2 3 (.int .i64 s)
  have h4 : Cells _ g 55 (ncells i k l s u p' m') := Cells.set h3 4 (.int .i64 u)
  have h5 : Cells _ g 55 (ncells i k l s u p m') := Cells.set h4 5 p
  have h6 : Cells _ g 55 (ncells i k l s u p m) := Cells.set h5 6 m
  exact h6
theorem set7_heap {w : World} {g : Nat} {i k l s u : Int} {p m : Value} {b : Nat} (h : b ≠ g) : (set7 w g i k l s u p m).heap[b]? = w.heap[b]? := by
  unfold set7
  have f := fun (w : World) (j : Nat) (x : Value) => Below.heap_setCell w ⟨g, j, none⟩ x b h
  rw [f, f, f, f, f, f, f]
theorem set7_below {B : Nat} {w0 w : World} {g : Nat} {i k l s u : Int} {p m : Value} (h : Below B w0 w) (hg : B ≤ g) : Below B w0 (set7 w g i k l s u p m) := by
  unfold set7
  have f := fun (w : World) (j : Nat) (x : Value) (h : Below B w0 w) => Below.setCell h (p := ⟨g, j, none⟩) hg x
  exact f _ _ _ (f _ _ _ (f _ _ _ (f _ _ _ (f _ _ _ (f _ _ _ (f _ _ _ h))))))
theorem own_set7 {w : World} {base : Nat} {e : TypeId} {sz n : Nat} {v : Value} {xs : List Value} (h : w.ownsRow base e sz v n xs) {g : Nat} (hp : g < base) {i k l s u : Int} {p m : Value} : (set7 w g i k l s u p m).ownsRow base e sz v n xs := by
  rcases h with ⟨hl, h⟩
  refine ⟨hl, ?_⟩
  rcases h with h | ⟨g', cap, cur, hv, hb, hh, h1⟩
  · exact .inl h
  · exact .inr ⟨g', cap, cur, hv, hb, (set7_heap (by omega)).trans hh, h1⟩
theorem own_apart {w : World} {base g : Nat} {e t : TypeId} {sz n : Nat} {v : Value} {xs : List Value} {cs : Array Value} (h : w.ownsRow base e sz v n xs) (hc : Cells w g t cs) (hne : t ≠ e) (k : Nat) (u : Value) : (w.setCell ⟨g, k, none⟩ u).ownsRow base e sz v n xs := by
  rcases h with ⟨hl, h⟩
  refine ⟨hl, ?_⟩
  rcases h with h | ⟨g', cap, cur, hv, hb, hh, h1⟩
  · exact .inl h
  · have hn : g' ≠ g := fun e' => Cells.ne hc (show Cells w g' e cur from hh) hne e'.symm
    exact .inr ⟨g', cap, cur, hv, hb, (Below.heap_setCell _ _ _ g' hn).trans hh, h1⟩
theorem ownE_open {w : World} {base : Nat} {v : Value} {N : List Ent} (h : OwnE w base v N) (hn : 0 < N.length) : ∃ g cap cur, v = .slice (some ⟨g, 0, none⟩) N.length cap ∧ base ≤ g ∧ Cells w g 114 cur ∧
    ∀ (j : Nat) (e : Ent), N[j]? = some e → cur[j * 2]? = some (.string e.s) ∧ cur[j * 2 + 1]? = some (.int .i64 e.n) := by
  rcases h.2 with ⟨_, h0⟩ | ⟨g, cap, cur, hv, hb, hh, hc, hm, _, ht⟩
  · omega
  · refine ⟨g, cap, cur, hv, hb, hh, fun j e hj => ?_⟩
    have get : ∀ (k : Nat) (x : Value), (ev e)[k]? = some x → cur[j * 2 + k]? = some x := fun k x hk => by
      have hx := evals_at N j k e x hj hk
      rw [← ht, List.getElem?_take] at hx
      split at hx
      · rw [← Array.getElem?_toList]; exact hx
      · cases hx
    exact ⟨get 0 _ rfl, get 1 _ rfl⟩
theorem ownE_same {w : World} {base g n cap : Nat} {N : List Ent} {cur : Array Value} (h : OwnE w base (.slice (some ⟨g, 0, none⟩) n cap) N) (hc : Cells w g 114 cur) {j : Nat} {u : Value} (hj : cur[j]? = some u) : OwnE (w.setCell ⟨g, j, none⟩ u) base (.slice (some ⟨g, 0, none⟩) n cap) N := by
  have h1 := Cells.set hc j u
  have h2 : cur.setIfInBounds j u = cur := by
    apply Array.ext_getElem?
    intro i
    rw [Array.getElem?_setIfInBounds]
    by_cases hi : j = i
    · subst hi
      have := (Array.getElem?_eq_some_iff.1 hj).1
      rw [if_pos rfl, if_pos this, hj]
    · rw [if_neg hi]
  rw [h2] at h1
  refine ⟨h.1, ?_⟩
  rcases h.2 with ⟨h0, _⟩ | ⟨g', cap', cur', hv, hb, hh, h3⟩
  · cases h0
  · injection hv with hv hn hcap
    injection hv with hv
    injection hv with hv
    subst hv
    have : cur' = cur := by
      have e : (some (Obj.cells cur' 114 (0, 0)) : Option Obj) = some (Obj.cells cur 114 (0, 0)) := hh.symm.trans hc
      injection e with e
      injection e
    subst this
    exact .inr ⟨g, cap', cur', by rw [hn, hcap], hb, h1, h3⟩
def CopyI (n : Nd) (w : World) (A3 : Option Addr) (c3 : Nat) (B4 : Option Addr) (c4 : Nat) (wx : World) : Prop := OwnI wx (w.heap.size + 2) (.slice A3 n.pages.length c3) n.pages ∧ OwnE wx (w.heap.size + 2) (.slice B4 n.names.length c4) n.names ∧
  Cells wx w.heap.size 55 (ncells n.ino n.kind n.links n.size n.up (.slice A3 n.pages.length c3) (.slice B4 n.names.length c4)) ∧ Cells wx (w.heap.size + 1) 55 (ncells 0 0 0 0 0 (.slice none 0 0) (.slice none 0 0)) ∧ Below w.heap.size w wx
set_option maxHeartbeats 8000000 in
theorem iCopy (n : Nd) (w : World) (h : n.In w) (hp : n.pages.length ≤ 1000) (hq : n.names.length ≤ 1000) (hsz : ∀ e ∈ n.names, e.s.size ≤ 1000) :
    Calls Tryz.prog 46 #[n.val] w fun e w' => ∃ V A ac B bc, e = .returned V ∧ OwnN w' w.heap.size V n.ino n.kind n.links n.size n.up n.pages n.names A ac B bc ∧ Below w.heap.size w w' := by
  obtain ⟨i, ki, l, s, u, A, ac, P, B, bc, N⟩ := n
  dsimp only at hp hq hsz ⊢
  have hr := h.row
  have he := h.ens
  dsimp only at hr he
  have HRow := Lib.hid hr; have HEns := Lib.hid he; have HS := Lib.hid hsz
  unfold Nd.val
  dsimp only
  clear h hr he hsz
  go_enter Tryz.func46, Tryz.ntmps46
  go_upto_region 1 with fail
  obtain ⟨W2, hW2⟩ : ∃ W2, (w.alloc (.cells (ncells i ki l s u (.slice A P.length ac) (.slice B N.length bc)) 55)).alloc (.cells (ncells 0 0 0 0 0 (.slice none 0 0) (.slice none 0 0)) 55) = W2 := ⟨_, rfl⟩
  have hc : Cells W2 w.heap.size 55 (ncells i ki l s u (.slice A P.length ac) (.slice B N.length bc)) := by rw [← hW2]; exact (Cells.new _ _ _).alloc _
  have hr : Cells W2 (w.heap.size + 1) 55 (ncells 0 0 0 0 0 (.slice none 0 0) (.slice none 0 0)) := by rw [← hW2]; have := Cells.new (w.alloc (.cells (ncells i ki l s u (.slice A P.length ac) (.slice B N.length bc)) 55)) 55 (ncells 0 0 0 0 0 (.slice none 0 0) (.slice none 0 0)); simpa using this
  have hb : Below w.heap.size w W2 := by rw [← hW2]; exact ((Below.refl _ _).alloc (Nat.le_refl _) _).alloc (by simp) _
  unfold ncells at hW2
  rw [hW2]
  have HC := Lib.hid hc; have HR := Lib.hid hr; have HB := Lib.hid hb
  have hs2 : W2.heap.size = w.heap.size + 2 := by rw [← hW2]; simp
  have HS2 := Lib.hid hs2
  have KI := Lib.hid (fun w1 (b : Below w.heap.size w w1) => cloneI (c := ac) rfl (HRow.out.below b) b.size (by omega))
  have KE := Lib.hid (fun w1 (b : Below w.heap.size w w1) => cloneE (c := bc) rfl (HEns.out.below b) b.size (by omega))
  obtain ⟨_, _, _, _, _, c5, c6⟩ := cells7 hc
  have b0 : Below W2.heap.size W2 W2.drew := below_drewN (Below.refl _ _) 1
  clear hW2 hc hr hb hs2
  go_cut [7] from 5 to 12 (fun x wx => ∃ A3 c3 B4 c4, CopyI ⟨i, ki, l, s, u, A, ac, P, B, bc, N⟩ w A3 c3 B4 c4 wx)
  case first =>
    go_region_with (first
      | (go_at_call 77; (with_reducible refine (KI.out _ (HB.out.trans (b0.mono HB.out.size))).mono ?_); rintro e' w3 ⟨vI, rfl, oI, bI⟩; obtain ⟨A3, c3, rfl, _⟩ := oI.row; have kI : Below W2.heap.size W2 w3 := b0.trans (bI.mono b0.size); have x6 := (HC.out.below' kI).cell 6; simp [ncells] at x6)
      | (go_at_call 78; (with_reducible refine (KE.out _ (HB.out.trans (kI.mono HB.out.size))).mono ?_); rintro e' w4 ⟨vE, rfl, oE, bE⟩; obtain ⟨A4, c4, rfl, _, _⟩ := oE.form; have kE : Below W2.heap.size W2 w4 := kI.trans (bE.mono kI.size); have z5 := (HC.out.below' kE).free 5; have z6 := (HC.out.below' kE).free 6; have y5 := (HC.out.below' kE).cell 5; have y6 := (HC.out.below' kE).cell 6; simp [ncells] at y5 y6))
    all_goals
      have hs := HS2.out
      have oI4 : OwnI w4 (w.heap.size + 2) (.slice A3 P.length c3) P := (oI.below bE).mono (by show w.heap.size + 2 ≤ W2.heap.size; omega)
      have oE4 : OwnE w4 (w.heap.size + 2) (.slice A4 N.length c4) N := oE.mono (by have := kI.size; omega)
      have OI5 := Lib.hid (own_far (own_far oI4 (p := ⟨w.heap.size, 5, none⟩) (by simp) (.slice A3 P.length c3)) (p := ⟨w.heap.size, 6, none⟩) (by simp) (.slice A4 N.length c4))
      have OE5 := Lib.hid (own_far (own_far oE4 (p := ⟨w.heap.size, 5, none⟩) (by simp) (.slice A3 P.length c3)) (p := ⟨w.heap.size, 6, none⟩) (by simp) (.slice A4 N.length c4))
      have HC5 := Lib.hid (fill2 (HC.out.below' kE) (.slice A3 P.length c3) (.slice A4 N.length c4))
      have HR5 := Lib.hid (((HR.out.below' kE).far (p := ⟨w.heap.size, 5, none⟩) (by simp) (.slice A3 P.length c3)).far (p := ⟨w.heap.size, 6, none⟩) (by simp) (.slice A4 N.length c4))
      have HB5 := Lib.hid (((HB.out.trans (kE.mono HB.out.size)).setCell (p := ⟨w.heap.size, 5, none⟩) (Nat.le_refl _) (.slice A3 P.length c3)).setCell (p := ⟨w.heap.size, 6, none⟩) (Nat.le_refl _) (.slice A4 N.length c4))
      clear oI4 oE4 z5 z6 y5 y6 oI oE bI bE kI kE hs c5 c6
      go_wp2_with fail
      go_meet
      exact ⟨A3, c3, A4, c4, OI5.out, OE5.out, HC5.out, HR5.out, HB5.out⟩
  case rest =>
  obtain ⟨A3, c3, B4, c4, hI⟩ := hcut
  have HI := Lib.hid hI
  obtain ⟨_, _, hc3, _, _⟩ := hI
  have c6 := (cells7 hc3).2.2.2.2.2.2
  dsimp only at c6
  clear hc3 HC HR HB HS2 KI KE HRow HEns b0
  go_wp2
  go_loopw [16] (fun v wr => ∃ k : Nat, k ≤ N.length ∧ v = .int .i64 k ∧ CopyI ⟨i, ki, l, s, u, A, ac, P, B, bc, N⟩ w A3 c3 B4 c4 wr) (fun v _ => N.length - (intOf v).toNat)
  case atStart => exact ⟨0, Nat.zero_le _, rfl, HI.out⟩
  case round =>
    obtain ⟨k, hk, rfl, hJ⟩ := hrel
    have HJ := Lib.hid hJ
    obtain ⟨oI, oE, hc, hr, hb⟩ := hJ
    dsimp only at oI oE hc hr
    by_cases hlt : k < N.length
    · obtain ⟨e, he⟩ : ∃ e, N[k]? = some e := ⟨_, List.getElem?_eq_getElem hlt⟩
      obtain ⟨g, cap, cur, hv, hg, hcur, hat⟩ := ownE_open oE (by omega)
      obtain ⟨x0, x1⟩ := hat k e he
      injection hv with hv1 _ hv2
      subst hv1
      subst hv2
      have y0 : wr.cell? ⟨g, k * 2, none⟩ = some (.string e.s) := (hcur.cell _).trans x0
      have y1 : wr.cell? ⟨g, k * 2 + 1, none⟩ = some (.int .i64 e.n) := (hcur.cell _).trans x1
      have hlt2 : (k : Int) < (N.length : Int) := Int.ofNat_lt.2 hlt
      have KC := Lib.hid (fun w => cloneG e.s (by have := HS.out e (List.mem_of_getElem? he); omega) w)
      have HE := Lib.hid he
      clear hc hr hb oI oE hat c6
      go_upto_region 5 with fail
      obtain ⟨W3, hW3⟩ : ∃ W3, wr.alloc (.cells #[.string e.s, .int .i64 e.n] 114) = W3 := ⟨_, rfl⟩
      rw [hW3]
      have hx : CopyI ⟨i, ki, l, s, u, A, ac, P, B, bc, N⟩ w A3 c3 (some ⟨g, 0, none⟩) c4 W3 := by
        obtain ⟨oI, oE, hc, hr, hb⟩ := HJ.out
        have b1 := (Below.refl wr.heap.size wr).alloc (Nat.le_refl _) (.cells #[.string e.s, .int .i64 e.n] 114)
        rw [hW3] at b1
        exact ⟨oI.below b1, oE.below b1, hc.below' b1, hr.below' b1, hb.trans (b1.mono hb.size)⟩
      have hbox : Cells W3 wr.heap.size 114 #[.string e.s, .int .i64 e.n] := by rw [← hW3]; exact Cells.new _ _ _
      have hcur3 : Cells W3 g 114 cur := by rw [← hW3]; exact hcur.alloc _
      have HX := Lib.hid hx
      have hc6 := (cells7 hx.2.2.1).2.2.2.2.2.2
      dsimp only at hc6
      have hb0 := hbox.cell 0
      have hz := hcur3.free (k * 2)
      have hy := (hcur3.cell (k * 2)).trans x0
      have hb1 := hbox.cell 0
      simp at hb0
      have HCur := Lib.hid hcur3
      have hk0 : (0 : Int) ≤ (k : Int) := Int.natCast_nonneg k
      have b0 : Below W3.heap.size W3 W3.drew := below_drewN (Below.refl _ _) 1
      have HX0 := Lib.hid x0
      clear hW3 hx hbox hcur3 y0 y1 x0 x1 hcur hb1 HJ hg
      go_region_with (first
        | (go_at_call 79; (with_reducible refine (KC.out _).mono ?_); rintro e' w5 hG; obtain ⟨rfl, bG⟩ := hG.below; clear hG; have kG : Below W3.heap.size W3 w5 := b0.trans (bG.mono b0.size); have z6 := (cells7 (HX.out.2.2.1.below' kG)).2.2.2.2.2.2; have z7 := (HCur.out.below' kG).free (k * 2); have z8 := ((HCur.out.below' kG).cell (k * 2)).trans HX0.out; (dsimp only at z6)))
      all_goals
        have hJ5 : CopyI ⟨i, ki, l, s, u, A, ac, P, B, bc, N⟩ w A3 c3 (some ⟨g, 0, none⟩) c4 (w5.setCell ⟨g, k * 2, none⟩ (.string e.s)) := by
          obtain ⟨oI, oE, hc, hr, hb⟩ := HX.out
          have hg := own_base oE g rfl
          exact ⟨own_apart (oI.below kG) (HCur.out.below' kG) (by decide) _ _, ownE_same (oE.below kG) (HCur.out.below' kG) HX0.out, (hc.below' kG).far (p := ⟨g, k * 2, none⟩) (by simp; omega) _, (hr.below' kG).far (p := ⟨g, k * 2, none⟩) (by simp; omega) _, (hb.trans (kG.mono hb.size)).setCell (p := ⟨g, k * 2, none⟩) (by simp; omega) _⟩
        have HJ5 := Lib.hid hJ5
        clear hJ5 bG kG z6 z7 z8 hc6 hb0 hz hy b0
        go_wp2
        go_roundw
        case rel => exact ⟨k + 1, by omega, by go_num, HJ5.out⟩
        case measure => simp [intOf]; omega
    · obtain rfl : k = N.length := by omega
      obtain ⟨e0, e1, e2, e3, e4, e5, e6⟩ := cells7 hc
      obtain ⟨d0, d1, d2, d3, d4, d5, d6⟩ := cells7 hr
      have z := fun j => Cells.free hr j
      clear hc hr hb oI oE c6 hlt
      go_wp2
      obtain ⟨oI, oE, hc, hr, hb⟩ := HJ.out
      dsimp only at oI oE hr
      exact bodyPost_ret (results_cell_row rfl _ _ (w.heap.size + 1) 55 (ncells i ki l s u (.slice A3 P.length c3) (.slice B4 N.length c4)) (0, 0) _ rfl (set7_cells hr) Tryz.underlying55 rfl (by kernel_rfl)) rfl
        ⟨_, A3, c3, B4, c4, rfl, ⟨rfl, OwnI.mono (own_set7 oI (by omega)) (by omega), OwnE.mono (own_set7 oE (by omega)) (by omega)⟩, set7_below hb (by omega)⟩
end Go.Proofs.YtamndllolppmoaaGreat
