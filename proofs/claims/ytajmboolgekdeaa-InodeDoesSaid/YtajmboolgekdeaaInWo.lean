import Derived.Test.YtajmboolgekdeaaInSa
namespace Go.Proofs.Ytajmboolgekdeaa
open Wd Ino U Go.RowKit Go.ChangeShapes Go.WideShapes Go.Sort
set_option linter.unusedVariables false
set_option maxRecDepth 100000

/-! how many words a node has -/
def wsum : List Ent → Nat
  | [] => 0
  | e :: l => 2 + need e.s.size + wsum l
theorem wsum_append : ∀ (l m : List Ent), wsum (l ++ m) = wsum l + wsum m := by
  intro l m
  induction l with
  | nil => simp [wsum]
  | cons e l ih => rw [List.cons_append, wsum, ih, wsum]; omega
theorem wsum_take {l : List Ent} {k : Nat} {e : Ent} (h : l[k]? = some e) : wsum (l.take (k + 1)) = wsum (l.take k) + (2 + need e.s.size) := by
  rw [take_two h, wsum_append]
  rfl
/-- small enough -/
structure Nd.Few (n : Nd) : Prop where
  names : n.names.length ≤ 30
  pages : n.pages.length ≤ 100
  size : ∀ e ∈ n.names, e.s.size ≤ 100
theorem wsum_le : ∀ {l : List Ent}, (∀ e ∈ l, e.s.size ≤ 100) → wsum l ≤ l.length * 15 := by
  intro l
  induction l with
  | nil => intro _; exact Nat.zero_le _
  | cons e l ih =>
    intro h
    have h1 := h e List.mem_cons_self
    have h2 := ih (fun x hx => h x (List.mem_cons_of_mem _ hx))
    have h3 : need e.s.size ≤ 13 := by unfold need; omega
    rw [wsum, List.length_cons]; omega
theorem wsum_part {l : List Ent} (h : ∀ e ∈ l, e.s.size ≤ 100) (hl : l.length ≤ 30) (k : Nat) : wsum (l.take k) ≤ 450 := by
  have h1 := wsum_le (l := l.take k) (fun e he => h e (List.mem_of_mem_take he))
  rw [List.length_take] at h1
  omega
def WordsRel (np : Nat) (l : List Ent) (w : World) (s i : Value) (wr : World) : Prop := ∃ k : Nat, k ≤ l.length ∧ i = .int .i64 k ∧ s = .int .i64 ((7 + np + wsum (l.take k) : Nat) : Int) ∧ ∃ q os, wr = grow (w.drewN q) os
def Nd.words (n : Nd) : Int := ((7 + n.pages.length + wsum n.names : Nat) : Int)
set_option maxHeartbeats 8000000 in
theorem iWords (n : Nd) (w : World) (h : n.In w) (hf : n.Few) : Calls Try.prog 13 #[n.val] w (Grows (.int .i64 n.words) w) := by
  obtain ⟨i, ki, l, s, u, A, ac, P, B, bc, N⟩ := n
  obtain ⟨f1, f2, f3⟩ := hf
  dsimp only at f1 f2 f3
  have he := h.ens
  dsimp only at he
  have hc := Cells.new w 25 (ncells i ki l s u (.slice A P.length ac) (.slice B N.length bc))
  have hg := grow_one w (.cells (ncells i ki l s u (.slice A P.length ac) (.slice B N.length bc)) 25)
  obtain ⟨c0, c1, c2, c3, c4, c5, c6⟩ := cells7 hc
  have HG := Lib.hid hg
  have H := Lib.hid he
  have HP := Lib.hid (wsum_part f3 f1)
  have F3 := Lib.hid f3
  unfold Nd.val Nd.words
  dsimp only
  unfold ncells at c5 c6 HG
  obtain ⟨p, hp⟩ : ∃ p, P.length = p := ⟨_, rfl⟩
  rw [hp] at f2 HG c5 c6 ⊢
  have w1 : wrap64 (7 + (p : Int)) = ((7 + p : Nat) : Int) := by unfold wrap64; omega
  clear hc hg h he f3 c0 c1 c2 c3 c4 hp
  go_enter Try.func13, Try.ntmps13
  go_wp2
  go_loopw [3, 13] (fun s i wr => WordsRel p N w s i wr) (fun _ i _ => N.length - (intOf i).toNat)
  case atStart => exact ⟨0, Nat.zero_le _, rfl, by simp [wsum], HG.out⟩
  case round =>
    obtain ⟨k, hk, rfl, rfl, hgr⟩ := hrel
    have HGR := Lib.hid hgr
    by_cases hlt : k < N.length
    · obtain ⟨e, hek⟩ : ∃ e, N[k]? = some e := ⟨_, List.getElem?_eq_getElem hlt⟩
      obtain ⟨b1, o1, rfl, hbb, x0, x1⟩ := ens_cells (H.out.below (grown_b hgr)) hek
      have hlt2 : (k : Int) < (N.length : Int) := Int.ofNat_lt.2 hlt
      have e1 := wsum_take hek
      have e2 := HP.out (k + 1)
      have e3 := F3.out e (List.mem_of_getElem? hek)
      obtain ⟨t, ht⟩ : ∃ t, wsum (N.take k) = t := ⟨_, rfl⟩
      obtain ⟨t', ht'⟩ : ∃ t, wsum (N.take (k + 1)) = t := ⟨_, rfl⟩
      obtain ⟨d, hd⟩ : ∃ d, need e.s.size = d := ⟨_, rfl⟩
      obtain ⟨z, hz⟩ : ∃ z, e.s.size = z := ⟨_, rfl⟩
      rw [ht, ht', hd] at e1
      rw [ht'] at e2
      rw [hz] at e3 hd
      rw [ht]
      have KN := Lib.hid (fun w => need_is (z : Int) (by omega) (by omega) w)
      rw [needI_nat, hd] at KN
      have a1 : (((7 + p + t : Nat) : Int) + (2 + (d : Int))) = ((7 + p + t' : Nat) : Int) := by omega
      have HT' := Lib.hid ht'
      have HA := Lib.hid a1
      obtain ⟨m, hm⟩ : ∃ m, 7 + p + t = m := ⟨_, rfl⟩
      obtain ⟨m', hm'⟩ : ∃ m, 7 + p + t' = m := ⟨_, rfl⟩
      have q1 : m + (2 + d) = m' := by omega
      have q2 : m' ≤ 1000 := by omega
      have HM' := Lib.hid hm'
      rw [hm]
      rw [hm] at HA
      have HZ := Lib.hid hz
      have HQ := Lib.hid (show ((m : Int) + (2 + (d : Int))) = (m' : Int) by omega)
      clear hgr hek e1 e2 e3 ht ht' hd hm hm' a1 hz
      go_wp2_with (go_at_call 27; rw [HZ.out]; refine (KN.out _).mono ?_; rintro e' w1 ⟨rfl, rfl⟩)
      go_roundw
      case rel => exact ⟨k + 1, by omega, by go_num, by rw [HT'.out, HM'.out, HQ.out], grow_alloc HGR.out _⟩
      case measure => simp [intOf]; omega
    · obtain rfl : k = N.length := by omega
      rw [List.take_length]
      clear hgr
      go_wp2
      go_ret
      exact ⟨rfl, HGR.out⟩

def WordsRelB (np : Nat) (l : List Ent) (w : World) (s i : Value) (wr : World) : Prop := ∃ k : Nat, k ≤ l.length ∧ i = .int .i64 k ∧ s = .int .i64 ((7 + np + wsum (l.take k) : Nat) : Int) ∧ Below w.heap.size w wr
/-- it tells v; nothing that was there has turned -/
def Tells (v : Value) (w : World) (e : Ending) (w' : World) : Prop := e = .returned v ∧ Below w.heap.size w w'
set_option maxHeartbeats 8000000 in
theorem rWords (n : Nd) (w : World) (h : n.In w) (hf : n.Few) : Calls Try.prog 14 #[n.val] w (Tells (.int .i64 n.words) w) := by
  obtain ⟨i, ki, l, s, u, A, ac, P, B, bc, N⟩ := n
  obtain ⟨f1, f2, f3⟩ := hf
  dsimp only at f1 f2 f3
  have he := h.ens
  dsimp only at he
  have hc := Cells.new w 25 (ncells i ki l s u (.slice A P.length ac) (.slice B N.length bc))
  have hg := grow_one w (.cells (ncells i ki l s u (.slice A P.length ac) (.slice B N.length bc)) 25)
  obtain ⟨c0, c1, c2, c3, c4, c5, c6⟩ := cells7 hc
  have HG := Lib.hid hg
  have H := Lib.hid he
  have HP := Lib.hid (wsum_part f3 f1)
  have F3 := Lib.hid f3
  unfold Nd.val Nd.words
  dsimp only
  unfold ncells at c5 c6 HG
  obtain ⟨p, hp⟩ : ∃ p, P.length = p := ⟨_, rfl⟩
  rw [hp] at f2 HG c5 c6 ⊢
  have w1 : wrap64 (7 + (p : Int)) = ((7 + p : Nat) : Int) := by unfold wrap64; omega
  clear hc hg h he f3 c0 c1 c2 c3 c4 hp
  go_enter Try.func14, Try.ntmps14
  go_wp2
  go_loopw [3, 13] (fun s i wr => WordsRelB p N w s i wr) (fun _ i _ => N.length - (intOf i).toNat)
  case atStart => exact ⟨0, Nat.zero_le _, rfl, by simp [wsum], grown_b HG.out⟩
  case round =>
    obtain ⟨k, hk, rfl, rfl, hgr⟩ := hrel
    have HGR := Lib.hid hgr
    have hgr0 := hgr
    by_cases hlt : k < N.length
    · obtain ⟨e, hek⟩ : ∃ e, N[k]? = some e := ⟨_, List.getElem?_eq_getElem hlt⟩
      obtain ⟨b1, o1, rfl, hbb, x0, x1⟩ := ens_cells (H.out.below hgr) hek
      have hlt2 : (k : Int) < (N.length : Int) := Int.ofNat_lt.2 hlt
      have e1 := wsum_take hek
      have e2 := HP.out (k + 1)
      have e3 := F3.out e (List.mem_of_getElem? hek)
      obtain ⟨t, ht⟩ : ∃ t, wsum (N.take k) = t := ⟨_, rfl⟩
      obtain ⟨t', ht'⟩ : ∃ t, wsum (N.take (k + 1)) = t := ⟨_, rfl⟩
      obtain ⟨d, hd⟩ : ∃ d, need e.s.size = d := ⟨_, rfl⟩
      obtain ⟨z, hz⟩ : ∃ z, e.s.size = z := ⟨_, rfl⟩
      rw [ht, ht', hd] at e1
      rw [ht'] at e2
      rw [hz] at e3 hd
      rw [ht]
      have KN := Lib.hid (fun w => refText_any e.s (by omega) w)
      have hL : (encT e.s).length = 1 + d := by unfold encT; rw [List.length_append, pk_len, bsOf_len, hz, hd]; rfl
      have HL := Lib.hid hL
      have a1 : (((7 + p + t : Nat) : Int) + (1 + ((1 + d : Nat) : Int))) = ((7 + p + t' : Nat) : Int) := by omega
      have HT' := Lib.hid ht'
      have HA := Lib.hid a1
      obtain ⟨m, hm⟩ : ∃ m, 7 + p + t = m := ⟨_, rfl⟩
      obtain ⟨m', hm'⟩ : ∃ m, 7 + p + t' = m := ⟨_, rfl⟩
      have q1 : m + (2 + d) = m' := by omega
      have q2 : m' ≤ 1000 := by omega
      have HM' := Lib.hid hm'
      rw [hm]
      rw [hm] at HA
      have HZ := Lib.hid hz
      obtain ⟨dd, hdd⟩ : ∃ x, 1 + d = x := ⟨_, rfl⟩
      rw [hdd] at HL
      have HQ := Lib.hid (show ((m : Int) + (1 + (dd : Int))) = (m' : Int) by omega)
      have dd1 : dd ≤ 1000 := by omega
      clear hgr hgr0 hek e1 e2 e3 ht ht' hd hm hm' a1 hz hL hdd HA
      go_wp2_with fail
      refine (KN.out _).mono ?_
      rintro e' w1 ⟨v, rfl, ho, hb⟩
      obtain ⟨A3, c3, rfl, _⟩ := Row.of_own ho
      rw [HL.out]
      have HB := Lib.hid ((HGR.out.alloc HGR.out.size _).trans (hb.mono (HGR.out.alloc HGR.out.size _).size))
      clear hb ho
      go_wp2
      go_roundw
      case rel => exact ⟨k + 1, by omega, by go_num, by rw [HT'.out, HM'.out, HQ.out], HB.out⟩
      case measure => simp [intOf]; omega
    · obtain rfl : k = N.length := by omega
      rw [List.take_length]
      clear hgr hgr0
      go_wp2
      go_ret
      exact ⟨rfl, HGR.out⟩
end Go.Proofs.Ytajmboolgekdeaa
