import Derived.Test.YtbejbiogabpmfaaGreatG02
import Derived.Laws.Strings
import Derived.WalkMore
import Derived.ScopeJumps
import Derived.StillTailTactics
import Derived.Lib.SliceRun
import Derived.OwnWalk

namespace Go.Proofs.YtbejbiogabpmfaaGreat
open Wd Ino Go.RowKit Go.ChangeShapes Go.WideShapes Go.Sort
set_option linter.unusedVariables false
set_option maxRecDepth 100000

/-! two rows of ints -/
def EqualI (xs ys : List Int) (W : World) (i : Value) (w : World) : Prop := ∃ k d : Nat, k ≤ xs.length ∧ i = .int .i64 k ∧ xs.take k = ys.take k ∧ w = W.drewN d
set_option maxHeartbeats 2000000 in
theorem sameI_any (xs ys : List Int) (n m : Nat) (hn : xs.length = n) (hm : ys.length = m) (hle : n ≤ 1000) (A C : Option Addr) (c d B B' : Nat) (w : World) (hx : Row w B A n (xs.map iv)) (hy : Row w B' C m (ys.map iv)) :
    Calls Tryz.prog 115 #[.slice A n c, .slice C m d] w (Grows (.bool (decide (xs = ys))) w) := by
  subst hn hm
  have HX := Lib.hid hx; have HY := Lib.hid hy
  clear hx hy
  by_cases hl : xs.length = ys.length
  · have HL := Lib.hid hl
    have hb : ((xs.length : Int) != (ys.length : Int)) = false := by simp [hl]
    clear hl
    go_enter Tryz.func115, Tryz.ntmps115
    go_wp2
    go_loopw [13] (fun i wr => EqualI xs ys w i wr) (fun i _ => xs.length - (intOf i).toNat)
    case atStart => exact ⟨0, 0, Nat.zero_le _, rfl, rfl, rfl⟩
    case round =>
      obtain ⟨k, q, hk, rfl, ht, rfl⟩ := hrel
      have HT := Lib.hid ht; clear ht
      by_cases hlt : k < xs.length
      · have hlt2 : k < ys.length := by have := HL.out; omega
        have i1 : (k : Int) < (xs.length : Int) := by omega
        have i2 : (k : Int) < (ys.length : Int) := by omega
        have i0 : (0 : Int) ≤ (k : Int) := by omega
        obtain ⟨b1, o1, x, rfl, _, gx, cx⟩ := HX.out.get hlt
        obtain ⟨b2, o2, y, rfl, _, gy, cy⟩ := HY.out.get hlt2
        have HGX := Lib.hid gx; have HGY := Lib.hid gy
        clear gx gy
        unfold iv at cx cy
        by_cases hxy : x = y
        · subst hxy
          go_wp2
          go_quiet (fail)
          go_wp2
          go_roundw
          case rel => exact ⟨k + 1, q + nq, by omega, by go_num, by rw [take_two HGX.out, take_two HGY.out, HT.out], rfl⟩
          case measure => simp [intOf]; omega
        · have hne : (x != y) = true := by rw [bne_iff_ne]; omega
          have hdec : decide (xs = ys) = false := by
            apply decide_eq_false
            intro h
            have h1 := HGX.out
            rw [h, HGY.out] at h1
            exact hxy (Option.some.inj h1).symm
          have HDEC := Lib.hid hdec
          clear hxy hdec
          go_wp2
          go_quiet (fail)
          go_wp2
          go_ret
          exact ⟨by rw [HDEC.out]; rfl, grow_drewN (grow_drewN (grow_none w) _) _⟩
      · obtain rfl : k = xs.length := by omega
        have hdec : decide (xs = ys) = true := by
          apply decide_eq_true
          have h := HT.out
          rw [List.take_length, List.take_of_length_le (by have := HL.out; omega)] at h
          exact h
        have HDEC := Lib.hid hdec
        clear hdec
        go_wp2
        go_ret
        exact ⟨by rw [HDEC.out]; rfl, grow_drewN (grow_none w) _⟩
  · have hb : ((xs.length : Int) != (ys.length : Int)) = true := by rw [bne_iff_ne]; omega
    have hdec : decide (xs = ys) = false := decide_eq_false (fun h => hl (by rw [h]))
    have HDEC := Lib.hid hdec
    clear hl hdec
    go_enter Tryz.func115, Tryz.ntmps115
    go_wp2
    go_ret
    exact ⟨by rw [HDEC.out]; rfl, grow_none w⟩

end Go.Proofs.YtbejbiogabpmfaaGreat

namespace Go.Proofs.YtbejbiogabpmfaaGreat
open Wd Ino Go.RowKit Go.ChangeShapes Go.WideShapes Go.Sort
set_option linter.unusedVariables false
set_option maxRecDepth 100000

/-- a node's rows lie in the world -/
structure Nd.In (n : Nd) (w : World) : Prop where
  row : Row w w.heap.size n.A n.pages.length (n.pages.map iv)
  ens : Ens w w.heap.size n.B n.names
theorem Nd.In.at_ {n : Nd} {w w' : World} (h : n.In w) (hb : Below w.heap.size w w') : n.In w' := ⟨(h.row.below hb).more hb.size, h.ens.at_ hb⟩
theorem Nd.Ok.in_ {n : Nd} {w : World} (h : n.Ok w w.heap.size) : n.In w := ⟨h.row, h.ens⟩
def nodeEq (n k : Nd) : Bool := ((((((n.ino == k.ino) && (n.kind == k.kind)) && (n.links == k.links)) && (n.size == k.size)) && (n.up == k.up)) && decide (n.pages = k.pages)) && decide (n.names = k.names)
theorem nodeEq_iff {n k : Nd} : nodeEq n k = true ↔ n.ino = k.ino ∧ n.kind = k.kind ∧ n.links = k.links ∧ n.size = k.size ∧ n.up = k.up ∧ n.pages = k.pages ∧ n.names = k.names := by
  unfold nodeEq
  simp only [Bool.and_eq_true, beq_iff_eq, decide_eq_true_eq, and_assoc]
theorem grown_b {w wr : World} (h : ∃ q os, wr = grow (w.drewN q) os) : Below w.heap.size w wr := by
  obtain ⟨q, os, rfl⟩ := h
  exact below_grow' w q os
set_option maxHeartbeats 8000000 in
theorem rSame (n k : Nd) (w : World) (hn : n.In w) (hk : k.In w) (h1 : n.pages.length ≤ 1000) (h2 : n.names.length ≤ 1000) : Calls Tryz.prog 73 #[n.val, k.val] w (Grows (.bool (nodeEq n k)) w) := by
  obtain ⟨i, ki, l, s, u, A, ac, P, B, bc, N⟩ := n
  obtain ⟨i', ki', l', s', u', A', ac', P', B', bc', N'⟩ := k
  dsimp only at h1 h2
  have KP := Lib.hid (fun w1 (b : Below w.heap.size w w1) => sameI_any P P' _ _ rfl rfl h1 A A' ac ac' _ _ w1 (hn.row.below b) (hk.row.below b))
  have KE := Lib.hid (fun w1 (b : Below w.heap.size w w1) => sameEs_any N N' _ _ rfl rfl h2 B B' bc bc' _ _ w1 (hn.ens.below b) (hk.ens.below b))
  have hc := Cells.new w 51 (ncells i ki l s u (.slice A P.length ac) (.slice B N.length bc))
  have hd := Cells.new (w.alloc (.cells (ncells i ki l s u (.slice A P.length ac) (.slice B N.length bc)) 51)) 51 (ncells i' ki' l' s' u' (.slice A' P'.length ac') (.slice B' N'.length bc'))
  have hc2 := hc.alloc (.cells (ncells i' ki' l' s' u' (.slice A' P'.length ac') (.slice B' N'.length bc')) 51)
  have hsz : (w.alloc (.cells (ncells i ki l s u (.slice A P.length ac) (.slice B N.length bc)) 51)).heap.size = w.heap.size + 1 := by simp
  rw [hsz] at hd
  have hg := grow_alloc (grow_one w (.cells (ncells i ki l s u (.slice A P.length ac) (.slice B N.length bc)) 51)) (.cells (ncells i' ki' l' s' u' (.slice A' P'.length ac') (.slice B' N'.length bc')) 51)
  have HG := Lib.hid hg
  have HC := Lib.hid hc2
  have HD := Lib.hid hd
  obtain ⟨c0, c1, c2, c3, c4, c5, c6⟩ := cells7 hc2
  obtain ⟨d0, d1, d2, d3, d4, d5, d6⟩ := cells7 hd
  unfold nodeEq Nd.val
  dsimp only
  obtain ⟨bp, hbp⟩ : ∃ b, decide (P = P') = b := ⟨_, rfl⟩
  obtain ⟨be, hbe⟩ : ∃ b, decide (N = N') = b := ⟨_, rfl⟩
  rw [hbp] at KP ⊢
  rw [hbe] at KE ⊢
  unfold ncells at c0 c1 c2 c3 c4 c5 c6 d0 d1 d2 d3 d4 d5 d6 HG HC HD
  clear hc hd hc2 hsz hg hbp hbe hn hk h1 h2
  cases q0 : (i == i')
  · rw [Bool.false_and, Bool.false_and, Bool.false_and, Bool.false_and, Bool.false_and, Bool.false_and]
    go_enter Tryz.func73, Tryz.ntmps73
    go_wp2
    go_ret
    exact ⟨rfl, HG.out⟩
  cases q1 : (ki == ki')
  · rw [Bool.and_false, Bool.false_and, Bool.false_and, Bool.false_and, Bool.false_and, Bool.false_and]
    go_enter Tryz.func73, Tryz.ntmps73
    go_wp2
    go_ret
    exact ⟨rfl, HG.out⟩
  cases q2 : (l == l')
  · rw [Bool.and_false, Bool.false_and, Bool.false_and, Bool.false_and, Bool.false_and]
    go_enter Tryz.func73, Tryz.ntmps73
    go_wp2
    go_ret
    exact ⟨rfl, HG.out⟩
  cases q3 : (s == s')
  · rw [Bool.and_false, Bool.false_and, Bool.false_and, Bool.false_and]
    go_enter Tryz.func73, Tryz.ntmps73
    go_wp2
    go_ret
    exact ⟨rfl, HG.out⟩
  cases q4 : (u == u')
  · rw [Bool.and_false, Bool.false_and, Bool.false_and]
    go_enter Tryz.func73, Tryz.ntmps73
    go_wp2
    go_ret
    exact ⟨rfl, HG.out⟩
  cases bp
  · rw [Bool.and_false, Bool.false_and]
    go_enter Tryz.func73, Tryz.ntmps73
    go_wp2_with fail
    refine (KP.out _ (grown_b HG.out)).mono ?_
    rintro e w1 ⟨rfl, hg⟩
    go_wp2
    go_ret
    exact ⟨rfl, grow_trans HG.out hg⟩
  · rw [Bool.true_and, Bool.true_and]
    go_enter Tryz.func73, Tryz.ntmps73
    go_wp2_with fail
    refine (KP.out _ (grown_b HG.out)).mono ?_
    rintro e w1 ⟨rfl, hg⟩
    have G1 := Lib.hid (grow_trans HG.out hg)
    have c7 := (HC.out.below' (grown_b hg)).cell 6
    have d7 := (HD.out.below' (grown_b hg)).cell 6
    simp at c7 d7
    clear hg c0 c1 c2 c3 c4 c5 c6 d0 d1 d2 d3 d4 d5 d6
    go_wp2_with fail
    refine (KE.out _ (grown_b G1.out)).mono ?_
    rintro e w2 ⟨rfl, hg⟩
    go_wp2
    go_ret
    exact ⟨by simp, grow_trans G1.out hg⟩

end Go.Proofs.YtbejbiogabpmfaaGreat

namespace Go.Proofs.YtbejbiogabpmfaaGreat
open Wd Ino U Go.RowKit Go.ChangeShapes Go.WideShapes Go.Sort
set_option linter.unusedVariables false
set_option maxRecDepth 100000

/-! how many words a node has -/
def wsum : List Ent → Nat
  | [] => 0
  | e :: l => 2 + need e.s.size + wsum l
theorem wsum_append : ∀ (l m : List Ent), wsum (l ++ m) = wsum l + wsum m := by
  intro l m
  induction l with
  | nil => simp [wsum]
  | cons e l ih => rw [List.cons_append, wsum, ih, wsum]; omega
theorem wsum_take {l : List Ent} {k : Nat} {e : Ent} (h : l[k]? = some e) : wsum (l.take (k + 1)) = wsum (l.take k) + (2 + need e.s.size) := by
  rw [take_two h, wsum_append]
  rfl
/-- small enough -/
structure Nd.Few (n : Nd) : Prop where
  names : n.names.length ≤ 30
  pages : n.pages.length ≤ 100
  size : ∀ e ∈ n.names, e.s.size ≤ 100
/-- not too great -/
structure Nd.Mod (n : Nd) : Prop where
  names : n.names.length ≤ 1000
  pages : n.pages.length ≤ 1000
  size : ∀ e ∈ n.names, e.s.size ≤ 1000
theorem Nd.Few.mod {n : Nd} (h : n.Few) : n.Mod := ⟨Nat.le_trans h.names (by decide), Nat.le_trans h.pages (by decide), fun e he => Nat.le_trans (h.size e he) (by decide)⟩
theorem wsum_leM : ∀ {l : List Ent}, (∀ e ∈ l, e.s.size ≤ 1000) → wsum l ≤ l.length * 130 := by
  intro l
  induction l with
  | nil => intro _; exact Nat.zero_le _
  | cons e l ih =>
    intro h
    have h1 := h e List.mem_cons_self
    have h2 := ih (fun x hx => h x (List.mem_cons_of_mem _ hx))
    have h3 : need e.s.size ≤ 128 := by unfold need; omega
    rw [wsum, List.length_cons]; omega
theorem wsum_partM {l : List Ent} (h : ∀ e ∈ l, e.s.size ≤ 1000) (hl : l.length ≤ 1000) (k : Nat) : wsum (l.take k) ≤ 130000 := by
  have h1 := wsum_leM (l := l.take k) (fun e he => h e (List.mem_of_mem_take he))
  rw [List.length_take] at h1
  omega
def WordsRel (np : Nat) (l : List Ent) (w : World) (s i : Value) (wr : World) : Prop := ∃ k : Nat, k ≤ l.length ∧ i = .int .i64 k ∧ s = .int .i64 ((7 + np + wsum (l.take k) : Nat) : Int) ∧ ∃ q os, wr = grow (w.drewN q) os
def Nd.words (n : Nd) : Int := ((7 + n.pages.length + wsum n.names : Nat) : Int)
set_option maxHeartbeats 8000000 in
theorem iWordsM (n : Nd) (w : World) (h : n.In w) (hf : n.Mod) : Calls Tryz.prog 58 #[n.val] w (Grows (.int .i64 n.words) w) := by
  obtain ⟨i, ki, l, s, u, A, ac, P, B, bc, N⟩ := n
  obtain ⟨f1, f2, f3⟩ := hf
  dsimp only at f1 f2 f3
  have he := h.ens
  dsimp only at he
  have hc := Cells.new w 51 (ncells i ki l s u (.slice A P.length ac) (.slice B N.length bc))
  have hg := grow_one w (.cells (ncells i ki l s u (.slice A P.length ac) (.slice B N.length bc)) 51)
  obtain ⟨c0, c1, c2, c3, c4, c5, c6⟩ := cells7 hc
  have HG := Lib.hid hg
  have H := Lib.hid he
  have HP := Lib.hid (wsum_partM f3 f1)
  have F3 := Lib.hid f3
  unfold Nd.val Nd.words
  dsimp only
  unfold ncells at c5 c6 HG
  obtain ⟨p, hp⟩ : ∃ p, P.length = p := ⟨_, rfl⟩
  rw [hp] at f2 HG c5 c6 ⊢
  have w1 : wrap64 (7 + (p : Int)) = ((7 + p : Nat) : Int) := by unfold wrap64; omega
  clear hc hg h he f3 c0 c1 c2 c3 c4 hp
  go_enter Tryz.func58, Tryz.ntmps58
  go_wp2
  go_loopw [3, 13] (fun s i wr => WordsRel p N w s i wr) (fun _ i _ => N.length - (intOf i).toNat)
  case atStart => exact ⟨0, Nat.zero_le _, rfl, by simp [wsum], HG.out⟩
  case round =>
    obtain ⟨k, hk, rfl, rfl, hgr⟩ := hrel
    have HGR := Lib.hid hgr
    by_cases hlt : k < N.length
    · obtain ⟨e, hek⟩ : ∃ e, N[k]? = some e := ⟨_, List.getElem?_eq_getElem hlt⟩
      obtain ⟨b1, o1, rfl, hbb, x0, x1⟩ := ens_cells (H.out.below (grown_b hgr)) hek
      have hlt2 : (k : Int) < (N.length : Int) := Int.ofNat_lt.2 hlt
      have e1 := wsum_take hek
      have e2 := HP.out (k + 1)
      have e3 := F3.out e (List.mem_of_getElem? hek)
      obtain ⟨t, ht⟩ : ∃ t, wsum (N.take k) = t := ⟨_, rfl⟩
      obtain ⟨t', ht'⟩ : ∃ t, wsum (N.take (k + 1)) = t := ⟨_, rfl⟩
      obtain ⟨d, hd⟩ : ∃ d, need e.s.size = d := ⟨_, rfl⟩
      obtain ⟨z, hz⟩ : ∃ z, e.s.size = z := ⟨_, rfl⟩
      rw [ht, ht', hd] at e1
      rw [ht'] at e2
      rw [hz] at e3 hd
      rw [ht]
      have KN := Lib.hid (fun w => need_is (z : Int) (by omega) (by omega) w)
      rw [needI_nat, hd] at KN
      have a1 : (((7 + p + t : Nat) : Int) + (2 + (d : Int))) = ((7 + p + t' : Nat) : Int) := by omega
      have HT' := Lib.hid ht'
      have HA := Lib.hid a1
      obtain ⟨m, hm⟩ : ∃ m, 7 + p + t = m := ⟨_, rfl⟩
      obtain ⟨m', hm'⟩ : ∃ m, 7 + p + t' = m := ⟨_, rfl⟩
      have q1 : m + (2 + d) = m' := by omega
      have q2 : m' ≤ 200000 := by omega
      have HM' := Lib.hid hm'
      rw [hm]
      rw [hm] at HA
      have HZ := Lib.hid hz
      have HQ := Lib.hid (show ((m : Int) + (2 + (d : Int))) = (m' : Int) by omega)
      clear hgr hek e1 e2 e3 ht ht' hd hm hm' a1 hz
      go_wp2_with (go_at_call 86; rw [HZ.out]; refine (KN.out _).mono ?_; rintro e' w1 ⟨rfl, rfl⟩)
      go_roundw
      case rel => exact ⟨k + 1, by omega, by go_num, by rw [HT'.out, HM'.out, HQ.out], grow_alloc HGR.out _⟩
      case measure => simp [intOf]; omega
    · obtain rfl : k = N.length := by omega
      rw [List.take_length]
      clear hgr
      go_wp2
      go_ret
      exact ⟨rfl, HGR.out⟩
def WordsRelB (np : Nat) (l : List Ent) (w : World) (s i : Value) (wr : World) : Prop := ∃ k : Nat, k ≤ l.length ∧ i = .int .i64 k ∧ s = .int .i64 ((7 + np + wsum (l.take k) : Nat) : Int) ∧ Below w.heap.size w wr
/-- it tells v; nothing that was there has turned -/
def Tells (v : Value) (w : World) (e : Ending) (w' : World) : Prop := e = .returned v ∧ Below w.heap.size w w'
end Go.Proofs.YtbejbiogabpmfaaGreat

namespace Go.Proofs.YtbejbiogabpmfaaGreat
open Wd Ino Go.RowKit Go.ChangeShapes Go.WideShapes Go.Sort
set_option linter.unusedVariables false
set_option maxRecDepth 100000

/-! the pages that aren't holes -/
def refsP (l : List Int) : List Int := l.filter (fun x => x != 0)
theorem infoI : (Tryz.prog.info? 3).map (fun i => (i.zero, i.size, i.bytes)) = some (some (.int .i64 0), 1, 8) := by kernel_rfl
/-- a row of ints that the call made -/
def OwnI (w : World) (base : Nat) (v : Value) (l : List Int) : Prop := w.ownsRow base 3 1 v l.length (l.map iv)
def MadeI (l : List Int) (w : World) (e : Ending) (w' : World) : Prop := ∃ v, e = .returned v ∧ OwnI w' w.heap.size v l ∧ Below w.heap.size w w'
theorem OwnI.nil (w : World) (base : Nat) : OwnI w base (.slice none 0 0) [] := own_nil _ _ _
theorem OwnI.below {w w' : World} {base : Nat} {v : Value} {l : List Int} (h : OwnI w base v l) (hb : Below w.heap.size w w') : OwnI w' base v l := own_below h hb
theorem OwnI.mono {w : World} {b1 b2 : Nat} {v : Value} {l : List Int} (h : OwnI w b1 v l) (hb : b2 ≤ b1) : OwnI w b2 v l := by
  rcases h with ⟨h1, h2⟩
  refine ⟨h1, ?_⟩
  rcases h2 with h2 | ⟨g, cap, cur, h2, h3, h4⟩
  · exact .inl h2
  · exact .inr ⟨g, cap, cur, h2, Nat.le_trans hb h3, h4⟩
theorem OwnI.row {w : World} {base : Nat} {v : Value} {l : List Int} (h : OwnI w base v l) : ∃ A c, v = .slice A l.length c ∧ Row w w.heap.size A l.length (l.map iv) := Row.of_own h
theorem refs_take {l : List Int} {k : Nat} {x : Int} (h : l[k]? = some x) : refsP (l.take (k + 1)) = refsP (l.take k) ++ (if x = 0 then [] else [x]) := by
  rw [take_two h]
  unfold refsP
  rw [List.filter_append]
  by_cases hx : x = 0
  · simp [hx]
  · simp [hx]
theorem refs_len (l : List Int) : (refsP l).length ≤ l.length := List.length_filter_le _ _
theorem getI {w : World} {B n : Nat} {A : Option Addr} {l : List Int} (h : Row w B A n (l.map iv)) {k : Nat} (hk : k < n) : ∃ b off x, A = some ⟨b, off, none⟩ ∧ b < B ∧ l[k]? = some x ∧ w.cell? ⟨b, off + k, none⟩ = some (.int .i64 x) := h.get hk
def GathJ (l : List Int) (n c : Nat) (A : Option Addr) (W : World) (a : Act) (w : World) : Prop :=
  ∃ (k : Nat) (v : Value) (u5 u6 u7 u8 u9 u10 u11 u12 u13 u14 u15 u16 u17 u18 u19 u20 u21 u22 u23 : Value), a = { tmps := #[.slice A n c, undef, .slice none 0 0, v, .int .i64 k, u5, u6, u7, u8, u9, u10, u11, u12, u13, u14, u15, u16, u17, u18, u19, u20, u21, u22, u23], defers := [] } ∧ k ≤ n ∧ OwnI w W.heap.size v (refsP (l.take k)) ∧ Below W.heap.size W w

set_option maxHeartbeats 8000000 in
theorem iGather (l : List Int) (n : Nat) (hL : l.length = n) (A : Option Addr) (c : Nat) (w : World) (hn : n ≤ 1000) (hr : Row w w.heap.size A n (l.map iv)) : Calls Tryz.prog 107 #[.slice A n c] w (MadeI (refsP l) w) := by
  have HL := Lib.hid hL; have HR := Lib.hid hr
  clear hL hr
  go_enter Tryz.func107, Tryz.ntmps107
  go_wp2
  refine wp_scope_jumps 0 (GathJ l n c A w) (fun a' _ => n - (intOf (a'.tmps.getD 4 undef)).toNat) rfl ?_ ?_
  · go_wp2
    obtain ⟨k, wr, hk, hown, hbl, hkI, hwr⟩ : ∃ (k : Nat) (wr : World), k ≤ n ∧ OwnI wr w.heap.size (.slice none 0 0) (refsP (l.take k)) ∧ Below w.heap.size w wr ∧ (0 : Int) = (k : Int) ∧ w = wr := ⟨0, w, Nat.zero_le _, OwnI.nil _ _, Below.refl _ _, rfl, rfl⟩
    rw [hkI]
    have H0 : (w.heap.size) = w.heap.size := rfl
    clear H0 hkI
    subst hwr
    go_step3
    by_cases heq : k = n
    · subst heq
      rw [List.take_of_length_le (by rw [HL.out]; exact Nat.le_refl _)] at hown
      have HO := Lib.hid hown; have HBL := Lib.hid hbl
      clear hbl hown hk
      go_wp2
      simp only [Exit.jump]
      go_ret
      exact ⟨_, rfl, HO.out, HBL.out⟩
    · have hkn : k < n := by omega
      have hne : ((k : Int) == (n : Int)) = false := by rw [beq_eq_false_iff_ne]; omega
      obtain ⟨b1, o1, x, hA, hbb, hx, cx⟩ := getI (HR.out.below hbl) hkn
      have ht := refs_take hx
      have hle := Nat.le_trans (refs_len (l.take k)) (by rw [List.length_take]; exact Nat.min_le_left k _)
      have HO := Lib.hid hown; have HBL := Lib.hid hbl
      have hsz := hbl.size
      by_cases hx0 : x = 0
      · have hz : (x != 0) = false := by simp [hx0]
        rw [if_pos hx0, List.append_nil] at ht
        have HT := Lib.hid ht
        clear hbl hown hx ht heq hx0 hle
        subst hA
        go_wp2
        go_step3
        exact ⟨rfl, k + 1, _, _, _, _, _, _, _, _, _, _, _, _, _, _, _, _, _, _, _, _, rfl, by omega, by rw [HT.out]; exact HO.out, HBL.out⟩
      · have hz : (x != 0) = true := by simp [hx0]
        rw [if_neg hx0] at ht
        have HT := Lib.hid ht
        have hle2 : (refsP (l.take k)).length + 1 ≤ 1001 := by omega
        have HO2 := Lib.hid (show (w.alloc (.cells #[.int .i64 x] 3)).ownsRow w.heap.size 3 1 (.slice none 0 0) (refsP (l.take k)).length ((refsP (l.take k)).map iv) from own_below hown ((Below.refl _ _).alloc (Nat.le_refl _) _))
        have HR2 := Lib.hid (Row.one w (.int .i64 x) 3)
        clear hbl hown hx ht heq hx0 hle
        subst hA
        go_wp2_with (at_builtin; refine wpList_append_row _ rfl (.tmp 15) (.tmp 20) 40 rfl w.heap.size 3 (.int .i64 0) 8 Tryz.underlying40 infoI rfl (.slice none 0 0) (refsP (l.take k)).length ((refsP (l.take k)).map iv) rfl HO2.out _ (some ⟨w.heap.size, 0, none⟩) 1 1 [.int .i64 x] rfl HR2.out (by simp [Value.oneCell']) (by unfold maxLen; omega) (by omega) (by simp <;> omega) ?_; intro v5 w5 hown5 hgr5 hat5; have hb5 := Lib.hid (show Below w.heap.size w w5 from (HBL.out.alloc hsz _).grown hgr5 (by simp <;> omega) (own_base HO2.out)); have HO5 := Lib.hid hown5; clear hown5 hgr5 hat5)
        go_step3
        exact ⟨rfl, k + 1, _, _, _, _, _, _, _, _, _, _, _, _, _, _, _, _, _, _, _, _, rfl, by omega, by rw [HT.out]; unfold OwnI; rw [List.length_append, List.map_append]; exact HO5.out, hb5.out⟩
  · rintro a' wr ⟨k, v, u5, u6, u7, u8, u9, u10, u11, u12, u13, u14, u15, u16, u17, u18, u19, u20, u21, u22, u23, rfl, hk, hown, hbl⟩
    by_cases heq : k = n
    · subst heq
      rw [List.take_of_length_le (by rw [HL.out]; exact Nat.le_refl _)] at hown
      have HO := Lib.hid hown; have HBL := Lib.hid hbl
      clear hbl hown hk
      go_wp2
      simp only [Exit.jump]
      go_ret
      exact ⟨_, rfl, HO.out, HBL.out⟩
    · have hkn : k < n := by omega
      have hne : ((k : Int) == (n : Int)) = false := by rw [beq_eq_false_iff_ne]; omega
      obtain ⟨b1, o1, x, hA, hbb, hx, cx⟩ := getI (HR.out.below hbl) hkn
      have ht := refs_take hx
      have hle := Nat.le_trans (refs_len (l.take k)) (by rw [List.length_take]; exact Nat.min_le_left k _)
      have HO := Lib.hid hown; have HBL := Lib.hid hbl
      have hsz := hbl.size
      by_cases hx0 : x = 0
      · have hz : (x != 0) = false := by simp [hx0]
        rw [if_pos hx0, List.append_nil] at ht
        have HT := Lib.hid ht
        clear hbl hown hx ht heq hx0 hle
        subst hA
        go_wp2
        go_step3
        exact ⟨rfl, ⟨k + 1, _, _, _, _, _, _, _, _, _, _, _, _, _, _, _, _, _, _, _, _, rfl, by omega, by rw [HT.out]; exact HO.out, HBL.out⟩, by simp [intOf]; omega⟩
      · have hz : (x != 0) = true := by simp [hx0]
        rw [if_neg hx0] at ht
        have HT := Lib.hid ht
        have hle2 : (refsP (l.take k)).length + 1 ≤ 1001 := by omega
        have HO2 := Lib.hid (show (wr.alloc (.cells #[.int .i64 x] 3)).ownsRow w.heap.size 3 1 v (refsP (l.take k)).length ((refsP (l.take k)).map iv) from own_below hown ((Below.refl _ _).alloc (Nat.le_refl _) _))
        have HR2 := Lib.hid (Row.one wr (.int .i64 x) 3)
        clear hbl hown hx ht heq hx0 hle
        subst hA
        go_wp2_with (at_builtin; refine wpList_append_row _ rfl (.tmp 15) (.tmp 20) 40 rfl w.heap.size 3 (.int .i64 0) 8 Tryz.underlying40 infoI rfl v (refsP (l.take k)).length ((refsP (l.take k)).map iv) rfl HO2.out _ (some ⟨wr.heap.size, 0, none⟩) 1 1 [.int .i64 x] rfl HR2.out (by simp [Value.oneCell']) (by unfold maxLen; omega) (by omega) (by simp <;> omega) ?_; intro v5 w5 hown5 hgr5 hat5; have hb5 := Lib.hid (show Below w.heap.size w w5 from (HBL.out.alloc hsz _).grown hgr5 (by simp <;> omega) (own_base HO2.out)); have HO5 := Lib.hid hown5; clear hown5 hgr5 hat5)
        go_step3
        exact ⟨rfl, ⟨k + 1, _, _, _, _, _, _, _, _, _, _, _, _, _, _, _, _, _, _, _, _, rfl, by omega, by rw [HT.out]; unfold OwnI; rw [List.length_append, List.map_append]; exact HO5.out, hb5.out⟩, by simp [intOf]; omega⟩
end Go.Proofs.YtbejbiogabpmfaaGreat

namespace Go.Proofs.YtbejbiogabpmfaaGreat
open Wd Ino Go.RowKit Go.ChangeShapes Go.WideShapes Go.Sort
set_option linter.unusedVariables false
set_option maxRecDepth 100000

/-! slices.Clone of names -/
def MadeE (l : List Ent) (w : World) (e : Ending) (w' : World) : Prop := ∃ v, e = .returned v ∧ OwnE w' w.heap.size v l ∧ Below w.heap.size w w'
theorem ownE_base {w : World} {base : Nat} {v : Value} {l : List Ent} (h : OwnE w base v l) : ∀ q, v.ownBlock = some q → base ≤ q := own_base h
set_option maxHeartbeats 4000000 in
theorem cloneE {w : World} {B n c : Nat} {A : Option Addr} {xs : List Ent} (hn : xs.length = n) (h : Ens w B A xs) (hB : B ≤ w.heap.size) (hle : n ≤ 50000) : Calls Tryz.prog 113 #[.slice A n c] w (MadeE xs w) := by
  subst hn
  cases A with
  | none =>
    obtain rfl : xs = [] := by
      cases xs with
      | nil => rfl
      | cons e l =>
        obtain ⟨b, off, e, _⟩ := h (by simp)
        cases e
    have hq := fun (w : World) => Lib.run_eql_slice_nil (P := Tryz.prog) w 49 103 none 0 c 0 0 Tryz.underlying49
    clear h
    go_enter Tryz.func113, Tryz.ntmps113
    go_wp2
    go_ret
    exact ⟨_, rfl, own_nilE _ _, Below.refl _ _⟩
  | some a =>
    have ho : OwnE (w.alloc (.cells #[] 103)) w.heap.size (.slice (some ⟨w.heap.size, 0, none⟩) 0 0) [] := ⟨rfl, .inr ⟨w.heap.size, 0, #[], rfl, Nat.le_refl _, Cells.new w _ _, Nat.le_refl _, by decide, rfl, rfl⟩⟩
    have HO := Lib.hid ho
    have hr' : Ens (w.alloc (.cells #[] 103)) w.heap.size (some a) xs := (h.more hB).below ((Below.refl w.heap.size w).alloc (Nat.le_refl _) _)
    have HR := Lib.hid hr'
    have hl3 : ([] : List Ent).length + xs.length ≤ 100000 := by rw [List.length_nil]; omega
    have hs3 : w.heap.size ≤ (w.alloc (.cells #[] 103)).heap.size := by simp
    have hq := fun (w : World) => Lib.run_eql_slice_nil (P := Tryz.prog) w 49 103 (some a) xs.length c 0 0 Tryz.underlying49
    clear ho hr' h
    go_enter Tryz.func113, Tryz.ntmps113
    go_wp2_with (at_builtin; refine wpList_append_ens rfl (.tmp 5) (.tmp 6) rfl rfl rfl HO.out HR.out hl3 hs3 ?_; intro v5 w5 hown5 hgr5 hat5; have HO5 := Lib.hid hown5; have HG5 := Lib.hid hgr5; clear hown5 hgr5 hat5)
    go_ret
    have hb5 : Below w.heap.size w w5 := ((Below.refl _ _).alloc (Nat.le_refl _) _).grown HG5.out (by simp) (ownE_base HO.out)
    have ho5 := HO5.out
    rw [List.nil_append] at ho5
    exact ⟨_, rfl, ho5, hb5⟩
end Go.Proofs.YtbejbiogabpmfaaGreat

namespace Go.Proofs.YtbejbiogabpmfaaGreat
open Wd Ino Go.RowKit Go.ChangeShapes Go.WideShapes Go.Sort
set_option linter.unusedVariables false
set_option maxRecDepth 100000

/-! slices.Clone of ints and of names -/
theorem oneI (l : List Int) : ∀ u ∈ l.map iv, u.oneCell' = true := by
  intro u hu
  obtain ⟨x, _, rfl⟩ := List.mem_map.1 hu
  rfl
set_option maxHeartbeats 4000000 in
theorem cloneI {w : World} {B n c : Nat} {A : Option Addr} {xs : List Int} (hn : xs.length = n) (h : Row w B A n (xs.map iv)) (hB : B ≤ w.heap.size) (hle : n ≤ 100000) : Calls Tryz.prog 112 #[.slice A n c] w (MadeI xs w) := by
  cases A with
  | none =>
    have h0 : n = 0 := by
      apply Classical.byContradiction
      intro hc
      obtain ⟨b, off, e, _⟩ := h.2 (by omega)
      cases e
    subst h0
    obtain rfl : xs = [] := List.eq_nil_of_length_eq_zero hn
    have hq := fun (w : World) => Lib.run_eql_slice_nil (P := Tryz.prog) w 40 3 none 0 c 0 0 Tryz.underlying40
    clear h hn
    go_enter Tryz.func112, Tryz.ntmps112
    go_wp2
    go_ret
    exact ⟨_, rfl, OwnI.nil _ _, Below.refl _ _⟩
  | some a =>
    have ho : (w.alloc (.cells #[] 3)).ownsRow w.heap.size 3 1 (.slice (some ⟨w.heap.size, 0, none⟩) 0 0) 0 [] := ⟨rfl, .inr ⟨w.heap.size, 0, #[], rfl, Nat.le_refl _, Cells.new w _ _, Nat.le_refl _, by decide, rfl, rfl⟩⟩
    have HO := Lib.hid ho
    have hr' : Row (w.alloc (.cells #[] 3)) w.heap.size (some a) n (xs.map iv) := (h.more hB).below ((Below.refl w.heap.size w).alloc (Nat.le_refl _) _)
    have HR := Lib.hid hr'
    have HN := Lib.hid hn
    have hq := fun (w : World) => Lib.run_eql_slice_nil (P := Tryz.prog) w 40 3 (some a) n c 0 0 Tryz.underlying40
    clear ho hr' h hn
    go_enter Tryz.func112, Tryz.ntmps112
    go_wp2_with (at_builtin; refine wpList_append_row _ rfl (.tmp 5) (.tmp 6) 40 rfl w.heap.size 3 (.int .i64 0) 8 Tryz.underlying40 infoI rfl _ _ _ rfl HO.out _ (some a) n c (xs.map iv) rfl HR.out (oneI _) (by unfold maxLen; omega) (by omega) (by simp) ?_; intro v5 w5 hown5 hgr5 hat5; have HO5 := Lib.hid hown5; have HG5 := Lib.hid hgr5; clear hown5 hgr5 hat5)
    go_ret
    have hb5 : Below w.heap.size w w5 := ((Below.refl _ _).alloc (Nat.le_refl _) _).grown HG5.out (by simp) (own_base HO.out)
    have ho5 := HO5.out
    rw [Nat.zero_add, List.nil_append, ← HN.out] at ho5
    exact ⟨_, rfl, ho5, hb5⟩
/-- a node's refs -/
theorem iRefs (n : Nd) (w : World) (h : n.In w) (hp : n.pages.length ≤ 1000) : Calls Tryz.prog 64 #[n.val] w (MadeI (refsP n.pages) w) := by
  obtain ⟨i, ki, l, s, u, A, ac, P, B, bc, N⟩ := n
  dsimp only at hp
  have hr := h.row
  dsimp only at hr
  have hb := (Below.refl w.heap.size w).alloc (Nat.le_refl _) (.cells (ncells i ki l s u (.slice A P.length ac) (.slice B N.length bc)) 51)
  have KG := Lib.hid (iGather P _ rfl A ac _ hp ((hr.below hb).more hb.size))
  have hc := Cells.new w 51 (ncells i ki l s u (.slice A P.length ac) (.slice B N.length bc))
  obtain ⟨c0, c1, c2, c3, c4, c5, c6⟩ := cells7 hc
  have HB := Lib.hid hb
  unfold Nd.val
  dsimp only
  unfold ncells at c5 HB KG
  clear hc hb hr h c0 c1 c2 c3 c4 c6
  go_enter Tryz.func64, Tryz.ntmps64
  go_wp2_with fail
  refine KG.out.mono ?_
  rintro e w2 ⟨v, rfl, ho, hb2⟩
  have HO := Lib.hid ho; have HB2 := Lib.hid hb2
  clear ho hb2
  go_wp2
  go_ret
  exact ⟨_, rfl, HO.out.mono HB.out.size, HB.out.trans (HB2.out.mono HB.out.size)⟩
end Go.Proofs.YtbejbiogabpmfaaGreat
