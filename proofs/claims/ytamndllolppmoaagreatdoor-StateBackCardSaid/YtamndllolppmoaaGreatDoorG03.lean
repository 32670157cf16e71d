import Derived.Test.YtamndllolppmoaaGreatDoorG02
import Derived.BigQuiet
import Derived.Laws.Strings
import Derived.WalkMore
import Derived.ScopeJumps
import Derived.StillTailTactics

namespace Go.Proofs.YtamndllolppmoaaGreatDoor
open Wd Ino Go.RowKit Go.ChangeShapes Go.WideShapes Go.Sort
set_option linter.unusedVariables false
set_option maxRecDepth 100000

/-! how many pages; whether a number is between -/
def needP (n : Int) : Int := if n < 1 then 0 else (n - 1) / 256 + 1
theorem need_eq (n : Int) (h : i64R n) : wrap64 (wrap64 (n - 1) / 256 + 1) = (n - 1) / 256 + 1 ∨ n < 1 := by unfold i64R at h; unfold wrap64; omega
theorem iNeed_is (n : Int) (h : i64R n) (w : World) : Calls Tryz.prog 69 #[.int .i64 n] w fun e w' => e = .returned (.int .i64 (needP n)) ∧ w = w' := by
  unfold i64R at h
  by_cases hn : n < 1
  · have e : needP n = 0 := by unfold needP; rw [if_pos hn]
    rw [e]
    clear e
    go_enter Tryz.func69, Tryz.ntmps69
    go_wp2
    go_ret
    exact ⟨rfl, rfl⟩
  · have e : needP n = (n - 1) / 256 + 1 := by unfold needP; rw [if_neg hn]
    rw [e]
    clear e
    go_enter Tryz.func69, Tryz.ntmps69
    go_wp2
    go_ret
    exact ⟨rfl, rfl⟩

theorem iNeed (n : Int) (h : i64R n) (w : World) : Calls Tryz.prog 69 #[.int .i64 n] w (Grows (.int .i64 (needP n)) w) := by
  refine (iNeed_is n h w).mono ?_
  rintro e w' ⟨rfl, rfl⟩
  exact ⟨rfl, grow_none _⟩

theorem rNeed_is (n : Int) (h : i64R n) (w : World) : Calls Tryz.prog 125 #[.int .i64 n] w fun e w' => e = .returned (.int .i64 (needP n)) ∧ w = w' := by
  unfold i64R at h
  by_cases hn : n < 1
  · have e : needP n = 0 := by unfold needP; rw [if_pos hn]
    rw [e]
    clear e
    by_cases hm : 0 < n.tmod 256
    · exfalso
      have h1 : n ≤ 0 := by omega
      have h2 : 0 ≤ (-n).tmod 256 := Int.tmod_nonneg 256 (by omega)
      rw [Int.neg_tmod] at h2
      omega
    · go_enter Tryz.func125, Tryz.ntmps125
      go_wp2
      go_ret
      exact ⟨rfl, rfl⟩
  · have hd : n.tdiv 256 = n / 256 := Int.tdiv_eq_ediv_of_nonneg (by omega)
    have hmd : n.tmod 256 = n % 256 := Int.tmod_eq_emod_of_nonneg (by omega)
    by_cases hm : 0 < n % 256
    · have e : needP n = n / 256 + 1 := by unfold needP; rw [if_neg hn]; omega
      rw [e]
      clear e
      go_enter Tryz.func125, Tryz.ntmps125
      go_wp2
      go_ret
      exact ⟨rfl, rfl⟩
    · have e : needP n = n / 256 := by unfold needP; rw [if_neg hn]; omega
      rw [e]
      clear e
      go_enter Tryz.func125, Tryz.ntmps125
      go_wp2
      go_ret
      exact ⟨rfl, rfl⟩

theorem rNeed (n : Int) (h : i64R n) (w : World) : Calls Tryz.prog 125 #[.int .i64 n] w (Grows (.int .i64 (needP n)) w) := by
  refine (rNeed_is n h w).mono ?_
  rintro e w' ⟨rfl, rfl⟩
  exact ⟨rfl, grow_none _⟩

def inB (x a b : Int) : Bool := decide (a ≤ x) && decide (x ≤ b)
theorem iWithin_is (x a b : Int) (w : World) : Calls Tryz.prog 68 #[.int .i64 x, .int .i64 a, .int .i64 b] w fun e w' => e = .returned (.bool (inB x a b)) ∧ w = w' := by
  unfold inB
  by_cases h1 : a ≤ x
  · have q1 : decide (a ≤ x) = true := decide_eq_true h1
    by_cases h2 : x ≤ b
    · have q2 : decide (x ≤ b) = true := decide_eq_true h2
      rw [q1, q2]
      clear h1 h2
      go_enter Tryz.func68, Tryz.ntmps68
      go_wp2
      go_ret
      exact ⟨rfl, rfl⟩
    · have q2 : decide (x ≤ b) = false := decide_eq_false h2
      rw [q1, q2]
      clear h1 h2
      go_enter Tryz.func68, Tryz.ntmps68
      go_wp2
      go_ret
      exact ⟨rfl, rfl⟩
  · have q1 : decide (a ≤ x) = false := decide_eq_false h1
    rw [q1, Bool.false_and]
    clear h1
    go_enter Tryz.func68, Tryz.ntmps68
    go_wp2
    go_ret
    exact ⟨rfl, rfl⟩

theorem iWithin (x a b : Int) (w : World) : Calls Tryz.prog 68 #[.int .i64 x, .int .i64 a, .int .i64 b] w (Grows (.bool (inB x a b)) w) := by
  refine (iWithin_is x a b w).mono ?_
  rintro e w' ⟨rfl, rfl⟩
  exact ⟨rfl, grow_none _⟩

theorem rNumber_is (x : Int) (w : World) : Calls Tryz.prog 92 #[.int .i64 x] w fun e w' => e = .returned (.bool (inB x 1 1048576)) ∧ w = w' := by
  unfold inB
  by_cases h1 : 1 ≤ x
  · have q1 : decide (1 ≤ x) = true := decide_eq_true h1
    by_cases h2 : x ≤ 1048576
    · have q2 : decide (x ≤ 1048576) = true := decide_eq_true h2
      rw [q1, q2]
      clear h1 h2
      go_enter Tryz.func92, Tryz.ntmps92
      go_wp2
      go_ret
      exact ⟨rfl, rfl⟩
    · have q2 : decide (x ≤ 1048576) = false := decide_eq_false h2
      rw [q1, q2]
      clear h1 h2
      go_enter Tryz.func92, Tryz.ntmps92
      go_wp2
      go_ret
      exact ⟨rfl, rfl⟩
  · have q1 : decide (1 ≤ x) = false := decide_eq_false h1
    rw [q1, Bool.false_and]
    clear h1
    go_enter Tryz.func92, Tryz.ntmps92
    go_wp2
    go_ret
    exact ⟨rfl, rfl⟩

theorem rNumber (x : Int) (w : World) : Calls Tryz.prog 92 #[.int .i64 x] w (Grows (.bool (inB x 1 1048576)) w) := by
  refine (rNumber_is x w).mono ?_
  rintro e w' ⟨rfl, rfl⟩
  exact ⟨rfl, grow_none _⟩

/-! a node's cells -/
def ncells (i k l s u : Int) (pv nv : Value) : Array Value := #[.int .i64 i, .int .i64 k, .int .i64 l, .int .i64 s, .int .i64 u, pv, nv]
def nv (i k l s u : Int) (pv mv : Value) : Value := .agg #[.int .i64 i, .int .i64 k, .int .i64 l, .int .i64 s, .int .i64 u, pv, mv]
theorem cells7 {w : World} {g : Nat} {i k l s u : Int} {pv mv : Value} (h : Cells w g 38 (ncells i k l s u pv mv)) : w.cell? ⟨g, 0, none⟩ = some (.int .i64 i) ∧ w.cell? ⟨g, 1, none⟩ = some (.int .i64 k) ∧ w.cell? ⟨g, 2, none⟩ = some (.int .i64 l) ∧ w.cell? ⟨g, 3, none⟩ = some (.int .i64 s) ∧ w.cell? ⟨g, 4, none⟩ = some (.int .i64 u) ∧
    w.cell? ⟨g, 5, none⟩ = some pv ∧ w.cell? ⟨g, 6, none⟩ = some mv := ⟨h.cell 0, h.cell 1, h.cell 2, h.cell 3, h.cell 4, h.cell 5, h.cell 6⟩
/-- a fresh node -/
def newUp (kind up : Int) : Int := if kind = 2 then up else 0
theorem iNew (ino kind up : Int) (w : World) : Calls Tryz.prog 43 #[.int .i64 ino, .int .i64 kind, .int .i64 up] w (Grows (nv ino kind 1 0 (newUp kind up) (.slice none 0 0) (.slice none 0 0)) w) := by
  by_cases h : kind = 2
  · have q : (kind == 2) = true := by simpa using h
    have e : newUp kind up = up := by unfold newUp; rw [if_pos h]
    rw [e]
    clear e h
    go_enter Tryz.func43, Tryz.ntmps43
    go_wp2
    exact bodyPost_ret (results_cell_row rfl _ _ w.heap.size _ _ (0, 0) _ rfl ((heap_alloc_old _ _ (by simp)).trans (heap_alloc_new _ _)) Tryz.underlying38 rfl (by kernel_rfl)) rfl ⟨rfl, grow_alloc (grow_one _ _) _⟩
  · have q : (kind == 2) = false := by simpa using h
    have e : newUp kind up = 0 := by unfold newUp; rw [if_neg h]
    rw [e]
    clear e h
    go_enter Tryz.func43, Tryz.ntmps43
    go_wp2
    exact bodyPost_ret (results_cell_row rfl _ _ w.heap.size _ _ (0, 0) _ rfl ((heap_alloc_old _ _ (by simp)).trans (heap_alloc_new _ _)) Tryz.underlying38 rfl (by kernel_rfl)) rfl ⟨rfl, grow_alloc (grow_one _ _) _⟩

/-- whether a node may be -/
def upB (ino up : Int) : Bool := if ino = 1 then up == 1 else inB up 1 1048576
def dirB (ino links size up : Int) (np : Nat) : Bool := (((size == 0) && ((np : Int) == 0)) && (links == 1)) && upB ino up
def fileB (size up : Int) (np nn : Nat) : Bool := (((up == 0) && ((nn : Int) == 0)) && inB size 0 16384) && ((np : Int) == needP size)
def rightB (ino kind links size up : Int) (np nn : Nat) : Bool :=
  if (inB ino 1 1048576 && inB links 0 16) = true then (if kind = 1 then fileB size up np nn else if kind = 2 then dirB ino links size up np else false) else false

theorem iRightUp (ino kind links size up : Int) (pv mv : Value) (w : World) : Calls Tryz.prog 132 #[nv ino kind links size up pv mv] w (Grows (.bool (upB ino up)) w) := by
  have hc := Cells.new w 38 (ncells ino kind links size up pv mv)
  have HG := Lib.hid (grow_one w (.cells (ncells ino kind links size up pv mv) 38))
  obtain ⟨c0, _, _, _, c4, _, _⟩ := cells7 hc
  unfold nv
  unfold upB
  unfold ncells at c0 c4 HG
  clear hc
  by_cases h : ino = 1
  · have q : (ino == 1) = true := by simpa using h
    rw [if_pos h]
    clear h
    go_enter Tryz.func132, Tryz.ntmps132
    go_wp2
    go_ret
    exact ⟨rfl, HG.out⟩
  · have q : (ino == 1) = false := by simpa using h
    rw [if_neg h]
    clear h
    go_enter Tryz.func132, Tryz.ntmps132
    go_wp2_with fail
    refine (iWithin_is up 1 1048576 _).mono ?_
    rintro e w1 ⟨rfl, rfl⟩
    go_wp2
    go_ret
    exact ⟨rfl, HG.out⟩
theorem iRightDir (ino kind links size up : Int) (A : Option Addr) (np c : Nat) (mv : Value) (w : World) : Calls Tryz.prog 118 #[nv ino kind links size up (.slice A np c) mv] w (Grows (.bool (dirB ino links size up np)) w) := by
  have hc := Cells.new w 38 (ncells ino kind links size up (.slice A np c) mv)
  have HG := Lib.hid (grow_one w (.cells (ncells ino kind links size up (.slice A np c) mv) 38))
  obtain ⟨c0, c1, c2, c3, c4, c5, c6⟩ := cells7 hc
  have KU := Lib.hid (fun w => iRightUp ino kind links size up (.slice A np c) mv w)
  unfold nv at KU ⊢
  unfold dirB
  unfold ncells at c0 c1 c2 c3 c4 c5 c6 HG
  clear hc
  cases q1 : (size == 0)
  · rw [Bool.false_and, Bool.false_and, Bool.false_and]
    go_enter Tryz.func118, Tryz.ntmps118
    go_wp2
    go_ret
    exact ⟨rfl, HG.out⟩
  · cases q2 : ((np : Int) == 0)
    · rw [Bool.true_and, Bool.false_and, Bool.false_and]
      go_enter Tryz.func118, Tryz.ntmps118
      go_wp2
      go_ret
      exact ⟨rfl, HG.out⟩
    · cases q3 : (links == 1)
      · rw [Bool.and_false, Bool.false_and]
        go_enter Tryz.func118, Tryz.ntmps118
        go_wp2
        go_ret
        exact ⟨rfl, HG.out⟩
      · rw [Bool.true_and, Bool.true_and, Bool.true_and]
        go_enter Tryz.func118, Tryz.ntmps118
        go_wp2_with fail
        refine (KU.out _).mono ?_
        rintro e w1 ⟨rfl, hg⟩
        go_wp2
        go_ret
        exact ⟨rfl, grow_trans HG.out hg⟩
end Go.Proofs.YtamndllolppmoaaGreatDoor

namespace Go.Proofs.YtamndllolppmoaaGreatDoor
open Wd Ino Go.RowKit Go.ChangeShapes Go.WideShapes Go.Sort
set_option linter.unusedVariables false
set_option maxRecDepth 100000
theorem take_two {α : Type} {l : List α} {k : Nat} {x : α} (h : l[k]? = some x) : l.take (k + 1) = l.take k ++ [x] := by
  rw [List.take_add_one, h]; rfl

/-! two rows of names -/
def entEq (a b : Ent) : Bool := (a.s.toList == b.s.toList) && decide (a.n = b.n)
theorem entEq_iff {a b : Ent} : entEq a b = true ↔ a = b := by
  unfold entEq
  constructor
  · intro h
    obtain ⟨h1, h2⟩ := Bool.and_eq_true_iff.1 h
    obtain ⟨s, n⟩ := a
    obtain ⟨s', n'⟩ := b
    obtain rfl := of_decide_eq_true h2
    have h3 : s.toList = s'.toList := by simpa using h1
    have h4 : s = s' := by
      rw [ByteArray.toList_eq, ByteArray.toList_eq] at h3
      cases s with | mk x => cases s' with | mk y => exact congrArg ByteArray.mk (Array.toList_inj.1 h3)
    rw [h4]
  · rintro rfl
    simp
def _root_.Ino.Ent.val (e : Ent) : Value := .agg #[.string e.s, .int .i64 e.n]
def one_eq (P : Program) (f : Field) (d : Nat) (w : World) (u v : Value) (b : Bool) : Prop := f.name ≠ "_" ∧ (Op.equalIn d f.type u v).run P w = .ok b w
theorem eqF_cons {P : Program} {f : Field} {fs : List Field} {d : Nat} {w : World} {xs ys : Array Value} {u v : Value} {b B : Bool} (hn : (f.name != "_") = true) (hx : ∀ w, (part f.type xs f.offset).run P w = .ok u w) (hy : ∀ w, (part f.type ys f.offset).run P w = .ok v w)
    (he : (Op.equalIn d f.type u v).run P w = .ok b w) (hr : (Op.eqFields d xs ys fs).run P w = .ok B w) : (Op.eqFields d xs ys (f :: fs)).run P w = .ok (b && B) w := by
  have hn' : f.name ≠ "_" := by simpa using hn
  unfold Op.eqFields
  rw [if_pos hn']
  simp only [Sem.run_bind, hx, hy, he, Result.andThen_ok, Sem.run_ite]
  cases b with
  | true => simp [hr]
  | false => simp [Sem.run_pure]
theorem eqF_nil {P : Program} {d : Nat} {w : World} {xs ys : Array Value} : (Op.eqFields d xs ys []).run P w = .ok true w := by simp [Op.eqFields]

theorem eqE_in (a b : Ent) (w : World) : (Op.equalIn 10000 97 a.val b.val).run Tryz.prog w = .ok (entEq a b) w := by
  have hu : Tryz.prog.underlying 97 = some (.struct (Tryz.prog.fieldsOf 97)) := by kernel_rfl
  obtain ⟨f0, f1, hf, n0, n1, p0, p1⟩ : ∃ f0 f1 : Field, (Tryz.prog.fieldsOf 97).toList = [f0, f1] ∧ (f0.name != "_") = true ∧ (f1.name != "_") = true ∧ (f0.type, f0.offset) = (9, 0) ∧ (f1.type, f1.offset) = (3, 1) :=
    ⟨_, _, rfl, by kernel_rfl, by kernel_rfl, by kernel_rfl, by kernel_rfl⟩
  simp only [Prod.mk.injEq] at p0 p1
  have hI : ∀ x y w, (Op.equalIn 9999 3 (.int .i64 x) (.int .i64 y)).run Tryz.prog w = .ok (decide (x = y)) w := fun x y w => run_equalIn_int w 9998 3 .i64 .i64 x y Tryz.underlying3
  have hS : ∀ x y w, (Op.equalIn 9999 9 (.string x) (.string y)).run Tryz.prog w = .ok (x.toList == y.toList) w := fun x y w => run_equalIn_string w 9998 9 x y Tryz.underlying9
  unfold Ino.Ent.val
  rw [run_equalIn_struct _ 9999 _ _ _ hu (by kernel_rfl), hf]
  rw [eqF_cons (u := .string a.s) (v := .string b.s) n0 (fun w => by rw [p0.1, p0.2]; simp [go_sem]) (fun w => by rw [p0.1, p0.2]; simp [go_sem]) (by rw [p0.1]; exact hS _ _ _)
    (eqF_cons (u := .int .i64 a.n) (v := .int .i64 b.n) n1 (fun w => by rw [p1.1, p1.2]; simp [go_sem]) (fun w => by rw [p1.1, p1.2]; simp [go_sem]) (by rw [p1.1]; exact hI _ _ _) eqF_nil)]
  simp only [Bool.and_true, entEq]
theorem neE_any (a b : Ent) (w : World) : (binOp .neq 97 a.val b.val).run Tryz.prog w = .ok (.bool (!entEq a b)) w := by
  have := eqE_in a b w
  unfold Ino.Ent.val at this ⊢
  rw [run_neq_struct, this]; rfl

def EqualE (xs ys : List Ent) (W : World) (i : Value) (w : World) : Prop := ∃ k d : Nat, k ≤ xs.length ∧ i = .int .i64 k ∧ xs.take k = ys.take k ∧ w = W.drewN d

set_option maxHeartbeats 2000000 in
theorem sameEs_any (xs ys : List Ent) (n m : Nat) (hn : xs.length = n) (hm : ys.length = m) (hle : n ≤ 1000) (A C : Option Addr) (c d B B' : Nat) (w : World) (hx : Ens w B A xs) (hy : Ens w B' C ys)  :
    Calls Tryz.prog 41 #[.slice A n c, .slice C m d] w (Grows (.bool (decide (xs = ys))) w) := by
  subst hn hm
  have HX := Lib.hid hx; have HY := Lib.hid hy
  clear hx hy
  by_cases hl : xs.length = ys.length
  · have HL := Lib.hid hl
    have hb : ((xs.length : Int) != (ys.length : Int)) = false := by simp [hl]
    clear hl
    go_enter Tryz.func41, Tryz.ntmps41
    go_wp2
    go_loopw [13] (fun i wr => EqualE xs ys w i wr) (fun i _ => xs.length - (intOf i).toNat)
    case atStart => exact ⟨0, 0, Nat.zero_le _, rfl, rfl, rfl⟩
    case round =>
      obtain ⟨k, q, hk, rfl, ht, rfl⟩ := hrel
      have HT := Lib.hid ht; clear ht
      by_cases hlt : k < xs.length
      · have hlt2 : k < ys.length := by have := HL.out; omega
        have i1 : (k : Int) < (xs.length : Int) := by omega
        have i2 : (k : Int) < (ys.length : Int) := by omega
        have i0 : (0 : Int) ≤ (k : Int) := by omega
        obtain ⟨x, gx⟩ : ∃ e, xs[k]? = some e := ⟨_, List.getElem?_eq_getElem hlt⟩
        obtain ⟨y, gy⟩ : ∃ e, ys[k]? = some e := ⟨_, List.getElem?_eq_getElem hlt2⟩
        obtain ⟨b1, o1, rfl, _, cx, cx'⟩ := ens_cells HX.out gx
        obtain ⟨b2, o2, rfl, _, cy, cy'⟩ := ens_cells HY.out gy
        have HGX := Lib.hid gx; have HGY := Lib.hid gy
        have hE := fun w => neE_any x y w
        unfold Ino.Ent.val at hE
        clear gx gy
        by_cases hxy : x = y
        · rw [entEq_iff.2 hxy] at hE
          subst hxy
          go_wp2
          go_quiet (fail)
          go_wp2
          go_roundw
          case rel => exact ⟨k + 1, q + nq, by omega, by go_num, by rw [take_two HGX.out, take_two HGY.out, HT.out], rfl⟩
          case measure => simp [intOf]; omega
        · rw [Bool.eq_false_iff.2 (fun h => hxy (entEq_iff.1 h))] at hE
          have hdec : decide (xs = ys) = false := by
            apply decide_eq_false
            intro h
            have h1 := HGX.out
            rw [h, HGY.out] at h1
            exact hxy (Option.some.inj h1).symm
          have HDEC := Lib.hid hdec
          clear hxy hdec
          go_wp2
          go_quiet (fail)
          go_wp2
          go_ret
          exact ⟨by rw [HDEC.out]; rfl, grow_drewN (grow_drewN (grow_none w) _) _⟩
      · obtain rfl : k = xs.length := by omega
        have hdec : decide (xs = ys) = true := by
          apply decide_eq_true
          have h := HT.out
          rw [List.take_length, List.take_of_length_le (by have := HL.out; omega)] at h
          exact h
        have HDEC := Lib.hid hdec
        clear hdec
        go_wp2
        go_ret
        exact ⟨by rw [HDEC.out]; rfl, grow_drewN (grow_none w) _⟩
  · have hb : ((xs.length : Int) != (ys.length : Int)) = true := by rw [bne_iff_ne]; omega
    have hdec : decide (xs = ys) = false := decide_eq_false (fun h => hl (by rw [h]))
    have HDEC := Lib.hid hdec
    clear hl hdec
    go_enter Tryz.func41, Tryz.ntmps41
    go_wp2
    go_ret
    exact ⟨by rw [HDEC.out]; rfl, grow_none w⟩

end Go.Proofs.YtamndllolppmoaaGreatDoor

namespace Go.Proofs.YtamndllolppmoaaGreatDoor
open Wd Ino Go.RowKit Go.ChangeShapes Go.WideShapes Go.Sort
set_option linter.unusedVariables false
set_option maxRecDepth 100000

/-! two rows of ints -/
def EqualI (xs ys : List Int) (W : World) (i : Value) (w : World) : Prop := ∃ k d : Nat, k ≤ xs.length ∧ i = .int .i64 k ∧ xs.take k = ys.take k ∧ w = W.drewN d
set_option maxHeartbeats 2000000 in
theorem sameI_any (xs ys : List Int) (n m : Nat) (hn : xs.length = n) (hm : ys.length = m) (hle : n ≤ 1000) (A C : Option Addr) (c d B B' : Nat) (w : World) (hx : Row w B A n (xs.map iv)) (hy : Row w B' C m (ys.map iv)) :
    Calls Tryz.prog 40 #[.slice A n c, .slice C m d] w (Grows (.bool (decide (xs = ys))) w) := by
  subst hn hm
  have HX := Lib.hid hx; have HY := Lib.hid hy
  clear hx hy
  by_cases hl : xs.length = ys.length
  · have HL := Lib.hid hl
    have hb : ((xs.length : Int) != (ys.length : Int)) = false := by simp [hl]
    clear hl
    go_enter Tryz.func40, Tryz.ntmps40
    go_wp2
    go_loopw [13] (fun i wr => EqualI xs ys w i wr) (fun i _ => xs.length - (intOf i).toNat)
    case atStart => exact ⟨0, 0, Nat.zero_le _, rfl, rfl, rfl⟩
    case round =>
      obtain ⟨k, q, hk, rfl, ht, rfl⟩ := hrel
      have HT := Lib.hid ht; clear ht
      by_cases hlt : k < xs.length
      · have hlt2 : k < ys.length := by have := HL.out; omega
        have i1 : (k : Int) < (xs.length : Int) := by omega
        have i2 : (k : Int) < (ys.length : Int) := by omega
        have i0 : (0 : Int) ≤ (k : Int) := by omega
        obtain ⟨b1, o1, x, rfl, _, gx, cx⟩ := HX.out.get hlt
        obtain ⟨b2, o2, y, rfl, _, gy, cy⟩ := HY.out.get hlt2
        have HGX := Lib.hid gx; have HGY := Lib.hid gy
        clear gx gy
        unfold iv at cx cy
        by_cases hxy : x = y
        · subst hxy
          go_wp2
          go_quiet (fail)
          go_wp2
          go_roundw
          case rel => exact ⟨k + 1, q + nq, by omega, by go_num, by rw [take_two HGX.out, take_two HGY.out, HT.out], rfl⟩
          case measure => simp [intOf]; omega
        · have hne : (x != y) = true := by rw [bne_iff_ne]; omega
          have hdec : decide (xs = ys) = false := by
            apply decide_eq_false
            intro h
            have h1 := HGX.out
            rw [h, HGY.out] at h1
            exact hxy (Option.some.inj h1).symm
          have HDEC := Lib.hid hdec
          clear hxy hdec
          go_wp2
          go_quiet (fail)
          go_wp2
          go_ret
          exact ⟨by rw [HDEC.out]; rfl, grow_drewN (grow_drewN (grow_none w) _) _⟩
      · obtain rfl : k = xs.length := by omega
        have hdec : decide (xs = ys) = true := by
          apply decide_eq_true
          have h := HT.out
          rw [List.take_length, List.take_of_length_le (by have := HL.out; omega)] at h
          exact h
        have HDEC := Lib.hid hdec
        clear hdec
        go_wp2
        go_ret
        exact ⟨by rw [HDEC.out]; rfl, grow_drewN (grow_none w) _⟩
  · have hb : ((xs.length : Int) != (ys.length : Int)) = true := by rw [bne_iff_ne]; omega
    have hdec : decide (xs = ys) = false := decide_eq_false (fun h => hl (by rw [h]))
    have HDEC := Lib.hid hdec
    clear hl hdec
    go_enter Tryz.func40, Tryz.ntmps40
    go_wp2
    go_ret
    exact ⟨by rw [HDEC.out]; rfl, grow_none w⟩

end Go.Proofs.YtamndllolppmoaaGreatDoor

namespace Go.Proofs.YtamndllolppmoaaGreatDoor
open Wd Ino Go.RowKit Go.ChangeShapes Go.WideShapes Go.Sort
set_option linter.unusedVariables false
set_option maxRecDepth 100000

/-- a node's rows lie in the world -/
structure Nd.In (n : Nd) (w : World) : Prop where
  row : Row w w.heap.size n.A n.pages.length (n.pages.map iv)
  ens : Ens w w.heap.size n.B n.names
theorem Nd.In.at_ {n : Nd} {w w' : World} (h : n.In w) (hb : Below w.heap.size w w') : n.In w' := ⟨(h.row.below hb).more hb.size, h.ens.at_ hb⟩
theorem Nd.Ok.in_ {n : Nd} {w : World} (h : n.Ok w w.heap.size) : n.In w := ⟨h.row, h.ens⟩
def nodeEq (n k : Nd) : Bool := ((((((n.ino == k.ino) && (n.kind == k.kind)) && (n.links == k.links)) && (n.size == k.size)) && (n.up == k.up)) && decide (n.pages = k.pages)) && decide (n.names = k.names)
theorem nodeEq_iff {n k : Nd} : nodeEq n k = true ↔ n.ino = k.ino ∧ n.kind = k.kind ∧ n.links = k.links ∧ n.size = k.size ∧ n.up = k.up ∧ n.pages = k.pages ∧ n.names = k.names := by
  unfold nodeEq
  simp only [Bool.and_eq_true, beq_iff_eq, decide_eq_true_eq, and_assoc]
theorem grown_b {w wr : World} (h : ∃ q os, wr = grow (w.drewN q) os) : Below w.heap.size w wr := by
  obtain ⟨q, os, rfl⟩ := h
  exact below_grow' w q os
set_option maxHeartbeats 8000000 in
theorem rSame (n k : Nd) (w : World) (hn : n.In w) (hk : k.In w) (h1 : n.pages.length ≤ 1000) (h2 : n.names.length ≤ 1000) : Calls Tryz.prog 15 #[n.val, k.val] w (Grows (.bool (nodeEq n k)) w) := by
  obtain ⟨i, ki, l, s, u, A, ac, P, B, bc, N⟩ := n
  obtain ⟨i', ki', l', s', u', A', ac', P', B', bc', N'⟩ := k
  dsimp only at h1 h2
  have KP := Lib.hid (fun w1 (b : Below w.heap.size w w1) => sameI_any P P' _ _ rfl rfl h1 A A' ac ac' _ _ w1 (hn.row.below b) (hk.row.below b))
  have KE := Lib.hid (fun w1 (b : Below w.heap.size w w1) => sameEs_any N N' _ _ rfl rfl h2 B B' bc bc' _ _ w1 (hn.ens.below b) (hk.ens.below b))
  have hc := Cells.new w 38 (ncells i ki l s u (.slice A P.length ac) (.slice B N.length bc))
  have hd := Cells.new (w.alloc (.cells (ncells i ki l s u (.slice A P.length ac) (.slice B N.length bc)) 38)) 38 (ncells i' ki' l' s' u' (.slice A' P'.length ac') (.slice B' N'.length bc'))
  have hc2 := hc.alloc (.cells (ncells i' ki' l' s' u' (.slice A' P'.length ac') (.slice B' N'.length bc')) 38)
  have hsz : (w.alloc (.cells (ncells i ki l s u (.slice A P.length ac) (.slice B N.length bc)) 38)).heap.size = w.heap.size + 1 := by simp
  rw [hsz] at hd
  have hg := grow_alloc (grow_one w (.cells (ncells i ki l s u (.slice A P.length ac) (.slice B N.length bc)) 38)) (.cells (ncells i' ki' l' s' u' (.slice A' P'.length ac') (.slice B' N'.length bc')) 38)
  have HG := Lib.hid hg
  have HC := Lib.hid hc2
  have HD := Lib.hid hd
  obtain ⟨c0, c1, c2, c3, c4, c5, c6⟩ := cells7 hc2
  obtain ⟨d0, d1, d2, d3, d4, d5, d6⟩ := cells7 hd
  unfold nodeEq Nd.val
  dsimp only
  obtain ⟨bp, hbp⟩ : ∃ b, decide (P = P') = b := ⟨_, rfl⟩
  obtain ⟨be, hbe⟩ : ∃ b, decide (N = N') = b := ⟨_, rfl⟩
  rw [hbp] at KP ⊢
  rw [hbe] at KE ⊢
  unfold ncells at c0 c1 c2 c3 c4 c5 c6 d0 d1 d2 d3 d4 d5 d6 HG HC HD
  clear hc hd hc2 hsz hg hbp hbe hn hk h1 h2
  cases q0 : (i == i')
  · rw [Bool.false_and, Bool.false_and, Bool.false_and, Bool.false_and, Bool.false_and, Bool.false_and]
    go_enter Tryz.func15, Tryz.ntmps15
    go_wp2
    go_ret
    exact ⟨rfl, HG.out⟩
  cases q1 : (ki == ki')
  · rw [Bool.and_false, Bool.false_and, Bool.false_and, Bool.false_and, Bool.false_and, Bool.false_and]
    go_enter Tryz.func15, Tryz.ntmps15
    go_wp2
    go_ret
    exact ⟨rfl, HG.out⟩
  cases q2 : (l == l')
  · rw [Bool.and_false, Bool.false_and, Bool.false_and, Bool.false_and, Bool.false_and]
    go_enter Tryz.func15, Tryz.ntmps15
    go_wp2
    go_ret
    exact ⟨rfl, HG.out⟩
  cases q3 : (s == s')
  · rw [Bool.and_false, Bool.false_and, Bool.false_and, Bool.false_and]
    go_enter Tryz.func15, Tryz.ntmps15
    go_wp2
    go_ret
    exact ⟨rfl, HG.out⟩
  cases q4 : (u == u')
  · rw [Bool.and_false, Bool.false_and, Bool.false_and]
    go_enter Tryz.func15, Tryz.ntmps15
    go_wp2
    go_ret
    exact ⟨rfl, HG.out⟩
  cases bp
  · rw [Bool.and_false, Bool.false_and]
    go_enter Tryz.func15, Tryz.ntmps15
    go_wp2_with fail
    refine (KP.out _ (grown_b HG.out)).mono ?_
    rintro e w1 ⟨rfl, hg⟩
    go_wp2
    go_ret
    exact ⟨rfl, grow_trans HG.out hg⟩
  · rw [Bool.true_and, Bool.true_and]
    go_enter Tryz.func15, Tryz.ntmps15
    go_wp2_with fail
    refine (KP.out _ (grown_b HG.out)).mono ?_
    rintro e w1 ⟨rfl, hg⟩
    have G1 := Lib.hid (grow_trans HG.out hg)
    have c7 := (HC.out.below' (grown_b hg)).cell 6
    have d7 := (HD.out.below' (grown_b hg)).cell 6
    simp at c7 d7
    clear hg c0 c1 c2 c3 c4 c5 c6 d0 d1 d2 d3 d4 d5 d6
    go_wp2_with fail
    refine (KE.out _ (grown_b G1.out)).mono ?_
    rintro e w2 ⟨rfl, hg⟩
    go_wp2
    go_ret
    exact ⟨by simp, grow_trans G1.out hg⟩

end Go.Proofs.YtamndllolppmoaaGreatDoor

namespace Go.Proofs.YtamndllolppmoaaGreatDoor
open Wd Ino U Go.RowKit Go.ChangeShapes Go.WideShapes Go.Sort
set_option linter.unusedVariables false
set_option maxRecDepth 100000

/-! how many words a node has -/
def wsum : List Ent → Nat
  | [] => 0
  | e :: l => 2 + need e.s.size + wsum l
theorem wsum_append : ∀ (l m : List Ent), wsum (l ++ m) = wsum l + wsum m := by
  intro l m
  induction l with
  | nil => simp [wsum]
  | cons e l ih => rw [List.cons_append, wsum, ih, wsum]; omega
theorem wsum_take {l : List Ent} {k : Nat} {e : Ent} (h : l[k]? = some e) : wsum (l.take (k + 1)) = wsum (l.take k) + (2 + need e.s.size) := by
  rw [take_two h, wsum_append]
  rfl
/-- small enough -/
structure Nd.Few (n : Nd) : Prop where
  names : n.names.length ≤ 30
  pages : n.pages.length ≤ 100
  size : ∀ e ∈ n.names, e.s.size ≤ 100
theorem wsum_le : ∀ {l : List Ent}, (∀ e ∈ l, e.s.size ≤ 100) → wsum l ≤ l.length * 15 := by
  intro l
  induction l with
  | nil => intro _; exact Nat.zero_le _
  | cons e l ih =>
    intro h
    have h1 := h e List.mem_cons_self
    have h2 := ih (fun x hx => h x (List.mem_cons_of_mem _ hx))
    have h3 : need e.s.size ≤ 13 := by unfold need; omega
    rw [wsum, List.length_cons]; omega
theorem wsum_part {l : List Ent} (h : ∀ e ∈ l, e.s.size ≤ 100) (hl : l.length ≤ 30) (k : Nat) : wsum (l.take k) ≤ 450 := by
  have h1 := wsum_le (l := l.take k) (fun e he => h e (List.mem_of_mem_take he))
  rw [List.length_take] at h1
  omega
/-- not too great -/
structure Nd.Mod (n : Nd) : Prop where
  names : n.names.length ≤ 1000
  pages : n.pages.length ≤ 1000
  size : ∀ e ∈ n.names, e.s.size ≤ 1000
theorem Nd.Few.mod {n : Nd} (h : n.Few) : n.Mod := ⟨Nat.le_trans h.names (by decide), Nat.le_trans h.pages (by decide), fun e he => Nat.le_trans (h.size e he) (by decide)⟩
theorem wsum_leM : ∀ {l : List Ent}, (∀ e ∈ l, e.s.size ≤ 1000) → wsum l ≤ l.length * 130 := by
  intro l
  induction l with
  | nil => intro _; exact Nat.zero_le _
  | cons e l ih =>
    intro h
    have h1 := h e List.mem_cons_self
    have h2 := ih (fun x hx => h x (List.mem_cons_of_mem _ hx))
    have h3 : need e.s.size ≤ 128 := by unfold need; omega
    rw [wsum, List.length_cons]; omega
theorem wsum_partM {l : List Ent} (h : ∀ e ∈ l, e.s.size ≤ 1000) (hl : l.length ≤ 1000) (k : Nat) : wsum (l.take k) ≤ 130000 := by
  have h1 := wsum_leM (l := l.take k) (fun e he => h e (List.mem_of_mem_take he))
  rw [List.length_take] at h1
  omega
def WordsRel (np : Nat) (l : List Ent) (w : World) (s i : Value) (wr : World) : Prop := ∃ k : Nat, k ≤ l.length ∧ i = .int .i64 k ∧ s = .int .i64 ((7 + np + wsum (l.take k) : Nat) : Int) ∧ ∃ q os, wr = grow (w.drewN q) os
def Nd.words (n : Nd) : Int := ((7 + n.pages.length + wsum n.names : Nat) : Int)
set_option maxHeartbeats 8000000 in
theorem iWordsM (n : Nd) (w : World) (h : n.In w) (hf : n.Mod) : Calls Tryz.prog 52 #[n.val] w (Grows (.int .i64 n.words) w) := by
  obtain ⟨i, ki, l, s, u, A, ac, P, B, bc, N⟩ := n
  obtain ⟨f1, f2, f3⟩ := hf
  dsimp only at f1 f2 f3
  have he := h.ens
  dsimp only at he
  have hc := Cells.new w 38 (ncells i ki l s u (.slice A P.length ac) (.slice B N.length bc))
  have hg := grow_one w (.cells (ncells i ki l s u (.slice A P.length ac) (.slice B N.length bc)) 38)
  obtain ⟨c0, c1, c2, c3, c4, c5, c6⟩ := cells7 hc
  have HG := Lib.hid hg
  have H := Lib.hid he
  have HP := Lib.hid (wsum_partM f3 f1)
  have F3 := Lib.hid f3
  unfold Nd.val Nd.words
  dsimp only
  unfold ncells at c5 c6 HG
  obtain ⟨p, hp⟩ : ∃ p, P.length = p := ⟨_, rfl⟩
  rw [hp] at f2 HG c5 c6 ⊢
  have w1 : wrap64 (7 + (p : Int)) = ((7 + p : Nat) : Int) := by unfold wrap64; omega
  clear hc hg h he f3 c0 c1 c2 c3 c4 hp
  go_enter Tryz.func52, Tryz.ntmps52
  go_wp2
  go_loopw [3, 13] (fun s i wr => WordsRel p N w s i wr) (fun _ i _ => N.length - (intOf i).toNat)
  case atStart => exact ⟨0, Nat.zero_le _, rfl, by simp [wsum], HG.out⟩
  case round =>
    obtain ⟨k, hk, rfl, rfl, hgr⟩ := hrel
    have HGR := Lib.hid hgr
    by_cases hlt : k < N.length
    · obtain ⟨e, hek⟩ : ∃ e, N[k]? = some e := ⟨_, List.getElem?_eq_getElem hlt⟩
      obtain ⟨b1, o1, rfl, hbb, x0, x1⟩ := ens_cells (H.out.below (grown_b hgr)) hek
      have hlt2 : (k : Int) < (N.length : Int) := Int.ofNat_lt.2 hlt
      have e1 := wsum_take hek
      have e2 := HP.out (k + 1)
      have e3 := F3.out e (List.mem_of_getElem? hek)
      obtain ⟨t, ht⟩ : ∃ t, wsum (N.take k) = t := ⟨_, rfl⟩
      obtain ⟨t', ht'⟩ : ∃ t, wsum (N.take (k + 1)) = t := ⟨_, rfl⟩
      obtain ⟨d, hd⟩ : ∃ d, need e.s.size = d := ⟨_, rfl⟩
      obtain ⟨z, hz⟩ : ∃ z, e.s.size = z := ⟨_, rfl⟩
      rw [ht, ht', hd] at e1
      rw [ht'] at e2
      rw [hz] at e3 hd
      rw [ht]
      have KN := Lib.hid (fun w => need_is (z : Int) (by omega) (by omega) w)
      rw [needI_nat, hd] at KN
      have a1 : (((7 + p + t : Nat) : Int) + (2 + (d : Int))) = ((7 + p + t' : Nat) : Int) := by omega
      have HT' := Lib.hid ht'
      have HA := Lib.hid a1
      obtain ⟨m, hm⟩ : ∃ m, 7 + p + t = m := ⟨_, rfl⟩
      obtain ⟨m', hm'⟩ : ∃ m, 7 + p + t' = m := ⟨_, rfl⟩
      have q1 : m + (2 + d) = m' := by omega
      have q2 : m' ≤ 200000 := by omega
      have HM' := Lib.hid hm'
      rw [hm]
      rw [hm] at HA
      have HZ := Lib.hid hz
      have HQ := Lib.hid (show ((m : Int) + (2 + (d : Int))) = (m' : Int) by omega)
      clear hgr hek e1 e2 e3 ht ht' hd hm hm' a1 hz
      go_wp2_with (go_at_call 90; rw [HZ.out]; refine (KN.out _).mono ?_; rintro e' w1 ⟨rfl, rfl⟩)
      go_roundw
      case rel => exact ⟨k + 1, by omega, by go_num, by rw [HT'.out, HM'.out, HQ.out], grow_alloc HGR.out _⟩
      case measure => simp [intOf]; omega
    · obtain rfl : k = N.length := by omega
      rw [List.take_length]
      clear hgr
      go_wp2
      go_ret
      exact ⟨rfl, HGR.out⟩
theorem iWords (n : Nd) (w : World) (h : n.In w) (hf : n.Few) : Calls Tryz.prog 52 #[n.val] w (Grows (.int .i64 n.words) w) := iWordsM n w h hf.mod

def WordsRelB (np : Nat) (l : List Ent) (w : World) (s i : Value) (wr : World) : Prop := ∃ k : Nat, k ≤ l.length ∧ i = .int .i64 k ∧ s = .int .i64 ((7 + np + wsum (l.take k) : Nat) : Int) ∧ Below w.heap.size w wr
/-- it tells v; nothing that was there has turned -/
def Tells (v : Value) (w : World) (e : Ending) (w' : World) : Prop := e = .returned v ∧ Below w.heap.size w w'
end Go.Proofs.YtamndllolppmoaaGreatDoor

namespace Go.Proofs.YtamndllolppmoaaGreatDoor
open Wd Ino Go.RowKit Go.ChangeShapes Go.WideShapes Go.Sort
set_option linter.unusedVariables false
set_option maxRecDepth 100000

/-! the pages that aren't holes -/
def refsP (l : List Int) : List Int := l.filter (fun x => x != 0)
theorem infoI : (Tryz.prog.info? 3).map (fun i => (i.zero, i.size, i.bytes)) = some (some (.int .i64 0), 1, 8) := by kernel_rfl
/-- a row of ints that the call made -/
def OwnI (w : World) (base : Nat) (v : Value) (l : List Int) : Prop := w.ownsRow base 3 1 v l.length (l.map iv)
def MadeI (l : List Int) (w : World) (e : Ending) (w' : World) : Prop := ∃ v, e = .returned v ∧ OwnI w' w.heap.size v l ∧ Below w.heap.size w w'
theorem OwnI.nil (w : World) (base : Nat) : OwnI w base (.slice none 0 0) [] := own_nil _ _ _
theorem OwnI.below {w w' : World} {base : Nat} {v : Value} {l : List Int} (h : OwnI w base v l) (hb : Below w.heap.size w w') : OwnI w' base v l := own_below h hb
theorem OwnI.mono {w : World} {b1 b2 : Nat} {v : Value} {l : List Int} (h : OwnI w b1 v l) (hb : b2 ≤ b1) : OwnI w b2 v l := by
  rcases h with ⟨h1, h2⟩
  refine ⟨h1, ?_⟩
  rcases h2 with h2 | ⟨g, cap, cur, h2, h3, h4⟩
  · exact .inl h2
  · exact .inr ⟨g, cap, cur, h2, Nat.le_trans hb h3, h4⟩
theorem OwnI.row {w : World} {base : Nat} {v : Value} {l : List Int} (h : OwnI w base v l) : ∃ A c, v = .slice A l.length c ∧ Row w w.heap.size A l.length (l.map iv) := Row.of_own h
theorem refs_take {l : List Int} {k : Nat} {x : Int} (h : l[k]? = some x) : refsP (l.take (k + 1)) = refsP (l.take k) ++ (if x = 0 then [] else [x]) := by
  rw [take_two h]
  unfold refsP
  rw [List.filter_append]
  by_cases hx : x = 0
  · simp [hx]
  · simp [hx]
theorem refs_len (l : List Int) : (refsP l).length ≤ l.length := List.length_filter_le _ _
theorem getI {w : World} {B n : Nat} {A : Option Addr} {l : List Int} (h : Row w B A n (l.map iv)) {k : Nat} (hk : k < n) : ∃ b off x, A = some ⟨b, off, none⟩ ∧ b < B ∧ l[k]? = some x ∧ w.cell? ⟨b, off + k, none⟩ = some (.int .i64 x) := h.get hk
def GathJ (l : List Int) (n c : Nat) (A : Option Addr) (W : World) (a : Act) (w : World) : Prop :=
  ∃ (k : Nat) (v : Value) (u5 u6 u7 u8 u9 u10 u11 u12 u13 u14 u15 u16 u17 u18 u19 u20 u21 u22 u23 : Value), a = { tmps := #[.slice A n c, undef, .slice none 0 0, v, .int .i64 k, u5, u6, u7, u8, u9, u10, u11, u12, u13, u14, u15, u16, u17, u18, u19, u20, u21, u22, u23], defers := [] } ∧ k ≤ n ∧ OwnI w W.heap.size v (refsP (l.take k)) ∧ Below W.heap.size W w

set_option maxHeartbeats 8000000 in
theorem iGather (l : List Int) (n : Nat) (hL : l.length = n) (A : Option Addr) (c : Nat) (w : World) (hn : n ≤ 1000) (hr : Row w w.heap.size A n (l.map iv)) : Calls Tryz.prog 91 #[.slice A n c] w (MadeI (refsP l) w) := by
  have HL := Lib.hid hL; have HR := Lib.hid hr
  clear hL hr
  go_enter Tryz.func91, Tryz.ntmps91
  go_wp2
  refine wp_scope_jumps 0 (GathJ l n c A w) (fun a' _ => n - (intOf (a'.tmps.getD 4 undef)).toNat) rfl ?_ ?_
  · go_wp2
    obtain ⟨k, wr, hk, hown, hbl, hkI, hwr⟩ : ∃ (k : Nat) (wr : World), k ≤ n ∧ OwnI wr w.heap.size (.slice none 0 0) (refsP (l.take k)) ∧ Below w.heap.size w wr ∧ (0 : Int) = (k : Int) ∧ w = wr := ⟨0, w, Nat.zero_le _, OwnI.nil _ _, Below.refl _ _, rfl, rfl⟩
    rw [hkI]
    have H0 : (w.heap.size) = w.heap.size := rfl
    clear H0 hkI
    subst hwr
    go_step3
    by_cases heq : k = n
    · subst heq
      rw [List.take_of_length_le (by rw [HL.out]; exact Nat.le_refl _)] at hown
      have HO := Lib.hid hown; have HBL := Lib.hid hbl
      clear hbl hown hk
      go_wp2
      simp only [Exit.jump]
      go_ret
      exact ⟨_, rfl, HO.out, HBL.out⟩
    · have hkn : k < n := by omega
      have hne : ((k : Int) == (n : Int)) = false := by rw [beq_eq_false_iff_ne]; omega
      obtain ⟨b1, o1, x, hA, hbb, hx, cx⟩ := getI (HR.out.below hbl) hkn
      have ht := refs_take hx
      have hle := Nat.le_trans (refs_len (l.take k)) (by rw [List.length_take]; exact Nat.min_le_left k _)
      have HO := Lib.hid hown; have HBL := Lib.hid hbl
      have hsz := hbl.size
      by_cases hx0 : x = 0
      · have hz : (x != 0) = false := by simp [hx0]
        rw [if_pos hx0, List.append_nil] at ht
        have HT := Lib.hid ht
        clear hbl hown hx ht heq hx0 hle
        subst hA
        go_wp2
        go_step3
        exact ⟨rfl, k + 1, _, _, _, _, _, _, _, _, _, _, _, _, _, _, _, _, _, _, _, _, rfl, by omega, by rw [HT.out]; exact HO.out, HBL.out⟩
      · have hz : (x != 0) = true := by simp [hx0]
        rw [if_neg hx0] at ht
        have HT := Lib.hid ht
        have hle2 : (refsP (l.take k)).length + 1 ≤ 1001 := by omega
        have HO2 := Lib.hid (show (w.alloc (.cells #[.int .i64 x] 3)).ownsRow w.heap.size 3 1 (.slice none 0 0) (refsP (l.take k)).length ((refsP (l.take k)).map iv) from own_below hown ((Below.refl _ _).alloc (Nat.le_refl _) _))
        have HR2 := Lib.hid (Row.one w (.int .i64 x) 3)
        clear hbl hown hx ht heq hx0 hle
        subst hA
        go_wp2_with (at_builtin; refine wpList_append_row _ rfl (.tmp 15) (.tmp 20) 35 rfl w.heap.size 3 (.int .i64 0) 8 Tryz.underlying35 infoI rfl (.slice none 0 0) (refsP (l.take k)).length ((refsP (l.take k)).map iv) rfl HO2.out _ (some ⟨w.heap.size, 0, none⟩) 1 1 [.int .i64 x] rfl HR2.out (by simp [Value.oneCell']) (by unfold maxLen; omega) (by omega) (by simp <;> omega) ?_; intro v5 w5 hown5 hgr5 hat5; have hb5 := Lib.hid (show Below w.heap.size w w5 from (HBL.out.alloc hsz _).grown hgr5 (by simp <;> omega) (own_base HO2.out)); have HO5 := Lib.hid hown5; clear hown5 hgr5 hat5)
        go_step3
        exact ⟨rfl, k + 1, _, _, _, _, _, _, _, _, _, _, _, _, _, _, _, _, _, _, _, _, rfl, by omega, by rw [HT.out]; unfold OwnI; rw [List.length_append, List.map_append]; exact HO5.out, hb5.out⟩
  · rintro a' wr ⟨k, v, u5, u6, u7, u8, u9, u10, u11, u12, u13, u14, u15, u16, u17, u18, u19, u20, u21, u22, u23, rfl, hk, hown, hbl⟩
    by_cases heq : k = n
    · subst heq
      rw [List.take_of_length_le (by rw [HL.out]; exact Nat.le_refl _)] at hown
      have HO := Lib.hid hown; have HBL := Lib.hid hbl
      clear hbl hown hk
      go_wp2
      simp only [Exit.jump]
      go_ret
      exact ⟨_, rfl, HO.out, HBL.out⟩
    · have hkn : k < n := by omega
      have hne : ((k : Int) == (n : Int)) = false := by rw [beq_eq_false_iff_ne]; omega
      obtain ⟨b1, o1, x, hA, hbb, hx, cx⟩ := getI (HR.out.below hbl) hkn
      have ht := refs_take hx
      have hle := Nat.le_trans (refs_len (l.take k)) (by rw [List.length_take]; exact Nat.min_le_left k _)
      have HO := Lib.hid hown; have HBL := Lib.hid hbl
      have hsz := hbl.size
      by_cases hx0 : x = 0
      · have hz : (x != 0) = false := by simp [hx0]
        rw [if_pos hx0, List.append_nil] at ht
        have HT := Lib.hid ht
        clear hbl hown hx ht heq hx0 hle
        subst hA
        go_wp2
        go_step3
        exact ⟨rfl, ⟨k + 1, _, _, _, _, _, _, _, _, _, _, _, _, _, _, _, _, _, _, _, _, rfl, by omega, by rw [HT.out]; exact HO.out, HBL.out⟩, by simp [intOf]; omega⟩
      · have hz : (x != 0) = true := by simp [hx0]
        rw [if_neg hx0] at ht
        have HT := Lib.hid ht
        have hle2 : (refsP (l.take k)).length + 1 ≤ 1001 := by omega
        have HO2 := Lib.hid (show (wr.alloc (.cells #[.int .i64 x] 3)).ownsRow w.heap.size 3 1 v (refsP (l.take k)).length ((refsP (l.take k)).map iv) from own_below hown ((Below.refl _ _).alloc (Nat.le_refl _) _))
        have HR2 := Lib.hid (Row.one wr (.int .i64 x) 3)
        clear hbl hown hx ht heq hx0 hle
        subst hA
        go_wp2_with (at_builtin; refine wpList_append_row _ rfl (.tmp 15) (.tmp 20) 35 rfl w.heap.size 3 (.int .i64 0) 8 Tryz.underlying35 infoI rfl v (refsP (l.take k)).length ((refsP (l.take k)).map iv) rfl HO2.out _ (some ⟨wr.heap.size, 0, none⟩) 1 1 [.int .i64 x] rfl HR2.out (by simp [Value.oneCell']) (by unfold maxLen; omega) (by omega) (by simp <;> omega) ?_; intro v5 w5 hown5 hgr5 hat5; have hb5 := Lib.hid (show Below w.heap.size w w5 from (HBL.out.alloc hsz _).grown hgr5 (by simp <;> omega) (own_base HO2.out)); have HO5 := Lib.hid hown5; clear hown5 hgr5 hat5)
        go_step3
        exact ⟨rfl, ⟨k + 1, _, _, _, _, _, _, _, _, _, _, _, _, _, _, _, _, _, _, _, _, rfl, by omega, by rw [HT.out]; unfold OwnI; rw [List.length_append, List.map_append]; exact HO5.out, hb5.out⟩, by simp [intOf]; omega⟩
end Go.Proofs.YtamndllolppmoaaGreatDoor
