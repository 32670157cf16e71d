import Derived.Test.YtbegnnohmahglaaInClo
import Derived.BigQuiet
import Derived.Laws.Strings
import Derived.WalkMore
namespace Go.Proofs.Ytbegnnohmahglaa
open Wd Ino Go.RowKit Go.ChangeShapes Go.WideShapes Go.Sort
set_option linter.unusedVariables false
set_option maxRecDepth 100000
theorem take_two {α : Type} {l : List α} {k : Nat} {x : α} (h : l[k]? = some x) : l.take (k + 1) = l.take k ++ [x] := by
  rw [List.take_add_one, h]; rfl

/-! two rows of names -/
def entEq (a b : Ent) : Bool := (a.s.toList == b.s.toList) && decide (a.n = b.n)
theorem entEq_iff {a b : Ent} : entEq a b = true ↔ a = b := by
  unfold entEq
  constructor
  · intro h
    obtain ⟨h1, h2⟩ := Bool.and_eq_true_iff.1 h
    obtain ⟨s, n⟩ := a
    obtain ⟨s', n'⟩ := b
    obtain rfl := of_decide_eq_true h2
    have h3 : s.toList = s'.toList := by simpa using h1
    have h4 : s = s' := by
      rw [ByteArray.toList_eq, ByteArray.toList_eq] at h3
      cases s with | mk x => cases s' with | mk y => exact congrArg ByteArray.mk (Array.toList_inj.1 h3)
    rw [h4]
  · rintro rfl
    simp
def _root_.Ino.Ent.val (e : Ent) : Value := .agg #[.string e.s, .int .i64 e.n]
def one_eq (P : Program) (f : Field) (d : Nat) (w : World) (u v : Value) (b : Bool) : Prop := f.name ≠ "_" ∧ (Op.equalIn d f.type u v).run P w = .ok b w
theorem eqF_cons {P : Program} {f : Field} {fs : List Field} {d : Nat} {w : World} {xs ys : Array Value} {u v : Value} {b B : Bool} (hn : (f.name != "_") = true) (hx : ∀ w, (part f.type xs f.offset).run P w = .ok u w) (hy : ∀ w, (part f.type ys f.offset).run P w = .ok v w)
    (he : (Op.equalIn d f.type u v).run P w = .ok b w) (hr : (Op.eqFields d xs ys fs).run P w = .ok B w) : (Op.eqFields d xs ys (f :: fs)).run P w = .ok (b && B) w := by
  have hn' : f.name ≠ "_" := by simpa using hn
  unfold Op.eqFields
  rw [if_pos hn']
  simp only [Sem.run_bind, hx, hy, he, Result.andThen_ok, Sem.run_ite]
  cases b with
  | true => simp [hr]
  | false => simp [Sem.run_pure]
theorem eqF_nil {P : Program} {d : Nat} {w : World} {xs ys : Array Value} : (Op.eqFields d xs ys []).run P w = .ok true w := by simp [Op.eqFields]

theorem eqE_in (a b : Ent) (w : World) : (Op.equalIn 10000 32 a.val b.val).run Try.prog w = .ok (entEq a b) w := by
  have hu : Try.prog.underlying 32 = some (.struct (Try.prog.fieldsOf 32)) := by kernel_rfl
  obtain ⟨f0, f1, hf, n0, n1, p0, p1⟩ : ∃ f0 f1 : Field, (Try.prog.fieldsOf 32).toList = [f0, f1] ∧ (f0.name != "_") = true ∧ (f1.name != "_") = true ∧ (f0.type, f0.offset) = (9, 0) ∧ (f1.type, f1.offset) = (3, 1) :=
    ⟨_, _, rfl, by kernel_rfl, by kernel_rfl, by kernel_rfl, by kernel_rfl⟩
  simp only [Prod.mk.injEq] at p0 p1
  have hI : ∀ x y w, (Op.equalIn 9999 3 (.int .i64 x) (.int .i64 y)).run Try.prog w = .ok (decide (x = y)) w := fun x y w => run_equalIn_int w 9998 3 .i64 .i64 x y Try.underlying3
  have hS : ∀ x y w, (Op.equalIn 9999 9 (.string x) (.string y)).run Try.prog w = .ok (x.toList == y.toList) w := fun x y w => run_equalIn_string w 9998 9 x y Try.underlying9
  unfold Ino.Ent.val
  rw [run_equalIn_struct _ 9999 _ _ _ hu (by kernel_rfl), hf]
  rw [eqF_cons (u := .string a.s) (v := .string b.s) n0 (fun w => by rw [p0.1, p0.2]; simp [go_sem]) (fun w => by rw [p0.1, p0.2]; simp [go_sem]) (by rw [p0.1]; exact hS _ _ _)
    (eqF_cons (u := .int .i64 a.n) (v := .int .i64 b.n) n1 (fun w => by rw [p1.1, p1.2]; simp [go_sem]) (fun w => by rw [p1.1, p1.2]; simp [go_sem]) (by rw [p1.1]; exact hI _ _ _) eqF_nil)]
  simp only [Bool.and_true, entEq]
theorem neE_any (a b : Ent) (w : World) : (binOp .neq 32 a.val b.val).run Try.prog w = .ok (.bool (!entEq a b)) w := by
  have := eqE_in a b w
  unfold Ino.Ent.val at this ⊢
  rw [run_neq_struct, this]; rfl

def EqualE (xs ys : List Ent) (W : World) (i : Value) (w : World) : Prop := ∃ k d : Nat, k ≤ xs.length ∧ i = .int .i64 k ∧ xs.take k = ys.take k ∧ w = W.drewN d

set_option maxHeartbeats 2000000 in
theorem sameEs_any (xs ys : List Ent) (n m : Nat) (hn : xs.length = n) (hm : ys.length = m) (hle : n ≤ 1000) (A C : Option Addr) (c d B B' : Nat) (w : World) (hx : Ens w B A xs) (hy : Ens w B' C ys)  :
    Calls Try.prog 14 #[.slice A n c, .slice C m d] w (Grows (.bool (decide (xs = ys))) w) := by
  subst hn hm
  have HX := Lib.hid hx; have HY := Lib.hid hy
  clear hx hy
  by_cases hl : xs.length = ys.length
  · have HL := Lib.hid hl
    have hb : ((xs.length : Int) != (ys.length : Int)) = false := by simp [hl]
    clear hl
    go_enter Try.func14, Try.ntmps14
    go_wp2
    go_loopw [13] (fun i wr => EqualE xs ys w i wr) (fun i _ => xs.length - (intOf i).toNat)
    case atStart => exact ⟨0, 0, Nat.zero_le _, rfl, rfl, rfl⟩
    case round =>
      obtain ⟨k, q, hk, rfl, ht, rfl⟩ := hrel
      have HT := Lib.hid ht; clear ht
      by_cases hlt : k < xs.length
      · have hlt2 : k < ys.length := by have := HL.out; omega
        have i1 : (k : Int) < (xs.length : Int) := by omega
        have i2 : (k : Int) < (ys.length : Int) := by omega
        have i0 : (0 : Int) ≤ (k : Int) := by omega
        obtain ⟨x, gx⟩ : ∃ e, xs[k]? = some e := ⟨_, List.getElem?_eq_getElem hlt⟩
        obtain ⟨y, gy⟩ : ∃ e, ys[k]? = some e := ⟨_, List.getElem?_eq_getElem hlt2⟩
        obtain ⟨b1, o1, rfl, _, cx, cx'⟩ := ens_cells HX.out gx
        obtain ⟨b2, o2, rfl, _, cy, cy'⟩ := ens_cells HY.out gy
        have HGX := Lib.hid gx; have HGY := Lib.hid gy
        have hE := fun w => neE_any x y w
        unfold Ino.Ent.val at hE
        clear gx gy
        by_cases hxy : x = y
        · rw [entEq_iff.2 hxy] at hE
          subst hxy
          go_wp2
          go_quiet (fail)
          go_wp2
          go_roundw
          case rel => exact ⟨k + 1, q + nq, by omega, by go_num, by rw [take_two HGX.out, take_two HGY.out, HT.out], rfl⟩
          case measure => simp [intOf]; omega
        · rw [Bool.eq_false_iff.2 (fun h => hxy (entEq_iff.1 h))] at hE
          have hdec : decide (xs = ys) = false := by
            apply decide_eq_false
            intro h
            have h1 := HGX.out
            rw [h, HGY.out] at h1
            exact hxy (Option.some.inj h1).symm
          have HDEC := Lib.hid hdec
          clear hxy hdec
          go_wp2
          go_quiet (fail)
          go_wp2
          go_ret
          exact ⟨by rw [HDEC.out]; rfl, grow_drewN (grow_drewN (grow_none w) _) _⟩
      · obtain rfl : k = xs.length := by omega
        have hdec : decide (xs = ys) = true := by
          apply decide_eq_true
          have h := HT.out
          rw [List.take_length, List.take_of_length_le (by have := HL.out; omega)] at h
          exact h
        have HDEC := Lib.hid hdec
        clear hdec
        go_wp2
        go_ret
        exact ⟨by rw [HDEC.out]; rfl, grow_drewN (grow_none w) _⟩
  · have hb : ((xs.length : Int) != (ys.length : Int)) = true := by rw [bne_iff_ne]; omega
    have hdec : decide (xs = ys) = false := decide_eq_false (fun h => hl (by rw [h]))
    have HDEC := Lib.hid hdec
    clear hl hdec
    go_enter Try.func14, Try.ntmps14
    go_wp2
    go_ret
    exact ⟨by rw [HDEC.out]; rfl, grow_none w⟩

end Go.Proofs.Ytbegnnohmahglaa
