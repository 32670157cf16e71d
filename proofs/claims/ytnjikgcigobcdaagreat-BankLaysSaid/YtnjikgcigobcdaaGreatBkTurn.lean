import Derived.Test.YtnjikgcigobcdaaGreatMA
import Derived.Test.YtnjikgcigobcdaaGreatChecked
import Derived.WalkKit
import Derived.WalkLawsBesides
import Derived.WalkSpells
import Derived.Deep.QuietTactic
import Derived.BigQuiet
import Derived.KernelRfl
import Derived.Outline
import Derived.Laws.Pointers
import Derived.Lib.Hide
namespace Go.Proofs.YtnjikgcigobcdaaGreat
open Wd Go.RowKit
set_option linter.unusedVariables false

/-! steps one behind the other, as closures -/
def Enters (F : FuncId) : Prop := ∀ (args : Array Value) (w : World), Sem.run Tryz.prog (callFunc F args) w = .ok (.enter F args) w
theorem enters_test : Enters 34 := fun args w => by simp [go_sem]
def Ends (J : World → Prop) (Q : Int → World → Prop) (e : Ending) (w' : World) : Prop := ∃ er : Int, e = .returned (.int .i64 er) ∧ ((er = 0 ∧ J w') ∨ (er ≠ 0 ∧ Q er w'))
def TurnRel (k : Nat) (I : Nat → World → Prop) (i : Value) (wr : World) : Prop := ∃ j : Nat, j ≤ k ∧ i = .int .i64 j ∧ I j wr
set_option maxRecDepth 100000 in
set_option maxHeartbeats 1000000 in
theorem inTurn_any (k : Nat) (hk : k ≤ 100) (F : Nat → FuncId) (first cap : Nat → Array Value) (A : Option Addr) (c : Nat) (I : Nat → World → Prop) (Q : Int → World → Prop) (w : World) (h0 : I 0 w)
    (hrow : ∀ j w', I j w' → Row w' w'.heap.size A k ((List.range k).map fun j => Value.func (.func (F j)) (first j) (cap j)))
    (hent : ∀ j, j < k → Enters (F j))
    (hstep : ∀ j w', j < k → I j w' → Calls Tryz.prog (F j) (first j ++ cap j) w' (Ends (I (j + 1)) Q)) :
    Calls Tryz.prog 35 #[.slice A k c] w (Ends (I k) Q) := by
  have H0 := Lib.hid h0; have HR := Lib.hid hrow; have HS := Lib.hid hstep; have HE := Lib.hid hent
  clear h0 hrow hstep hent
  go_enter Tryz.func35, Tryz.ntmps35
  go_wp2
  go_loopw [8] (fun i wr => TurnRel k I i wr) (fun i _ => k - (intOf i).toNat)
  case atStart => exact ⟨0, Nat.zero_le _, rfl, H0.out⟩
  case round =>
    obtain ⟨j, hj, rfl, hI⟩ := hrel
    by_cases hlt : j < k
    · have i1 : (j : Int) < (k : Int) := by omega
      have i0 : (0 : Int) ≤ (j : Int) := by omega
      obtain ⟨b1, o1, x, rfl, _, gx, cx⟩ := (HR.out j wr hI).get hlt
      rw [List.getElem?_range hlt] at gx
      cases gx
      have HI := Lib.hid hI
      clear hI
      go_wp2_with fail
      rw [HE.out j hlt]
      rw [Oper.upon_enter]
      refine (HS.out j wr hlt HI.out).mono ?_
      rintro e w2 ⟨er, rfl, h⟩
      by_cases h0 : er = 0
      · subst h0
        have h2 : I (j + 1) w2 := by rcases h with ⟨_, h⟩ | ⟨h, _⟩; exact h; exact absurd rfl h
        have H2 := Lib.hid h2
        clear h h2
        go_wp2
        go_roundw
        case rel => exact ⟨j + 1, by omega, by go_num, H2.out⟩
        case measure => simp [intOf]; omega
      · have hb : (er != 0) = true := by simpa using h0
        have hq : Q er w2 := by rcases h with ⟨h, _⟩ | ⟨_, h⟩; exact absurd h h0; exact h
        have HQ := Lib.hid (⟨h0, hq⟩ : er ≠ 0 ∧ Q er w2)
        clear h h0 hq
        go_wp2
        go_ret
        exact ⟨er, rfl, .inr HQ.out⟩
    · obtain rfl : j = k := by omega
      go_wp2
      go_ret
      exact ⟨0, rfl, .inl ⟨rfl, hI⟩⟩

/-! a step for each number -/
def EachV (n : Nat) : Value := .func (.func 67) #[] #[.pointer (some ⟨n, 0, none⟩), .pointer (some ⟨n + 1, 0, none⟩), .pointer (some ⟨n + 2, 0, none⟩)]
def eachW (w : World) (a b : Int) (fv : Value) : World := ((w.alloc (.cells #[.int .i64 a] 3)).alloc (.cells #[.int .i64 b] 3)).alloc (.cells #[fv] 58)
theorem forEach_any (a b : Int) (F : FuncId) (first cap : Array Value) (w : World) : Calls Tryz.prog 36 #[.int .i64 a, .int .i64 b, .func (.func F) first cap] w fun e w' => e = .returned (EachV w.heap.size) ∧ eachW w a b (.func (.func F) first cap) = w' := by
  have hmf : ∀ (fn : Fn) (first cap : Array Value) (w : World), (Instr.makeFunc fn first cap).run Tryz.prog w = .ok (.func fn first cap) w := fun _ _ _ _ => rfl
  go_enter Tryz.func36, Tryz.ntmps36
  go_wp2
  go_ret
  exact ⟨rfl, rfl⟩
structure Each (w : World) (n : Nat) (a b : Int) (fv : Value) : Prop where
  a : Cells w n 3 #[.int .i64 a]
  b : Cells w (n + 1) 3 #[.int .i64 b]
  f : Cells w (n + 2) 58 #[fv]
theorem each_new (w : World) (a b : Int) (fv : Value) : Each (eachW w a b fv) w.heap.size a b fv := by
  have c2 := Cells.new ((w.alloc (.cells #[.int .i64 a] 3)).alloc (.cells #[.int .i64 b] 3)) 58 #[fv]
  have c1 := Cells.new (w.alloc (.cells #[.int .i64 a] 3)) 3 #[.int .i64 b]
  simp only [World.size_alloc] at c1 c2
  exact ⟨((Cells.new w _ _).alloc _).alloc _, c1.alloc _, c2⟩
theorem each_below (w : World) (a b : Int) (fv : Value) : Below w.heap.size w (eachW w a b fv) := by
  unfold eachW
  exact (((Below.refl _ _).alloc (Nat.le_refl _) _).alloc (by simp) _).alloc (by simp; omega) _
theorem Each.below {w w' : World} {n : Nat} {a b : Int} {fv : Value} (h : Each w n a b fv) (hb : Below w.heap.size w w') : Each w' n a b fv := ⟨h.a.below' hb, h.b.below' hb, h.f.below' hb⟩
theorem Each.keep {w w' : World} {n : Nat} {a b : Int} {fv : Value} (h : Each w n a b fv) (hb : ∀ k, n ≤ k → k ≤ n + 2 → w'.heap[k]? = w.heap[k]?) : Each w' n a b fv :=
  ⟨(hb n (by omega) (by omega)).trans h.a, (hb (n + 1) (by omega) (by omega)).trans h.b, (hb (n + 2) (by omega) (by omega)).trans h.f⟩

def EachRel (a b : Int) (I : Int → World → Prop) (i : Value) (wr : World) : Prop := ∃ j : Int, a ≤ j ∧ (j ≤ b + 1 ∨ j = a) ∧ i = .int .i64 j ∧ I j wr
set_option maxRecDepth 100000 in
set_option maxHeartbeats 1000000 in
theorem each_any (a b : Int) (ha : -1000000000 ≤ a) (hb : b ≤ 1000000000) (n : Nat) (F : FuncId) (first cap : Array Value) (I : Int → World → Prop) (Q : Int → World → Prop) (w : World) (h0 : I a w)
    (hc : ∀ j w', I j w' → Each w' n a b (.func (.func F) first cap))
    (hent : Enters F)
    (hstep : ∀ j w', a ≤ j → j ≤ b → I j w' → Calls Tryz.prog F (first.push (.int .i64 j) ++ cap) w' (Ends (I (j + 1)) Q)) :
    Calls Tryz.prog 67 #[.pointer (some ⟨n, 0, none⟩), .pointer (some ⟨n + 1, 0, none⟩), .pointer (some ⟨n + 2, 0, none⟩)] w (Ends (I (max a (b + 1))) Q) := by
  have H0 := Lib.hid h0; have HC := Lib.hid hc; have HS := Lib.hid hstep; have HE := Lib.hid hent
  have cw := hc a w h0
  have c0 : w.cell? ⟨n, 0, none⟩ = some (.int .i64 a) := cw.a.cell 0
  clear h0 hc hstep cw hent
  go_enter Tryz.func67, Tryz.ntmps67
  go_wp2
  go_loopw [4] (fun i wr => EachRel a b I i wr) (fun i _ => (b + 1 - intOf i).toNat)
  case atStart => exact ⟨a, Int.le_refl _, .inr rfl, rfl, H0.out⟩
  case round =>
    obtain ⟨j, hj, hj2, rfl, hI⟩ := hrel
    have cr := HC.out j wr hI
    have c1 : wr.cell? ⟨n + 1, 0, none⟩ = some (.int .i64 b) := cr.b.cell 0
    have c2 : wr.cell? ⟨n + 2, 0, none⟩ = some (.func (.func F) first cap) := cr.f.cell 0
    have HI := Lib.hid hI
    clear hI c0 cr
    by_cases hlt : j ≤ b
    · have i1 : decide (j ≤ b) = true := by simpa using hlt
      go_wp2_with fail
      rw [HE.out]
      rw [Oper.upon_enter]
      refine (HS.out j wr hj hlt HI.out).mono ?_
      rintro e w2 ⟨er, rfl, h⟩
      by_cases h0 : er = 0
      · subst h0
        have h2 : I (j + 1) w2 := by rcases h with ⟨_, h⟩ | ⟨h, _⟩; exact h; exact absurd rfl h
        have H2 := Lib.hid h2
        clear h h2 c1 c2
        go_wp2
        go_roundw
        case rel => exact ⟨j + 1, by omega, .inl (by omega), by go_num, H2.out⟩
        case measure => simp [intOf]; omega
      · have hb : (er != 0) = true := by simpa using h0
        have hq : Q er w2 := by rcases h with ⟨h, _⟩ | ⟨_, h⟩; exact absurd h h0; exact h
        have HQ := Lib.hid (⟨h0, hq⟩ : er ≠ 0 ∧ Q er w2)
        clear h h0 hq c1 c2
        go_wp2
        go_ret
        exact ⟨er, rfl, .inr HQ.out⟩
    · have i1 : decide (j ≤ b) = false := by simpa using hlt
      go_wp2
      go_ret
      have e : j = max a (b + 1) := by omega
      exact ⟨0, rfl, .inl ⟨rfl, e ▸ HI.out⟩⟩
end Go.Proofs.YtnjikgcigobcdaaGreat
