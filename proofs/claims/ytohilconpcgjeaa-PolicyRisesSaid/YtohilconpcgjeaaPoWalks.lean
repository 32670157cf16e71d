import Derived.Test.YtohilconpcgjeaaFlRef
import Derived.Test.YtohilconpcgjeaaPoMath
import Derived.Test.YtohilconpcgjeaaWd
import Derived.Below
import Derived.OneCell
import Derived.Deep.Draws
import Derived.Outline
import Derived.Deep.RegionHeld3
import Derived.Deep.DeepCutAuto
import Derived.Laws.Entries
import Derived.Lib.Hide
namespace Go.Proofs.Ytohilconpcgjeaa
open Wd Go.ChangeShapes Go.WideShapes Go.RowKit
set_option linter.unusedVariables false

/-- what a product or a sum gives: the document's word, or, of what is no number, some NaN -/
theorem arith_cv (P : Program) (op : BinOp) (o : Option Nat) (t : TypeId) (x y : Nat) (w : World) (h : (op = .mul ∧ o = Fl.mulO (Fl.cv x) (Fl.cv y)) ∨ (op = .add ∧ o = Fl.addO (Fl.cv x) (Fl.cv y))) :
    ∃ r n, Sem.run P (binOp op t (.float .f64 x) (.float .f64 y)) w = .ok (.float .f64 r) (w.drewN n) ∧ r < 18446744073709551616 ∧ Fl.cv r = o := by
  have hb : floatBits op .f64 x y = o ∧ ∀ r, o = some r → Fl.nan r = false ∧ r < 18446744073709551616 := by
    rcases h with ⟨rfl, rfl⟩ | ⟨rfl, rfl⟩
    · exact ⟨(Fl.mulO_cv x y).symm, fun r hr => Fl.mul_num (by rw [← Fl.mulO_cv]; exact hr)⟩
    · exact ⟨(Fl.addO_cv x y).symm, fun r hr => Fl.add_num (by rw [← Fl.addO_cv]; exact hr)⟩
  have hop : op = .mul ∨ op = .add := by rcases h with h | h; exact .inl h.1; exact .inr h.1
  clear h
  obtain ⟨hb, hr⟩ := hb
  cases o with
  | some r =>
    obtain ⟨h1, h2⟩ := hr r rfl
    exact ⟨r, 0, run_float_arith w op t .f64 x y r hb, h2, Fl.cv_some h1⟩
  | none =>
    refine ⟨Question.cut (.nanBits .f64 x y) (w.tape w.drawn (.nanBits .f64 x y)), 1, ?_, ?_, ?_⟩
    · rcases hop with rfl | rfl <;> (simp only [floatBits] at hb; simp [binOp, Op.floatArith, hb, Question.forced]; rfl)
    · simp only [Question.cut]; omega
    · apply Fl.cv_none
      unfold Fl.nan
      apply decide_eq_true
      simp only [Question.cut, Fl.rung, Fl.inf]
      generalize w.tape w.drawn (.nanBits .f64 x y) = q
      have hb : q / 2 % (2 ^ 52 - 1) < 2 ^ 52 - 1 := Nat.mod_lt _ (by decide)
      generalize q / 2 % (2 ^ 52 - 1) = c at *
      omega

def FloatB (o : Option Nat) (w : World) (e : Ending) (w' : World) : Prop := ∃ r, e = .returned (.float .f64 r) ∧ r < 18446744073709551616 ∧ Fl.cv r = o ∧ Below w.heap.size w w'

theorem next_any (K G L x : Nat) (b : Bool) (w : World) : Calls Try.prog 23 #[.agg #[.float .f64 K, .float .f64 G, .float .f64 L], .float .f64 x, .bool b] w (FloatB (Fl.nx K G (Fl.cv x) b) w) := by
  obtain ⟨r1, n1, e1, h1, c1⟩ := arith_cv Try.prog .mul _ 26 K x (w.alloc (.cells #[.float .f64 K, .float .f64 G, .float .f64 L] 32)) (.inl ⟨rfl, rfl⟩)
  cases b
  · have H1 := Lib.hid c1; clear c1
    go_enter Try.func23, Try.ntmps23
    go_wp2
    go_ret
    exact ⟨r1, rfl, h1, H1.out, below_drewN ((Below.refl _ _).alloc (Nat.le_refl _) _) _⟩
  · obtain ⟨r2, n2, e2, h2, c2⟩ := arith_cv Try.prog .add _ 26 r1 G ((w.alloc (.cells #[.float .f64 K, .float .f64 G, .float .f64 L] 32)).drewN n1) (.inr ⟨rfl, rfl⟩)
    rw [c1] at c2
    have H1 := Lib.hid c1; clear c1
    have H2 := Lib.hid c2; clear c2
    go_enter Try.func23, Try.ntmps23
    go_wp2
    go_ret
    exact ⟨r2, rfl, h2, H2.out, below_drewN ((Below.refl _ _).alloc (Nat.le_refl _) _) _⟩

theorem ge_key (x y : Nat) : (FloatKind.f64.format.order x y == some .gt || FloatKind.f64.format.order x y == some .eq) = Fl.geO (Fl.cv x) (Fl.cv y) := by
  show (Ieee.double.order x y == some .gt || Ieee.double.order x y == some .eq) = _
  unfold Fl.cv
  cases h1 : Fl.nan x
  · cases h2 : Fl.nan y
    · have a : Fl.rung x ≤ Fl.inf := by simpa [Fl.nan] using h1
      have b : Fl.rung y ≤ Fl.inf := by simpa [Fl.nan] using h2
      rw [Fl.order_key a b]
      show _ = decide (Fl.key y ≤ Fl.key x)
      simp only [compare, compareOfLessAndEq]
      by_cases c : Fl.key x < Fl.key y
      · rw [if_pos c]; simp; omega
      · rw [if_neg c]
        by_cases d : Fl.key x = Fl.key y
        · rw [if_pos d]; simp; omega
        · rw [if_neg d]; simp; omega
    · rw [Fl.order_nan (.inr (Fl.nan_lt h2))]; rfl
  · rw [Fl.order_nan (.inl (Fl.nan_lt h1))]; cases Fl.nan y <;> rfl

def BoolB (b : Bool) (w : World) (e : Ending) (w' : World) : Prop := e = .returned (.bool b) ∧ Below w.heap.size w w'

theorem eager_any (K G L x : Nat) (w : World) : Calls Try.prog 22 #[.agg #[.float .f64 K, .float .f64 G, .float .f64 L], .float .f64 x] w (BoolB (Fl.geO (Fl.cv x) (Fl.cv L)) w) := by
  have hk := ge_key x L
  have HK := Lib.hid hk; clear hk
  go_enter Try.func22, Try.ntmps22
  go_wp2
  go_ret
  exact ⟨by rw [← HK.out]; rfl, (Below.refl _ _).alloc (Nat.le_refl _) _⟩

def Told (o : Option Nat) (g : Nat) (w : World) (e : Ending) (w' : World) : Prop :=
  ∃ r, e = .returned (.float .f64 r) ∧ r < 18446744073709551616 ∧ Fl.cv r = o ∧ Cells w' g 26 #[.float .f64 r] ∧ w.grownBy w' (some g)

theorem told_any (K G L x : Nat) (b : Bool) (p g : Nat) (w : World) (hp : Cells w p 32 #[.float .f64 K, .float .f64 G, .float .f64 L]) (hg : Cells w g 26 #[.float .f64 x]) :
    Calls Try.prog 37 #[.bool b, .pointer (some ⟨p, 0, none⟩), .pointer (some ⟨g, 0, none⟩)] w (Told (Fl.nx K G (Fl.cv x) b) g w) := by
  have p0 := hp.cell 0
  have p1 := hp.cell 1
  have p2 := hp.cell 2
  have g0 := hg.cell 0
  simp only [List.getElem?_toArray, List.getElem?_cons_zero, List.getElem?_cons_succ] at p0 p1 p2 g0
  go_enter Try.func37, Try.ntmps37
  go_wp2_with fail
  refine (next_any K G L x b w).mono ?_
  rintro e w1 ⟨r, rfl, hr, hc, hb⟩
  have g1 := (hg.below' hb).cell 0
  have gf := (hg.below' hb).free 0
  simp only [List.getElem?_toArray, List.getElem?_cons_zero] at g1
  have HC := Lib.hid hc; clear hc
  go_wp2
  go_ret
  exact ⟨r, rfl, hr, HC.out, (hg.below' hb).set 0 _, grown_set (grown_of_below hb _) 0 _⟩

end Go.Proofs.Ytohilconpcgjeaa
