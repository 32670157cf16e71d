import Derived.Test.YtnjikgcigobcdaaGreatPmArm
namespace Go.Proofs.YtnjikgcigobcdaaGreat
open Wd Pm Go.Maps Go.RowKit
set_option linter.unusedVariables false

theorem ArmDev.alloc {w wr : World} {p : Value} {n : Int} {j : Nat} (h : ArmDev w p n j wr) (o : Obj) : ArmDev w p n j (wr.alloc o) := by
  obtain ⟨f, σ, e, d, fr, b, a⟩ := h
  exact ⟨f, σ, e, d.alloc o, fr, b.alloc b.size _, a⟩

def MadeArm (w : World) (n : Int) (e : Ending) (w' : World) : Prop := ∃ g : Nat, e = .returned (.pointer (some ⟨g, 0, none⟩)) ∧ ∃ f σ, f.ptr = .pointer (some ⟨g, 0, none⟩) ∧ Dev w' f σ ∧ Fresh w f ∧ Below w.heap.size w w' ∧ σ = .fresh 512
theorem new_arm (w w0 : World) (hb : Below w.heap.size w w0) (n : Int) : Calls Tryz.prog 7 #[.int .i64 512] w0 fun e w' => ∃ g : Nat, e = .returned (.pointer (some ⟨g, 0, none⟩)) ∧ ∃ f : Fp, f.p = g ∧ Dev w' f (.fresh 512) ∧ Fresh w f ∧ Below w.heap.size w w' := by
  refine (new_dev 512 w0).mono ?_
  rintro e w' ⟨f, rfl, d, n0, b⟩
  rw [show clampN 512 = 512 from by decide] at d
  exact ⟨f.p, rfl, f, rfl, d, fun k hk => Nat.le_trans hb.size (n0 k hk), hb.trans (b.mono hb.size)⟩
def ArmMade (w : World) (n : Int) (e : Ending) (w' : World) : Prop := ∃ g : Nat, e = .returned (.pointer (some ⟨g, 0, none⟩)) ∧ ∃ f : Fp, f.p = g ∧ Dev w' f (.fresh 512) ∧ Fresh w f ∧ Below w.heap.size w w'
def ArmEnd (w : World) (p : Value) (e : Ending) (w' : World) : Prop := e = .returned (.tuple #[]) ∧ ∃ f σ, f.ptr = p ∧ Dev w' f σ ∧ Fresh w f ∧ Below w.heap.size w w' ∧ σ.n = 512 ∧ σ.ev ≤ 50 ∧ σ.dead = false ∧ σ.ar = 0
theorem arm_end {w wr : World} {p : Value} {n : Int} {j : Nat} (h : ArmDev w p n j wr) (hn : 1 ≤ n) (hn' : n ≤ 40) : Calls Tryz.prog 29 #[p, .slice none 0 0] wr (ArmEnd w p) := by
  obtain ⟨f, σ, rfl, d, fr, b, a⟩ := h
  refine (crash_dev d w.heap.size fr b.size none 0 [] Row.nil (by decide)).mono ?_
  rintro e w' ⟨rfl, l, hl, g⟩
  obtain ⟨f', e', d', n', b'⟩ := g.fresh fr b
  refine ⟨rfl, f', _, e', d', n', b', a.size, ?_, rfl, rfl⟩
  show σ.ev ≤ 50
  by_cases h1 : (j : Int) < n
  · have := (a.before h1).2.2; omega
  · have := (a.behind (by omega)).2; omega