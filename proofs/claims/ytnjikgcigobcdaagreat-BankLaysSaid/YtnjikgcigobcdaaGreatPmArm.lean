import Derived.Test.YtnjikgcigobcdaaGreatMD
import Derived.Laws.Bits128
namespace Go.Proofs.YtnjikgcigobcdaaGreat
open Wd Pm Go.Maps Go.RowKit
set_option linter.unusedVariables false

theorem i64_and63 (n : Int) : bits .and .i64 n 63 = n % 64 := by
  have h63 : (BitVec.ofInt 64 63).toNat = 2 ^ 6 - 1 := by decide
  have key : (BitVec.ofInt 64 n &&& BitVec.ofInt 64 63).toNat = (n % ((2 ^ 64 : Nat) : Int)).toNat % 2 ^ 6 := by
    rw [BitVec.toNat_and, BitVec.toNat_ofInt, h63, Nat.and_two_pow_sub_one_eq_mod]
  show IntKind.i64.wrap ((BitVec.ofInt 64 n &&& BitVec.ofInt 64 63).toNat : Nat) = n % 64
  rw [key, IntKind.wrap_i64]
  omega

/-- behind j deeds of a device whose power was armed for the n-th -/
structure Armed (n : Int) (j : Nat) (σ : St) : Prop where
  size : σ.n = 512
  before : (j : Int) < n → σ.dead = false ∧ σ.ar = n - j ∧ σ.ev = j
  behind : n ≤ (j : Int) → σ.dead = true ∧ σ.ev = n - 1
structure Plain (go : St → St) : Prop where
  n : ∀ σ, (go σ).n = σ.n
  ev : ∀ σ, (go σ).ev = σ.ev
  ar : ∀ σ, (go σ).ar = σ.ar
  dead : ∀ σ, (go σ).dead = σ.dead
theorem plain_hold (i v : Int) : Plain (·.hold i v) := ⟨fun _ => rfl, fun _ => rfl, fun _ => rfl, fun _ => rfl⟩
theorem plain_send (i : Int) : Plain (·.send i) := ⟨fun _ => rfl, fun _ => rfl, fun _ => rfl, fun _ => rfl⟩
theorem plain_persist : Plain St.persist := ⟨fun _ => rfl, fun _ => rfl, fun _ => rfl, fun _ => rfl⟩
def armErr (n : Int) (j : Nat) : Int := if (j : Int) + 1 < n then 0 else 5
theorem armed_step {n : Int} {j : Nat} {σ : St} {go : St → St} (h : Armed n j σ) (hn : 1 ≤ n) (p : Plain go) : Armed n (j + 1) (σ.tried true go).1 ∧ (σ.tried true go).2 = armErr n j := by
  unfold St.tried armErr
  by_cases h1 : (j : Int) < n
  · obtain ⟨e1, e2, e3⟩ := h.before h1
    rw [e1, if_pos ref0]
    by_cases h2 : (j : Int) + 1 < n
    · rw [if_neg (by omega), if_pos h2]
      refine ⟨⟨(p.n _).trans h.size, fun _ => ⟨(p.dead _).trans e1, ?_, ?_⟩, fun h => by omega⟩, rfl⟩
      · show (go σ.drained).ar = _
        rw [p.ar]
        show (if σ.ar = 0 then 0 else σ.ar - 1) = _
        rw [if_neg (by omega)]; omega
      · show (go σ.drained).ev + 1 = _
        rw [p.ev]
        show σ.ev + 1 = _
        omega
    · rw [if_pos (by omega), if_neg h2]
      exact ⟨⟨h.size, fun h => by omega, fun _ => ⟨rfl, by show σ.ev = _; omega⟩⟩, rfl⟩
  · obtain ⟨e1, e2⟩ := h.behind (by omega)
    have e4 : refErr σ.dead true = 5 := by rw [e1]; unfold refErr; rfl
    rw [e4, if_neg (by decide), if_neg (by omega)]
    exact ⟨⟨h.size, fun h => by omega, fun _ => ⟨e1, e2⟩⟩, rfl⟩
theorem armed_ev {n : Int} {j : Nat} {σ : St} (h : Armed n j σ) (hn : 1 ≤ n) (hn' : n ≤ 40) : σ.ev < 4611686018427387904 := by
  by_cases h1 : (j : Int) < n
  · have := (h.before h1).2.2; omega
  · have := (h.behind (by omega)).2; omega

/-- a device that the law made, behind j deeds -/
def ArmDev (w : World) (p : Value) (n : Int) (j : Nat) (wr : World) : Prop := ∃ f σ, f.ptr = p ∧ Dev wr f σ ∧ Fresh w f ∧ Below w.heap.size w wr ∧ Armed n j σ
def ArmCall (w : World) (p : Value) (n : Int) (j : Nat) (er : Int) (e : Ending) (w' : World) : Prop := e = .returned (.int .i64 er) ∧ ArmDev w p n (j + 1) w'

def ArmRel (w w0 : World) (p : Value) (n : Int) (l : List Deed) (k i : Value) (wr : World) : Prop := ∃ j : Nat, j ≤ l.length ∧ i = .int .i64 j ∧ k = .int .i64 j ∧ ArmDev w p n j wr
end Go.Proofs.YtnjikgcigobcdaaGreat
