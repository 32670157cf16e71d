import Derived.Test.YtakgiommhpifiaaPmDeed
import Derived.Laws.Bits128
namespace Go.Proofs.Ytakgiommhpifiaa
open Wd Pm Go.Maps Go.RowKit
set_option linter.unusedVariables false

theorem i64_and63 (n : Int) : bits .and .i64 n 63 = n % 64 := by
  have h63 : (BitVec.ofInt 64 63).toNat = 2 ^ 6 - 1 := by decide
  have key : (BitVec.ofInt 64 n &&& BitVec.ofInt 64 63).toNat = (n % ((2 ^ 64 : Nat) : Int)).toNat % 2 ^ 6 := by
    rw [BitVec.toNat_and, BitVec.toNat_ofInt, h63, Nat.and_two_pow_sub_one_eq_mod]
  show IntKind.i64.wrap ((BitVec.ofInt 64 n &&& BitVec.ofInt 64 63).toNat : Nat) = n % 64
  rw [key, IntKind.wrap_i64]
  omega

/-- behind j deeds of a device whose power was armed for the n-th -/
structure Armed (n : Int) (j : Nat) (σ : St) : Prop where
  size : σ.n = 512
  before : (j : Int) < n → σ.dead = false ∧ σ.ar = n - j ∧ σ.ev = j
  behind : n ≤ (j : Int) → σ.dead = true ∧ σ.ev = n - 1
structure Plain (go : St → St) : Prop where
  n : ∀ σ, (go σ).n = σ.n
  ev : ∀ σ, (go σ).ev = σ.ev
  ar : ∀ σ, (go σ).ar = σ.ar
  dead : ∀ σ, (go σ).dead = σ.dead
theorem plain_hold (i v : Int) : Plain (·.hold i v) := ⟨fun _ => rfl, fun _ => rfl, fun _ => rfl, fun _ => rfl⟩
theorem plain_send (i : Int) : Plain (·.send i) := ⟨fun _ => rfl, fun _ => rfl, fun _ => rfl, fun _ => rfl⟩
theorem plain_persist : Plain St.persist := ⟨fun _ => rfl, fun _ => rfl, fun _ => rfl, fun _ => rfl⟩
def armErr (n : Int) (j : Nat) : Int := if (j : Int) + 1 < n then 0 else 5
theorem armed_step {n : Int} {j : Nat} {σ : St} {go : St → St} (h : Armed n j σ) (hn : 1 ≤ n) (p : Plain go) : Armed n (j + 1) (σ.tried true go).1 ∧ (σ.tried true go).2 = armErr n j := by
  unfold St.tried armErr
  by_cases h1 : (j : Int) < n
  · obtain ⟨e1, e2, e3⟩ := h.before h1
    rw [e1, if_pos ref0]
    by_cases h2 : (j : Int) + 1 < n
    · rw [if_neg (by omega), if_pos h2]
      refine ⟨⟨(p.n _).trans h.size, fun _ => ⟨(p.dead _).trans e1, ?_, ?_⟩, fun h => by omega⟩, rfl⟩
      · show (go σ.drained).ar = _
        rw [p.ar]
        show (if σ.ar = 0 then 0 else σ.ar - 1) = _
        rw [if_neg (by omega)]; omega
      · show (go σ.drained).ev + 1 = _
        rw [p.ev]
        show σ.ev + 1 = _
        omega
    · rw [if_pos (by omega), if_neg h2]
      exact ⟨⟨h.size, fun h => by omega, fun _ => ⟨rfl, by show σ.ev = _; omega⟩⟩, rfl⟩
  · obtain ⟨e1, e2⟩ := h.behind (by omega)
    have e4 : refErr σ.dead true = 5 := by rw [e1]; unfold refErr; rfl
    rw [e4, if_neg (by decide), if_neg (by omega)]
    exact ⟨⟨h.size, fun h => by omega, fun _ => ⟨e1, e2⟩⟩, rfl⟩
theorem armed_ev {n : Int} {j : Nat} {σ : St} (h : Armed n j σ) (hn : 1 ≤ n) (hn' : n ≤ 40) : σ.ev < 4611686018427387904 := by
  by_cases h1 : (j : Int) < n
  · have := (h.before h1).2.2; omega
  · have := (h.behind (by omega)).2; omega

/-- a device that the law made, behind j deeds -/
def ArmDev (w : World) (p : Value) (n : Int) (j : Nat) (wr : World) : Prop := ∃ f σ, f.ptr = p ∧ Dev wr f σ ∧ Fresh w f ∧ Below w.heap.size w wr ∧ Armed n j σ
def ArmCall (w : World) (p : Value) (n : Int) (j : Nat) (er : Int) (e : Ending) (w' : World) : Prop := e = .returned (.int .i64 er) ∧ ArmDev w p n (j + 1) w'

theorem arm_store {w wr : World} {p : Value} {n : Int} {j : Nat} (h : ArmDev w p n j wr) (hn : 1 ≤ n) (hn' : n ≤ 40) {er : Int} (her : armErr n j = er) (i v : Int) (hi : 0 ≤ i ∧ i < 64) (hv : U64 v) : Calls Try.prog 9 #[p, .int .i64 i, .int .u64 v] wr (ArmCall w p n j er) := by
  obtain ⟨f, σ, rfl, d, fr, b, a⟩ := h
  have e1 : hasW σ.n i = true := hasW_iff.2 (by rw [a.size]; omega)
  obtain ⟨s1, s2⟩ := armed_step a hn (plain_hold i v)
  refine (store_dev d (armed_ev a hn hn') i v hv).mono ?_
  rw [e1, s2, her]
  rintro e w' ⟨rfl, g⟩
  obtain ⟨f', e', d', n', b'⟩ := g.fresh fr b
  exact ⟨rfl, f', _, e', d', n', b', s1⟩
theorem arm_flush {w wr : World} {p : Value} {n : Int} {j : Nat} (h : ArmDev w p n j wr) (hn : 1 ≤ n) (hn' : n ≤ 40) {er : Int} (her : armErr n j = er) (i : Int) (hi : 0 ≤ i ∧ i < 64) : Calls Try.prog 22 #[p, .int .i64 i] wr (ArmCall w p n j er) := by
  obtain ⟨f, σ, rfl, d, fr, b, a⟩ := h
  have e1 : hasL σ.n i = true := hasL_iff.2 (by rw [a.size]; omega)
  obtain ⟨s1, s2⟩ := armed_step a hn (plain_send i)
  refine (flush_dev d (armed_ev a hn hn') i).mono ?_
  rw [e1, s2, her]
  rintro e w' ⟨rfl, g⟩
  obtain ⟨f', e', d', n', b'⟩ := g.fresh fr b
  exact ⟨rfl, f', _, e', d', n', b', s1⟩
theorem arm_fence {w wr : World} {p : Value} {n : Int} {j : Nat} (h : ArmDev w p n j wr) (hn : 1 ≤ n) (hn' : n ≤ 40) {er : Int} (her : armErr n j = er) : Calls Try.prog 23 #[p] wr (ArmCall w p n j er) := by
  obtain ⟨f, σ, rfl, d, fr, b, a⟩ := h
  obtain ⟨s1, s2⟩ := armed_step a hn plain_persist
  refine (fence_dev d (armed_ev a hn hn')).mono ?_
  rw [s2, her]
  rintro e w' ⟨rfl, g⟩
  obtain ⟨f', e', d', n', b'⟩ := g.fresh fr b
  exact ⟨rfl, f', _, e', d', n', b', s1⟩
theorem arm_dead {w wr : World} {p : Value} {n : Int} {j : Nat} (h : ArmDev w p n j wr) (b : Bool) (hb : decide (n ≤ (j : Int)) = b) : Calls Try.prog 19 #[p] wr fun e w' => e = .returned (.bool b) ∧ wr = w' := by
  obtain ⟨f, σ, rfl, d, fr, _, a⟩ := h
  have : σ.dead = b := by
    subst hb
    by_cases h1 : (j : Int) < n
    · rw [(a.before h1).1]; simp; omega
    · rw [(a.behind (by omega)).1]; simp; omega
  rw [← this]
  exact dead_dev d
theorem arm_events {w wr : World} {p : Value} {n : Int} {j : Nat} (h : ArmDev w p n j wr) (v : Int) (hv : v = if (j : Int) < n then (j : Int) else n - 1) : Calls Try.prog 21 #[p] wr fun e w' => e = .returned (.int .i64 v) ∧ wr = w' := by
  obtain ⟨f, σ, rfl, d, fr, _, a⟩ := h
  have : σ.ev = v := by
    subst hv
    by_cases h1 : (j : Int) < n
    · rw [(a.before h1).2.2, if_pos h1]
    · rw [(a.behind (by omega)).2, if_neg h1]
  rw [← this]
  exact events_dev d

def ArmRel (w w0 : World) (p : Value) (n : Int) (l : List Deed) (k i : Value) (wr : World) : Prop := ∃ j : Nat, j ≤ l.length ∧ i = .int .i64 j ∧ k = .int .i64 j ∧ ArmDev w p n j wr
end Go.Proofs.Ytakgiommhpifiaa
