import Derived.Test.YtnjikgcigobcdaaGreatMD
import Derived.Test.YtnjikgcigobcdaaGreatPmRn
import Derived.StillTailTactics
namespace Go.Proofs.YtnjikgcigobcdaaGreat
open Wd Pm Go.Maps Go.RowKit
set_option linter.unusedVariables false

theorem Dev.other {w : World} {f : Fp} {σ : St} (d : Dev w f σ) {q : Nat} {T : TypeId} {cs : Array Value} (h : Cells w q T cs) (h1 : T ≠ 57) (h2 : T ≠ 31) : q ∉ f.blocks := by
  intro hm
  simp only [Fp.blocks, List.mem_cons, List.not_mem_nil, or_false] at hm
  rcases hm with rfl | rfl | rfl | rfl
  · exact h.ne d.1 h1 rfl
  · exact h.ne d.2.1 h2 rfl
  · exact d.2.2.1.cells h rfl
  · exact d.2.2.2.1.cells h rfl
theorem Dev.stays {w w' : World} {f : Fp} {σ : St} (d : Dev w f σ) {S : List Nat} (t : Turn w w' S) (hS : ∀ x ∈ S, x ∉ f.blocks) : Dev w' f σ :=
  d.keep fun k hk => t.block k (by have := d.lt; simp [Fp.blocks] at hk; omega) (fun hm => hS k hm hk)

/-! the document's device -/
structure RW where
  at_ : Int
  stays : Int
  holds : Int
  dirty : Bool
  way : Bool
  sent : Int
def RW.vals (r : RW) : List Value := [.int .i64 r.at_, .int .u64 r.stays, .int .u64 r.holds, .bool r.dirty, .bool r.way, .int .u64 r.sent]
structure RSt where
  n : Int
  l : List RW
  ar : Int
  dead : Bool
  ev : Int
def rvals (l : List RW) : List Value := l.flatMap RW.vals
structure RW.Ok (r : RW) (n : Int) : Prop where
  at_ : 0 ≤ r.at_ ∧ r.at_ < n
  stays : U64 r.stays
  holds : U64 r.holds
  sent : U64 r.sent
structure RGood (ρ : RSt) : Prop where
  n : 0 ≤ ρ.n ∧ ρ.n ≤ 33554432
  ok : ∀ r ∈ ρ.l, r.Ok ρ.n
  ar : 0 ≤ ρ.ar ∧ ρ.ar ≤ 9223372036854775807
  ev : 0 ≤ ρ.ev ∧ ρ.ev ≤ 4611686018427387904
  few : ρ.l.length ≤ 1000000
def RDev (w : World) (B q : Nat) (ρ : RSt) : Prop := B ≤ q ∧ RGood ρ ∧ ∃ v, Cells w q 42 #[.int .i64 ρ.n, v, .int .i64 ρ.ar, .bool ρ.dead, .int .i64 ρ.ev] ∧ w.ownsRow B 74 6 v ρ.l.length (rvals ρ.l)

/-- nothing has turned but the blocks of the document's device, and new ones -/
structure RTurn (w w' : World) (B : Nat) : Prop where
  os : w'.os = w.os
  tape : w'.tape = w.tape
  output : w'.output = w.output
  size : w.heap.size ≤ w'.heap.size
  low : ∀ k, k < w.heap.size → k < B → w'.heap[k]? = w.heap[k]?
  block : ∀ k, k < w.heap.size → (∀ cs, ¬ Cells w k 42 cs) → (∀ cs, ¬ Cells w k 74 cs) → w'.heap[k]? = w.heap[k]?
theorem RTurn.refl (w : World) (B : Nat) : RTurn w w B := ⟨rfl, rfl, rfl, Nat.le_refl _, fun _ _ _ => rfl, fun _ _ _ _ => rfl⟩
theorem RTurn.trans {a b c : World} {B : Nat} (h : RTurn a b B) (k : RTurn b c B) : RTurn a c B :=
  ⟨k.os.trans h.os, k.tape.trans h.tape, k.output.trans h.output, Nat.le_trans h.size k.size, fun i hi hB => (k.low i (Nat.lt_of_lt_of_le hi h.size) hB).trans (h.low i hi hB), fun i hi h1 h2 => by
    have e := h.block i hi h1 h2
    exact (k.block i (Nat.lt_of_lt_of_le hi h.size) (fun cs hc => h1 cs (by unfold Cells at *; rw [← e]; exact hc)) (fun cs hc => h2 cs (by unfold Cells at *; rw [← e]; exact hc))).trans e⟩
theorem RTurn.below {a b : World} {B : Nat} (h : Below a.heap.size a b) : RTurn a b B := ⟨h.os, h.tape, h.output, h.size, fun k hk _ => h.block k hk, fun k hk _ _ => h.block k hk⟩
theorem RTurn.set {a : World} {g : Nat} {B i : Nat} {T : TypeId} {cs : Array Value} (hc : Cells a g T cs) (hT : T = 42 ∨ T = 74) (hB : B ≤ g) (u : Value) : RTurn a (a.setCell ⟨g, i, none⟩ u) B :=
  ⟨rfl, rfl, rfl, by simp, fun k hk hkB => Below.heap_setCell a _ u k (by simp; omega), fun k hk h1 h2 => Below.heap_setCell a _ u k (by
    simp
    rintro rfl
    rcases hT with rfl | rfl
    · exact h1 _ hc
    · exact h2 _ hc)⟩
theorem RTurn.cells {w w' : World} {B g : Nat} {T : TypeId} {cs : Array Value} (t : RTurn w w' B) (h : Cells w g T cs) (h1 : T ≠ 42) (h2 : T ≠ 74) : Cells w' g T cs :=
  (t.block g h.lt (fun cs' hc => by unfold Cells at h hc; rw [h] at hc; injection hc with hc; injection hc with _ hc; exact h1 hc) (fun cs' hc => by unfold Cells at h hc; rw [h] at hc; injection hc with hc; injection hc with _ hc; exact h2 hc)).trans h
theorem RTurn.mp {w w' : World} {B b n : Nat} {F : IFn} (t : RTurn w w' B) (h : Mp Tryz.prog 3 31 w b n F) : Mp Tryz.prog 3 31 w' b n F :=
  h.same (t.block b h.lt (fun cs hc => h.cells hc rfl) (fun cs hc => h.cells hc rfl))
/-- the project's device stays -/
theorem Dev.rturn {w w' : World} {B : Nat} {f : Fp} {σ : St} (d : Dev w f σ) (t : RTurn w w' B) : Dev w' f σ := by
  obtain ⟨h1, h2, h3, h4, h5, h6⟩ := d
  exact ⟨t.cells h1 (by decide) (by decide), t.cells h2 (by decide) (by decide), t.mp h3, t.mp h4, h5, h6⟩
theorem own_keep {w w' : World} {base n sz : Nat} {e : TypeId} {v : Value} {xs : List Value} (h : w.ownsRow base e sz v n xs) (hk : ∀ g cs, v.ownBlock = some g → Cells w g e cs → w'.heap[g]? = w.heap[g]?) : w'.ownsRow base e sz v n xs := by
  refine ⟨h.1, ?_⟩
  rcases h.2 with ⟨rfl, h0⟩ | ⟨g, cap, cur, rfl, hb, hh, h1, h2, hs, ht⟩
  · exact .inl ⟨rfl, h0⟩
  · exact .inr ⟨g, cap, cur, rfl, hb, (hk g cur rfl hh).trans hh, h1, h2, hs, ht⟩
/-- the document's device stays while the project's one turns -/
theorem RDev.turn {w w' : World} {B q : Nat} {ρ : RSt} {f : Fp} {σ : St} (r : RDev w B q ρ) (d : Dev w f σ) (t : Turn w w' f.blocks) : RDev w' B q ρ := by
  obtain ⟨hB, hg, v, h1, h2⟩ := r
  refine ⟨hB, hg, v, h1.turn d (by decide) (by decide) t, own_keep h2 fun g cs _ hc => ?_⟩
  exact ((hc.turn d (by decide) (by decide) t : Cells w' g _ cs)).trans (hc : w.heap[g]? = _).symm
theorem RDev.below {w w' : World} {B q : Nat} {ρ : RSt} (r : RDev w B q ρ) (hb : Below w.heap.size w w') : RDev w' B q ρ := by
  obtain ⟨hB, hg, v, h1, h2⟩ := r
  exact ⟨hB, hg, v, h1.below' hb, own_keep h2 fun g cs _ hc => hb.block g hc.lt⟩
theorem RDev.alloc {w : World} {B q : Nat} {ρ : RSt} (r : RDev w B q ρ) (o : Obj) : RDev (w.alloc o) B q ρ := r.below ((Below.refl _ _).alloc (Nat.le_refl _) _)

/-! clean -/
def RW.clean (r : RW) : RW := if r.dirty = true ∧ r.way = false ∧ r.holds = r.stays then { r with dirty := false, holds := 0 } else r
theorem clean_any (r : RW) (w : World) : Calls Tryz.prog 62 #[.agg r.vals.toArray] w fun e w' => e = .returned (.agg r.clean.vals.toArray) ∧ Below w.heap.size w w' := by
  obtain ⟨a, s, h, d, y, t⟩ := r
  unfold RW.clean RW.vals
  simp only
  cases d
  · simp only [Bool.false_eq_true, false_and, if_false]
    go_enter Tryz.func62, Tryz.ntmps62
    go_wp2
    exact bodyPost_ret (v := .agg #[.int .i64 a, .int .u64 s, .int .u64 h, .bool false, .bool y, .int .u64 t]) (by simp [results, Tryz.results62, go_sem]) rfl ⟨rfl, ((Below.refl _ _).alloc (Nat.le_refl _) _).alloc (by simp) _⟩
  · cases y
    · by_cases hs : h = s
      · simp only [true_and, if_pos hs]
        have hq : (h == s) = true := by simpa using hs
        clear hs
        go_enter Tryz.func62, Tryz.ntmps62
        go_wp2
        exact bodyPost_ret (v := .agg #[.int .i64 a, .int .u64 s, .int .u64 0, .bool false, .bool false, .int .u64 t]) (by simp [results, Tryz.results62, go_sem]) rfl ⟨rfl, ((Below.refl _ _).alloc (Nat.le_refl _) _).alloc (by simp) _⟩
      · simp only [true_and, if_neg hs]
        have hq : (h == s) = false := by simpa using hs
        clear hs
        go_enter Tryz.func62, Tryz.ntmps62
        go_wp2
        exact bodyPost_ret (v := .agg #[.int .i64 a, .int .u64 s, .int .u64 h, .bool true, .bool false, .int .u64 t]) (by simp [results, Tryz.results62, go_sem]) rfl ⟨rfl, ((Below.refl _ _).alloc (Nat.le_refl _) _).alloc (by simp) _⟩
    · simp only [true_and, Bool.true_eq_false, false_and, if_false]
      go_enter Tryz.func62, Tryz.ntmps62
      go_wp2
      exact bodyPost_ret (v := .agg #[.int .i64 a, .int .u64 s, .int .u64 h, .bool true, .bool true, .int .u64 t]) (by simp [results, Tryz.results62, go_sem]) rfl ⟨rfl, ((Below.refl _ _).alloc (Nat.le_refl _) _).alloc (by simp) _⟩

/-! power -/
def RGoes (w : World) (B q : Nat) (ρ' : RSt) (w' : World) : Prop := RDev w' B q ρ' ∧ RTurn w w' B
def RSt.evn (ρ : RSt) : RSt × Bool := if ρ.ar = 1 then ({ ρ with ar := 0, dead := true }, true) else ({ ρ with ar := if 1 < ρ.ar then ρ.ar - 1 else ρ.ar, ev := ρ.ev + 1 }, false)
section
variable {w : World} {B q : Nat} {ρ : RSt}
theorem RDev.set (h : RDev w B q ρ) {n ar ev : Int} {dead : Bool} (i : Nat) (u : Value) (hv : ∀ v, (#[.int .i64 ρ.n, v, .int .i64 ρ.ar, .bool ρ.dead, .int .i64 ρ.ev] : Array Value).setIfInBounds i u = #[.int .i64 n, v, .int .i64 ar, .bool dead, .int .i64 ev]) (hg : RGood ⟨n, ρ.l, ar, dead, ev⟩) : RDev (w.setCell ⟨q, i, none⟩ u) B q ⟨n, ρ.l, ar, dead, ev⟩ := by
  obtain ⟨hB, _, v, h1, h2⟩ := h
  refine ⟨hB, hg, v, ?_, own_keep h2 fun g cs _ hc => Below.heap_setCell w _ u g (hc.ne h1 (by decide))⟩
  rw [← hv v]
  exact h1.set i u
theorem RDev.tset (h : RDev w B q ρ) (i : Nat) (u : Value) : RTurn w (w.setCell ⟨q, i, none⟩ u) B := by
  obtain ⟨hB, _, v, h1, h2⟩ := h
  exact RTurn.set h1 (.inl rfl) hB u
theorem RDev.setAr (h : RDev w B q ρ) (a : Int) (ha : 0 ≤ a ∧ a ≤ 9223372036854775807) : RDev (w.setCell ⟨q, 2, none⟩ (.int .i64 a)) B q { ρ with ar := a } :=
  h.set 2 _ (fun v => rfl) ⟨h.2.1.n, h.2.1.ok, ha, h.2.1.ev, h.2.1.few⟩
theorem RDev.setDead (h : RDev w B q ρ) (a : Bool) : RDev (w.setCell ⟨q, 3, none⟩ (.bool a)) B q { ρ with dead := a } :=
  h.set 3 _ (fun v => rfl) ⟨h.2.1.n, h.2.1.ok, h.2.1.ar, h.2.1.ev, h.2.1.few⟩
theorem RDev.setEv (h : RDev w B q ρ) (a : Int) (ha : 0 ≤ a ∧ a ≤ 4611686018427387904) : RDev (w.setCell ⟨q, 4, none⟩ (.int .i64 a)) B q { ρ with ev := a } :=
  h.set 4 _ (fun v => rfl) ⟨h.2.1.n, h.2.1.ok, h.2.1.ar, ha, h.2.1.few⟩
structure RReads (w : World) (q : Nat) (ρ : RSt) (v : Value) : Prop where
  c0 : w.cell? ⟨q, 0, none⟩ = some (.int .i64 ρ.n)
  c1 : w.cell? ⟨q, 1, none⟩ = some v
  c2 : w.cell? ⟨q, 2, none⟩ = some (.int .i64 ρ.ar)
  c3 : w.cell? ⟨q, 3, none⟩ = some (.bool ρ.dead)
  c4 : w.cell? ⟨q, 4, none⟩ = some (.int .i64 ρ.ev)
  z : ∀ i, w.frozen? ⟨q, i, none⟩ = false
theorem RDev.reads (h : RDev w B q ρ) : ∃ v, RReads w q ρ v ∧ w.ownsRow B 74 6 v ρ.l.length (rvals ρ.l) := by
  obtain ⟨hB, _, v, h1, h2⟩ := h
  exact ⟨v, ⟨h1.cell 0, h1.cell 1, h1.cell 2, h1.cell 3, h1.cell 4, h1.free⟩, h2⟩

theorem revent_dev (h : RDev w B q ρ) (hev : ρ.ev < 4611686018427387904) : Calls Tryz.prog 60 #[.pointer (some ⟨q, 0, none⟩)] w fun e w' => e = .returned (.bool ρ.evn.2) ∧ RGoes w B q ρ.evn.1 w' := by
  obtain ⟨v, rr, _⟩ := h.reads
  have g := h.2.1
  have ga := g.ar
  have ge := g.ev
  have c2 := rr.c2
  have c3 := rr.c3
  have c4 := rr.c4
  have z2 := rr.z 2
  have z3 := rr.z 3
  have z4 := rr.z 4
  clear rr
  unfold RSt.evn
  by_cases h1 : ρ.ar = 1
  · rw [if_pos h1]
    have hd := (h.setAr 0 (by omega)).setDead true
    have ht := (h.tset 2 (.int .i64 0)).trans ((h.setAr 0 (by omega)).tset 3 (.bool true))
    have q1 : (ρ.ar == 1) = true := by simpa using h1
    clear h1
    go_enter Tryz.func60, Tryz.ntmps60
    go_wp2
    go_ret
    exact ⟨rfl, hd, ht⟩
  · rw [if_neg h1]
    have q1 : (ρ.ar == 1) = false := by simpa using h1
    by_cases h2 : 1 < ρ.ar
    · rw [if_pos h2]
      have hd := (h.setAr (ρ.ar - 1) (by omega)).setEv (ρ.ev + 1) (by omega)
      have ht := (h.tset 2 (.int .i64 (ρ.ar - 1))).trans ((h.setAr (ρ.ar - 1) (by omega)).tset 4 (.int .i64 (ρ.ev + 1)))
      have q2 : decide (ρ.ar > 1) = true := by simpa using h2
      clear h1
      go_enter Tryz.func60, Tryz.ntmps60
      go_wp2
      go_ret
      exact ⟨rfl, hd, ht⟩
    · rw [if_neg h2]
      have hd := h.setEv (ρ.ev + 1) (by omega)
      have ht := h.tset 4 (.int .i64 (ρ.ev + 1))
      have q2 : decide (ρ.ar > 1) = false := by simpa using h2
      clear h1
      go_enter Tryz.func60, Tryz.ntmps60
      go_wp2
      go_ret
      exact ⟨rfl, hd, ht⟩
theorem rlines_dev (h : RDev w B q ρ) : Calls Tryz.prog 59 #[.pointer (some ⟨q, 0, none⟩)] w fun e w' => e = .returned (.int .i64 ((ρ.n + 7) / 8)) ∧ w = w' := by
  obtain ⟨v, rr, _⟩ := h.reads
  have g := h.2.1.n
  have c0 := rr.c0
  clear rr
  go_enter Tryz.func59, Tryz.ntmps59
  go_wp2
  go_ret
  exact ⟨rfl, rfl⟩
theorem rarm_dev (h : RDev w B q ρ) (n : Int) (hn : n ≤ 9223372036854775807) : Calls Tryz.prog 11 #[.pointer (some ⟨q, 0, none⟩), .int .i64 n] w fun e w' => e = .returned (.tuple #[]) ∧ RGoes w B q { ρ with ar := max n 0 } w' := by
  obtain ⟨v, rr, _⟩ := h.reads
  have c2 := rr.c2
  have z2 := rr.z 2
  clear rr
  by_cases h0 : n < 0
  · have e : max n 0 = 0 := by omega
    rw [e]
    have hd := h.setAr 0 (by omega)
    have ht := h.tset 2 (.int .i64 0)
    have q0 : decide (n < 0) = true := by simpa using h0
    clear e
    go_enter Tryz.func11, Tryz.ntmps11
    go_wp2
    go_end0
    exact ⟨rfl, hd, ht⟩
  · have e : max n 0 = n := by omega
    rw [e]
    have hd := h.setAr n (by omega)
    have ht := h.tset 2 (.int .i64 n)
    have q0 : decide (n < 0) = false := by simpa using h0
    clear e
    go_enter Tryz.func11, Tryz.ntmps11
    go_wp2
    go_end0
    exact ⟨rfl, hd, ht⟩
end
def RSt.fresh (n : Nat) : RSt := ⟨n, [], 0, false, 0⟩
theorem rnew_dev (n : Int) (w : World) (B : Nat) (hB : B ≤ w.heap.size) : Calls Tryz.prog 8 #[.int .i64 n] w fun e w' => e = .returned (.pointer (some ⟨w.heap.size, 0, none⟩)) ∧ RDev w' B w.heap.size (.fresh (clampN n)) ∧ Below w.heap.size w w' := by
  refine (rnew_any n w).mono ?_
  rintro e w' ⟨rfl, rfl⟩
  have hc : clampN n ≤ 33554432 := by unfold clampN; omega
  refine ⟨rfl, ⟨hB, ⟨⟨by show (0 : Int) ≤ (clampN n : Nat); omega, by show ((clampN n : Nat) : Int) ≤ _; omega⟩, (fun r hr => by cases hr), ⟨by simp [RSt.fresh], by simp [RSt.fresh]⟩, ⟨by simp [RSt.fresh], by simp [RSt.fresh]⟩, by simp [RSt.fresh]⟩, .slice none 0 0, Cells.new w _ _, ⟨rfl, .inl ⟨rfl, rfl⟩⟩⟩, (Below.refl _ _).alloc (Nat.le_refl _) _⟩
end Go.Proofs.YtnjikgcigobcdaaGreat
