import Derived.Test.YtnjikgcigobcdaaPmWr
import Derived.Defers
import Derived.Recover
namespace Go.Proofs.Ytnjikgcigobcdaa
open Wd Pm Go.Maps Go.RowKit
set_option linter.unusedVariables false

/-- what is deferred, in a frame that panics -/
theorem catch_panicking {w : World} {f : Fp} {σ : St} (h : Dev w f σ) (q0 q1 : Nat) (x : Int) (u : TypeId) (pv : Value) (older : List PanicEntry) (h0 : w.cell? ⟨q0, 0, none⟩ = some f.ptr) (h1 : w.cell? ⟨q1, 0, none⟩ = some (.int .i64 x)) (hz : w.frozen? ⟨q1, 0, none⟩ = false) (hne : q1 ≠ f.p) :
    CallsD Try.prog 78 #[.pointer (some ⟨q0, 0, none⟩), .pointer (some ⟨q1, 0, none⟩)] (.panicking ({ v := .iface u pv, recovered := false } :: older)) w fun e u' w' =>
      e = .returned (.tuple #[]) ∧ u' = .panicking ({ v := .iface u pv, recovered := true } :: older) ∧ w' = (w.setCell ⟨f.p, 5, none⟩ (.bool true)).setCell ⟨q1, 0, none⟩ (.int .i64 5) := by
  have c5 := h.reads.c5
  have z5 := h.free 5
  unfold Fp.ptr at h0
  have hz1 : (w.setCell ⟨f.p, 5, none⟩ (.bool true)).frozen? ⟨q1, 0, none⟩ = false := by simpa [go_sem] using hz
  have hc1 : (w.setCell ⟨f.p, 5, none⟩ (.bool true)).cell? ⟨q1, 0, none⟩ = some (.int .i64 x) := by rw [World.cell?_setCell_other _ _ _ _ (by simp)]; exact h1
  refine callsD_of_wpS Try.func78 rfl fun c₀ cs hu => ?_
  apply wpS_seq
  apply wpS_region
  simp [wpOpsS, go_sem, recoverD, hu, Try.ntmps78, Exit.thenS]
  refine wpS_cond (t := true) (by simp [Act.eval, Array.replicate]) ?_
  simp only [if_true]
  apply wpS_seq
  apply wpS_region
  simp [wpOpsS, go_sem, h0, c5, z5, Exit.thenS, Array.replicate]
  apply wpS_region
  simp [wpOpsS, go_sem, hc1, hz1, bodyPostS, results, Try.results78]
theorem catch_idle (p q : Addr) (w : World) :
    CallsD Try.prog 78 #[.pointer (some p), .pointer (some q)] .returning w fun e u' w' => e = .returned (.tuple #[]) ∧ u' = .returning ∧ w' = w := by
  refine callsD_of_wpS Try.func78 rfl fun c₀ cs hu => ?_
  apply wpS_seq
  apply wpS_region
  simp [wpOpsS, go_sem, recoverD, hu, Try.ntmps78, Exit.thenS]
  refine wpS_cond (t := false) (by simp [Act.eval, Array.replicate]) ?_
  simp only [Bool.false_eq_true, if_false]
  refine wpS_of_wp (wp_skip ?_)
  cases c₀
  simp_all [bodyPostS, results, Try.results78]

theorem event_fail {w : World} {f : Fp} {σ : St} (h : Dev w f σ) (ha : σ.ar = 1) (fv : Value) : Calls Try.prog 68 #[f.ptr, fv] w fun e w' => e = .returned (.int .i64 5) ∧ Goes w f { σ with ar := 0, dead := true } w' := by
  have hmf : ∀ (fn : Fn) (first cap : Array Value) (w : World), (Instr.makeFunc fn first cap).run Try.prog w = .ok (.func fn first cap) w := fun _ _ _ _ => rfl
  have hp : f.ptr = .pointer (some ⟨f.p, 0, none⟩) := rfl
  rw [hp]
  go_enter_defers Try.func68, Try.ntmps68
  go_wp2_with (go_at_call 79; refine (drain_end ((h.alloc _).alloc _) ha).mono ?_; rintro e w' ⟨⟨pv, rfl⟩, rfl⟩)
  have d1 : Dev (((w.alloc (.cells #[.pointer (some ⟨f.p, 0, none⟩)] 26)).alloc (.cells #[.int .i64 0] 31)).setCell ⟨f.p, 4, none⟩ (.int .i64 0)) f { σ with ar := 0 } := ((h.alloc _).alloc _).setAr 0 (by omega)
  have l := h.lt
  have k0 := (((Cells.new w 26 #[.pointer (some ⟨f.p, 0, none⟩)]).alloc (.cells #[.int .i64 0] 31)).far (p := ⟨f.p, 4, none⟩) (by simp; omega) (.int .i64 0)).cell 0
  have k1' := (Cells.new (w.alloc (.cells #[.pointer (some ⟨f.p, 0, none⟩)] 26)) 31 #[.int .i64 0]).far (p := ⟨f.p, 4, none⟩) (by simp; omega) (.int .i64 0)
  rw [World.size_alloc] at k1'
  refine leaves_cons (f := 78) (args := #[.pointer (some ⟨w.heap.size, 0, none⟩), .pointer (some ⟨w.heap.size + 1, 0, none⟩)]) (by simp) (by simp [go_sem]) ?_
  refine (catch_panicking d1 w.heap.size (w.heap.size + 1) 0 9 pv [] k0 (k1'.cell 0) (k1'.free 0) (by omega)).mono ?_
  rintro e u' w'' ⟨rfl, rfl, rfl⟩
  have d2 := (d1.setDead true).far (p := ⟨w.heap.size + 1, 0, none⟩) (by simp [Fp.blocks]; omega) (.int .i64 5)
  have t1 : Turn w (((w.alloc (.cells #[.pointer (some ⟨f.p, 0, none⟩)] 26)).alloc (.cells #[.int .i64 0] 31)).setCell ⟨f.p, 4, none⟩ (.int .i64 0)) f.blocks := (Turn.ofBelow (((Below.refl _ _).alloc (Nat.le_refl _) _).alloc (by simp) _)).trans (Turn.set _ (memP f) _) (fun x hx => .inl hx)
  have t2 := (t1.trans (Turn.set _ (p := ⟨f.p, 5, none⟩) (memP f) (.bool true)) (fun x hx => .inl hx)).trans (Turn.set (S := [w.heap.size + 1]) _ (p := ⟨w.heap.size + 1, 0, none⟩) (by simp) (.int .i64 5)) (fun x hx => by simp at hx; right; omega)
  have G := Goes.mk' d2 t2
  clear d2 t2 t1 k1' k0 d1
  simp [Leaves, settle, results, Try.results68, go_sem]
  exact G

/-- behind an event that power doesn't fail at -/
def St.drained (σ : St) : St := { σ with ar := if σ.ar = 0 then 0 else σ.ar - 1 }
def St.counted (σ : St) : St := { σ with ev := σ.ev + 1 }
theorem drain_ok {w : World} {f : Fp} {σ : St} (h : Dev w f σ) (ha : σ.ar ≠ 1) : Calls Try.prog 79 #[f.ptr] w fun e w' => e = .returned (.tuple #[]) ∧ Dev w' f σ.drained ∧ w.grownBy w' (some f.p) := by
  have g := h.good.ar
  unfold St.drained
  by_cases h0 : σ.ar = 0
  · rw [if_pos h0]
    refine (drain_off h h0).mono fun e w' ⟨he, hw⟩ => ?_
    subst hw
    refine ⟨he, ?_, World.grownBy.refl w _⟩
    rw [← h0]
    exact h
  · rw [if_neg h0]
    refine (drain_on h (by omega)).mono fun e w' ⟨he, hw⟩ => ?_
    subst hw
    exact ⟨he, h.setAr _ (by omega), grown_set (World.grownBy.refl w _) 4 _⟩

theorem event_store {w : World} {f : Fp} {σ : St} (h : Dev w f σ) (ha : σ.ar ≠ 1) (hev : σ.ev < 4611686018427387904) (a b c : Nat) {σ2 : St} (hev2 : σ2.ev = σ.ev)
    (hstep : ∀ w1, Turn w w1 f.blocks → Dev w1 f σ.drained → Calls Try.prog 69 #[.pointer (some ⟨a, 0, none⟩), .pointer (some ⟨b, 0, none⟩), .pointer (some ⟨c, 0, none⟩)] w1 fun e w2 => e = .returned (.tuple #[]) ∧ Goes w1 f σ2 w2) :
    Calls Try.prog 68 #[f.ptr, .func (.func 69) #[] #[.pointer (some ⟨a, 0, none⟩), .pointer (some ⟨b, 0, none⟩), .pointer (some ⟨c, 0, none⟩)]] w fun e w' => e = .returned (.int .i64 0) ∧ Goes w f σ2.counted w' := by
  have hmf : ∀ (fn : Fn) (first cap : Array Value) (w : World), (Instr.makeFunc fn first cap).run Try.prog w = .ok (.func fn first cap) w := fun _ _ _ _ => rfl
  have hp : f.ptr = .pointer (some ⟨f.p, 0, none⟩) := rfl
  have l := h.lt
  have HE := Lib.hid hev2
  clear hev2
  try rw [hp] at hstep
  rw [hp]
  clear hp
  go_enter_defers Try.func68, Try.ntmps68
  go_wp2_with fail
  refine (drain_ok ((h.alloc (.cells #[.pointer (some ⟨f.p, 0, none⟩)] 26)).alloc (.cells #[.int .i64 0] 31)) ha).mono ?_
  rintro e w1 ⟨rfl, d1, g1⟩
  have k0 := ((Cells.new w 26 #[.pointer (some ⟨f.p, 0, none⟩)]).alloc (.cells #[.int .i64 0] 31)).grown g1 (by simp; omega)
  have k1 := (Cells.new (w.alloc (.cells #[.pointer (some ⟨f.p, 0, none⟩)] 26)) 31 #[.int .i64 0]).grown g1 (by simp; omega)
  rw [World.size_alloc] at k1
  have t1 : Turn w w1 f.blocks := (Turn.ofBelow (((Below.refl _ _).alloc (Nat.le_refl _) _).alloc (by simp) _)).trans (Turn.grown g1 (memP f)) (fun x hx => .inl hx)
  go_wp2_with fail
  refine (hstep w1 t1 d1).mono ?_
  rintro e w2 ⟨rfl, f2, d2, e2, n2, t2⟩
  have k0' := k0.turn d1 (by decide) (by decide) t2
  have k1' := k1.turn d1 (by decide) (by decide) t2
  have s1 := g1.size
  simp only [World.size_alloc] at s1
  have hne : ∀ k ∈ f2.blocks, k ≠ w.heap.size + 1 := fun k hk => by
    rcases n2 k hk with h1 | h1
    · simp [Fp.blocks] at h1; omega
    · omega
  have hge := h.good.ev
  have c0 : w2.cell? ⟨w.heap.size, 0, none⟩ = some (.pointer (some ⟨f.p, 0, none⟩)) := k0'.cell 0
  have c1 : w2.cell? ⟨w.heap.size + 1, 0, none⟩ = some (.int .i64 0) := k1'.cell 0
  have z1 := k1'.free 0
  have c3 := d2.reads.c3
  have z3 := d2.free 3
  rw [HE.out, e2] at c3
  rw [e2] at z3
  have hv : (w2.setCell ⟨f.p, 3, none⟩ (.int .i64 (σ.ev + 1))).frozen? ⟨w.heap.size + 1, 0, none⟩ = false := by simpa [go_sem] using z1
  have T := Lib.hid t1
  have T2 := Lib.hid t2
  have K1 := Lib.hid k1'
  have N2 := Lib.hid n2
  have HN := Lib.hid hne
  have D2 := Lib.hid d2
  have E2 := Lib.hid e2
  clear hne t1 t2 k1' n2 d2 k0 k0' k1 g1 d1 hstep e2
  go_wp2_with fail
  refine leaves_cons (f := 78) (args := #[.pointer (some ⟨w.heap.size, 0, none⟩), .pointer (some ⟨w.heap.size + 1, 0, none⟩)]) (by simp) (by simp [go_sem]) ?_
  refine (catch_idle ⟨w.heap.size, 0, none⟩ ⟨w.heap.size + 1, 0, none⟩ _).mono ?_
  rintro e u' w'' ⟨rfl, rfl, rfl⟩
  have hx : ((w2.setCell ⟨f.p, 3, none⟩ (.int .i64 (σ.ev + 1))).setCell ⟨w.heap.size + 1, 0, none⟩ (.int .i64 0)).cell? ⟨w.heap.size + 1, 0, none⟩ = some (.int .i64 0) :=
    ((K1.out.far (p := ⟨f.p, 3, none⟩) (by simp; omega) (.int .i64 (σ.ev + 1))).set 0 (.int .i64 0)).cell 0
  have G : Goes w f σ2.counted ((w2.setCell ⟨f.p, 3, none⟩ (.int .i64 (σ.ev + 1))).setCell ⟨w.heap.size + 1, 0, none⟩ (.int .i64 0)) := by
    have hne := HN.out
    have d3 := ((D2.out).setEv (σ.ev + 1) (by omega)).far (p := ⟨w.heap.size + 1, 0, none⟩) (fun hm => hne _ hm rfl) (.int .i64 0)
    rw [E2.out] at d3
    have e4 : ({ σ2 with ev := σ.ev + 1 } : St) = σ2.counted := by unfold St.counted; rw [HE.out]
    rw [e4] at d3
    have t3 := T.out.trans T2.out (fun x hx => .inl hx)
    have t4 := (t3.trans (Turn.set w2 (p := ⟨f.p, 3, none⟩) (memP f) (.int .i64 (σ.ev + 1))) (fun x hx => .inl hx)).trans (Turn.set (S := [w.heap.size + 1]) _ (p := ⟨w.heap.size + 1, 0, none⟩) (by simp) (.int .i64 0)) (fun x hx => by simp at hx; right; omega)
    exact ⟨f2, d3, E2.out, fun k hk => by
      rcases N2.out k hk with h1 | h1
      · exact .inl h1
      · right; omega, t4⟩
  have HG := Lib.hid G
  clear G HN D2 K1 N2 T T2 E2 HE
  simp [Leaves, settle, results, Try.results68, go_sem]
  refine ⟨.int .i64 0, ?_, rfl, HG.out⟩
  rw [hx]
theorem event_flush {w : World} {f : Fp} {σ : St} (h : Dev w f σ) (ha : σ.ar ≠ 1) (hev : σ.ev < 4611686018427387904) (a b : Nat) {σ2 : St} (hev2 : σ2.ev = σ.ev)
    (hstep : ∀ w1, Turn w w1 f.blocks → Dev w1 f σ.drained → Calls Try.prog 72 #[.pointer (some ⟨a, 0, none⟩), .pointer (some ⟨b, 0, none⟩)] w1 fun e w2 => e = .returned (.tuple #[]) ∧ Goes w1 f σ2 w2) :
    Calls Try.prog 68 #[f.ptr, .func (.func 72) #[] #[.pointer (some ⟨a, 0, none⟩), .pointer (some ⟨b, 0, none⟩)]] w fun e w' => e = .returned (.int .i64 0) ∧ Goes w f σ2.counted w' := by
  have hmf : ∀ (fn : Fn) (first cap : Array Value) (w : World), (Instr.makeFunc fn first cap).run Try.prog w = .ok (.func fn first cap) w := fun _ _ _ _ => rfl
  have hp : f.ptr = .pointer (some ⟨f.p, 0, none⟩) := rfl
  have l := h.lt
  have HE := Lib.hid hev2
  clear hev2
  try rw [hp] at hstep
  rw [hp]
  clear hp
  go_enter_defers Try.func68, Try.ntmps68
  go_wp2_with fail
  refine (drain_ok ((h.alloc (.cells #[.pointer (some ⟨f.p, 0, none⟩)] 26)).alloc (.cells #[.int .i64 0] 31)) ha).mono ?_
  rintro e w1 ⟨rfl, d1, g1⟩
  have k0 := ((Cells.new w 26 #[.pointer (some ⟨f.p, 0, none⟩)]).alloc (.cells #[.int .i64 0] 31)).grown g1 (by simp; omega)
  have k1 := (Cells.new (w.alloc (.cells #[.pointer (some ⟨f.p, 0, none⟩)] 26)) 31 #[.int .i64 0]).grown g1 (by simp; omega)
  rw [World.size_alloc] at k1
  have t1 : Turn w w1 f.blocks := (Turn.ofBelow (((Below.refl _ _).alloc (Nat.le_refl _) _).alloc (by simp) _)).trans (Turn.grown g1 (memP f)) (fun x hx => .inl hx)
  go_wp2_with fail
  refine (hstep w1 t1 d1).mono ?_
  rintro e w2 ⟨rfl, f2, d2, e2, n2, t2⟩
  have k0' := k0.turn d1 (by decide) (by decide) t2
  have k1' := k1.turn d1 (by decide) (by decide) t2
  have s1 := g1.size
  simp only [World.size_alloc] at s1
  have hne : ∀ k ∈ f2.blocks, k ≠ w.heap.size + 1 := fun k hk => by
    rcases n2 k hk with h1 | h1
    · simp [Fp.blocks] at h1; omega
    · omega
  have hge := h.good.ev
  have c0 : w2.cell? ⟨w.heap.size, 0, none⟩ = some (.pointer (some ⟨f.p, 0, none⟩)) := k0'.cell 0
  have c1 : w2.cell? ⟨w.heap.size + 1, 0, none⟩ = some (.int .i64 0) := k1'.cell 0
  have z1 := k1'.free 0
  have c3 := d2.reads.c3
  have z3 := d2.free 3
  rw [HE.out, e2] at c3
  rw [e2] at z3
  have hv : (w2.setCell ⟨f.p, 3, none⟩ (.int .i64 (σ.ev + 1))).frozen? ⟨w.heap.size + 1, 0, none⟩ = false := by simpa [go_sem] using z1
  have T := Lib.hid t1
  have T2 := Lib.hid t2
  have K1 := Lib.hid k1'
  have N2 := Lib.hid n2
  have HN := Lib.hid hne
  have D2 := Lib.hid d2
  have E2 := Lib.hid e2
  clear hne t1 t2 k1' n2 d2 k0 k0' k1 g1 d1 hstep e2
  go_wp2_with fail
  refine leaves_cons (f := 78) (args := #[.pointer (some ⟨w.heap.size, 0, none⟩), .pointer (some ⟨w.heap.size + 1, 0, none⟩)]) (by simp) (by simp [go_sem]) ?_
  refine (catch_idle ⟨w.heap.size, 0, none⟩ ⟨w.heap.size + 1, 0, none⟩ _).mono ?_
  rintro e u' w'' ⟨rfl, rfl, rfl⟩
  have hx : ((w2.setCell ⟨f.p, 3, none⟩ (.int .i64 (σ.ev + 1))).setCell ⟨w.heap.size + 1, 0, none⟩ (.int .i64 0)).cell? ⟨w.heap.size + 1, 0, none⟩ = some (.int .i64 0) :=
    ((K1.out.far (p := ⟨f.p, 3, none⟩) (by simp; omega) (.int .i64 (σ.ev + 1))).set 0 (.int .i64 0)).cell 0
  have G : Goes w f σ2.counted ((w2.setCell ⟨f.p, 3, none⟩ (.int .i64 (σ.ev + 1))).setCell ⟨w.heap.size + 1, 0, none⟩ (.int .i64 0)) := by
    have hne := HN.out
    have d3 := ((D2.out).setEv (σ.ev + 1) (by omega)).far (p := ⟨w.heap.size + 1, 0, none⟩) (fun hm => hne _ hm rfl) (.int .i64 0)
    rw [E2.out] at d3
    have e4 : ({ σ2 with ev := σ.ev + 1 } : St) = σ2.counted := by unfold St.counted; rw [HE.out]
    rw [e4] at d3
    have t3 := T.out.trans T2.out (fun x hx => .inl hx)
    have t4 := (t3.trans (Turn.set w2 (p := ⟨f.p, 3, none⟩) (memP f) (.int .i64 (σ.ev + 1))) (fun x hx => .inl hx)).trans (Turn.set (S := [w.heap.size + 1]) _ (p := ⟨w.heap.size + 1, 0, none⟩) (by simp) (.int .i64 0)) (fun x hx => by simp at hx; right; omega)
    exact ⟨f2, d3, E2.out, fun k hk => by
      rcases N2.out k hk with h1 | h1
      · exact .inl h1
      · right; omega, t4⟩
  have HG := Lib.hid G
  clear G HN D2 K1 N2 T T2 E2 HE
  simp [Leaves, settle, results, Try.results68, go_sem]
  refine ⟨.int .i64 0, ?_, rfl, HG.out⟩
  rw [hx]
theorem event_fence {w : World} {f : Fp} {σ : St} (h : Dev w f σ) (ha : σ.ar ≠ 1) (hev : σ.ev < 4611686018427387904)  {σ2 : St} (hev2 : σ2.ev = σ.ev)
    (hstep : ∀ w1, Turn w w1 f.blocks → Dev w1 f σ.drained → Calls Try.prog 74 #[f.ptr] w1 fun e w2 => e = .returned (.tuple #[]) ∧ Goes w1 f σ2 w2) :
    Calls Try.prog 68 #[f.ptr, .func (.func 74) #[f.ptr] #[]] w fun e w' => e = .returned (.int .i64 0) ∧ Goes w f σ2.counted w' := by
  have hmf : ∀ (fn : Fn) (first cap : Array Value) (w : World), (Instr.makeFunc fn first cap).run Try.prog w = .ok (.func fn first cap) w := fun _ _ _ _ => rfl
  have hp : f.ptr = .pointer (some ⟨f.p, 0, none⟩) := rfl
  have l := h.lt
  have HE := Lib.hid hev2
  clear hev2
  try rw [hp] at hstep
  rw [hp]
  clear hp
  go_enter_defers Try.func68, Try.ntmps68
  go_wp2_with fail
  refine (drain_ok ((h.alloc (.cells #[.pointer (some ⟨f.p, 0, none⟩)] 26)).alloc (.cells #[.int .i64 0] 31)) ha).mono ?_
  rintro e w1 ⟨rfl, d1, g1⟩
  have k0 := ((Cells.new w 26 #[.pointer (some ⟨f.p, 0, none⟩)]).alloc (.cells #[.int .i64 0] 31)).grown g1 (by simp; omega)
  have k1 := (Cells.new (w.alloc (.cells #[.pointer (some ⟨f.p, 0, none⟩)] 26)) 31 #[.int .i64 0]).grown g1 (by simp; omega)
  rw [World.size_alloc] at k1
  have t1 : Turn w w1 f.blocks := (Turn.ofBelow (((Below.refl _ _).alloc (Nat.le_refl _) _).alloc (by simp) _)).trans (Turn.grown g1 (memP f)) (fun x hx => .inl hx)
  go_wp2_with fail
  refine (hstep w1 t1 d1).mono ?_
  rintro e w2 ⟨rfl, f2, d2, e2, n2, t2⟩
  have k0' := k0.turn d1 (by decide) (by decide) t2
  have k1' := k1.turn d1 (by decide) (by decide) t2
  have s1 := g1.size
  simp only [World.size_alloc] at s1
  have hne : ∀ k ∈ f2.blocks, k ≠ w.heap.size + 1 := fun k hk => by
    rcases n2 k hk with h1 | h1
    · simp [Fp.blocks] at h1; omega
    · omega
  have hge := h.good.ev
  have c0 : w2.cell? ⟨w.heap.size, 0, none⟩ = some (.pointer (some ⟨f.p, 0, none⟩)) := k0'.cell 0
  have c1 : w2.cell? ⟨w.heap.size + 1, 0, none⟩ = some (.int .i64 0) := k1'.cell 0
  have z1 := k1'.free 0
  have c3 := d2.reads.c3
  have z3 := d2.free 3
  rw [HE.out, e2] at c3
  rw [e2] at z3
  have hv : (w2.setCell ⟨f.p, 3, none⟩ (.int .i64 (σ.ev + 1))).frozen? ⟨w.heap.size + 1, 0, none⟩ = false := by simpa [go_sem] using z1
  have T := Lib.hid t1
  have T2 := Lib.hid t2
  have K1 := Lib.hid k1'
  have N2 := Lib.hid n2
  have HN := Lib.hid hne
  have D2 := Lib.hid d2
  have E2 := Lib.hid e2
  clear hne t1 t2 k1' n2 d2 k0 k0' k1 g1 d1 hstep e2
  go_wp2_with fail
  refine leaves_cons (f := 78) (args := #[.pointer (some ⟨w.heap.size, 0, none⟩), .pointer (some ⟨w.heap.size + 1, 0, none⟩)]) (by simp) (by simp [go_sem]) ?_
  refine (catch_idle ⟨w.heap.size, 0, none⟩ ⟨w.heap.size + 1, 0, none⟩ _).mono ?_
  rintro e u' w'' ⟨rfl, rfl, rfl⟩
  have hx : ((w2.setCell ⟨f.p, 3, none⟩ (.int .i64 (σ.ev + 1))).setCell ⟨w.heap.size + 1, 0, none⟩ (.int .i64 0)).cell? ⟨w.heap.size + 1, 0, none⟩ = some (.int .i64 0) :=
    ((K1.out.far (p := ⟨f.p, 3, none⟩) (by simp; omega) (.int .i64 (σ.ev + 1))).set 0 (.int .i64 0)).cell 0
  have G : Goes w f σ2.counted ((w2.setCell ⟨f.p, 3, none⟩ (.int .i64 (σ.ev + 1))).setCell ⟨w.heap.size + 1, 0, none⟩ (.int .i64 0)) := by
    have hne := HN.out
    have d3 := ((D2.out).setEv (σ.ev + 1) (by omega)).far (p := ⟨w.heap.size + 1, 0, none⟩) (fun hm => hne _ hm rfl) (.int .i64 0)
    rw [E2.out] at d3
    have e4 : ({ σ2 with ev := σ.ev + 1 } : St) = σ2.counted := by unfold St.counted; rw [HE.out]
    rw [e4] at d3
    have t3 := T.out.trans T2.out (fun x hx => .inl hx)
    have t4 := (t3.trans (Turn.set w2 (p := ⟨f.p, 3, none⟩) (memP f) (.int .i64 (σ.ev + 1))) (fun x hx => .inl hx)).trans (Turn.set (S := [w.heap.size + 1]) _ (p := ⟨w.heap.size + 1, 0, none⟩) (by simp) (.int .i64 0)) (fun x hx => by simp at hx; right; omega)
    exact ⟨f2, d3, E2.out, fun k hk => by
      rcases N2.out k hk with h1 | h1
      · exact .inl h1
      · right; omega, t4⟩
  have HG := Lib.hid G
  clear G HN D2 K1 N2 T T2 E2 HE
  simp [Leaves, settle, results, Try.results68, go_sem]
  refine ⟨.int .i64 0, ?_, rfl, HG.out⟩
  rw [hx]
end Go.Proofs.Ytnjikgcigobcdaa
