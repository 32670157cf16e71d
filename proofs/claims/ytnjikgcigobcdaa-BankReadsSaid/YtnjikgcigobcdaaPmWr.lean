import Derived.Test.YtnjikgcigobcdaaPmSmall
namespace Go.Proofs.Ytnjikgcigobcdaa
open Wd Pm Go.Maps Go.RowKit
set_option linter.unusedVariables false

/-! a device behind a write -/
section
variable {w w' : World} {f : Fp} {σ : St}
theorem Dev.setAr (h : Dev w f σ) (a : Int) (ha : 0 ≤ a ∧ a ≤ 9223372036854775807) : Dev (w.setCell ⟨f.p, 4, none⟩ (.int .i64 a)) f { σ with ar := a } := by
  have n := h.ne
  obtain ⟨h1, h2, h3, h4, h5, h6⟩ := h
  refine ⟨h1.set 4 _, h2.far (by exact n.1.symm) _, h3.same (Below.heap_setCell _ _ _ _ n.2.1), h4.same (Below.heap_setCell _ _ _ _ n.2.2.1), h5, ?_⟩
  exact ⟨h6.nle, h6.st, h6.hd, h6.sn, h6.ev, ha⟩
theorem Dev.setEv (h : Dev w f σ) (a : Int) (ha : 0 ≤ a ∧ a ≤ 4611686018427387904) : Dev (w.setCell ⟨f.p, 3, none⟩ (.int .i64 a)) f { σ with ev := a } := by
  have n := h.ne
  obtain ⟨h1, h2, h3, h4, h5, h6⟩ := h
  refine ⟨h1.set 3 _, h2.far (by exact n.1.symm) _, h3.same (Below.heap_setCell _ _ _ _ n.2.1), h4.same (Below.heap_setCell _ _ _ _ n.2.2.1), h5, ?_⟩
  exact ⟨h6.nle, h6.st, h6.hd, h6.sn, ha, h6.ar⟩
theorem Dev.setDead (h : Dev w f σ) (a : Bool) : Dev (w.setCell ⟨f.p, 5, none⟩ (.bool a)) f { σ with dead := a } := by
  have n := h.ne
  obtain ⟨h1, h2, h3, h4, h5, h6⟩ := h
  refine ⟨h1.set 5 _, h2.far (by exact n.1.symm) _, h3.same (Below.heap_setCell _ _ _ _ n.2.1), h4.same (Below.heap_setCell _ _ _ _ n.2.2.1), h5, ?_⟩
  exact ⟨h6.nle, h6.st, h6.hd, h6.sn, h6.ev, h6.ar⟩
theorem Dev.setW (h : Dev w f σ) (i : Nat) (hi : i < σ.n) (v : Int) (hv : U64 v) : Dev (w.setCell ⟨f.bs, i, none⟩ (.int .u64 v)) f { σ with st := fun y => if y = i then v else σ.st y } := by
  have n := h.ne
  obtain ⟨h1, h2, h3, h4, h5, h6⟩ := h
  refine ⟨h1.far (by exact n.1) _, ?_, h3.same (Below.heap_setCell _ _ _ _ n.2.2.2.1), h4.same (Below.heap_setCell _ _ _ _ n.2.2.2.2.1), h5, ?_⟩
  · have := h2.set i (.int .u64 v)
    have e : σ.row.setIfInBounds i (.int .u64 v) = ({ σ with st := fun y => if y = i then v else σ.st y } : St).row := by
      apply Array.ext_getElem?
      intro j
      by_cases e : j = i
      · subst e
        rw [Array.getElem?_setIfInBounds_self_of_lt (by simp [St.row, hi]), St.row_at { σ with st := fun y => if y = (j : Int) then v else σ.st y } j hi]
        simp
      · rw [Array.getElem?_setIfInBounds_ne (Ne.symm e)]
        by_cases hj : j < σ.n
        · rw [σ.row_at j hj, St.row_at { σ with st := fun y => if y = (i : Int) then v else σ.st y } j hj]
          have e' : ¬ (j : Int) = i := by omega
          simp [e']
        · simp [St.row, hj]
    rw [Array.setIfInBounds_append_left (by simpa [St.row] using hi), e] at this
    exact this
  · refine ⟨h6.nle, fun x hx hx' => ?_, h6.hd, h6.sn, h6.ev, h6.ar⟩
    show U64 (if x = i then v else σ.st x)
    split
    · exact hv
    · exact h6.st x hx hx'
theorem few_of {F : IFn} {n : Nat} (h : ∀ x c, F x = some c → 0 ≤ x ∧ x < n ∧ U64 c) : ∀ x, (F x).isSome = true → 0 ≤ x ∧ x < n := fun x hx => by
  obtain ⟨c, hc⟩ := Option.isSome_iff_exists.1 hx
  exact ⟨(h x c hc).1, (h x c hc).2.1⟩
/-- the map of what dirty words hold has turned -/
theorem Dev.turnH (h : Dev w f σ) (ht : w.mapTurned w' f.bh) {m : Nat} {F : IFn} (hm : Mp Try.prog 3 49 w' f.bh m F) (hF : ∀ x c, F x = some c → 0 ≤ x ∧ x < σ.n ∧ U64 c) : Dev w' f { σ with hd := F } := by
  have n := h.ne
  obtain ⟨h1, h2, h3, h4, h5, h6⟩ := h
  have g := ht.grown
  refine ⟨h1.grown g (by simpa using n.2.1.symm), h2.grown g (by simpa using n.2.2.2.1.symm), hm.few keyedInt Try.underlying3 (few_of hF), h4.kept g (by simpa using h5.symm), h5, ?_⟩
  exact ⟨h6.nle, h6.st, hF, h6.sn, h6.ev, h6.ar⟩
/-- the map of what is on its way has turned -/
theorem Dev.turnN (h : Dev w f σ) (ht : w.mapTurned w' f.bn) {m : Nat} {F : IFn} (hm : Mp Try.prog 3 49 w' f.bn m F) (hF : ∀ x c, F x = some c → 0 ≤ x ∧ x < σ.n ∧ U64 c) : Dev w' f { σ with sn := F } := by
  have n := h.ne
  obtain ⟨h1, h2, h3, h4, h5, h6⟩ := h
  have g := ht.grown
  refine ⟨h1.grown g (by simpa using n.2.2.1.symm), h2.grown g (by simpa using n.2.2.2.2.1.symm), h3.kept g (by simpa using h5), hm.few keyedInt Try.underlying3 (few_of hF), h5, ?_⟩
  exact ⟨h6.nle, h6.st, h6.hd, hF, h6.ev, h6.ar⟩
theorem memP (f : Fp) : f.p ∈ f.blocks := by simp [Fp.blocks]
theorem memS (f : Fp) : f.bs ∈ f.blocks := by simp [Fp.blocks]
theorem memH (f : Fp) : f.bh ∈ f.blocks := by simp [Fp.blocks]
theorem memN (f : Fp) : f.bn ∈ f.blocks := by simp [Fp.blocks]
theorem Goes.mk' {σ' : St} (d : Dev w' f σ') (t : Turn w w' f.blocks) : Goes w f σ' w' := ⟨f, d, rfl, fun k hk => .inl hk, t⟩
end

/-! what a word stays as, what it holds -/
@[irreducible] def St.stays (σ : St) (i : Int) : Int := if hasW σ.n i then σ.st i else 0
@[irreducible] def St.load (σ : St) (i : Int) : Int := (σ.hd i).getD (σ.st i)

theorem arm_dev {w : World} {f : Fp} {σ : St} (h : Dev w f σ) (n : Int) (hn : n ≤ 9223372036854775807) : Calls Try.prog 15 #[f.ptr, .int .i64 n] w fun e w' => e = .returned (.tuple #[]) ∧ Goes w f { σ with ar := max n 0 } w' := by
  have c4 := h.reads.c4
  have z4 := h.free 4
  have hd := h.setAr (max n 0) (by omega)
  unfold Fp.ptr
  go_enter Try.func15, Try.ntmps15
  go_wp2_with (go_at_call 45; refine (made_dev h).mono ?_; rintro e w' ⟨rfl, rfl⟩)
  go_end0
  exact ⟨rfl, Goes.mk' hd (Turn.set _ (memP f) _)⟩
theorem arm_nil (w : World) (n : Int) : Calls Try.prog 15 #[.pointer none, .int .i64 n] w fun e w' => e = .returned (.tuple #[]) ∧ w = w' := by
  go_enter Try.func15, Try.ntmps15
  go_wp2_with (go_at_call 45; refine (made_nil _).mono ?_; rintro e w' ⟨rfl, rfl⟩)
  go_end0
  exact ⟨rfl, rfl⟩

/-! power that runs out -/
theorem drain_off {w : World} {f : Fp} {σ : St} (h : Dev w f σ) (ha : σ.ar = 0) : Calls Try.prog 79 #[f.ptr] w fun e w' => e = .returned (.tuple #[]) ∧ w = w' := by
  have c4 := h.reads.c4
  rw [ha] at c4
  unfold Fp.ptr
  clear ha
  go_enter Try.func79, Try.ntmps79
  go_wp2
  refine bodyPost_ret (results_none rfl _ _ _) rfl ?_
  exact ⟨rfl, rfl⟩
theorem drain_on {w : World} {f : Fp} {σ : St} (h : Dev w f σ) (ha : 1 < σ.ar) : Calls Try.prog 79 #[f.ptr] w fun e w' => e = .returned (.tuple #[]) ∧ w.setCell ⟨f.p, 4, none⟩ (.int .i64 (σ.ar - 1)) = w' := by
  have c4 := h.reads.c4
  have z4 := h.free 4
  have g := h.good.ar
  have e1 : (σ.ar == 0) = false := by simp; omega
  have e2 : (σ.ar - 1 == 0) = false := by simp; omega
  unfold Fp.ptr
  go_enter Try.func79, Try.ntmps79
  go_wp2
  go_end0
  exact ⟨rfl, rfl⟩
theorem drain_end {w : World} {f : Fp} {σ : St} (h : Dev w f σ) (ha : σ.ar = 1) : Calls Try.prog 79 #[f.ptr] w fun e w' => (∃ pv : Value, e = .panicked [{ v := .iface 9 pv, recovered := false }]) ∧ w.setCell ⟨f.p, 4, none⟩ (.int .i64 0) = w' := by
  have c4 := h.reads.c4
  have z4 := h.free 4
  rw [ha] at c4
  unfold Fp.ptr
  clear ha
  go_enter Try.func79, Try.ntmps79
  go_wp2
  exact ⟨rfl, ⟨_, rfl⟩, rfl⟩
end Go.Proofs.Ytnjikgcigobcdaa
