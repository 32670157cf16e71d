import Derived.Test.YtnjikgcigobcdaaPmFl
namespace Go.Proofs.Ytnjikgcigobcdaa
open Wd Pm Go.Maps Go.RowKit
set_option linter.unusedVariables false

/-! what a fence makes of a device; on its way there are still those of left -/
def perSt (σ : St) (left : Int → Bool) : Int → Int := fun x => if left x = true then σ.st x else (σ.sn x).getD (σ.st x)
def perHd (σ : St) (left : Int → Bool) : IFn := fun x => if left x = false ∧ (σ.sn x).isSome = true ∧ σ.hd x = σ.sn x then none else σ.hd x
def St.per (σ : St) (left : Int → Bool) : St := { σ with st := perSt σ left, hd := perHd σ left }
def St.persist (σ : St) : St := { σ with st := perSt σ (fun _ => false), hd := perHd σ (fun _ => false), sn := fun _ => none }

theorem per_start (σ : St) : σ.per (fun x => (σ.sn x).isSome) = σ := by
  have e1 : perSt σ (fun x => (σ.sn x).isSome) = σ.st := by
    funext x; unfold perSt
    cases h : σ.sn x <;> simp [h]
  have e2 : perHd σ (fun x => (σ.sn x).isSome) = σ.hd := by
    funext x; unfold perHd
    rw [if_neg (fun ⟨h1, h2, _⟩ => by simp only at h1; rw [h2] at h1; cases h1)]
  unfold St.per
  rw [e1, e2]
theorem per_st {σ : St} {left : Int → Bool} {x c : Int} (hl : left x = true) (hs : σ.sn x = some c) : (fun y => if y = x then c else perSt σ left y) = perSt σ (strike left x) := by
  funext y
  unfold perSt strike
  by_cases e : y = x
  · subst e; simp [hs]
  · simp [e]
theorem per_hd_yes {σ : St} {left : Int → Bool} {x c : Int} (hl : left x = true) (hs : σ.sn x = some c) (hq : (σ.hd x).getD 0 = c) : (fun y => if y = x then none else perHd σ left y) = perHd σ (strike left x) := by
  funext y
  unfold perHd strike
  by_cases e : y = x
  · subst e
    cases hh : σ.hd y with
    | none => simp
    | some d => rw [hh] at hq; simp at hq; simp [hs, hq]
  · simp [e]
theorem per_hd_no {σ : St} {left : Int → Bool} {x c : Int} (hl : left x = true) (hs : σ.sn x = some c) (hq : (σ.hd x).getD 0 ≠ c) : perHd σ left = perHd σ (strike left x) := by
  funext y
  unfold perHd strike
  by_cases e : y = x
  · subst e
    cases hh : σ.hd y with
    | none => simp
    | some d => rw [hh] at hq; simp at hq; simp [hs, hq, hl]
  · simp [e]
theorem in_per {σ : St} (g : Good σ) (left : Int → Bool) : ∀ x c, perHd σ left x = some c → 0 ≤ x ∧ x < σ.n ∧ U64 c := by
  intro x c h
  unfold perHd at h
  split at h
  · cases h
  · exact g.hd x c h
theorem per_end {σ : St} {left : Int → Bool} (h : ∀ x, left x = false) : σ.per left = { σ with st := perSt σ (fun _ => false), hd := perHd σ (fun _ => false) } := by
  have : left = fun _ => false := funext h
  rw [this]; rfl

theorem Dev.grownOut {w w' : World} {f : Fp} {σ : St} {r : Nat} (h : Dev w f σ) (g : w.grownBy w' (some r)) (hr : r ∉ f.blocks) : Dev w' f σ :=
  h.keep fun k hk => g.block k (by have := h.lt; simp [Fp.blocks] at hk; omega) (fun e => hr (by have := Option.some.inj e; subst this; exact hk))
/-- a new map for what is on its way -/
theorem Dev.newN {w : World} {f : Fp} {σ : St} (h : Dev w f σ) : Dev ((w.alloc (.map #[] 0)).setCell ⟨f.p, 2, none⟩ (.map (some w.heap.size))) { f with bn := w.heap.size } { σ with sn := fun _ => none } := by
  have n := h.ne
  have l := h.lt
  have h' := h.alloc (.map #[] 0)
  obtain ⟨h1, h2, h3, h4, h5, h6⟩ := h'
  refine ⟨h1.set 2 _, h2.far (by exact n.1.symm) _, h3.same (Below.heap_setCell _ _ _ _ n.2.1), ?_, by simp; omega, ?_⟩
  · exact ((Mp.made w _ _ _).mono (Nat.zero_le _)).same (Below.heap_setCell _ _ _ _ (by simp; omega))
  · exact ⟨h6.nle, h6.st, h6.hd, (fun x c hc => by cases hc), h6.ev, h6.ar⟩

def PerRel (w : World) (f : Fp) (σ : St) (wr : World) : Prop := ∃ left cnt, Rg Try.prog 3 49 wr f.bn w.heap.size σ.n σ.sn left cnt ∧ Dev wr f (σ.per left) ∧ Turn w wr f.blocks

set_option maxRecDepth 100000 in
theorem persist_dev {w : World} {f : Fp} {σ : St} (h : Dev w f σ) : Calls Try.prog 74 #[f.ptr] w fun e w' => e = .returned (.tuple #[]) ∧ Goes w f σ.persist w' := by
  have hp : f.ptr = .pointer (some ⟨f.p, 0, none⟩) := rfl
  rw [hp]
  clear hp
  have c2 := h.reads.c2
  have hout := h.out (Nat.le_refl _)
  have HOUT := Lib.hid hout
  have hl := h.lt
  have g0 := h.good
  have hmm := @run_makeMap Try.prog
  clear hout
  go_enter Try.func74, Try.ntmps74
  go_wp2_with (first
    | (at_range; refine wp_range _ rfl _ 71 rfl keyedInt Try.underlying71 rfl h.2.2.2.1 ?_; intro w0 cnt0 hrg0 hg0 hs0)
    | fail)
  go_frame
  go_loopw [] (fun wr => PerRel w f σ wr) (fun wr => wr.rangeLeft f.bn w.heap.size)
  case atStart =>
    refine ⟨_, _, hrg0, ?_, Turn.none hg0⟩
    rw [per_start]
    exact h.below (below_of_grown hg0)
  case round =>
    obtain ⟨left, cnt, hrg, hd, ht⟩ := hrel
    have HRG := Lib.hid hrg
    have HD := Lib.hid hd
    have HT := Lib.hid ht
    clear hrg hd ht hg0 hs0 hrg0 c2
    go_wp2_with (first
      | (at_next; refine wp_next _ rfl _ rfl keyedInt Try.underlying3 Try.underlying49 rfl HRG.out ?_ ?_)
      | fail)
    · intro _ hl0
      have hd := HD.out
      rw [per_end hl0] at hd
      have dn := hd.newN
      have z2 := (hd.alloc (.map #[] 0)).free 2
      have c2 := (hd.alloc (.map #[] 0)).reads.c2
      have HDN := Lib.hid dn
      have HL := Lib.hid hl0
      clear hd dn hl0
      go_wp2
      go_end0
      refine ⟨rfl, _, HDN.out, rfl, fun k hk => ?_, ?_⟩
      · have hs := HT.out.size
        simp [Fp.blocks] at hk ⊢
        omega
      · exact (HT.out.trans (Turn.ofBelow (S := []) ((Below.refl _ _).alloc (Nat.le_refl _) _)) (fun x hx => by cases hx)).trans (Turn.set _ (p := ⟨f.p, 2, none⟩) (memP f) _) (fun x hx => .inl hx)
    · intro x c w1 cnt1 hlx hsx hrg1 hlt hg1 hs1 hen
      have hd1 := HD.out.grownOut hg1 HOUT.out
      obtain ⟨x0, xn, xc⟩ := g0.sn x c hsx
      obtain ⟨j, rfl⟩ := Int.eq_ofNat_of_zero_le x0
      have hj : j < σ.n := by omega
      have nle := g0.nle
      have hw := wf_i (x := (j : Int)) (by omega) (by omega)
      have r0 := hd1.reads.c0
      have cw := hd1.word j hj
      have zw := hd1.2.1.free j
      have r1 : (w1.setCell ⟨f.bs, j, none⟩ (.int .u64 c)).cell? ⟨f.p, 1, none⟩ = some (.map (some f.bh)) := (hd1.setW j hj c xc).reads.c1
      have hd2 := hd1.setW j hj c xc
      have e1 : (fun y => if y = (j : Int) then c else perSt σ left y) = perSt σ (strike left j) := per_st hlx hsx
      have hd2' : Dev (w1.setCell ⟨f.bs, j, none⟩ (.int .u64 c)) f { σ with st := perSt σ (strike left j), hd := perHd σ left } := by rw [← e1]; exact hd2
      have hr2 : Rg Try.prog 3 49 (w1.setCell ⟨f.bs, j, none⟩ (.int .u64 c)) f.bn w.heap.size σ.n σ.sn (strike left j) cnt1 :=
        hrg1.kept (grown_set (World.grownBy.refl w1 (some f.bs)) j (.int .u64 c)) (by have := h.ne; simpa using this.2.2.2.2.1) (by simp; omega)
      obtain ⟨v, hv⟩ : ∃ v, (σ.hd (j : Int)).getD 0 = v := ⟨_, rfl⟩
      have hv' : (perHd σ left (j : Int)).getD 0 = v := by
        have : perHd σ left (j : Int) = σ.hd j := by unfold perHd; rw [if_neg (by rw [hlx]; simp)]
        rw [this]; exact hv
      have T1 : Turn w (w1.setCell ⟨f.bs, j, none⟩ (.int .u64 c)) f.blocks := (HT.out.trans (Turn.grown (S := [w.heap.size]) hg1 (by simp)) (fun x hx => by simp at hx; right; omega)).trans (Turn.set _ (p := ⟨f.bs, j, none⟩) (memS f) _) (fun x hx => .inl hx)
      have HD2 := Lib.hid hd2'
      have HR2 := Lib.hid hr2
      have HT1 := Lib.hid T1
      have HLX := Lib.hid hlx
      have HSX := Lib.hid hsx
      have HV := Lib.hid hv'
      have HV0 := Lib.hid hv
      have HRG1 := Lib.hid hrg1
      have HLT := Lib.hid hlt
      clear hd1 hd2 hd2' hr2 T1 hlx hsx hv' hv hrg1 hlt hg1 hs1 e1
      by_cases hq : v = c
      · have hqb : (v == c) = true := by simpa using hq
        have HQ := Lib.hid hq
        clear hq
        go_wp2_with (first
          | (at_lookup; refine wp_look_val _ rfl _ _ 71 rfl keyedInt Try.underlying71 Try.underlying49 Try.underlying3 (zeroU _) rfl HD2.out.2.2.1 _ rfl hw v HV.out ?_)
          | (at_delete; refine wp_drop _ rfl _ _ 71 rfl keyedInt Try.underlying71 Try.underlying3 rfl HD2.out.2.2.1 _ rfl hw ?_; intro w2 hM hT)
          | fail)
        refine ⟨⟨strike left j, cnt1, HR2.out.kept hT.grown (by have := h.ne; simp; omega) (by simp; omega), ?_, HT1.out.trans (Turn.grown hT.grown (memH f)) (fun x hx => .inl hx)⟩, ?_⟩
        · have e2 := per_hd_yes HLX.out HSX.out (HV0.out.trans HQ.out)
          have hM' := hM.congr (fun x => congrFun e2 x)
          exact HD2.out.turnH hT hM' (in_per g0 _)
        · rw [(HR2.out.kept hT.grown (by have := h.ne; simp; omega) (by simp; omega)).left_eq, HRG.out.left_eq]
          exact HLT.out
      · have hqb : (v == c) = false := by simpa using hq
        have HQ := Lib.hid hq
        clear hq
        go_wp2_with (first
          | (at_lookup; refine wp_look_val _ rfl _ _ 71 rfl keyedInt Try.underlying71 Try.underlying49 Try.underlying3 (zeroU _) rfl HD2.out.2.2.1 _ rfl hw v HV.out ?_)
          | fail)
        refine ⟨⟨strike left j, cnt1, HR2.out, ?_, HT1.out⟩, ?_⟩
        · have e2 := per_hd_no HLX.out HSX.out (by rw [HV0.out]; exact HQ.out)
          have hd3 := HD2.out
          rw [e2] at hd3
          exact hd3
        · rw [HR2.out.left_eq, HRG.out.left_eq]
          exact HLT.out
end Go.Proofs.Ytnjikgcigobcdaa
