import Derived.Test.YtnjikgcigobcdaaGreatPmDg
import Derived.Test.YtnjikgcigobcdaaGreatPmCo
namespace Go.Proofs.YtnjikgcigobcdaaGreat
open Wd Pm Go.Maps Go.RowKit
set_option linter.unusedVariables false

/-! both devices, word for word and beside -/
structure Same (σ : St) (ρ : RSt) : Prop where
  n : ρ.n = σ.n
  ar : ρ.ar = σ.ar
  dead : ρ.dead = σ.dead
  ev : ρ.ev = σ.ev
  pos : 0 ≤ σ.ar
  l : AlikeL σ ρ.l
theorem AlikeL.of {σ σ' : St} {l : List RW} (h : AlikeL σ l) (h1 : σ'.st = σ.st) (h2 : σ'.hd = σ.hd) (h3 : σ'.sn = σ.sn) : AlikeL σ' l :=
  ⟨h.rise, fun r hr => by have w := h.word r hr; exact ⟨by rw [h1]; exact w.st, by rw [h2]; exact w.hd, by rw [h3]; exact w.sn, w.way, w.clean⟩, fun x hx => by have b := h.blank x hx; exact ⟨by rw [h1]; exact b.st, by rw [h2]; exact b.hd, by rw [h3]; exact b.sn⟩⟩
structure PlainR (go : RSt → RSt) : Prop where
  n : ∀ ρ, (go ρ).n = ρ.n
  ev : ∀ ρ, (go ρ).ev = ρ.ev
  ar : ∀ ρ, (go ρ).ar = ρ.ar
  dead : ∀ ρ, (go ρ).dead = ρ.dead
theorem plainR_store (i v : Int) : PlainR (RSt.store i v) := ⟨fun _ => rfl, fun _ => rfl, fun _ => rfl, fun _ => rfl⟩
theorem plainR_flush (i : Int) : PlainR (RSt.flush i) := ⟨fun _ => rfl, fun _ => rfl, fun _ => rfl, fun _ => rfl⟩
theorem plainR_fence : PlainR RSt.fence := ⟨fun _ => rfl, fun _ => rfl, fun _ => rfl, fun _ => rfl⟩
theorem same_tried {σ : St} {ρ : RSt} (h : Same σ ρ) (b : Bool) {go : St → St} {rgo : RSt → RSt} (p : Plain go) (pr : PlainR rgo) (hgo : ∀ σ ρ, AlikeL σ ρ.l → AlikeL (go σ) (rgo ρ).l) :
    (σ.tried b go).2 = (ρ.tried b rgo).2 ∧ Same (σ.tried b go).1 (ρ.tried b rgo).1 := by
  have hpos := h.pos
  unfold St.tried RSt.tried
  rw [h.dead, h.ar]
  split
  · split
    · exact ⟨rfl, ⟨h.n, rfl, rfl, h.ev, Int.le_refl 0, h.l.of rfl rfl rfl⟩⟩
    · rename_i h1
      refine ⟨rfl, ⟨?_, ?_, ?_, ?_, ?_, ?_⟩⟩
      · show (rgo ρ.evn.1).n = (go σ.drained).n
        rw [pr.n, p.n]
        unfold RSt.evn
        rw [if_neg (by rw [h.ar]; exact h1)]
        exact h.n
      · show (rgo ρ.evn.1).ar = (go σ.drained).ar
        rw [pr.ar, p.ar]
        unfold RSt.evn St.drained
        rw [if_neg (by rw [h.ar]; exact h1)]
        show (if 1 < ρ.ar then ρ.ar - 1 else ρ.ar) = if σ.ar = 0 then 0 else σ.ar - 1
        rw [h.ar]
        split <;> split <;> omega
      · show (rgo ρ.evn.1).dead = (go σ.drained).dead
        rw [pr.dead, p.dead]
        unfold RSt.evn
        rw [if_neg (by rw [h.ar]; exact h1)]
        exact h.dead
      · show (rgo ρ.evn.1).ev = (go σ.drained).ev + 1
        rw [pr.ev, p.ev]
        unfold RSt.evn
        rw [if_neg (by rw [h.ar]; exact h1)]
        show ρ.ev + 1 = σ.ev + 1
        rw [h.ev]
      · show 0 ≤ (go σ.drained).ar
        rw [p.ar]
        show 0 ≤ if σ.ar = 0 then 0 else σ.ar - 1
        split <;> omega
      · have : AlikeL (go σ.drained) (rgo ρ.evn.1).l := by
          refine hgo _ _ ?_
          unfold RSt.evn
          rw [if_neg (by rw [h.ar]; exact h1)]
          exact h.l.of rfl rfl rfl
        exact this.of rfl rfl rfl
  · exact ⟨rfl, h⟩
theorem hasW_in {σ : St} {ρ : RSt} (h : Same σ ρ) (i : Int) : hasW σ.n i = inB i ρ.n := by
  rw [h.n]
  cases hb : inB i (σ.n : Int) with
  | true => exact hasW_iff.2 (inB_iff.1 hb)
  | false => exact hasW_no.2 (inB_no.1 hb)
theorem hasL_in {σ : St} {ρ : RSt} (h : Same σ ρ) (i : Int) : hasL σ.n i = inB i ((ρ.n + 7) / 8) := by
  rw [h.n]
  cases hb : inB i (((σ.n : Int) + 7) / 8) with
  | true => exact hasL_iff.2 (inB_iff.1 hb)
  | false => exact hasL_no.2 (inB_no.1 hb)
theorem same_store {σ : St} {ρ : RSt} (h : Same σ ρ) (i v : Int) : (σ.tried (hasW σ.n i) (·.hold i v)).2 = (ρ.tried (inB i ρ.n) (RSt.store i v)).2 ∧ Same (σ.tried (hasW σ.n i) (·.hold i v)).1 (ρ.tried (inB i ρ.n) (RSt.store i v)).1 := by
  rw [hasW_in h i]
  exact same_tried h _ (plain_hold i v) (plainR_store i v) fun σ ρ a => alike_store a i v
theorem same_flush {σ : St} {ρ : RSt} (h : Same σ ρ) (i : Int) : (σ.tried (hasL σ.n i) (·.send i)).2 = (ρ.tried (inB i ((ρ.n + 7) / 8)) (RSt.flush i)).2 ∧ Same (σ.tried (hasL σ.n i) (·.send i)).1 (ρ.tried (inB i ((ρ.n + 7) / 8)) (RSt.flush i)).1 := by
  rw [hasL_in h i]
  exact same_tried h _ (plain_send i) (plainR_flush i) fun σ ρ a => alike_flush a i
theorem same_fence {σ : St} {ρ : RSt} (h : Same σ ρ) : (σ.tried true St.persist).2 = (ρ.tried true RSt.fence).2 ∧ Same (σ.tried true St.persist).1 (ρ.tried true RSt.fence).1 :=
  same_tried h _ plain_persist plainR_fence fun σ ρ a => alike_fence a
theorem same_crash {σ : St} {ρ : RSt} (h : Same σ ρ) (keep : List Bool) {ks : List Int} (hk : KeysOf σ.hd ks) : Same (σ.crash ks keep) (ρ.crash keep) := ⟨h.n, rfl, rfl, h.ev, Int.le_refl 0, alike_crash h.l keep hk⟩
theorem same_arm {σ : St} {ρ : RSt} (h : Same σ ρ) (n : Int) : Same { σ with ar := max n 0 } { ρ with ar := max n 0 } := ⟨h.n, rfl, h.dead, h.ev, by show 0 ≤ max n 0; omega, h.l.of rfl rfl rfl⟩
theorem same_evict {σ : St} {ρ : RSt} (h : Same σ ρ) (hat : ∀ r ∈ ρ.l, 0 ≤ r.at_ ∧ r.at_ < ρ.n) (line : Int) : (σ.evict line).2 = ρ.l.any (RW.hit ρ.dead line) ∧ Same (σ.evict line).1 (ρ.evict line) := by
  have none_hit : refErr σ.dead (hasL σ.n line) ≠ 0 → ∀ r ∈ ρ.l, r.hit ρ.dead line = false := fun he r hr => by
    cases hh : r.hit ρ.dead line with
    | false => rfl
    | true =>
      exfalso
      unfold RW.hit at hh
      simp only [Bool.and_eq_true, Bool.not_eq_true', decide_eq_true_eq] at hh
      refine he ?_
      have hl : hasL σ.n line = true := hasL_iff.2 (by have := hat r hr; have := h.n; omega)
      rw [hl, ← h.dead, hh.1.1]
      exact ref0
  unfold St.evict
  split
  · rename_i he
    obtain ⟨hd, _⟩ := refErr_ok he
    have hrd : ρ.dead = false := h.dead.trans hd
    refine ⟨?_, ⟨h.n, h.ar, h.dead, h.ev, h.pos, ?_⟩⟩
    · show decide (0 < (dirtyL σ.hd (line * 8) 8).length) = _
      rw [hrd]
      cases hany : ρ.l.any (RW.hit false line) with
      | true =>
        obtain ⟨r, hr, hh⟩ := List.any_eq_true.1 hany
        have hm := (in_line (h.l.word r hr) line).2 (by unfold RW.hit at hh; simpa using hh)
        simpa using List.length_pos_of_mem hm
      | false =>
        have : dirtyL σ.hd (line * 8) 8 = [] := List.eq_nil_iff_forall_not_mem.2 fun x hx => by
          cases hf : findL x ρ.l with
          | none => exact blank_line (h.l.blank x (find_no hf)) _ _ hx
          | some r =>
            obtain ⟨hm, rfl⟩ := find_mem hf
            have h2 := (in_line (h.l.word r hm) line).1 hx
            have h3 := List.any_eq_false.1 hany r hm
            exact h3 (by unfold RW.hit; simp [h2])
        rw [this]; rfl
    · show AlikeL _ (ρ.l.map (RW.evict ρ.dead line))
      rw [hrd]
      exact alike_evict h.l line
  · rename_i he
    have hno := none_hit he
    refine ⟨?_, ⟨h.n, h.ar, h.dead, h.ev, h.pos, ?_⟩⟩
    · exact (List.any_eq_false.2 fun r hr => by rw [hno r hr]; exact fun e => Bool.noConfusion e).symm
    · show AlikeL σ (ρ.l.map (RW.evict ρ.dead line))
      have : ρ.l.map (RW.evict ρ.dead line) = ρ.l := by
        refine (List.map_congr_left fun r hr => ?_).trans (List.map_id _)
        unfold RW.evict
        rw [hno r hr, if_neg (fun e => Bool.noConfusion e)]
        rfl
      rw [this]
      exact h.l
end Go.Proofs.YtnjikgcigobcdaaGreat
