import Derived.Test.YtnjikgcigobcdaaGreatPmDc
import Derived.Test.YtnjikgcigobcdaaGreatPmTy
namespace Go.Proofs.YtnjikgcigobcdaaGreat
open Wd Pm Go.Maps Go.RowKit
set_option linter.unusedVariables false

/-! both devices, alike -/
structure Wrd (σ : St) (r : RW) : Prop where
  st : σ.st r.at_ = r.stays
  hd : σ.hd r.at_ = if r.dirty = true then some r.holds else none
  sn : σ.sn r.at_ = if r.way = true then some r.sent else none
  way : r.way = true → r.dirty = true
  clean : r.dirty = true → r.way = false → r.holds ≠ r.stays
structure Blank (σ : St) (x : Int) : Prop where
  st : σ.st x = 0
  hd : σ.hd x = none
  sn : σ.sn x = none
structure AlikeL (σ : St) (l : List RW) : Prop where
  rise : l.Pairwise (fun a b => a.at_ < b.at_)
  word : ∀ r ∈ l, Wrd σ r
  blank : ∀ x, (∀ r ∈ l, r.at_ ≠ x) → Blank σ x
theorem AlikeL.map {σ σ' : St} {l : List RW} (h : AlikeL σ l) (g : RW → RW) (hg : ∀ r, (g r).at_ = r.at_) (hw : ∀ r, Wrd σ r → Wrd σ' (g r)) (hb : ∀ x, Blank σ x → Blank σ' x) : AlikeL σ' (l.map g) := by
  refine ⟨?_, fun r' hr' => ?_, fun x hx => hb x (h.blank x fun r hr => ?_)⟩
  · rw [List.pairwise_map]
    exact h.rise.imp fun h => by rw [hg, hg]; exact h
  · obtain ⟨r, hr, rfl⟩ := List.mem_map.1 hr'
    exact hw r (h.word r hr)
  · have := hx (g r) (List.mem_map.2 ⟨r, hr, rfl⟩)
    rwa [hg] at this
theorem in_line {σ : St} {r : RW} (h : Wrd σ r) (line : Int) : r.at_ ∈ dirtyL σ.hd (line * 8) 8 ↔ r.at_ / 8 = line ∧ r.dirty = true := by
  rw [mem_dirtyL, h.hd]
  cases r.dirty <;> simp <;> omega
theorem blank_line {σ : St} {x : Int} (h : Blank σ x) (lo : Int) (m : Nat) : x ∉ dirtyL σ.hd lo m := by rw [mem_dirtyL, h.hd]; simp
theorem alike_flush {σ : St} {l : List RW} (h : AlikeL σ l) (line : Int) : AlikeL (σ.send line) (l.map (RW.flush line)) := by
  refine h.map _ (fun r => by unfold RW.flush; split <;> rfl) (fun r w => ?_) (fun x b => ⟨b.st, b.hd, ?_⟩)
  · have hm := in_line w line
    unfold RW.flush
    split
    · rename_i e
      refine ⟨w.st, w.hd, ?_, fun _ => e.2, fun _ e => by cases e⟩
      show sendL σ _ r.at_ = some r.holds
      unfold sendL
      rw [if_pos (hm.2 e), w.hd, if_pos e.2]
    · rename_i e
      refine ⟨w.st, w.hd, ?_, w.way, w.clean⟩
      show sendL σ _ r.at_ = _
      unfold sendL
      rw [if_neg (fun e2 => e (hm.1 e2)), w.sn]
  · show sendL σ _ x = none
    unfold sendL
    rw [if_neg (blank_line b _ _)]
    exact b.sn
/-- clean keeps a word what it is -/
theorem wrd_clean {σ : St} {r : RW} (hst : σ.st r.at_ = r.stays) (hhd : σ.hd r.at_ = if r.dirty = true ∧ ¬ (r.way = false ∧ r.holds = r.stays) then some r.holds else none) (hsn : σ.sn r.at_ = if r.way = true then some r.sent else none) (hway : r.way = true → r.dirty = true) : Wrd σ r.clean := by
  unfold RW.clean
  split
  · rename_i e
    refine ⟨hst, ?_, hsn, fun e2 => ?_, fun e2 => by cases e2⟩
    · show σ.hd r.at_ = _
      rw [hhd, if_neg (fun e2 => e2.2 e.2), if_neg (fun e2 => by cases e2)]
    · have : r.way = true := e2
      rw [e.2.1] at this; cases this
  · rename_i e
    refine ⟨hst, ?_, hsn, hway, fun e1 e2 e3 => e ⟨e1, e2, e3⟩⟩
    rw [hhd]
    by_cases hd : r.dirty = true
    · rw [if_pos hd, if_pos ⟨hd, fun e2 => e ⟨hd, e2⟩⟩]
    · rw [if_neg hd, if_neg (fun e2 => hd e2.1)]
theorem clean_at (r : RW) : r.clean.at_ = r.at_ := by unfold RW.clean; split <;> rfl
theorem alike_fence {σ : St} {l : List RW} (h : AlikeL σ l) : AlikeL σ.persist (l.map RW.fence) := by
  refine h.map _ (fun r => by unfold RW.fence; split; exact clean_at _; rfl) (fun r w => ?_) (fun x b => ⟨?_, ?_, rfl⟩)
  · unfold RW.fence
    split
    · rename_i e
      have hd := w.hd
      have sn := w.sn
      rw [if_pos e] at sn
      rw [if_pos (w.way e)] at hd
      refine wrd_clean ?_ ?_ ?_ (fun e2 => by cases e2)
      · show perSt σ (fun _ => false) r.at_ = r.sent
        unfold perSt
        rw [if_neg (fun e => Bool.noConfusion e), sn]; rfl
      · show perHd σ (fun _ => false) r.at_ = if r.dirty = true ∧ ¬ (false = false ∧ r.holds = r.sent) then some r.holds else none
        unfold perHd
        rw [hd, sn]
        by_cases e3 : r.holds = r.sent
        · rw [if_pos ⟨rfl, rfl, by rw [e3]⟩, if_neg (fun e2 => e2.2 ⟨rfl, e3⟩)]
        · rw [if_neg (fun e2 => e3 (Option.some.inj e2.2.2)), if_pos ⟨w.way e, fun e2 => e3 e2.2⟩]
      · show none = _
        rw [if_neg (fun e => by cases e)]
    · rename_i e
      have sn := w.sn
      rw [if_neg e] at sn
      refine ⟨?_, ?_, ?_, w.way, w.clean⟩
      · show perSt σ (fun _ => false) r.at_ = r.stays
        unfold perSt
        rw [if_neg (fun e => Bool.noConfusion e), sn]; exact w.st
      · show perHd σ (fun _ => false) r.at_ = _
        unfold perHd
        rw [if_neg (fun e2 => by rw [sn] at e2; cases e2.2.1)]; exact w.hd
      · rw [if_neg e]; rfl
  · show perSt σ (fun _ => false) x = 0
    unfold perSt
    rw [if_neg (fun e => Bool.noConfusion e), b.sn]; exact b.st
  · show perHd σ (fun _ => false) x = none
    unfold perHd
    rw [b.hd]; split <;> rfl
theorem alike_evict {σ : St} {l : List RW} (h : AlikeL σ l) (line : Int) : AlikeL (σ.drop (dirtyL σ.hd (line * 8) 8)) (l.map (RW.evict false line)) := by
  refine h.map _ (fun r => by unfold RW.evict; split; exact clean_at _; rfl) (fun r w => ?_) (fun x b => ?_)
  · have hm := in_line w line
    have hh : r.hit false line = true ↔ r.at_ / 8 = line ∧ r.dirty = true := by unfold RW.hit; simp
    unfold RW.evict
    split
    · rename_i e
      have e' := hm.2 (hh.1 e)
      have hd := w.hd
      rw [if_pos (hh.1 e).2] at hd
      refine wrd_clean ?_ ?_ ?_ (fun e2 => by cases e2)
      · show evSt σ _ r.at_ = r.holds
        unfold evSt
        rw [if_pos e', hd]; rfl
      · show delL σ.hd _ r.at_ = if r.dirty = true ∧ ¬ (false = false ∧ r.holds = r.holds) then some r.holds else none
        unfold delL
        rw [if_pos e', if_neg (fun e2 => e2.2 ⟨rfl, rfl⟩)]
      · show delL σ.sn _ r.at_ = _
        unfold delL
        rw [if_pos e', if_neg (fun e => by cases e)]
    · rename_i e
      have e' : r.at_ ∉ dirtyL σ.hd (line * 8) 8 := fun e2 => e (hh.2 (hm.1 e2))
      refine ⟨?_, ?_, ?_, w.way, w.clean⟩
      · show evSt σ _ r.at_ = _
        unfold evSt; rw [if_neg e']; exact w.st
      · show delL σ.hd _ r.at_ = _
        unfold delL; rw [if_neg e']; exact w.hd
      · show delL σ.sn _ r.at_ = _
        unfold delL; rw [if_neg e']; exact w.sn
  · have e' := blank_line b (line * 8) 8
    refine ⟨?_, ?_, ?_⟩
    · show evSt σ _ x = _
      unfold evSt; rw [if_neg e']; exact b.st
    · show delL σ.hd _ x = _
      unfold delL; rw [if_neg e']; exact b.hd
    · show delL σ.sn _ x = _
      unfold delL; rw [if_neg e']; exact b.sn

/-! what is told of them -/
theorem find_mem {x : Int} {l : List RW} {r : RW} (h : findL x l = some r) : r ∈ l ∧ r.at_ = x := by
  unfold findL at h
  exact ⟨List.mem_of_find?_eq_some h, by simpa using List.find?_some h⟩
theorem find_no {x : Int} {l : List RW} (h : findL x l = none) : ∀ r ∈ l, r.at_ ≠ x := by
  unfold findL at h
  intro r hr
  have := List.find?_eq_none.1 h r hr
  simpa using this
theorem alike_holds {σ : St} {l : List RW} (h : AlikeL σ l) (x : Int) : (σ.hd x).getD (σ.st x) = holdsL x l := by
  unfold holdsL
  cases hf : findL x l with
  | none =>
    have b := h.blank x (find_no hf)
    rw [b.hd, b.st]; rfl
  | some r =>
    obtain ⟨hm, rfl⟩ := find_mem hf
    have w := h.word r hm
    rw [w.hd, w.st]
    show _ = r.val
    unfold RW.val
    cases r.dirty <;> rfl
theorem alike_stays {σ : St} {l : List RW} (h : AlikeL σ l) (x : Int) : σ.st x = staysL x l := by
  unfold staysL
  cases hf : findL x l with
  | none => exact (h.blank x (find_no hf)).st
  | some r =>
    obtain ⟨hm, rfl⟩ := find_mem hf
    exact (h.word r hm).st
theorem alike_keys {σ : St} {l : List RW} (h : AlikeL σ l) : KeysOf σ.hd (dirtyR l) := by
  refine ⟨?_, fun x => ?_⟩
  · unfold dirtyR
    rw [List.pairwise_map]
    exact List.Pairwise.filter _ h.rise
  · unfold dirtyR
    rw [List.mem_map]
    constructor
    · rintro ⟨r, hr, rfl⟩
      obtain ⟨h1, h2⟩ := List.mem_filter.1 hr
      rw [(h.word r h1).hd, if_pos h2]; rfl
    · intro hs
      cases hf : findL x l with
      | none => rw [(h.blank x (find_no hf)).hd] at hs; cases hs
      | some r =>
        obtain ⟨hm, rfl⟩ := find_mem hf
        rw [(h.word r hm).hd] at hs
        refine ⟨r, List.mem_filter.2 ⟨hm, ?_⟩, rfl⟩
        cases hd : r.dirty
        · rw [hd] at hs; cases hs
        · rfl
/-- two rising lists of the same are the same -/
theorem rise_same : ∀ {a b : List Int}, a.Pairwise (· < ·) → b.Pairwise (· < ·) → (∀ x, x ∈ a ↔ x ∈ b) → a = b
  | [], [], _, _, _ => rfl
  | [], y :: b, _, _, h => by have := (h y).2 (by simp); cases this
  | x :: a, [], _, _, h => by have := (h x).1 (by simp); cases this
  | x :: a, y :: b, ha, hb, h => by
    obtain ⟨a1, a2⟩ := List.pairwise_cons.1 ha
    obtain ⟨b1, b2⟩ := List.pairwise_cons.1 hb
    have e : x = y := by
      have hx := (h x).1 (by simp)
      have hy := (h y).2 (by simp)
      rcases List.mem_cons.1 hx with h1 | h1
      · exact h1
      · rcases List.mem_cons.1 hy with h2 | h2
        · exact h2.symm
        · have := b1 x h1; have := a1 y h2; omega
    subst e
    rw [rise_same a2 b2 fun z => ?_]
    constructor
    · intro hz
      rcases List.mem_cons.1 ((h z).1 (List.mem_cons_of_mem _ hz)) with h1 | h1
      · have := a1 z hz; omega
      · exact h1
    · intro hz
      rcases List.mem_cons.1 ((h z).2 (List.mem_cons_of_mem _ hz)) with h1 | h1
      · have := b1 z hz; omega
      · exact h1
theorem keys_same {F : IFn} {a b : List Int} (ha : KeysOf F a) (hb : KeysOf F b) : a = b := rise_same ha.rise hb.rise fun x => (ha.mem x).trans (hb.mem x).symm
end Go.Proofs.YtnjikgcigobcdaaGreat
