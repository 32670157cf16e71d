import Derived.Test.YtnjikgcigobcdaaGreatPmDe
namespace Go.Proofs.YtnjikgcigobcdaaGreat
open Wd Pm Go.Maps Go.RowKit
set_option linter.unusedVariables false

/-! a store keeps both alike -/
theorem rise_split {l : List RW} (h : l.Pairwise (fun a b => a.at_ < b.at_)) (i : Int) : (∀ r ∈ l.take (belowN i l), r.at_ < i) ∧ (∀ r ∈ l.drop (belowN i l), i ≤ r.at_) := by
  induction l with
  | nil => exact ⟨by simp, by simp⟩
  | cons a l ih =>
    obtain ⟨h1, h2⟩ := List.pairwise_cons.1 h
    unfold belowN
    split
    · rename_i e
      obtain ⟨i1, i2⟩ := ih h2
      simp only [List.take_succ_cons, List.drop_succ_cons]
      refine ⟨fun r hr => ?_, i2⟩
      rcases List.mem_cons.1 hr with rfl | hr
      · exact e
      · exact i1 r hr
    · rename_i e
      refine ⟨by simp, fun r hr => ?_⟩
      simp only [List.drop_zero] at hr
      rcases List.mem_cons.1 hr with rfl | hr
      · omega
      · have := h1 r hr; omega
theorem blank_fresh {σ : St} {i : Int} (b : Blank σ i) : Wrd σ (RW.fresh i) := ⟨b.st, b.hd, b.sn, (fun e => by cases e), (fun e => by cases e)⟩
theorem alike_ins {σ : St} {l : List RW} (h : AlikeL σ l) (i : Int) (hn : ∀ r ∈ l, r.at_ ≠ i) : AlikeL σ (l.take (belowN i l) ++ RW.fresh i :: l.drop (belowN i l)) := by
  obtain ⟨s1, s2⟩ := rise_split h.rise i
  have hsplit := List.take_append_drop (belowN i l) l
  have hr := h.rise
  rw [← hsplit, List.pairwise_append] at hr
  obtain ⟨r1, r2, r3⟩ := hr
  refine ⟨?_, fun r hr => ?_, fun x hx => h.blank x fun r hr => ?_⟩
  · rw [List.pairwise_append, List.pairwise_cons]
    refine ⟨r1, ⟨fun r hr => ?_, r2⟩, fun a ha b hb => ?_⟩
    · have := s2 r hr
      have := hn r (List.mem_of_mem_drop hr)
      show i < r.at_
      omega
    · rcases List.mem_cons.1 hb with rfl | hb
      · exact s1 a ha
      · exact r3 a ha b hb
  · rcases List.mem_append.1 hr with h1 | h1
    · exact h.word r (List.mem_of_mem_take h1)
    · rcases List.mem_cons.1 h1 with rfl | h1
      · exact blank_fresh (h.blank i hn)
      · exact h.word r (List.mem_of_mem_drop h1)
  · refine hx r ?_
    rw [← hsplit] at hr
    rcases List.mem_append.1 hr with h1 | h1
    · exact List.mem_append_left _ h1
    · exact List.mem_append_right _ (List.mem_cons_of_mem _ h1)
theorem alike_place {σ : St} {l : List RW} (h : AlikeL σ l) (i : Int) : AlikeL σ (placeL i l) := by
  unfold placeL
  obtain ⟨s1, s2⟩ := rise_split h.rise i
  have hsplit := List.take_append_drop (belowN i l) l
  cases hk : l[belowN i l]? with
  | none =>
    refine alike_ins h i fun r hr e => ?_
    have hlen : l.length ≤ belowN i l := List.getElem?_eq_none_iff.1 hk
    rw [List.take_of_length_le hlen] at s1
    have := s1 r hr
    omega
  | some a =>
    simp only
    split
    · exact h
    · rename_i e
      refine alike_ins h i fun r hr e2 => ?_
      obtain ⟨hlt, ha⟩ := List.getElem?_eq_some_iff.1 hk
      rw [← hsplit, List.drop_eq_getElem_cons hlt, ha] at hr
      have hd : l.drop (belowN i l) = a :: l.drop (belowN i l + 1) := by rw [List.drop_eq_getElem_cons hlt, ha]
      have hp : (a :: l.drop (belowN i l + 1)).Pairwise (fun a b => a.at_ < b.at_) := by rw [← hd]; exact List.Pairwise.drop h.rise
      have ha2 := s2 a (by rw [hd]; simp)
      rcases List.mem_append.1 hr with h1 | h1
      · have := s1 r h1; omega
      · rcases List.mem_cons.1 h1 with rfl | h1
        · exact e e2
        · have := (List.pairwise_cons.1 hp).1 r h1; omega
theorem rise_one {l : List RW} (h : l.Pairwise (fun a b => a.at_ < b.at_)) {a b : RW} (ha : a ∈ l) (hb : b ∈ l) (e : a.at_ = b.at_) : a = b := by
  induction l with
  | nil => cases ha
  | cons x l ih =>
    obtain ⟨h1, h2⟩ := List.pairwise_cons.1 h
    rcases List.mem_cons.1 ha with ea | ma
    · rcases List.mem_cons.1 hb with eb | mb
      · rw [ea, eb]
      · have := h1 b mb; rw [ea] at e; omega
    · rcases List.mem_cons.1 hb with eb | mb
      · have := h1 a ma; rw [eb] at e; omega
      · exact ih h2 ma mb
theorem map_set (l : List RW) (k : Nat) (r : RW) : (l.set k r).map (fun r => r.at_) = (l.map (fun r => r.at_)).set k r.at_ := by rw [List.map_set]
/-- one word is another -/
theorem alike_set {σ σ' : St} {l : List RW} (h : AlikeL σ l) {k : Nat} {r r2 : RW} (hr : l[k]? = some r) (hat : r2.at_ = r.at_) (hw : Wrd σ' r2) (hs : ∀ x, x ≠ r.at_ → σ'.st x = σ.st x ∧ σ'.hd x = σ.hd x ∧ σ'.sn x = σ.sn x) : AlikeL σ' (l.set k r2) := by
  obtain ⟨hk, e⟩ := List.getElem?_eq_some_iff.1 hr
  have hmap : (l.set k r2).map (fun r => r.at_) = l.map (fun r => r.at_) := by
    rw [map_set, hat, ← e]
    refine List.ext_getElem? fun j => ?_
    rw [List.getElem?_set]
    split
    · rename_i e2
      subst e2
      simp [hk]
    · rfl
  have hri : ((l.set k r2).map (fun r => r.at_)).Pairwise (· < ·) := by rw [hmap, List.pairwise_map]; exact h.rise
  have hr2 : (l.set k r2).Pairwise (fun a b => a.at_ < b.at_) := List.pairwise_map.1 hri
  have hin : r2 ∈ l.set k r2 := List.mem_of_getElem? (by rw [List.getElem?_set_self hk])
  refine ⟨hr2, fun a ha => ?_, fun x hx => ?_⟩
  · by_cases ea : a.at_ = r.at_
    · have : a = r2 := rise_one hr2 ha hin (by rw [ea, hat])
      rw [this]; exact hw
    · rcases List.mem_or_eq_of_mem_set ha with h1 | h1
      · have w := h.word a h1
        obtain ⟨q1, q2, q3⟩ := hs a.at_ ea
        exact ⟨q1.trans w.st, q2.trans w.hd, q3.trans w.sn, w.way, w.clean⟩
      · rw [h1, hat] at ea; exact absurd rfl ea
  · have hne : ∀ a ∈ l, a.at_ ≠ x := fun a ha e2 => by
      have : x ∈ (l.set k r2).map (fun r => r.at_) := by rw [hmap]; exact List.mem_map.2 ⟨a, ha, e2⟩
      obtain ⟨b, hb, e3⟩ := List.mem_map.1 this
      exact hx b hb e3
    have b := h.blank x hne
    have hx2 : x ≠ r.at_ := fun e2 => hne r (List.mem_of_getElem? hr) e2.symm
    obtain ⟨q1, q2, q3⟩ := hs x hx2
    exact ⟨q1.trans b.st, q2.trans b.hd, q3.trans b.sn⟩
theorem alike_store {σ : St} {l : List RW} (h : AlikeL σ l) (i v : Int) : AlikeL (σ.hold i v) (storeL i v l) := by
  obtain ⟨r, hr, hi⟩ := place_at i l
  have hp := alike_place h i
  unfold storeL
  rw [hr]
  simp only
  have w := hp.word r (List.mem_of_getElem? hr)
  refine alike_set hp hr (clean_at _) (wrd_clean ?_ ?_ ?_ (fun _ => rfl)) (fun x hx => ⟨rfl, ?_, rfl⟩)
  · exact w.st
  · show (if σ.sn i = none ∧ v = σ.st i then del σ.hd i else put σ.hd i v) r.at_ = if true = true ∧ ¬ (r.way = false ∧ v = r.stays) then some v else none
    have w1 := w.st
    have w2 := w.sn
    rw [hi] at w1 w2
    rw [w1, w2, hi]
    cases r.way
    · by_cases e : v = r.stays
      · rw [if_pos ⟨rfl, e⟩, if_neg (fun e2 => e2.2 ⟨rfl, e⟩)]; unfold del; rw [if_pos rfl]
      · rw [if_neg (fun e2 => e e2.2), if_pos ⟨rfl, fun e2 => e e2.2⟩]; unfold put; rw [if_pos rfl]
    · rw [if_neg (fun e2 => by cases e2.1), if_pos ⟨rfl, fun e2 => by cases e2.1⟩]; unfold put; rw [if_pos rfl]
  · exact w.sn
  · rw [hi] at hx
    show (if σ.sn i = none ∧ v = σ.st i then del σ.hd i else put σ.hd i v) x = σ.hd x
    split
    · unfold del; rw [if_neg hx]
    · unfold put; rw [if_neg hx]

/-! a crash keeps both alike -/
theorem crash_at : ∀ (l : List RW) (keep : List Bool), (crashR l keep).map (fun r => r.at_) = l.map (fun r => r.at_)
  | [], _ => rfl
  | r :: l, keep => by
    unfold crashR
    split
    · rw [List.map_cons, List.map_cons, crash_at l]; rfl
    · rw [List.map_cons, List.map_cons, crash_at l]; rfl
theorem kept_at {l : List RW} {keep : List Bool} {x : Int} (h : x ∈ keptL (dirtyR l) keep) : ∃ r ∈ l, r.at_ = x := by
  have := mem_kept h
  unfold dirtyR at this
  obtain ⟨r, hr, e⟩ := List.mem_map.1 this
  exact ⟨r, (List.mem_filter.1 hr).1, e⟩
theorem crash_words {σ : St} : ∀ {l : List RW} {keep : List Bool}, l.Pairwise (fun a b => a.at_ < b.at_) → (∀ r ∈ l, Wrd σ r) → ∀ r' ∈ crashR l keep, r'.stays = evSt σ (keptL (dirtyR l) keep) r'.at_ ∧ r'.dirty = false ∧ r'.way = false
  | [], _, _, _, r', h => by simp [crashR] at h
  | a :: l, keep, hr, hw, r', h => by
    obtain ⟨h1, h2⟩ := List.pairwise_cons.1 hr
    have ih := fun keep => crash_words (σ := σ) (keep := keep) h2 (fun r hr => hw r (List.mem_cons_of_mem _ hr))
    have wa := hw a (by simp)
    have nota : ∀ keep, a.at_ ∉ keptL (dirtyR l) keep := fun keep hm => by
      obtain ⟨r, hm, e⟩ := kept_at hm
      have := h1 r hm; omega
    have far : ∀ keep, ∀ r' ∈ crashR l keep, r'.at_ ≠ a.at_ := fun keep r' hm e => by
      have : r'.at_ ∈ (crashR l keep).map (fun r => r.at_) := List.mem_map.2 ⟨r', hm, rfl⟩
      rw [crash_at] at this
      obtain ⟨r, hm2, e2⟩ := List.mem_map.1 this
      have := h1 r hm2; omega
    unfold crashR at h
    cases hd : a.dirty
    · have hdr : dirtyR (a :: l) = dirtyR l := by simp [dirtyR, hd]
      rw [hd, if_neg (by decide)] at h
      rw [hdr]
      rcases List.mem_cons.1 h with rfl | h
      · refine ⟨?_, rfl, rfl⟩
        show a.stays = evSt σ _ a.at_
        unfold evSt
        rw [if_neg (nota keep)]
        exact wa.st.symm
      · exact ih keep r' h
    · have hdr : dirtyR (a :: l) = a.at_ :: dirtyR l := by simp [dirtyR, hd]
      rw [hd, if_pos rfl] at h
      rw [hdr]
      cases keep with
      | nil =>
        have hk0 : ∀ ks : List Int, keptL ks [] = [] := fun ks => by cases ks <;> rfl
        rcases List.mem_cons.1 h with rfl | h
        · refine ⟨?_, rfl, rfl⟩
          show a.stays = evSt σ [] a.at_
          unfold evSt
          rw [if_neg (by simp)]
          exact wa.st.symm
        · have := ih [] r' h
          rw [hk0] at this
          exact this
      | cons b keep =>
        have hhd := wa.hd
        rw [hd, if_pos rfl] at hhd
        rcases List.mem_cons.1 h with rfl | h
        · refine ⟨?_, rfl, rfl⟩
          show (if (some b == some true) = true then a.holds else a.stays) = evSt σ ((if b = true then [a.at_] else []) ++ keptL (dirtyR l) keep) a.at_
          unfold evSt
          cases b
          · rw [if_neg (by decide), if_neg (by simpa using nota keep)]; exact wa.st.symm
          · rw [if_pos (by decide), if_pos (by simp), hhd]; rfl
        · have hi := ih keep r' h
          refine ⟨?_, hi.2⟩
          rw [hi.1]
          have hne := far keep r' h
          show evSt σ (keptL (dirtyR l) keep) r'.at_ = evSt σ ((if b = true then [a.at_] else []) ++ keptL (dirtyR l) keep) r'.at_
          unfold evSt
          have : (r'.at_ ∈ (if b = true then [a.at_] else []) ++ keptL (dirtyR l) keep) ↔ r'.at_ ∈ keptL (dirtyR l) keep := by
            cases b <;> simp [hne]
          by_cases hm : r'.at_ ∈ keptL (dirtyR l) keep
          · rw [if_pos hm, if_pos (this.2 hm)]
          · rw [if_neg hm, if_neg (fun e => hm (this.1 e))]
theorem alike_crash {σ : St} {l : List RW} (h : AlikeL σ l) (keep : List Bool) {ks : List Int} (hk : KeysOf σ.hd ks) : AlikeL (σ.crash ks keep) (crashR l keep) := by
  obtain rfl : ks = dirtyR l := keys_same hk (alike_keys h)
  have hri : ((crashR l keep).map (fun r => r.at_)).Pairwise (· < ·) := by rw [crash_at, List.pairwise_map]; exact h.rise
  refine ⟨List.pairwise_map.1 hri, fun r' hr' => ?_, fun x hx => ?_⟩
  · obtain ⟨h1, h2, h3⟩ := crash_words h.rise h.word r' hr'
    exact ⟨h1.symm, by rw [h2]; rfl, by rw [h3]; rfl, (fun e => by rw [h3] at e; cases e), (fun e => by rw [h2] at e; cases e)⟩
  · have hne : ∀ r ∈ l, r.at_ ≠ x := fun r hr e => by
      have : x ∈ (crashR l keep).map (fun r => r.at_) := by rw [crash_at]; exact List.mem_map.2 ⟨r, hr, e⟩
      obtain ⟨b, hb, e3⟩ := List.mem_map.1 this
      exact hx b hb e3
    refine ⟨?_, rfl, rfl⟩
    show evSt σ (keptL (dirtyR l) keep) x = 0
    unfold evSt
    rw [if_neg (fun hm => by obtain ⟨r, hr, e⟩ := kept_at hm; exact hne r hr e)]
    exact (h.blank x hne).st
end Go.Proofs.YtnjikgcigobcdaaGreat
