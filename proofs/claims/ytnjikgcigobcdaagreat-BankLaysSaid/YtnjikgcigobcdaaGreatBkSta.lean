import Derived.Test.YtnjikgcigobcdaaGreatBkFmt
namespace Go.Proofs.YtnjikgcigobcdaaGreat
open Wd Pm Go.Maps Go.RowKit Go.Sort
set_option linter.unusedVariables false

/-! what stays -/
theorem load_clean {σ : St} (h : Clean σ) {i : Int} (h0 : 0 ≤ i) (h1 : i < σ.n) : σ.loadVal i = σ.st i := by
  unfold St.loadVal
  rw [if_pos (loadErr_ok h.dead h0 h1), h.hd i]
  rfl
structure Kept (σ : St) (I L : Int) (image log : List Int) : Prop where
  c : Clean σ
  n : 34 + I + L ≤ σ.n
  i0 : 0 ≤ I ∧ I ≤ 1000000
  l0 : 0 ≤ L ∧ L ≤ 1000000
  il : (image.length : Int) ≤ I
  ll : (log.length : Int) ≤ L
  t : σ.st 32 = log.length
  i : σ.st 33 = image.length
  im : ∀ (j : Nat) (v : Int), image[j]? = some v → σ.st (34 + j) = v
  lg : ∀ (j : Nat) (v : Int), log[j]? = some v → σ.st (34 + I + j) = v
theorem ld_list {σ : St} (h : Clean σ) {a : Int} {l : List Int} (h0 : 0 ≤ a) (h1 : a + l.length ≤ σ.n) (hl : ∀ (j : Nat) (v : Int), l[j]? = some v → σ.st (a + j) = v) : ldVals σ a l.length = l := by
  apply List.ext_getElem?
  intro j
  unfold ldVals
  rw [List.getElem?_map]
  by_cases hj : j < l.length
  · have hv := List.getElem?_eq_getElem hj
    rw [List.getElem?_range hj, Option.map_some, load_clean h (by omega) (by omega), hl j _ hv, hv]
  · rw [List.getElem?_eq_none (by simp; omega), List.getElem?_eq_none (by omega)]
    rfl
theorem Kept.bank {σ : St} {I L : Int} {image log : List Int} (h : Kept σ I L image log) : Bank σ I L image log := by
  have := h.n; have := h.i0; have := h.l0; have := h.il; have := h.ll
  exact ⟨h.c.dead, h.n, h.i0, h.l0, h.il, h.ll, by rw [load_clean h.c (by omega) (by omega), h.t], by rw [load_clean h.c (by omega) (by omega), h.i], ld_list h.c (by omega) (by omega) h.im, ld_list h.c (by omega) (by omega) h.lg⟩
theorem Kept.same {σ τ : St} {I L : Int} {image log : List Int} (h : Kept σ I L image log) (hc : Clean τ) (hn : τ.n = σ.n) (hs : ∀ x : Int, (32 ≤ x ∧ x < 34 + image.length) ∨ (34 + I ≤ x ∧ x < 34 + I + log.length) → τ.st x = σ.st x) : Kept τ I L image log := by
  refine ⟨hc, by rw [hn]; exact h.n, h.i0, h.l0, h.il, h.ll, ?_, ?_, fun j v e => ?_, fun j v e => ?_⟩
  · rw [hs 32 (.inl (by omega))]; exact h.t
  · rw [hs 33 (.inl (by omega))]; exact h.i
  · have hj := (List.getElem?_eq_some_iff.1 e).1
    rw [hs _ (.inl (by omega))]; exact h.im j v e
  · have hj := (List.getElem?_eq_some_iff.1 e).1
    rw [hs _ (.inr (by omega))]; exact h.lg j v e
/-- laid where power doesn't fail -/
structure Laid (σ : St) (at_ : Int) (l : List Int) (τ : St) : Prop where
  c : Clean τ
  st : τ.st = newSt σ.st at_ l
  n : τ.n = σ.n
  ar : τ.ar = 0
  ev : τ.ev ≤ σ.ev + (2 * l.length + 3)
theorem lay_laid {σ : St} (h : Clean σ) (ha : σ.ar = 0) (at_ : Int) (l : List Int) (h0 : 0 ≤ at_) (h1 : at_ + l.length ≤ σ.n) : ∃ τ, runS (layA at_ l) σ = (τ, 0) ∧ Laid σ at_ l τ := by
  have he := lay_ev at_ l σ
  rcases lay_clean h at_ l h0 h1 (by omega) with ⟨e, c, s, n, a1, a2⟩ | ⟨_, hf⟩
  · exact ⟨(runS (layA at_ l) σ).1, Prod.ext rfl e, c, s, n, by omega, he⟩
  · have := hf.ar; omega
theorem crash_clean {σ τ : St} {ks : List Int} {keep : List Bool} {N : Int → Int} (hst : τ.st = σ.st) (hhd : ∀ x v, τ.hd x = some v → v = N x) (hk : KeysOf τ.hd ks) :
    Clean (τ.crash ks keep) ∧ ∀ x, (τ.crash ks keep).st x = σ.st x ∨ (τ.crash ks keep).st x = N x := by
  refine ⟨⟨fun _ => rfl, fun _ => rfl, rfl⟩, fun x => ?_⟩
  show evSt τ (keptL ks keep) x = _ ∨ evSt τ (keptL ks keep) x = _
  unfold evSt
  split
  · rename_i hm
    have hs := (hk.mem x).1 (mem_kept hm)
    cases hc : τ.hd x with
    | none => rw [hc] at hs; cases hs
    | some v => exact .inr (hhd x v hc)
  · exact .inl (by rw [hst])
/-- laid where power may fail, and then a crash -/
theorem lay_crash {σ : St} (h : Clean σ) (ha : 0 ≤ σ.ar) (at_ : Int) (l : List Int) (h0 : 0 ≤ at_) (h1 : at_ + l.length ≤ σ.n) (ks : List Int) (keep : List Bool) (hk : KeysOf (runS (layA at_ l) σ).1.hd ks) :
    Clean ((runS (layA at_ l) σ).1.crash ks keep) ∧ ((runS (layA at_ l) σ).1.crash ks keep).n = σ.n ∧ (∀ x, ((runS (layA at_ l) σ).1.crash ks keep).st x = σ.st x ∨ ((runS (layA at_ l) σ).1.crash ks keep).st x = newSt σ.st at_ l x) ∧ ((runS (layA at_ l) σ).2 = 0 → ((runS (layA at_ l) σ).1.crash ks keep).st = newSt σ.st at_ l) := by
  rcases lay_clean h at_ l h0 h1 ha with ⟨e, c, s, n, a1, a2⟩ | ⟨e, hf⟩
  · obtain ⟨τ, hτ⟩ : ∃ τ, (runS (layA at_ l) σ).1 = τ := ⟨_, rfl⟩
    rw [hτ] at c s n hk ⊢
    have h2 := crash_clean (σ := τ) (τ := τ) (keep := keep) (N := τ.st) rfl (fun x v e => by rw [c.hd x] at e; cases e) hk
    refine ⟨h2.1, n, fun x => .inr ?_, fun _ => ?_⟩
    · rw [← s]; rcases h2.2 x with h | h <;> exact h
    · funext x; rw [← s]; rcases h2.2 x with h | h <;> exact h
  · obtain ⟨τ, hτ⟩ : ∃ τ, (runS (layA at_ l) σ).1 = τ := ⟨_, rfl⟩
    rw [hτ] at hf hk ⊢
    have h2 := crash_clean (keep := keep) hf.st hf.hd hk
    exact ⟨h2.1, hf.n, h2.2, fun e' => by rw [e] at e'; cases e'⟩
theorem newSt_one (st : Int → Int) (a v x : Int) : newSt st a [v] x = if x = a then v else st x := by
  by_cases h : x = a
  · subst h
    have := newSt_in (st := st) (at_ := x) (v := v) (l := [v]) (j := 0) rfl
    rw [if_pos rfl]
    simpa using this
  · rw [if_neg h]
    exact newSt_out (by simp; omega)
theorem newSt_two (st : Int → Int) (a v u x : Int) : newSt st a [v, u] x = if x = a then v else if x = a + 1 then u else st x := by
  by_cases h : x = a
  · subst h
    have := newSt_in (st := st) (at_ := x) (v := v) (l := [v, u]) (j := 0) rfl
    rw [if_pos rfl]
    simpa using this
  · rw [if_neg h]
    by_cases h2 : x = a + 1
    · subst h2
      have := newSt_in (st := st) (at_ := a) (v := u) (l := [v, u]) (j := 1) rfl
      rw [if_pos rfl]
      simpa using this
    · rw [if_neg h2]
      exact newSt_out (by simp; omega)
/-- a picture, made -/
theorem make_kept {σ : St} {I L : Int} {image : List Int} (h : Clean σ) (ha : σ.ar = 0) (hn : 34 + I + L ≤ σ.n) (i0 : 0 ≤ I ∧ I ≤ 1000000) (l0 : 0 ≤ L ∧ L ≤ 1000000) (hi : (image.length : Int) ≤ I) :
    ∃ τ, makeR σ I image = (τ, 0) ∧ Kept τ I L image [] ∧ τ.ar = 0 ∧ τ.n = σ.n ∧ τ.ev ≤ σ.ev + (2 * image.length + 20) := by
  obtain ⟨τ1, r1, q1⟩ := lay_laid h ha 34 image (by omega) (by omega)
  obtain ⟨τ2, r2, q2⟩ := lay_laid q1.c q1.ar 32 [0, (image.length : Int)] (by omega) (by rw [q1.n]; simp; omega)
  have e1 := q1.ev; have e2 := q2.ev
  simp only [List.length_cons, List.length_nil] at e2
  refine ⟨τ2, ?_, ⟨q2.c, by rw [q2.n, q1.n]; exact hn, i0, l0, hi, by simp; omega, ?_, ?_, fun j v e => ?_, fun j v e => by simp at e⟩, q2.ar, q2.n.trans q1.n, by omega⟩
  · unfold makeR makeA
    rw [if_neg (by omega), runS_append, r1, if_pos rfl, r2]
  · rw [q2.st, newSt_two, if_pos rfl]; rfl
  · rw [q2.st, newSt_two, if_neg (by omega), if_pos (by omega)]
  · rw [q2.st, newSt_two, if_neg (by omega), if_neg (by omega), q1.st]
    exact newSt_in e
/-- what is laid behind a log, and then counted -/
theorem kept_more {σ τ : St} {I L : Int} {image log l : List Int} (h : Kept σ I L image log) (hf : (l.length : Int) ≤ L - log.length) (hc : Clean τ) (hn : τ.n = σ.n)
    (hs : ∀ x : Int, x ≠ 32 → τ.st x = newSt σ.st (34 + I + log.length) l x) (ht : τ.st 32 = log.length + l.length) : Kept τ I L image (log ++ l) := by
  have hi0 := h.i0; have hil := h.il
  refine ⟨hc, by rw [hn]; exact h.n, h.i0, h.l0, h.il, by simp; omega, by rw [ht]; simp, ?_, fun j v e => ?_, fun j v e => ?_⟩
  · rw [hs 33 (by omega), newSt_out (by omega)]; exact h.i
  · have hj := (List.getElem?_eq_some_iff.1 e).1
    rw [hs _ (by omega), newSt_out (by omega)]; exact h.im j v e
  · rw [hs _ (by omega)]
    by_cases hj : j < log.length
    · rw [newSt_out (by omega)]
      rw [List.getElem?_append_left hj] at e
      exact h.lg j v e
    · rw [List.getElem?_append_right (by omega)] at e
      have := newSt_in (st := σ.st) (at_ := 34 + I + log.length) e
      rw [← this]
      congr 1
      omega
theorem append_kept {σ : St} {I L : Int} {image log l : List Int} (h : Kept σ I L image log) (ha : σ.ar = 0) (hf : (l.length : Int) ≤ L - log.length) :
    ∃ τ, appR σ I L log.length l = (τ, 0) ∧ Kept τ I L image (log ++ l) ∧ τ.ar = 0 ∧ τ.n = σ.n ∧ τ.ev ≤ σ.ev + (2 * l.length + 20) ∧ ∀ x : Int, x < 32 → τ.st x = σ.st x := by
  have hi0 := h.i0; have hil := h.il; have hn := h.n
  obtain ⟨τ1, r1, q1⟩ := lay_laid h.c ha (34 + I + log.length) l (by omega) (by omega)
  obtain ⟨τ2, r2, q2⟩ := lay_laid q1.c q1.ar 32 [(log.length : Int) + l.length] (by omega) (by rw [q1.n]; simp; omega)
  have e1 := q1.ev; have e2 := q2.ev
  simp only [List.length_cons, List.length_nil] at e2
  have hs : ∀ x : Int, x ≠ 32 → τ2.st x = newSt σ.st (34 + I + log.length) l x := fun x hx => by rw [q2.st, newSt_one, if_neg hx, q1.st]
  refine ⟨τ2, ?_, kept_more h hf q2.c (q2.n.trans q1.n) hs (by rw [q2.st, newSt_one, if_pos rfl]), q2.ar, q2.n.trans q1.n, by omega, fun x hx => ?_⟩
  · unfold appR appA
    rw [if_neg (by omega), runS_append, r1, if_pos rfl, r2]
  · rw [hs x (by omega), newSt_out (by omega)]
theorem append_full {σ : St} {I L : Int} {log l : List Int} (hf : ¬ (l.length : Int) ≤ L - log.length) : appR σ I L log.length l = (σ, 28) := by
  unfold appR
  rw [if_pos (by omega)]
theorem make_full {σ : St} {I : Int} {l : List Int} (hf : ¬ (l.length : Int) ≤ I) : makeR σ I l = (σ, 28) := by
  unfold makeR
  rw [if_pos (by omega)]
/-- all or nothing -/
theorem append_crash {σ : St} {I L : Int} {image log l : List Int} (h : Kept σ I L image log) (ha : 0 ≤ σ.ar) (ks : List Int) (keep : List Bool) (hk : KeysOf (appR σ I L log.length l).1.hd ks) :
    ∃ lg, Kept ((appR σ I L log.length l).1.crash ks keep) I L image lg ∧ (lg = log ∨ lg = log ++ l) ∧ ((appR σ I L log.length l).2 = 0 → lg = log ++ l) := by
  have hi0 := h.i0; have hil := h.il; have hn := h.n
  by_cases hf : (l.length : Int) ≤ L - log.length
  · have hR : appR σ I L log.length l = runS (layA (34 + I + log.length) l ++ layA 32 [(log.length : Int) + l.length]) σ := by unfold appR appA; rw [if_neg (by omega)]
    rw [hR, runS_append] at hk ⊢
    have c1 := lay_clean h.c (34 + I + log.length) l (by omega) (by omega) ha
    by_cases e1 : (runS (layA (34 + I + log.length) l) σ).2 = 0
    · rw [if_pos e1] at hk ⊢
      rcases c1 with ⟨_, c, s, n, a1, a2⟩ | ⟨e, _⟩
      · obtain ⟨τ, hτ⟩ : ∃ τ, (runS (layA (34 + I + log.length) l) σ).1 = τ := ⟨_, rfl⟩
        rw [hτ] at c s n a1 hk ⊢
        obtain ⟨k1, k2, k3, k4⟩ := lay_crash c a1 32 [(log.length : Int) + l.length] (by omega) (by rw [n]; simp; omega) ks keep hk
        obtain ⟨ρ, hρ⟩ : ∃ ρ, (runS (layA 32 [(log.length : Int) + l.length]) τ).1.crash ks keep = ρ := ⟨_, rfl⟩
        rw [hρ] at k1 k2 k3 k4 ⊢
        have hs : ∀ x : Int, x ≠ 32 → ρ.st x = newSt σ.st (34 + I + log.length) l x := fun x hx => by
          rcases k3 x with h | h
          · rw [h, s]
          · rw [h, newSt_one, if_neg hx, s]
        by_cases hnew : ρ.st 32 = (log.length : Int) + l.length
        · exact ⟨log ++ l, kept_more h hf k1 (k2.trans n) hs hnew, .inr rfl, fun _ => rfl⟩
        · refine ⟨log, h.same k1 (k2.trans n) (fun x hx => ?_), .inl rfl, fun e0 => ?_⟩
          · by_cases hx2 : x = 32
            · subst hx2
              rcases k3 32 with h | h
              · rw [h, s, newSt_out (by omega)]
              · rw [newSt_one, if_pos rfl] at h; exact absurd h hnew
            · rw [hs x hx2, newSt_out (by omega)]
          · exfalso
            apply hnew
            rw [k4 e0, newSt_one, if_pos rfl]
      · rw [e1] at e; cases e
    · rw [if_neg e1] at hk ⊢
      obtain ⟨k1, k2, k3, k4⟩ := lay_crash h.c ha (34 + I + log.length) l (by omega) (by omega) ks keep hk
      refine ⟨log, h.same k1 k2 (fun x hx => ?_), .inl rfl, fun e => absurd e e1⟩
      rcases k3 x with h | h
      · exact h
      · rw [h, newSt_out (by omega)]
  · rw [append_full hf] at hk ⊢
    have h2 := crash_clean (σ := σ) (τ := σ) (keep := keep) (N := σ.st) rfl (fun x v e => by rw [h.c.hd x] at e; cases e) hk
    exact ⟨log, h.same h2.1 rfl (fun x _ => by rcases h2.2 x with h | h <;> exact h), .inl rfl, fun e => absurd (show (28 : Int) = 0 from e) (by decide)⟩
end Go.Proofs.YtnjikgcigobcdaaGreat
