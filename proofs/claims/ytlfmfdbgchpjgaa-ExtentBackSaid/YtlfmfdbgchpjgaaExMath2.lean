import Derived.Test.YtlfmfdbgchpjgaaExMath
namespace Ex
set_option linter.unusedVariables false
set_option linter.unusedSimpArgs false

/-! one behind the others -/
def joinE (l : List Ext) (e : Ext) : List Ext :=
  match l.getLast? with
  | none => [e]
  | some a => if e.f = a.f + a.n ∧ e.p = a.p + a.n then l.dropLast ++ [⟨a.f, a.n + e.n, a.p⟩] else l ++ [e]
theorem joinE_nil (e : Ext) : joinE [] e = [e] := rfl
theorem joinE_yes {i : List Ext} {a e : Ext} (h : e.f = a.f + a.n ∧ e.p = a.p + a.n) : joinE (i ++ [a]) e = i ++ [⟨a.f, a.n + e.n, a.p⟩] := by
  unfold joinE; simp [h.1, h.2]
theorem joinE_no {i : List Ext} {a e : Ext} (h : ¬ (e.f = a.f + a.n ∧ e.p = a.p + a.n)) : joinE (i ++ [a]) e = i ++ [a] ++ [e] := by
  unfold joinE; simp [if_neg h]
theorem last_or {l : List Ext} : l = [] ∨ ∃ i a, l = i ++ [a] := by
  rcases List.eq_nil_or_concat l with h | ⟨i, a, h⟩
  · exact .inl h
  · exact .inr ⟨i, a, by rw [h, List.concat_eq_append]⟩
def lastOr : Option Ext → List Ext → Option Ext
  | q, [] => q
  | _, e :: l => lastOr (some e) l
theorem rf_append : ∀ {l m : List Ext} {q : Option Ext}, RF q (l ++ m) ↔ RF q l ∧ RF (lastOr q l) m := by
  intro l
  induction l with
  | nil => intro m q; simp [RF, lastOr]
  | cons e l ih =>
    intro m q
    simp only [List.cons_append, RF, lastOr, ih]
    constructor
    · rintro ⟨a, b, c, d⟩; exact ⟨⟨a, b, c⟩, d⟩
    · rintro ⟨⟨a, b, c⟩, d⟩; exact ⟨a, b, c, d⟩
theorem lastOr_snoc : ∀ {l : List Ext} {a : Ext} {q : Option Ext}, lastOr q (l ++ [a]) = some a := by
  intro l
  induction l with
  | nil => intros; rfl
  | cons e l ih => intro a q; exact ih
theorem join_right {l : List Ext} {e : Ext} (h : Right l) (he : Fits e) (hb : Ends e.f l) : Right (joinE l e) ∧ Ends (e.f + e.n) (joinE l e) ∧ ∀ k, pg (joinE l e) k = if e.f ≤ k ∧ k < e.f + e.n then e.p + (k - e.f) else pg l k := by
  have en := he.n
  rcases @last_or l with rfl | ⟨i, a, rfl⟩
  · refine ⟨⟨he, fun a ha => by (cases ha), trivial⟩, fun x hx => ?_, fun k => rfl⟩
    obtain rfl : x = e := by simpa [joinE_nil] using hx
    exact Int.le_refl _
  · have hi : ∀ x ∈ i, Fits x := fun x hx => h.fits x (List.mem_append_left _ hx)
    have ha := h.fits a (List.mem_append_right _ (List.mem_cons_self))
    have hae := hb a (List.mem_append_right _ (List.mem_cons_self))
    obtain ⟨r1, r2⟩ := rf_append.1 h
    have an := ha.n
    have hie : Ends a.f i := by
      intro x hx
      cases hl : lastOr none i with
      | none =>
        cases i with
        | nil => cases hx
        | cons y i =>
          exfalso
          have : ∀ (l : List Ext) (y : Ext), lastOr (some y) l ≠ none := by
            intro l
            induction l with
            | nil => intro y hy; cases hy
            | cons z l ih => intro y hy; exact ih z hy
          exact this i y hl
      | some z =>
        rw [hl] at r2
        have hz := (r2.2.1 z rfl).1
        rcases @last_or i with rfl | ⟨j, w, rfl⟩
        · cases hx
        · rw [lastOr_snoc] at hl
          cases hl
          rcases List.mem_append.1 hx with hx | hx
          · have aux : ∀ (j : List Ext) (b : Int), Up b (j ++ [z]) → Ends z.f j := by
              intro j
              induction j with
              | nil => intro b _ x hx; cases hx
              | cons y j ih =>
                intro b hu x hx
                rcases List.mem_cons.1 hx with rfl | hx
                · exact hu.2.2.ge z (List.mem_append_right _ (List.mem_cons_self))
                · exact ih _ hu.2.2 x hx
            have := aux j 0 (RF.up r1 (fun a ha => by cases ha) (fun _ => Int.le_refl _)) x hx
            have := (hi z (List.mem_append_right _ (List.mem_cons_self))).n
            omega
          · obtain rfl : x = z := by simpa using hx
            exact hz
    by_cases hc : e.f = a.f + a.n ∧ e.p = a.p + a.n
    · rw [joinE_yes hc]
      have a1 := ha.f; have a2 := ha.p; have e1 := he.fn; have e2 := he.pn
      refine ⟨rf_append.2 ⟨r1, ⟨⟨by simp only; omega, a1, by simp only; omega, a2, by simp only; omega⟩, r2.2.1, trivial⟩⟩, fun x hx => ?_, fun k => ?_⟩
      · rcases List.mem_append.1 hx with hx | hx
        · have := hie x hx; omega
        · obtain rfl : x = ⟨a.f, a.n + e.n, a.p⟩ := by simpa using hx
          simp only; omega
      · rw [pg_append hi, pg_append hi, pg, pg, pg]
        simp only [pg]
        by_cases hk : e.f ≤ k ∧ k < e.f + e.n
        · rw [if_pos hk, pg_high hie (by omega), if_pos rfl, if_pos (by omega)]; omega
        · rw [if_neg hk]
          by_cases hz : pg i k = 0
          · rw [if_pos hz, if_pos hz]
            by_cases hk2 : a.f ≤ k ∧ k < a.f + a.n
            · rw [if_pos hk2, if_pos (by omega)]
            · rw [if_neg hk2, if_neg (by omega)]
          · rw [if_neg hz, if_neg hz]
    · rw [joinE_no hc]
      refine ⟨rf_append.2 ⟨h, ?_⟩, fun x hx => ?_, fun k => ?_⟩
      · rw [lastOr_snoc]
        exact ⟨he, fun y hy => by cases hy; exact ⟨hae, hc⟩, trivial⟩
      · rcases List.mem_append.1 hx with hx | hx
        · have := hb x hx; omega
        · obtain rfl : x = e := by simpa using hx
          exact Int.le_refl _
      · rw [pg_append h.fits, pg]
        simp only [pg]
        by_cases hk : e.f ≤ k ∧ k < e.f + e.n
        · rw [if_pos hk, pg_high hb (by omega), if_pos rfl, if_pos hk]
        · rw [if_neg hk, if_neg hk]
          by_cases hz : pg (i ++ [a]) k = 0
          · rw [if_pos hz, hz]
          · rw [if_neg hz]
theorem joins_right : ∀ {m l : List Ext} {b : Int}, Right l → Ends b l → Up b m → Right (m.foldl joinE l) ∧ ∀ k, pg (m.foldl joinE l) k = if pg l k = 0 then pg m k else pg l k := by
  intro m
  induction m with
  | nil => intro l b h _ _; exact ⟨h, fun k => by simp only [List.foldl_nil, pg]; split <;> simp_all⟩
  | cons e m ih =>
    intro l b h hb hu
    have hbe : Ends e.f l := fun x hx => Int.le_trans (hb x hx) hu.2.1
    obtain ⟨h1, h2, h3⟩ := join_right h hu.1 hbe
    obtain ⟨h4, h5⟩ := ih h1 h2 hu.2.2
    refine ⟨h4, fun k => ?_⟩
    rw [List.foldl_cons, h5, h3, pg]
    have e1 := hu.1.p; have e2 := hu.1.n
    by_cases hk : e.f ≤ k ∧ k < e.f + e.n
    · rw [if_pos hk, if_neg (by omega), if_pos hk, pg_high hbe hk.1, if_pos rfl]
    · rw [if_neg hk, if_neg hk]

/-! a page at a place -/
def oneE (i p : Int) : List Ext := if p < 1 then [] else [⟨i, 1, p⟩]
def putE (l : List Ext) (i p : Int) : List Ext := (btw l (i + 1) 1048576).foldl joinE ((oneE i p).foldl joinE (btw l 0 i))
theorem put_right {l : List Ext} (h : Right l) {i p : Int} (h0 : 0 ≤ i) (h1 : i < 1048576) (p0 : 0 ≤ p) (p1 : p < 1048576) : Right (putE l i p) ∧ ∀ k, pg (putE l i p) k = if k = i then p else pg l k := by
  have s1 : Span 0 i := ⟨Int.le_refl _, by omega⟩
  have s2 : Span (i + 1) 1048576 := ⟨by omega, by omega⟩
  have ra := btw_right h s1
  have pa := btw_pg h.up s1
  have ub := btw_up h s2
  have pb := btw_pg h.up s2
  have ea : Ends i (btw l 0 i) := fun e he => (btw_in e he).2
  unfold putE oneE
  by_cases hp : p < 1
  · rw [if_pos hp]
    obtain ⟨r1, r2⟩ := joins_right ra ea (ub.mono (c := i) (by omega))
    refine ⟨r1, fun k => ?_⟩
    show pg (List.foldl joinE (btw l 0 i) (btw l (i + 1) 1048576)) k = _
    rw [r2, pa, pb]
    by_cases hk : k = i
    · subst hk; simp; omega
    · rw [if_neg hk]
      by_cases k0 : k < 0
      · rw [h.low k0]; simp
      · by_cases k1 : 1048576 ≤ k
        · rw [h.high k1]; simp
        · by_cases hki : k < i
          · rw [if_pos (show 0 ≤ k ∧ k < i by omega), if_neg (show ¬ (i + 1 ≤ k ∧ k < 1048576) by omega)]
            split
            · next hz => rw [hz]
            · rfl
          · rw [if_neg (show ¬ (0 ≤ k ∧ k < i) by omega), if_pos rfl, if_pos (by omega)]
  · rw [if_neg hp]
    have hf : Fits ⟨i, 1, p⟩ := ⟨by simp, h0, by simp only; omega, by simp only; omega, by simp only; omega⟩
    obtain ⟨q1, q2, q3⟩ := join_right ra hf ea
    obtain ⟨r1, r2⟩ := joins_right q1 q2 ub
    refine ⟨r1, fun k => ?_⟩
    show pg (List.foldl joinE (joinE (btw l 0 i) ⟨i, 1, p⟩) (btw l (i + 1) 1048576)) k = _
    rw [r2, q3, pa, pb]
    simp only
    by_cases hk : k = i
    · subst hk
      simp only
      rw [if_pos (show k ≤ k ∧ k < k + 1 by omega), if_pos trivial, if_neg (by omega)]
      omega
    · rw [if_neg hk, if_neg (show ¬ (i ≤ k ∧ k < i + 1) by omega)]
      by_cases k0 : k < 0
      · rw [h.low k0]; simp
      · by_cases k1 : 1048576 ≤ k
        · rw [h.high k1]; simp
        · by_cases hki : k < i
          · rw [if_pos (show 0 ≤ k ∧ k < i by omega), if_neg (show ¬ (i + 1 ≤ k ∧ k < 1048576) by omega)]
            split
            · next hz => rw [hz]
            · rfl
          · rw [if_neg (show ¬ (0 ≤ k ∧ k < i) by omega), if_pos rfl, if_pos (by omega)]

/-! the extents of pages -/
def extsAt : Nat → List Ext → List Int → List Ext
  | _, l, [] => l
  | i, l, p :: ps => extsAt (i + 1) ((oneE i p).foldl joinE l) ps
def exts (ps : List Int) : List Ext := extsAt 0 [] ps
theorem extsAt_append : ∀ {ps qs : List Int} {i : Nat} {l : List Ext}, extsAt i l (ps ++ qs) = extsAt (i + ps.length) (extsAt i l ps) qs := by
  intro ps
  induction ps with
  | nil => intros; rfl
  | cons p ps ih =>
    intro qs i l
    rw [List.cons_append, extsAt, extsAt, ih, List.length_cons, show i + 1 + ps.length = i + (ps.length + 1) by omega]
theorem exts_snoc (ps : List Int) (p : Int) : exts (ps ++ [p]) = (oneE ps.length p).foldl joinE (exts ps) := by
  unfold exts
  rw [extsAt_append, Nat.zero_add]
  rfl
theorem exts_take {ps : List Int} {k : Nat} {p : Int} (h : ps[k]? = some p) : exts (ps.take (k + 1)) = (oneE k p).foldl joinE (exts (ps.take k)) := by
  have hk := (List.getElem?_eq_some_iff.1 h).1
  rw [List.take_add_one, h, show (some p).toList = [p] from rfl, exts_snoc, List.length_take, Nat.min_eq_left (by omega)]
/-- they needn't fit, but nothing of them runs over -/
structure Tame (e : Ext) : Prop where
  f : 0 ≤ e.f
  n : 1 ≤ e.n
  fn : e.f + e.n ≤ 2000000
  p : 1 ≤ e.p
  pn : e.p + e.n ≤ 9223372036854775808
theorem Fits.tame {e : Ext} (h : Fits e) : Tame e := ⟨h.f, h.n, by have := h.fn; omega, h.p, by have := h.pn; omega⟩
theorem join_tame {l : List Ext} {e : Ext} (h : ∀ x ∈ l, Tame x) (he : Tame e) : ∀ x ∈ joinE l e, Tame x := by
  rcases @last_or l with rfl | ⟨i, a, rfl⟩
  · intro x hx
    obtain rfl : x = e := by simpa [joinE_nil] using hx
    exact he
  · have ha := h a (List.mem_append_right _ (List.mem_cons_self))
    by_cases hc : e.f = a.f + a.n ∧ e.p = a.p + a.n
    · rw [joinE_yes hc]
      intro x hx
      rcases List.mem_append.1 hx with hx | hx
      · exact h x (List.mem_append_left _ hx)
      · obtain rfl : x = ⟨a.f, a.n + e.n, a.p⟩ := by simpa using hx
        obtain ⟨c1, c2⟩ := hc
        have := ha.f; have := ha.n; have := ha.p; have := he.n; have := he.fn; have := he.pn
        constructor <;> simp only <;> omega
    · rw [joinE_no hc]
      intro x hx
      rcases List.mem_append.1 hx with hx | hx
      · exact h x hx
      · obtain rfl : x = e := by simpa using hx
        exact he
theorem join_len (l : List Ext) (e : Ext) : (joinE l e).length ≤ l.length + 1 := by
  rcases @last_or l with rfl | ⟨i, a, rfl⟩
  · exact Nat.le_refl _
  · by_cases hc : e.f = a.f + a.n ∧ e.p = a.p + a.n
    · rw [joinE_yes hc]; simp
    · rw [joinE_no hc]; simp
theorem joins_len : ∀ (m l : List Ext), (m.foldl joinE l).length ≤ l.length + m.length := by
  intro m
  induction m with
  | nil => intro l; exact Nat.le_refl _
  | cons e m ih =>
    intro l
    have h1 := ih (joinE l e)
    have h2 := join_len l e
    rw [List.foldl_cons, List.length_cons]
    omega
theorem one_len (i p : Int) : (oneE i p).length ≤ 1 := by unfold oneE; split <;> simp
theorem one_tame {i p : Int} (h0 : 0 ≤ i) (h1 : i < 1999999) (h2 : p ≤ 9223372036854775807) : ∀ e ∈ oneE i p, Tame e := by
  unfold oneE
  intro e he
  by_cases hp : p < 1
  · rw [if_pos hp] at he; cases he
  · rw [if_neg hp] at he
    obtain rfl : e = ⟨i, 1, p⟩ := by simpa using he
    constructor <;> simp only <;> omega
/-- what the last page tells of the last extent -/
theorem exts_last : ∀ (ps : List Int) (k : Nat), k ≤ ps.length → (∀ e ∈ exts (ps.take k), e.f + e.n ≤ k) ∧ (∀ q, 0 < k → ps[k - 1]? = some q → (1 ≤ q → ∃ (i : List Ext) (a : Ext), exts (ps.take k) = i ++ [a] ∧ a.f + a.n = k ∧ a.p + a.n = q + 1) ∧ (q < 1 → ∀ e ∈ exts (ps.take k), e.f + e.n < k)) := by
  intro ps k
  induction k with
  | zero => intro _; refine ⟨fun e he => ?_, fun q h => absurd h (by omega)⟩; simp [exts, extsAt] at he
  | succ k ih =>
    intro hk
    obtain ⟨i1, i2⟩ := ih (by omega)
    obtain ⟨p, hp⟩ : ∃ p, ps[k]? = some p := ⟨_, List.getElem?_eq_getElem (by omega)⟩
    rw [exts_take hp]
    unfold oneE
    by_cases h1 : p < 1
    · rw [if_pos h1]
      refine ⟨fun e he => by have := i1 e he; omega, fun q _ hq => ?_⟩
      rw [Nat.add_sub_cancel, hp] at hq
      cases hq
      exact ⟨fun h => by omega, fun _ e he => by have := i1 e he; omega⟩
    · rw [if_neg h1]
      show (∀ e ∈ joinE (exts (ps.take k)) ⟨k, 1, p⟩, _) ∧ ∀ q, _ → _ → (_ → ∃ (i : List Ext) (a : Ext), joinE (exts (ps.take k)) ⟨k, 1, p⟩ = _ ∧ _) ∧ _
      have key : ∃ (i : List Ext) (a : Ext), joinE (exts (ps.take k)) ⟨k, 1, p⟩ = i ++ [a] ∧ a.f + a.n = k + 1 ∧ a.p + a.n = p + 1 ∧ ∀ e ∈ i, e.f + e.n ≤ k := by
        rcases @last_or (exts (ps.take k)) with h | ⟨i, a, h⟩
        · rw [h]; exact ⟨[], ⟨k, 1, p⟩, rfl, by simp, by simp, fun e he => by cases he⟩
        · rw [h] at i1 ⊢
          by_cases hc : (⟨k, 1, p⟩ : Ext).f = a.f + a.n ∧ (⟨k, 1, p⟩ : Ext).p = a.p + a.n
          · rw [joinE_yes hc]
            obtain ⟨c1, c2⟩ := hc
            simp only at c1 c2
            exact ⟨i, _, rfl, by simp only; omega, by simp only; omega, fun e he => i1 e (List.mem_append_left _ he)⟩
          · rw [joinE_no hc]
            exact ⟨_, _, rfl, by simp, by simp, i1⟩
      obtain ⟨i, a, k1, k2, k3, k4⟩ := key
      rw [k1]
      refine ⟨fun e he => ?_, fun q _ hq => ?_⟩
      · rcases List.mem_append.1 he with he | he
        · have := k4 e he; omega
        · obtain rfl : e = a := by simpa using he
          omega
      · rw [Nat.add_sub_cancel, hp] at hq
        cases hq
        exact ⟨fun _ => ⟨i, a, rfl, by omega, k3⟩, fun h => by omega⟩
theorem exts_tame (ps : List Int) (hp : ∀ p ∈ ps, p ≤ 9223372036854775807) (hl : ps.length ≤ 1000000) : ∀ k, k ≤ ps.length → (∀ e ∈ exts (ps.take k), Tame e) ∧ (exts (ps.take k)).length ≤ k := by
  intro k
  induction k with
  | zero => intro _; refine ⟨fun e he => ?_, by simp [exts, extsAt]⟩; simp [exts, extsAt] at he
  | succ k ih =>
    intro hk
    obtain ⟨i1, i2⟩ := ih (by omega)
    obtain ⟨p, hp'⟩ : ∃ p, ps[k]? = some p := ⟨_, List.getElem?_eq_getElem (by omega)⟩
    rw [exts_take hp']
    have ht := one_tame (i := k) (p := p) (by omega) (by omega) (hp p (List.mem_of_getElem? hp'))
    refine ⟨?_, ?_⟩
    · unfold oneE at ht ⊢
      by_cases h1 : p < 1
      · rw [if_pos h1]; exact i1
      · rw [if_neg h1] at ht ⊢
        exact join_tame i1 (ht _ (List.mem_cons_self))
    · have := joins_len (oneE k p) (exts (ps.take k)); have := one_len k p
      omega
theorem exts_right (ps : List Int) (hp : ∀ p ∈ ps, 0 ≤ p ∧ p < 1048576) (hl : ps.length ≤ 1048576) : ∀ k, k ≤ ps.length → Right (exts (ps.take k)) ∧ ∀ j, pg (exts (ps.take k)) j = if 0 ≤ j ∧ j < k then (ps[j.toNat]?.getD 0) else 0 := by
  intro k
  induction k with
  | zero => intro _; refine ⟨?_, fun j => ?_⟩; simp [exts, extsAt, Right, RF]; simp [exts, extsAt, pg]; omega
  | succ k ih =>
    intro hk
    obtain ⟨i1, i2⟩ := ih (by omega)
    obtain ⟨p, hp'⟩ : ∃ p, ps[k]? = some p := ⟨_, List.getElem?_eq_getElem (by omega)⟩
    have hpp := hp p (List.mem_of_getElem? hp')
    rw [exts_take hp']
    unfold oneE
    by_cases h1 : p < 1
    · rw [if_pos h1]
      refine ⟨i1, fun j => ?_⟩
      show pg (exts (ps.take k)) j = _
      rw [i2]
      by_cases hj : j = k
      · subst hj
        rw [if_neg (by omega), if_pos (by omega), Int.toNat_natCast, hp']
        simp; omega
      · by_cases hj2 : 0 ≤ j ∧ j < k
        · rw [if_pos hj2, if_pos (by omega)]
        · rw [if_neg hj2, if_neg (by omega)]
    · rw [if_neg h1]
      have hf : Fits ⟨k, 1, p⟩ := ⟨by simp, by simp, by simp only; omega, by simp only; omega, by simp only; omega⟩
      obtain ⟨q1, q2, q3⟩ := join_right i1 hf (fun e he => (exts_last ps k (by omega)).1 e he)
      refine ⟨q1, fun j => ?_⟩
      show pg (joinE (exts (ps.take k)) ⟨k, 1, p⟩) j = _
      rw [q3, i2]
      simp only
      by_cases hj : j = k
      · subst hj
        rw [if_pos (by omega), if_pos (by omega), Int.toNat_natCast, hp']
        simp
      · rw [if_neg (by omega)]
        by_cases hj2 : 0 ≤ j ∧ j < k
        · rw [if_pos hj2, if_pos (by omega)]
        · rw [if_neg hj2, if_neg (by omega)]
theorem exts_all (ps : List Int) (hp : ∀ p ∈ ps, 0 ≤ p ∧ p < 1048576) (hl : ps.length ≤ 1048576) : Right (exts ps) ∧ ∀ j, pg (exts ps) j = if 0 ≤ j ∧ j < ps.length then (ps[j.toNat]?.getD 0) else 0 := by
  have := exts_right ps hp hl ps.length (Nat.le_refl _)
  rw [List.take_length] at this
  exact this
/-- a page put into the extents of pages -/
theorem put_exts {ps : List Int} (hp : ∀ p ∈ ps, 0 ≤ p ∧ p < 1048576) (hl : ps.length ≤ 1048576) {i : Nat} (hi : i < ps.length) {p : Int} (h0 : 0 ≤ p) (h1 : p < 1048576) : putE (exts ps) i p = exts (ps.set i p) ∧ Right (exts (ps.set i p)) := by
  have hp2 : ∀ q ∈ ps.set i p, 0 ≤ q ∧ q < 1048576 := fun q hq => by
    rcases List.mem_or_eq_of_mem_set hq with h | rfl
    · exact hp q h
    · exact ⟨h0, h1⟩
  obtain ⟨r1, r2⟩ := exts_all ps hp hl
  obtain ⟨r3, r4⟩ := exts_all (ps.set i p) hp2 (by simpa using hl)
  obtain ⟨r5, r6⟩ := put_right r1 (i := i) (p := p) (by omega) (by omega) h0 h1
  refine ⟨uniq r5 r3 fun k => ?_, r3⟩
  rw [r6, r2, r4, List.length_set]
  by_cases hk : k = i
  · subst hk
    rw [if_pos rfl, if_pos (by omega), Int.toNat_natCast, List.getElem?_set_self hi]
    rfl
  · rw [if_neg hk]
    by_cases h2 : 0 ≤ k ∧ k < ps.length
    · rw [if_pos h2, if_pos h2, List.getElem?_set_ne (by omega)]
    · rw [if_neg h2, if_neg h2]

/-! holes, and how many there are -/
def lens : List Ext → Int
  | [] => 0
  | e :: l => e.n + lens l
theorem lens_append : ∀ (l m : List Ext), lens (l ++ m) = lens l + lens m := by
  intro l
  induction l with
  | nil => intro m; simp [lens]
  | cons e l ih => intro m; rw [List.cons_append, lens, lens, ih]; omega
def holeE (a b : Int) : List Ext := if b ≤ a then [] else [⟨a, b - a, 0⟩]
def holesE : Int → List Ext → Int → List Ext
  | a, [], n => holeE a n
  | a, e :: l, n => holeE a e.f ++ holesE (e.f + e.n) l n
/-- holes that rise, strictly, from a to b -/
def Gaps (l : List Ext) : Int → Int → List Ext → Prop
  | _, _, [] => True
  | a, b, h :: m => 1 ≤ h.n ∧ h.p = 0 ∧ a ≤ h.f ∧ h.f + h.n ≤ b ∧ (∀ k, h.f ≤ k → k < h.f + h.n → pg l k = 0) ∧ Gaps l (h.f + h.n + 1) b m
theorem Gaps.mono {l : List Ext} {a c b : Int} {m : List Ext} (h : Gaps l a b m) (hc : c ≤ a) : Gaps l c b m := by
  cases m with
  | nil => trivial
  | cons x m => exact ⟨h.1, h.2.1, Int.le_trans hc h.2.2.1, h.2.2.2⟩
theorem holes_gaps : ∀ {m l : List Ext} {a n : Int}, Up a m → Ends n m → a ≤ n → (∀ k, a ≤ k → k < n → pg l k = pg m k) → Gaps l a n (holesE a m n) ∧ lens (holesE a m n) + lens m = n - a ∧ (holesE a m n).length ≤ m.length + 1 := by
  intro m
  induction m with
  | nil =>
    intro l a n _ _ hn hk
    unfold holesE holeE
    by_cases h : n ≤ a
    · rw [if_pos h]; exact ⟨trivial, by simp [lens]; omega, by simp⟩
    · rw [if_neg h]
      refine ⟨⟨by simp only; omega, rfl, Int.le_refl _, by simp only; omega, fun k h1 h2 => ?_, trivial⟩, by simp [lens], by simp⟩
      simp only at h1 h2
      rw [hk k h1 (by omega)]; rfl
  | cons e m ih =>
    intro l a n hu he hn hk
    have e1 := hu.2.1; have e2 := hu.1.n
    have e3 := he e (List.mem_cons_self)
    obtain ⟨i1, i2, i3⟩ := ih (l := l) hu.2.2 (fun x hx => he x (List.mem_cons_of_mem _ hx)) e3 (fun k h1 h2 => by rw [hk k (by omega) h2, pg, if_neg (by omega)])
    rw [holesE, lens_append, lens]
    unfold holeE
    by_cases h : e.f ≤ a
    · rw [if_pos h]
      exact ⟨i1.mono (by omega), by simp only [lens]; omega, by simp; omega⟩
    · rw [if_neg h]
      refine ⟨⟨by simp only; omega, rfl, Int.le_refl _, by simp only; omega, fun k h1 h2 => ?_, i1.mono (by simp only; omega)⟩, by simp only [lens]; omega, by simp; omega⟩
      simp only at h1 h2
      rw [hk k h1 (by omega), pg, if_neg (by omega), pg_low hu.2.2 (by omega)]
theorem lens_ends : ∀ {l : List Ext} {a b : Int}, Up a l → Ends b l → a ≤ b → 0 ≤ lens l ∧ lens l ≤ b - a := by
  intro l
  induction l with
  | nil => intro a b _ _ h; simp [lens]; omega
  | cons e l ih =>
    intro a b hu he h
    have := hu.2.1; have := hu.1.n
    have := ih hu.2.2 (fun x hx => he x (List.mem_cons_of_mem _ hx)) (he e (List.mem_cons_self))
    rw [lens]; omega
end Ex
