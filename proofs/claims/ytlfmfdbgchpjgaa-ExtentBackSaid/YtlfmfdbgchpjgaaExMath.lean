import Derived.Test.YtlfmfdbgchpjgaaWd
namespace Ex
set_option linter.unusedVariables false
set_option linter.unusedSimpArgs false

/-! extents, plainly: from, how many, page -/
structure Ext where
  f : Int
  n : Int
  p : Int
instance : Inhabited Ext := ⟨⟨0, 0, 0⟩⟩
structure Fits (e : Ext) : Prop where
  n : 1 ≤ e.n
  f : 0 ≤ e.f
  fn : e.f + e.n ≤ 1048576
  p : 1 ≤ e.p
  pn : e.p + e.n ≤ 1048576
def fitsB (e : Ext) : Bool := decide (1 ≤ e.n ∧ 0 ≤ e.f ∧ e.f + e.n ≤ 1048576 ∧ 1 ≤ e.p ∧ e.p + e.n ≤ 1048576)
theorem fitsB_iff {e : Ext} : fitsB e = true ↔ Fits e := by
  unfold fitsB
  rw [decide_eq_true_iff]
  exact ⟨fun ⟨a, b, c, d, f⟩ => ⟨a, b, c, d, f⟩, fun h => ⟨h.n, h.f, h.fn, h.p, h.pn⟩⟩
def asB (a e : Ext) : Bool := decide (e.f = a.f + a.n ∧ e.p = a.p + a.n)
/-- right from a last one on -/
def rb : Option Ext → List Ext → Bool
  | _, [] => true
  | none, e :: l => fitsB e && rb (some e) l
  | some a, e :: l => fitsB e && (!(decide (e.f < a.f + a.n) || asB a e) && rb (some e) l)
def RF : Option Ext → List Ext → Prop
  | _, [] => True
  | q, e :: l => Fits e ∧ (∀ a, q = some a → a.f + a.n ≤ e.f ∧ ¬ (e.f = a.f + a.n ∧ e.p = a.p + a.n)) ∧ RF (some e) l
def rightB (l : List Ext) : Bool := rb none l
def Right (l : List Ext) : Prop := RF none l
theorem rb_iff : ∀ {l : List Ext} {q : Option Ext}, rb q l = true ↔ RF q l := by
  intro l
  induction l with
  | nil => intro q; simp [rb, RF]
  | cons e l ih =>
    intro q
    cases q with
    | none => simp [rb, RF, ih, fitsB_iff]
    | some a =>
      simp only [rb, RF, ih, fitsB_iff, Bool.and_eq_true, Bool.not_eq_true', Bool.or_eq_false_iff, asB, decide_eq_false_iff_not]
      constructor
      · rintro ⟨h1, ⟨h2, h3⟩, h4⟩
        exact ⟨h1, fun x hx => by cases hx; exact ⟨by omega, h3⟩, h4⟩
      · rintro ⟨h1, h2, h4⟩
        obtain ⟨h5, h6⟩ := h2 a rfl
        exact ⟨h1, ⟨by omega, h6⟩, h4⟩
theorem rightB_iff {l : List Ext} : rightB l = true ↔ Right l := rb_iff
/-- rising from b on -/
def Up : Int → List Ext → Prop
  | _, [] => True
  | b, e :: l => Fits e ∧ b ≤ e.f ∧ Up (e.f + e.n) l
theorem RF.up : ∀ {l : List Ext} {q : Option Ext} {b : Int}, RF q l → (∀ a, q = some a → b ≤ a.f + a.n) → (q = none → b ≤ 0) → Up b l := by
  intro l
  induction l with
  | nil => intros; trivial
  | cons e l ih =>
    intro q b h h1 h2
    refine ⟨h.1, ?_, ih h.2.2 (fun a ha => by cases ha; exact Int.le_refl _) (fun h => by cases h)⟩
    cases q with
    | none => have := h2 rfl; have := h.1.f; omega
    | some a => have := h1 a rfl; have := (h.2.1 a rfl).1; omega
theorem Right.up {l : List Ext} (h : Right l) : Up 0 l := RF.up h (fun a ha => by cases ha) (fun _ => Int.le_refl _)
theorem Up.fits : ∀ {l : List Ext} {b : Int}, Up b l → ∀ e ∈ l, Fits e := by
  intro l
  induction l with
  | nil => intro b _ e he; cases he
  | cons x l ih =>
    intro b h e he
    rcases List.mem_cons.1 he with rfl | he
    · exact h.1
    · exact ih h.2.2 e he
theorem Right.fits {l : List Ext} (h : Right l) : ∀ e ∈ l, Fits e := h.up.fits
theorem Up.ge : ∀ {l : List Ext} {b : Int}, Up b l → ∀ e ∈ l, b ≤ e.f := by
  intro l
  induction l with
  | nil => intro b _ e he; cases he
  | cons x l ih =>
    intro b h e he
    rcases List.mem_cons.1 he with rfl | he
    · exact h.2.1
    · have := ih h.2.2 e he
      have := h.1.n; have := h.2.1
      omega
theorem Up.mono {l : List Ext} {b c : Int} (h : Up b l) (hc : c ≤ b) : Up c l := by
  cases l with
  | nil => trivial
  | cons e l => exact ⟨h.1, Int.le_trans hc h.2.1, h.2.2⟩

/-! the page of a place -/
def pg : List Ext → Int → Int
  | [], _ => 0
  | e :: l, k => if e.f ≤ k ∧ k < e.f + e.n then e.p + (k - e.f) else pg l k
theorem pg_low : ∀ {l : List Ext} {b k : Int}, Up b l → k < b → pg l k = 0 := by
  intro l
  induction l with
  | nil => intros; rfl
  | cons e l ih =>
    intro b k h hk
    have h1 := h.2.1
    have h2 := h.1.n
    rw [pg, if_neg (by omega)]
    exact ih h.2.2 (by omega)
def Ends (b : Int) (l : List Ext) : Prop := ∀ e ∈ l, e.f + e.n ≤ b
theorem pg_high : ∀ {l : List Ext} {b k : Int}, Ends b l → b ≤ k → pg l k = 0 := by
  intro l
  induction l with
  | nil => intros; rfl
  | cons e l ih =>
    intro b k h hk
    have h1 := h e (List.mem_cons_self)
    rw [pg, if_neg (by omega)]
    exact ih (fun x hx => h x (List.mem_cons_of_mem _ hx)) hk
theorem pg_append : ∀ {l m : List Ext} {k : Int}, (∀ e ∈ l, Fits e) → pg (l ++ m) k = if pg l k = 0 then pg m k else pg l k := by
  intro l
  induction l with
  | nil => intro m k _; simp [pg]
  | cons e l ih =>
    intro m k h
    have h1 := h e (List.mem_cons_self)
    rw [List.cons_append, pg, pg]
    by_cases hc : e.f ≤ k ∧ k < e.f + e.n
    · rw [if_pos hc, if_pos hc, if_neg (by have := h1.p; omega)]
    · rw [if_neg hc, if_neg hc, ih (fun x hx => h x (List.mem_cons_of_mem _ hx))]
theorem pg_nonneg : ∀ {l : List Ext} {k : Int}, (∀ e ∈ l, Fits e) → 0 ≤ pg l k ∧ pg l k < 1048576 := by
  intro l
  induction l with
  | nil => intro k _; simp [pg]
  | cons e l ih =>
    intro k h
    have h1 := h e (List.mem_cons_self)
    have := h1.p; have := h1.pn; have := h1.n; have := h1.fn
    rw [pg]
    by_cases hc : e.f ≤ k ∧ k < e.f + e.n
    · rw [if_pos hc]; omega
    · rw [if_neg hc]; exact ih (fun x hx => h x (List.mem_cons_of_mem _ hx))
theorem Right.low {l : List Ext} (h : Right l) {k : Int} (hk : k < 0) : pg l k = 0 := pg_low h.up hk
theorem Right.ends {l : List Ext} (h : Right l) : Ends 1048576 l := fun e he => (h.fits e he).fn
theorem Right.high {l : List Ext} (h : Right l) {k : Int} (hk : 1048576 ≤ k) : pg l k = 0 := pg_high h.ends hk

/-- what is right is told by its pages -/
theorem uniq : ∀ {l m : List Ext} {q : Option Ext}, RF q l → RF q m → (∀ k, pg l k = pg m k) → l = m := by
  intro l
  induction l with
  | nil =>
    intro m q _ hm h
    cases m with
    | nil => rfl
    | cons e m =>
      have h1 := h e.f
      have := hm.1.n; have := hm.1.p
      rw [pg, pg, if_pos (by omega)] at h1
      omega
  | cons e l ih =>
    intro m q hl hm h
    cases m with
    | nil =>
      have h1 := h e.f
      have := hl.1.n; have := hl.1.p
      rw [pg, pg, if_pos (by omega)] at h1
      omega
    | cons x m =>
      have ul : Up (e.f + e.n) l := RF.up hl.2.2 (fun a ha => by cases ha; exact Int.le_refl _) (fun h => by cases h)
      have um : Up (x.f + x.n) m := RF.up hm.2.2 (fun a ha => by cases ha; exact Int.le_refl _) (fun h => by cases h)
      have en := hl.1.n; have ep := hl.1.p; have xn := hm.1.n; have xp := hm.1.p
      have step : ∀ (e x : Ext) (l m : List Ext), Fits e → Fits x → Up (x.f + x.n) m → (∀ k, pg (e :: l) k = pg (x :: m) k) → x.f ≤ e.f := by
        intro e x l m he hx um h
        apply Classical.byContradiction
        intro hc
        have h1 := h e.f
        have := he.n; have := he.p; have := hx.n
        rw [pg, if_pos (by omega), pg, if_neg (by omega), pg_low um (by omega)] at h1
        omega
      have hf : e.f = x.f := by
        have h1 := step e x l m hl.1 hm.1 um h
        have h2 := step x e m l hm.1 hl.1 ul (fun k => (h k).symm)
        omega
      have hp : e.p = x.p := by
        have h1 := h e.f
        rw [pg, if_pos (by omega), pg, if_pos (by omega)] at h1
        omega
      have lens : ∀ (e x : Ext) (l m : List Ext), Fits e → Fits x → RF (some e) l → Up (e.f + e.n) l → e.f = x.f → e.p = x.p → (∀ k, pg (e :: l) k = pg (x :: m) k) → x.n ≤ e.n := by
        intro e x l m he hx hl ul hf hp h
        apply Classical.byContradiction
        intro hc
        have h1 := h (e.f + e.n)
        have := he.n; have := he.p; have := hx.n
        rw [pg, if_neg (by omega), pg, if_pos (by omega)] at h1
        cases l with
        | nil => rw [pg] at h1; omega
        | cons y l =>
          have y1 := ul.2.1
          have y2 := (hl.2.1 e rfl).2
          have y3 := ul.1.n
          by_cases hy : y.f = e.f + e.n
          · rw [pg, if_pos (by omega)] at h1
            exact y2 ⟨hy, by omega⟩
          · rw [pg, if_neg (by omega), pg_low ul.2.2 (by omega)] at h1
            omega
      have hn : e.n = x.n := by
        have h1 := lens e x l m hl.1 hm.1 hl.2.2 ul hf hp h
        have h2 := lens x e m l hm.1 hl.1 hm.2.2 um hf.symm hp.symm (fun k => (h k).symm)
        omega
      obtain ⟨ef, en', ep'⟩ := e
      obtain ⟨xf, xn', xp'⟩ := x
      simp only at hf hp hn
      subst hf hp hn
      rw [ih hl.2.2 hm.2.2 (fun k => ?_)]
      have h1 := h k
      rw [pg, pg] at h1
      simp only at h1
      by_cases hc : ef ≤ k ∧ k < ef + en'
      · rw [pg_low ul (show k < ef + en' from hc.2), pg_low um (show k < ef + en' from hc.2)]
      · rw [if_neg hc, if_neg hc] at h1
        exact h1

/-! between two places -/
def partE (e : Ext) (a b : Int) : Ext := ⟨max e.f a, min (e.f + e.n) b - max e.f a, e.p + max e.f a - e.f⟩
def btw : List Ext → Int → Int → List Ext
  | [], _, _ => []
  | e :: l, a, b => if e.f + e.n ≤ a then btw l a b else if b ≤ e.f then [] else partE e a b :: btw l a b
theorem btw_none : ∀ {l : List Ext} {a b c : Int}, Up c l → b ≤ c → btw l a b = [] := by
  intro l
  induction l with
  | nil => intros; rfl
  | cons e l ih =>
    intro a b c h hb
    have := h.2.1; have := h.1.n
    rw [btw]
    by_cases h1 : e.f + e.n ≤ a
    · rw [if_pos h1]; exact ih h.2.2 (by omega)
    · rw [if_neg h1, if_pos (by omega)]
theorem part_fits {e : Ext} (h : Fits e) {a b : Int} (h0 : 0 ≤ a) (h1 : a < e.f + e.n) (h2 : e.f < b) (hab : a < b) : Fits (partE e a b) := by
  obtain ⟨n, f, fn, p, pn⟩ := h
  unfold partE
  constructor <;> simp only <;> omega
def Span (a b : Int) : Prop := 0 ≤ a ∧ (a < b ∨ b ≤ 0 ∨ 1048576 ≤ a)
theorem btw_rf : ∀ {l : List Ext} {a b : Int} {q y : Option Ext}, RF y l → Span a b → (∀ x, q = some x → ∃ z, y = some z ∧ a < x.f + x.n ∧ x.f + x.n = z.f + z.n ∧ x.p + x.n = z.p + z.n) → RF q (btw l a b) := by
  intro l
  induction l with
  | nil => intros; trivial
  | cons e l ih =>
    intro a b q y h hs hq
    have up : Up (e.f + e.n) l := RF.up h.2.2 (fun a ha => by cases ha; exact Int.le_refl _) (fun h => by cases h)
    rw [btw]
    by_cases h1 : e.f + e.n ≤ a
    · rw [if_pos h1]
      refine ih h.2.2 hs fun x hx => ?_
      obtain ⟨z, rfl, h2, h3, _⟩ := hq x hx
      have := (h.2.1 z rfl).1; have := h.1.n
      omega
    · rw [if_neg h1]
      by_cases h2 : b ≤ e.f
      · rw [if_pos h2]; trivial
      · rw [if_neg h2]
        have := h.1.fn; have := h.1.f
        have hab : a < b := by rcases hs.2 with h | h | h <;> omega
        refine ⟨part_fits h.1 hs.1 (by omega) (by omega) hab, fun x hx => ?_, ?_⟩
        · obtain ⟨z, rfl, h3, h4, h5⟩ := hq x hx
          obtain ⟨h6, h7⟩ := h.2.1 z rfl
          unfold partE
          simp only
          refine ⟨by omega, fun ⟨e1, e2⟩ => h7 ⟨by omega, by omega⟩⟩
        · by_cases h3 : e.f + e.n ≤ b
          · refine ih h.2.2 hs fun x hx => ⟨e, rfl, ?_⟩
            cases hx
            unfold partE
            simp only
            omega
          · rw [btw_none up (by omega)]; trivial
theorem btw_right {l : List Ext} {a b : Int} (h : Right l) (hs : Span a b) : Right (btw l a b) := btw_rf h hs (fun x hx => by cases hx)
theorem btw_in : ∀ {l : List Ext} {a b : Int}, ∀ e ∈ btw l a b, a ≤ e.f ∧ e.f + e.n ≤ b := by
  intro l
  induction l with
  | nil => intro a b e he; cases he
  | cons x l ih =>
    intro a b e he
    rw [btw] at he
    by_cases h1 : x.f + x.n ≤ a
    · rw [if_pos h1] at he; exact ih e he
    · rw [if_neg h1] at he
      by_cases h2 : b ≤ x.f
      · rw [if_pos h2] at he; cases he
      · rw [if_neg h2] at he
        rcases List.mem_cons.1 he with rfl | he
        · unfold partE; simp only; omega
        · exact ih e he
theorem btw_len : ∀ {l : List Ext} {a b : Int}, (btw l a b).length ≤ l.length := by
  intro l
  induction l with
  | nil => intros; exact Nat.le_refl _
  | cons x l ih =>
    intro a b
    rw [btw]
    have := @ih a b
    split
    · simp; omega
    · split
      · simp
      · simp; omega
theorem btw_pg : ∀ {l : List Ext} {a b c : Int}, Up c l → Span a b → ∀ k, pg (btw l a b) k = if a ≤ k ∧ k < b then pg l k else 0 := by
  intro l
  induction l with
  | nil => intro a b c _ _ k; simp [btw, pg]
  | cons e l ih =>
    intro a b c h hs k
    have e1 := h.1.n; have e2 := h.1.fn; have e3 := h.1.f
    rw [btw]
    by_cases h1 : e.f + e.n ≤ a
    · rw [if_pos h1, ih h.2.2 hs k]
      by_cases hk : a ≤ k ∧ k < b
      · rw [if_pos hk, if_pos hk, pg, if_neg (by omega)]
      · rw [if_neg hk, if_neg hk]
    · rw [if_neg h1]
      by_cases h2 : b ≤ e.f
      · rw [if_pos h2, pg]
        by_cases hk : a ≤ k ∧ k < b
        · rw [if_pos hk, pg, if_neg (by omega), pg_low h.2.2 (by omega)]
        · rw [if_neg hk]
      · rw [if_neg h2, pg, ih h.2.2 hs k]
        have hab : a < b := by rcases hs.2 with h | h | h <;> omega
        by_cases hk : a ≤ k ∧ k < b
        · rw [if_pos hk, if_pos hk, pg]
          by_cases hc : e.f ≤ k ∧ k < e.f + e.n
          · rw [if_pos hc, if_pos (by unfold partE; simp only; omega)]
            unfold partE; simp only; omega
          · rw [if_neg hc, if_neg (by unfold partE; simp only; omega)]
        · rw [if_neg hk, if_neg hk, if_neg (by unfold partE; simp only; omega)]
theorem btw_up {l : List Ext} {a b : Int} (h : Right l) (hs : Span a b) : Up a (btw l a b) := by
  have h1 := (btw_right h hs).up
  have h2 : ∀ e ∈ btw l a b, a ≤ e.f := fun e he => (btw_in e he).1
  cases hb : btw l a b with
  | nil => trivial
  | cons e m => rw [hb] at h1 h2; exact ⟨h1.1, h2 e (List.mem_cons_self), h1.2.2⟩
end Ex
