import Derived.Test.YtbegnnohmahglaaEnMem
import Derived.Test.YtbegnnohmahglaaNmRef
namespace Ino
open Go
set_option linter.unusedVariables false
/-! names in a directory, plainly -/
def lessN (a b : ByteArray) : Bool := Op.bytesLess a.toList b.toList
def nameIs (s : ByteArray) (e : Ent) : Bool := e.s.toList == s.toList
def foreE (s : ByteArray) (e : Ent) : Bool := lessN s e.s
def hasN (s : ByteArray) (l : List Ent) : Bool := l.any (nameIs s)
def inoN (s : ByteArray) : List Ent → Int
  | [] => 0
  | e :: l => if nameIs s e then e.n else inoN s l
def lookN (s : ByteArray) (l : List Ent) : Nat := if hasN s l then l.findIdx (nameIs s) else l.findIdx (foreE s)
def putN (s : ByteArray) (n : Int) (l : List Ent) : List Ent := l.take (l.findIdx (foreE s)) ++ ⟨s, n⟩ :: l.drop (l.findIdx (foreE s))
def dropN (s : ByteArray) (l : List Ent) : List Ent := l.filter (fun e => !nameIs s e)
def okE (e : Ent) : Bool := decide (Go.Proofs.Ytbegnnohmahglaa.nameN e.s.toList = 0) && (decide (1 ≤ e.n) && decide (e.n ≤ 1048576))
def RightN (l : List Ent) : Prop := (∀ e ∈ l, okE e = true) ∧ l.Pairwise (fun a b => lessN a.s b.s = true)
instance (l : List Ent) : Decidable (RightN l) := by unfold RightN; infer_instance
def countN (n : Int) (l : List Ent) : Nat := l.countP (fun e => decide (e.n = n))

theorem bytes_less : ∀ (x y : List UInt8), Op.bytesLess x y = decide (x < y)
  | [], [] => by simp [Op.bytesLess]
  | _ :: _, [] => by simp [Op.bytesLess]
  | [], _ :: _ => by simp [Op.bytesLess]
  | a :: x, b :: y => by
    rw [Op.bytesLess, bytes_less x y]
    simp only [List.cons_lt_cons_iff]
    by_cases h1 : a < b <;> by_cases h2 : a = b <;> by_cases h3 : x < y <;> simp [h1, h2, h3]
theorem lessN_iff {a b : ByteArray} : lessN a b = true ↔ a.toList < b.toList := by
  unfold lessN; rw [bytes_less]; exact decide_eq_true_iff
theorem lessN_trans {a b c : ByteArray} (h : lessN a b = true) (k : lessN b c = true) : lessN a c = true :=
  lessN_iff.2 (List.lt_trans (lessN_iff.1 h) (lessN_iff.1 k))
theorem lessN_irrefl (a : ByteArray) : lessN a a = false := by
  cases h : lessN a a with
  | false => rfl
  | true => exact absurd (lessN_iff.1 h) (List.lt_irrefl _)
theorem bytes_inj {a b : ByteArray} (h : a.toList = b.toList) : a = b := by
  rw [ByteArray.toList_eq, ByteArray.toList_eq] at h
  cases a with | mk x => cases b with | mk y => exact congrArg ByteArray.mk (Array.toList_inj.1 h)
theorem nameIs_iff {s : ByteArray} {e : Ent} : nameIs s e = true ↔ e.s = s := by
  unfold nameIs
  rw [beq_iff_eq]
  exact ⟨bytes_inj, fun h => by rw [h]⟩
theorem less_or {a b : ByteArray} (h : lessN a b = false) : b = a ∨ lessN b a = true := by
  have h1 : ¬ a.toList < b.toList := fun h2 => by rw [lessN_iff.2 h2] at h; cases h
  have h2 : b.toList ≤ a.toList := List.not_lt.1 h1
  by_cases h3 : b.toList < a.toList
  · exact .inr (lessN_iff.2 h3)
  · exact .inl (bytes_inj (List.le_antisymm h2 (List.not_lt.1 h3)))

theorem RightN.nil : RightN [] := ⟨fun e h => absurd h (List.not_mem_nil), List.Pairwise.nil⟩
theorem RightN.take {l : List Ent} (h : RightN l) (k : Nat) : RightN (l.take k) := ⟨fun e he => h.1 e (List.mem_of_mem_take he), h.2.take⟩
theorem RightN.snoc {l : List Ent} {e : Ent} (h : RightN l) (ho : okE e = true) (hl : ∀ d, l.getLast? = some d → lessN d.s e.s = true) : RightN (l ++ [e]) := by
  refine ⟨fun x hx => ?_, ?_⟩
  · rcases List.mem_append.1 hx with hx | hx
    · exact h.1 x hx
    · rw [List.mem_singleton.1 hx]; exact ho
  · rw [List.pairwise_append]
    refine ⟨h.2, List.pairwise_singleton _ _, fun a ha b hb => ?_⟩
    rw [List.mem_singleton.1 hb]
    rcases List.eq_nil_or_concat l with rfl | ⟨r, d, rfl⟩
    · cases ha
    · rw [List.concat_eq_append] at ha h hl
      have hd : lessN d.s e.s = true := hl d (by simp)
      rcases List.mem_append.1 ha with ha | ha
      · exact lessN_trans ((List.pairwise_append.1 h.2).2.2 a ha d (by simp)) hd
      · rw [List.mem_singleton.1 ha]; exact hd
theorem RightN.dropN {l : List Ent} (h : RightN l) (s : ByteArray) : RightN (dropN s l) := by
  unfold Ino.dropN
  exact ⟨fun e he => h.1 e (List.mem_filter.1 he).1, h.2.filter _⟩
theorem RightN.step {l : List Ent} {k : Nat} {e : Ent} (h : RightN (l.take k)) (he : l[k]? = some e) (ho : okE e = true) (hl : ∀ d, 0 < k → l[k - 1]? = some d → lessN d.s e.s = true) : RightN (l.take (k + 1)) := by
  rw [List.take_add_one, he]
  refine h.snoc ho fun d hd => ?_
  have hk : k < l.length := (List.getElem?_eq_some_iff.1 he).1
  rw [List.getLast?_take] at hd
  cases k with
  | zero => simp at hd
  | succ k =>
    rw [if_neg (by omega)] at hd
    refine hl d (by omega) ?_
    simp only [Nat.add_sub_cancel] at hd ⊢
    rw [List.getElem?_eq_getElem (show k < l.length by omega)] at hd ⊢
    simpa using hd
theorem RightN.not_ok {l : List Ent} {k : Nat} {e : Ent} (he : l[k]? = some e) (ho : okE e = false) : ¬ RightN l := fun h => by
  rw [h.1 e (List.mem_of_getElem? he)] at ho; cases ho
theorem RightN.not_less {l : List Ent} {k : Nat} {d e : Ent} (hd : l[k]? = some d) (he : l[k + 1]? = some e) (ho : lessN d.s e.s = false) : ¬ RightN l := fun h => by
  obtain ⟨hk, hd⟩ := List.getElem?_eq_some_iff.1 hd
  obtain ⟨hk2, he⟩ := List.getElem?_eq_some_iff.1 he
  have := List.pairwise_iff_getElem.1 h.2 k (k + 1) hk hk2 (by omega)
  rw [hd, he, ho] at this; cases this

theorem has_false {s : ByteArray} {l : List Ent} : hasN s l = false ↔ ∀ e ∈ l, nameIs s e = false := by
  unfold hasN
  rw [List.any_eq_false]
  exact ⟨fun h e he => by simpa using h e he, fun h e he => by simpa using h e he⟩
theorem dropN_none {s : ByteArray} {l : List Ent} (h : hasN s l = false) : dropN s l = l := by
  unfold dropN
  rw [List.filter_eq_self]
  intro e he
  rw [has_false.1 h e he]; rfl
theorem has_dropN (s : ByteArray) (l : List Ent) : hasN s (dropN s l) = false := by
  rw [has_false]
  intro e he
  have := (List.mem_filter.1 he).2
  simpa using this
theorem hasN_cons (s : ByteArray) (e : Ent) (l : List Ent) : hasN s (e :: l) = (nameIs s e || hasN s l) := rfl
theorem dropN_cons (s : ByteArray) (e : Ent) (l : List Ent) : dropN s (e :: l) = if nameIs s e then dropN s l else e :: dropN s l := by
  unfold dropN
  rw [List.filter_cons]
  cases nameIs s e <;> rfl
theorem dropN_len (s : ByteArray) (l : List Ent) : (dropN s l).length ≤ l.length := List.length_filter_le _ _
theorem drop_less (s : ByteArray) (l : List Ent) : decide ((dropN s l).length < l.length) = hasN s l := by
  induction l with
  | nil => rfl
  | cons e l ih =>
    rw [dropN_cons, hasN_cons]
    cases h : nameIs s e with
    | true =>
      have := dropN_len s l
      simp
      omega
    | false =>
      rw [Bool.false_or, ← ih]
      simp
theorem dropN_putN {s : ByteArray} {n : Int} {l : List Ent} (h : hasN s l = false) : dropN s (putN s n l) = l := by
  unfold putN dropN
  rw [List.filter_append, List.filter_cons]
  have hx : nameIs s ⟨s, n⟩ = true := nameIs_iff.2 rfl
  rw [hx]
  simp only [Bool.not_true, Bool.false_eq_true, if_false]
  rw [← List.filter_append, List.take_append_drop]
  exact dropN_none h
theorem has_putN (s : ByteArray) (n : Int) (l : List Ent) : hasN s (putN s n l) = true := by
  unfold hasN putN
  rw [List.any_append, List.any_cons, show nameIs s ⟨s, n⟩ = true from nameIs_iff.2 rfl]
  simp
theorem RightN.putN {s : ByteArray} {n : Int} {l : List Ent} (h : RightN l) (hn : hasN s l = false) (ho : okE ⟨s, n⟩ = true) : RightN (putN s n l) := by
  unfold Ino.putN
  obtain ⟨k, hk⟩ : ∃ k, l.findIdx (foreE s) = k := ⟨_, rfl⟩
  rw [hk]
  have hlow : ∀ e ∈ l.take k, lessN e.s s = true := fun e he => by
    have hf : foreE s e = false := by
      obtain ⟨i, hi, rfl⟩ := List.mem_take_iff_getElem.1 he
      have hi' : i < l.findIdx (foreE s) := by omega
      simpa using List.not_of_lt_findIdx hi'
    rcases less_or hf with h1 | h1
    · have := has_false.1 hn e (List.mem_of_mem_take he)
      rw [nameIs_iff.2 h1] at this; cases this
    · exact h1
  have hpw : (l.take k ++ l.drop k).Pairwise (fun a b => lessN a.s b.s = true) := by rw [List.take_append_drop]; exact h.2
  have hp := List.pairwise_append.1 hpw
  have hhigh : ∀ e ∈ l.drop k, lessN s e.s = true := fun e he => by
    cases hd : l.drop k with
    | nil => rw [hd] at he; cases he
    | cons f r =>
      have hkl : k < l.length := by
        apply Classical.byContradiction
        intro hc
        rw [List.drop_eq_nil_of_le (by omega)] at hd; cases hd
      have hf : l[k] = f := by
        rw [List.drop_eq_getElem_cons hkl] at hd
        exact (List.cons.inj hd).1
      have h1 : foreE s f = true := by
        have := List.findIdx_getElem (p := foreE s) (xs := l) (w := by rw [hk]; exact hkl)
        simp only [hk] at this
        rw [← hf]; exact this
      rw [hd] at he
      rcases List.mem_cons.1 he with rfl | he
      · exact h1
      · have h2 := hp.2.1
        rw [hd] at h2
        exact lessN_trans h1 ((List.pairwise_cons.1 h2).1 e he)
  refine ⟨fun e he => ?_, ?_⟩
  · rcases List.mem_append.1 he with he | he
    · exact h.1 e (List.mem_of_mem_take he)
    · rcases List.mem_cons.1 he with rfl | he
      · exact ho
      · exact h.1 e (List.mem_of_mem_drop he)
  · rw [List.pairwise_append]
    refine ⟨hp.1, List.pairwise_cons.2 ⟨hhigh, hp.2.1⟩, fun a ha b hb => ?_⟩
    rcases List.mem_cons.1 hb with rfl | hb
    · exact hlow a ha
    · exact hp.2.2 a ha b hb
theorem RightN.ino {l : List Ent} (h : RightN l) {e : Ent} (he : e ∈ l) : hasN e.s l = true ∧ inoN e.s l = e.n := by
  refine ⟨List.any_eq_true.2 ⟨e, he, nameIs_iff.2 rfl⟩, ?_⟩
  induction l with
  | nil => cases he
  | cons f l ih =>
    rw [inoN]
    rcases List.mem_cons.1 he with rfl | he
    · rw [if_pos (nameIs_iff.2 rfl)]
    · have hp := List.pairwise_cons.1 h.2
      have hne : nameIs e.s f = false := by
        cases hc : nameIs e.s f with
        | false => rfl
        | true =>
          have := hp.1 e he
          rw [nameIs_iff.1 hc, lessN_irrefl] at this; cases this
      rw [if_neg (by rw [hne]; decide)]
      exact ih ⟨fun x hx => h.1 x (List.mem_cons_of_mem _ hx), hp.2⟩ he
theorem inoN_none {s : ByteArray} {l : List Ent} (h : hasN s l = false) : inoN s l = 0 := by
  induction l with
  | nil => rfl
  | cons e l ih =>
    rw [hasN_cons, Bool.or_eq_false_iff] at h
    rw [inoN, h.1]
    exact ih h.2
theorem RightN.drop_len {l : List Ent} (h : RightN l) (s : ByteArray) : (Ino.dropN s l).length + (if hasN s l then 1 else 0) = l.length := by
  induction l with
  | nil => rfl
  | cons e l ih =>
    have hp := List.pairwise_cons.1 h.2
    have hr : RightN l := ⟨fun x hx => h.1 x (List.mem_cons_of_mem _ hx), hp.2⟩
    rw [dropN_cons, hasN_cons]
    cases hc : nameIs s e with
    | true =>
      have hn : hasN s l = false := has_false.2 fun x hx => by
        cases hx2 : nameIs s x with
        | false => rfl
        | true =>
          have := hp.1 x hx
          rw [nameIs_iff.1 hc, nameIs_iff.1 hx2, lessN_irrefl] at this; cases this
      rw [dropN_none hn]
      rfl
    | false =>
      have := ih hr
      simp only [Bool.false_or, Bool.false_eq_true, if_false, List.length_cons]
      omega

/-! what the loops say -/
theorem look_yes {s : ByteArray} {l : List Ent} {k : Nat} {e : Ent} (h0 : ∀ x ∈ l.take k, nameIs s x = false) (he : l[k]? = some e) (hs : nameIs s e = true) : hasN s l = true ∧ lookN s l = k ∧ inoN s l = e.n := by
  obtain ⟨hk, hke⟩ := List.getElem?_eq_some_iff.1 he
  have h1 : hasN s l = true := List.any_eq_true.2 ⟨e, List.mem_of_getElem? he, hs⟩
  refine ⟨h1, ?_, ?_⟩
  · unfold lookN
    rw [if_pos h1]
    rw [List.findIdx_eq hk]
    refine ⟨by rw [hke]; exact hs, fun j hj => ?_⟩
    exact h0 _ (List.mem_take_iff_getElem.2 ⟨j, by omega, rfl⟩)
  · have hl : l = l.take k ++ e :: l.drop (k + 1) := by
      rw [← hke, ← List.drop_eq_getElem_cons hk, List.take_append_drop]
    have gen : ∀ (m r : List Ent), (∀ x ∈ m, nameIs s x = false) → inoN s (m ++ e :: r) = e.n := by
      intro m
      induction m with
      | nil => intro r _; rw [List.nil_append, inoN, if_pos hs]
      | cons x m ih =>
        intro r hm
        rw [List.cons_append, inoN, if_neg (by rw [hm x (by simp)]; decide)]
        exact ih r fun y hy => hm y (List.mem_cons_of_mem _ hy)
    rw [hl]
    exact gen _ _ h0
theorem look_no {s : ByteArray} {l : List Ent} (h0 : ∀ x ∈ l, nameIs s x = false) : hasN s l = false ∧ lookN s l = l.findIdx (foreE s) ∧ inoN s l = 0 := by
  have h1 := has_false.2 h0
  exact ⟨h1, by unfold lookN; rw [if_neg (by rw [h1]; decide)], inoN_none h1⟩
theorem lookN_le (s : ByteArray) (l : List Ent) : lookN s l ≤ l.length := by
  unfold lookN
  split <;> exact List.findIdx_le_length
theorem findIdx_all {p : Ent → Bool} {l : List Ent} (h : ∀ x ∈ l, p x = false) : l.findIdx p = l.length :=
  List.findIdx_eq_length.2 h
theorem findIdx_at {p : Ent → Bool} {l : List Ent} {k : Nat} {e : Ent} (h0 : ∀ x ∈ l.take k, p x = false) (he : l[k]? = some e) (hs : p e = true) : l.findIdx p = k := by
  obtain ⟨hk, hke⟩ := List.getElem?_eq_some_iff.1 he
  rw [List.findIdx_eq hk]
  exact ⟨by rw [hke]; exact hs, fun j hj => h0 _ (List.mem_take_iff_getElem.2 ⟨j, by omega, rfl⟩)⟩
theorem take_snoc {l : List Ent} {k : Nat} {e : Ent} (he : l[k]? = some e) : l.take (k + 1) = l.take k ++ [e] := by
  rw [List.take_add_one, he]; rfl
theorem none_snoc {p : Ent → Bool} {l : List Ent} {k : Nat} {e : Ent} (he : l[k]? = some e) (h0 : ∀ x ∈ l.take k, p x = false) (h1 : p e = false) : ∀ x ∈ l.take (k + 1), p x = false := by
  rw [take_snoc he]
  intro x hx
  rcases List.mem_append.1 hx with hx | hx
  · exact h0 x hx
  · rw [List.mem_singleton.1 hx]; exact h1
end Ino
