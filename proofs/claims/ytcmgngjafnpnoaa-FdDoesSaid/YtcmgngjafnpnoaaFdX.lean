import Derived.Test.YtcmgngjafnpnoaaFdEq
/-! The law's own places beside a table's. -/
namespace Go.Proofs.Ytcmgngjafnpnoaa
open Wd Go.RowKit Go.ChangeShapes Go.WideShapes Go.ChangeAt Go.Deep Go.Sort
set_option linter.unusedVariables false
set_option maxRecDepth 100000
/-- a deed: its kind, a place, an open file -/
structure Fdd where
  kind : Int
  fd : Int
  o : Opn
instance : Inhabited Fdd := ⟨⟨0, 0, ⟨0, 0, 0⟩⟩⟩
def Fdd.cells (d : Fdd) : List Value := [.int .i64 d.kind, .int .i64 d.fd, .int .i64 d.o.ino, .int .i64 d.o.off, .int .i64 d.o.fl]
def DdRow (w : World) (A : Option Addr) (l : List Fdd) : Prop := 0 < l.length → ∃ b off, A = some ⟨b, off, none⟩ ∧ b < w.heap.size ∧ ∀ (i : Nat) (d : Fdd), l[i]? = some d → ∀ (k : Nat) (x : Value), d.cells[k]? = some x → w.cell? ⟨b, off + (i * 5 + k), none⟩ = some x
theorem DdRow.below {w w' : World} {A : Option Addr} {l : List Fdd} (h : DdRow w A l) (hb : Below w.heap.size w w') : DdRow w' A l := fun h0 => by
  obtain ⟨b, off, e, hlt, hx⟩ := h h0
  refine ⟨b, off, e, Nat.lt_of_lt_of_le hlt hb.size, fun i o hi k x hk => ?_⟩
  have := hx i o hi k x hk
  unfold World.cell? at this ⊢
  rw [hb.block b hlt]; exact this
theorem ddrow_cells {w : World} {A : Option Addr} {l : List Fdd} (h : DdRow w A l) {k : Nat} {d : Fdd} (hk : l[k]? = some d) : ∃ b off, A = some ⟨b, off, none⟩ ∧ b < w.heap.size ∧ w.cell? ⟨b, off + k * 5, none⟩ = some (.int .i64 d.kind) ∧ w.cell? ⟨b, off + k * 5 + 1, none⟩ = some (.int .i64 d.fd) ∧ w.cell? ⟨b, off + k * 5 + 2, none⟩ = some (.int .i64 d.o.ino) ∧
    w.cell? ⟨b, off + k * 5 + 3, none⟩ = some (.int .i64 d.o.off) ∧ w.cell? ⟨b, off + k * 5 + 4, none⟩ = some (.int .i64 d.o.fl) := by
  obtain ⟨b, off, rfl, hb, hx⟩ := h (by have := (List.getElem?_eq_some_iff.1 hk).1; omega)
  exact ⟨b, off, rfl, hb, hx k d hk 0 _ rfl, hx k d hk 1 _ rfl, hx k d hk 2 _ rfl, hx k d hk 3 _ rfl, hx k d hk 4 _ rfl⟩
theorem x_cells {w : World} {q : Nat} {t : TypeId} {T : List Opn} (h : Cells w q t (ocells T).toArray) {i : Nat} {o : Opn} (hi : T[i]? = some o) : w.cell? ⟨q, i * 3, none⟩ = some (.int .i64 o.ino) ∧ w.cell? ⟨q, i * 3 + 1, none⟩ = some (.int .i64 o.off) ∧ w.cell? ⟨q, i * 3 + 2, none⟩ = some (.int .i64 o.fl) := by
  refine ⟨?_, ?_, ?_⟩
  · rw [h.cell]; have := ocells_at T i o 0 _ hi rfl; simpa using this
  · rw [h.cell]; have := ocells_at T i o 1 _ hi rfl; simpa using this
  · rw [h.cell]; have := ocells_at T i o 2 _ hi rfl; simpa using this
theorem x_set {w : World} {q : Nat} {t : TypeId} {T : List Opn} (h : Cells w q t (ocells T).toArray) {i : Nat} (hi : i < T.length) (o : Opn) : Cells (((w.setCell ⟨q, i * 3, none⟩ (.int .i64 o.ino)).setCell ⟨q, i * 3 + 1, none⟩ (.int .i64 o.off)).setCell ⟨q, i * 3 + 2, none⟩ (.int .i64 o.fl)) q t (ocells (T.set i o)).toArray := by
  have h3 := ((h.set (i * 3) (.int .i64 o.ino)).set (i * 3 + 1) (.int .i64 o.off)).set (i * 3 + 2) (.int .i64 o.fl)
  rw [← ocells_set T i o hi]
  simpa using h3
def FreeUp (T : List Opn) (k : Nat) : Prop := k ≤ 16 ∧ ∀ j o, j < k → T[j]? = some o → o.ino ≠ 0
theorem FreeUp.zero (T : List Opn) : FreeUp T 0 := ⟨by omega, fun j o h => absurd h (by omega)⟩
theorem FreeUp.step {T : List Opn} {k : Nat} (h : FreeUp T k) {o : Opn} (hk : T[k]? = some o) (hg : T.length = 16) (ho : o.ino ≠ 0) : FreeUp T (k + 1) := ⟨by have := (List.getElem?_eq_some_iff.1 hk).1; omega, fun j p hj hp => by
  by_cases e : j = k
  · subst e; rw [hk] at hp; rw [← Option.some.inj hp]; exact ho
  · exact h.2 j p (by omega) hp⟩
theorem FreeUp.at_ {T : List Opn} {k : Nat} (h : FreeUp T k) {o : Opn} (hk : T[k]? = some o) (ho : o.ino = 0) : freeT T = k := by
  obtain ⟨hl, he⟩ := List.getElem?_eq_some_iff.1 hk
  unfold freeT
  rw [List.findIdx_eq hl]
  refine ⟨by rw [he]; exact decide_eq_true ho, fun j hj => ?_⟩
  exact decide_eq_false (h.2 j _ hj (List.getElem?_eq_getElem (by omega)))
theorem FreeUp.full {T : List Opn} (h : FreeUp T 16) (hg : T.length = 16) : freeT T = 16 := by
  unfold freeT
  rw [← hg, List.findIdx_eq_length]
  intro o ho
  obtain ⟨j, hj⟩ := List.getElem?_of_mem ho
  exact decide_eq_false (h.2 j o (by have := (List.getElem?_eq_some_iff.1 hj).1; omega) hj)
theorem all_take {T : List Opn} {k : Nat} {o : Opn} (hk : T[k]? = some o) : allT (T.take (k + 1)) = allT (T.take k) ++ (if o.ino ≠ 0 then [o] else []) := by
  have e : T.take (k + 1) = T.take k ++ [o] := by rw [List.take_add_one, hk]; rfl
  rw [e]
  unfold allT
  rw [List.filter_append]
  congr 1
  by_cases h : o.ino = 0
  · simp [h]
  · simp [h]
theorem all_at {T : List Opn} {k : Nat} {o : Opn} (hk : T[k]? = some o) (ho : o.ino ≠ 0) : (allT T)[(allT (T.take k)).length]? = some o := by
  have e : T = T.take (k + 1) ++ T.drop (k + 1) := (List.take_append_drop _ _).symm
  have e2 : allT T = allT (T.take (k + 1)) ++ allT (T.drop (k + 1)) := by
    conv => lhs; rw [e]
    unfold allT; rw [List.filter_append]
  rw [e2, all_take hk, if_pos ho, List.append_assoc, List.getElem?_append_right (Nat.le_refl _), Nat.sub_self]
  rfl
theorem users_take {T : List Opn} {k : Nat} {o : Opn} (hk : T[k]? = some o) (ino : Int) : usersT (T.take (k + 1)) ino = usersT (T.take k) ino + (if o.ino ≠ 0 ∧ o.ino = ino then 1 else 0) := by
  unfold usersT
  rw [all_take hk, List.countP_append]
  congr 1
  by_cases h : o.ino = 0
  · rw [if_neg (fun e => e h), if_neg (fun e => e.1 h)]; rfl
  · by_cases h2 : o.ino = ino
    · rw [if_pos h, if_pos ⟨h, h2⟩]; simp [h2]
    · rw [if_pos h, if_neg (fun e => h2 e.2)]; simp [h2]
theorem all_full {T : List Opn} (h : T.length = 16) : decide ((allT T).length = 16) = !nextB T := by
  unfold nextB
  by_cases hf : freeT T < 16
  · rw [decide_eq_true hf]
    refine decide_eq_false fun he => ?_
    have h1 : allT T = T := by
      have := List.filter_sublist (l := T) (p := fun o : Opn => decide (o.ino ≠ 0))
      exact this.eq_of_length (by unfold allT at he; rw [he, h])
    have hl : freeT T < T.length := by omega
    have h2 := List.findIdx_getElem (p := fun o : Opn => decide (o.ino = 0)) (xs := T) (w := hl)
    have h3 : T[freeT T] ∈ allT T := by rw [h1]; exact List.getElem_mem hl
    unfold allT at h3
    rw [List.mem_filter] at h3
    exact absurd (of_decide_eq_true h2) (of_decide_eq_true h3.2)
  · rw [decide_eq_false hf]
    refine decide_eq_true ?_
    have h0 : freeT T = T.length := by
      have : freeT T ≤ T.length := List.findIdx_le_length
      omega
    unfold freeT at h0
    rw [List.findIdx_eq_length] at h0
    unfold allT
    rw [List.filter_eq_self.2 (fun o ho => by have := h0 o ho; simpa using this), h]
theorem len_set {T : List Opn} (h : T.length = 16) (i : Nat) (o : Opn) : (T.set i o).length = 16 := by rw [List.length_set]; exact h
theorem isT_at {T : List Opn} {fd : Int} (h0 : 0 ≤ fd) (h1 : fd < 16) {o : Opn} (ho : T[fd.toNat]? = some o) : isT T fd = decide (o.ino ≠ 0) := by
  unfold isT
  rw [decide_eq_true h0, decide_eq_true h1, ho]
  rfl
theorem isT_out {T : List Opn} {fd : Int} (h : ¬ (0 ≤ fd ∧ fd < 16)) : isT T fd = false := by
  unfold isT
  by_cases h0 : 0 ≤ fd
  · rw [decide_eq_false (fun h1 => h ⟨h0, h1⟩), Bool.and_false]; rfl
  · rw [decide_eq_false h0]; rfl
theorem isT_true {T : List Opn} (hg : T.length = 16) {fd : Int} (h : isT T fd = true) : ∃ (a : Nat) (o : Opn), fd = (a : Int) ∧ a < 16 ∧ T[a]? = some o ∧ o.ino ≠ 0 ∧ getT T fd = o ∧ closeT T fd = T.set a Opn.zero := by
  have h2 := h
  unfold isT at h2
  simp only [Bool.and_eq_true, decide_eq_true_eq] at h2
  obtain ⟨⟨h0, h1⟩, h3⟩ := h2
  obtain ⟨a, rfl⟩ : ∃ a : Nat, fd = (a : Int) := ⟨fd.toNat, (Int.toNat_of_nonneg h0).symm⟩
  have ha : a < 16 := Int.ofNat_lt.1 h1
  obtain ⟨o, ho⟩ : ∃ o, T[a]? = some o := ⟨_, List.getElem?_eq_getElem (by omega)⟩
  rw [Int.toNat_natCast, ho] at h3
  refine ⟨a, o, rfl, ha, ho, h3, ?_, ?_⟩
  · unfold getT; rw [if_pos h, Int.toNat_natCast, ho]; rfl
  · unfold closeT; rw [if_pos h, Int.toNat_natCast]
theorem isT_false {T : List Opn} {fd : Int} (h : isT T fd = false) : getT T fd = Opn.zero ∧ closeT T fd = T := by
  constructor
  · unfold getT; rw [if_neg (by rw [h]; decide)]
  · unfold closeT; rw [if_neg (by rw [h]; decide)]
theorem setT_true {T : List Opn} {a : Nat} {o : Opn} (h : isT T (a : Int) = true) (ho : 1 ≤ o.ino) : setB T (a : Int) o = true ∧ setT T (a : Int) o = T.set a o := by
  have hb : setB T (a : Int) o = true := by unfold setB; rw [h, decide_eq_true ho]; rfl
  exact ⟨hb, by unfold setT; rw [if_pos hb, Int.toNat_natCast]⟩
theorem setT_false {T : List Opn} {fd : Int} {o : Opn} (h : isT T fd = false ∨ ¬ 1 ≤ o.ino) : setB T fd o = false ∧ setT T fd o = T := by
  have hb : setB T fd o = false := by
    unfold setB
    rcases h with h | h
    · rw [h]; rfl
    · rw [decide_eq_false h, Bool.and_false]
  exact ⟨hb, by unfold setT; rw [if_neg (by rw [hb]; decide)]⟩
theorem openT_true {T : List Opn} {o : Opn} (h : freeT T < 16) (ho : 1 ≤ o.ino) : openB T o = true ∧ openV T o = freeT T ∧ openT T o = T.set (freeT T) o := by
  have hb : openB T o = true := by unfold openB nextB; rw [decide_eq_true h, decide_eq_true ho]; rfl
  exact ⟨hb, by unfold openV; rw [if_pos hb], by unfold openT; rw [if_pos hb]⟩
theorem openT_false {T : List Opn} {o : Opn} (h : ¬ freeT T < 16 ∨ ¬ 1 ≤ o.ino) : openB T o = false ∧ openV T o = 0 ∧ openT T o = T := by
  have hb : openB T o = false := by
    unfold openB nextB
    rcases h with h | h
    · rw [decide_eq_false h]; rfl
    · rw [decide_eq_false h, Bool.and_false]
  exact ⟨hb, by unfold openV; rw [if_neg (by rw [hb]; decide)], by unfold openT; rw [if_neg (by rw [hb]; decide)]⟩
theorem ocells_ext {T : List Opn} {k : Nat} {o : Opn} (hk : T[k]? = some o) : (ocells T).toArray.extract (k * 3) (k * 3 + 3) = #[.int .i64 o.ino, .int .i64 o.off, .int .i64 o.fl] := by
  have hl := (List.getElem?_eq_some_iff.1 hk).1
  have h0 := ocells_at T k o 0 _ hk rfl
  have h1 := ocells_at T k o 1 _ hk rfl
  have h2 := ocells_at T k o 2 _ hk rfl
  have hlen := ocells_len T
  apply Array.ext
  · simp [hlen]; omega
  · intro i hi1 hi2
    have hi : i < 3 := by simpa using hi2
    rw [Array.getElem_extract, List.getElem_toArray]
    match i, hi with
    | 0, _ => have := (List.getElem?_eq_some_iff.1 h0).2; simpa using this
    | 1, _ => have := (List.getElem?_eq_some_iff.1 h1).2; simpa using this
    | 2, _ => have := (List.getElem?_eq_some_iff.1 h2).2; simpa using this
end Go.Proofs.Ytcmgngjafnpnoaa
