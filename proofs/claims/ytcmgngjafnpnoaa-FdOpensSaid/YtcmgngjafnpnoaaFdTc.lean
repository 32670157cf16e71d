import Derived.Test.YtcmgngjafnpnoaaFdTb
/-! The project's table: what only tells. -/
namespace Go.Proofs.Ytcmgngjafnpnoaa
open Wd Go.RowKit Go.ChangeShapes Go.WideShapes Go.Sort
set_option linter.unusedVariables false
set_option maxRecDepth 100000
def freeP (o : Opn) : Bool := !decide (1 ≤ o.ino)
def openP (o : Opn) : Bool := decide (1 ≤ o.ino)
theorem freeP_eq {T : List Opn} (h : GoodT T) : ∀ o ∈ T, freeP o = decide (o.ino = 0) := fun o ho => by
  unfold freeP
  rcases h.2 o ho with rfl | h1
  · rfl
  · rw [decide_eq_true h1, decide_eq_false (by omega)]; rfl
theorem openP_eq {T : List Opn} (h : GoodT T) : ∀ o ∈ T, openP o = decide (o.ino ≠ 0) := fun o ho => by
  unfold openP
  rcases h.2 o ho with rfl | h1
  · rfl
  · rw [decide_eq_true h1, decide_eq_true (by omega)]
theorem findIdx_same {p q : Opn → Bool} : ∀ {T : List Opn}, (∀ o ∈ T, p o = q o) → T.findIdx p = T.findIdx q
  | [], _ => rfl
  | a :: T, h => by
    rw [List.findIdx_cons, List.findIdx_cons, h a List.mem_cons_self, findIdx_same (fun o ho => h o (List.mem_cons_of_mem _ ho))]
theorem free_eq {T : List Opn} (h : GoodT T) : nextP T freeP 0 = freeT T := by
  unfold nextP freeT
  rw [List.drop_zero, Nat.zero_add, findIdx_same (freeP_eq h)]
theorem all_eq {T : List Opn} (h : GoodT T) : T.filter openP = allT T := by
  unfold allT
  exact List.filter_congr (openP_eq h)
def usesP (ino : Int) (o : Opn) : Bool := openP o && decide (o.ino = ino)
theorem users_eq {T : List Opn} (h : GoodT T) (ino : Int) : (T.filter (usesP ino)).length = usersT T ino := by
  unfold usersT
  rw [← all_eq h, List.countP_eq_length_filter, List.filter_filter]
  congr 1
  refine List.filter_congr fun o _ => ?_
  unfold usesP
  rw [Bool.and_comm]
theorem allT_full {T : List Opn} (h : GoodT T) : decide ((allT T).length = 16) = !nextB T := by
  rw [← all_eq h]
  unfold nextB
  rw [← free_eq h]
  by_cases hf : nextP T freeP 0 < 16
  · obtain ⟨o, ho, hp⟩ := nextP_at h.1 hf
    rw [decide_eq_true hf, decide_eq_false (fun he => ?_)]
    · rfl
    · have h2 := List.length_filter_eq_length_iff.1 (he.trans h.1.symm) o (List.mem_of_getElem? ho)
      unfold openP at h2; unfold freeP at hp
      rw [h2] at hp; cases hp
  · rw [decide_eq_false hf, decide_eq_true]
    · rfl
    · rw [List.filter_eq_self.2, h.1]
      intro o ho
      obtain ⟨i, hi, rfl⟩ := List.mem_iff_getElem.1 ho
      have h2 : i < T.findIdx freeP := by unfold nextP at hf; rw [List.drop_zero] at hf; rw [h.1] at hi; omega
      have := List.not_of_lt_findIdx h2
      unfold freeP at this
      unfold openP
      simpa using this
theorem free_le {T : List Opn} (h : GoodT T) : freeT T ≤ 16 := by
  have := nextP_le h.1 freeP (k := 0) (by omega); rw [free_eq h] at this; exact this
section
variable {w : World} {g : Nat} {T : List Opn}
theorem tNext (h : Tb w g T) (hT : GoodT T) : Calls Try.prog 8 #[fptr g] w fun e w' => e = RetIB (nextV T) (nextB T) ∧ Below w.heap.size w w' := by
  have K := Lib.hid (fNext h hT.1 (asks_free w) (Below.refl _ _) (Nat.le_refl _) 0 (by omega))
  have e1 := free_eq hT
  have h16 := free_le hT
  unfold freeP at e1
  rw [e1] at K
  clear h hT e1
  unfold RetIB nextV nextB fptr
  by_cases hf : freeT T < 16
  · have q1 : ((freeT T : Int) == 16) = false := by rw [beq_eq_false_iff_ne]; omega
    rw [if_pos hf, decide_eq_true hf]
    generalize freeT T = n at *
    go_enter Try.func8, Try.ntmps8
    go_wp2_with fail
    refine K.out.mono ?_
    rintro e w1 hg
    obtain ⟨rfl, hb1⟩ := hg.below
    have HB1 := Lib.hid hb1
    clear hg hb1 K
    go_wp2_with fail
    go_ret2
    exact ⟨rfl, HB1.out⟩
  · rw [if_neg hf, decide_eq_false hf]
    have q : freeT T = 16 := by omega
    rw [q] at K
    clear q hf h16
    go_enter Try.func8, Try.ntmps8
    go_wp2_with fail
    refine K.out.mono ?_
    rintro e w1 hg
    obtain ⟨rfl, hb1⟩ := hg.below
    have HB1 := Lib.hid hb1
    clear hg hb1 K
    go_wp2_with fail
    go_ret2
    exact ⟨rfl, HB1.out⟩
theorem tAll (h : Tb w g T) (hT : GoodT T) : Calls Try.prog 12 #[fptr g] w fun e w' => ∃ A c, e = .returned (.slice A (allT T).length c) ∧ OpRow w' A (allT T) ∧ Below w.heap.size w w' := by
  have K := Lib.hid (fThose h hT.1 (asks_open w))
  have e1 := all_eq hT
  unfold openP at e1
  unfold Those at K
  rw [e1] at K
  clear h hT e1
  unfold fptr
  go_enter Try.func12, Try.ntmps12
  go_wp2_with fail
  refine K.out.mono ?_
  rintro e w1 ⟨A, c, rfl, hr, hb⟩
  have HR := Lib.hid hr; have HB := Lib.hid hb
  clear hr hb K
  go_wp2_with fail
  go_ret
  exact ⟨A, c, rfl, HR.out, HB.out⟩
theorem tLen (h : Tb w g T) (hT : GoodT T) : Calls Try.prog 13 #[fptr g] w fun e w' => e = .returned (.int .i64 ((allT T).length : Nat)) ∧ Below w.heap.size w w' := by
  have K := Lib.hid (fThose h hT.1 (asks_open w))
  have e1 := all_eq hT
  unfold openP at e1
  unfold Those at K
  rw [e1] at K
  clear h hT e1
  unfold fptr
  go_enter Try.func13, Try.ntmps13
  go_wp2_with fail
  refine K.out.mono ?_
  rintro e w1 ⟨A, c, rfl, hr, hb⟩
  have HB := Lib.hid hb
  clear hr hb K
  go_wp2_with fail
  go_ret
  exact ⟨rfl, HB.out⟩
theorem tFull (h : Tb w g T) (hT : GoodT T) : Calls Try.prog 14 #[fptr g] w fun e w' => e = .returned (.bool (!nextB T)) ∧ Below w.heap.size w w' := by
  have K := Lib.hid (tLen h hT)
  rw [← allT_full hT]
  have q : (((allT T).length : Int) == 16) = decide ((allT T).length = 16) := by
    rw [Bool.eq_iff_iff, beq_iff_eq, decide_eq_true_eq]; omega
  clear h hT
  generalize (allT T).length = n at *
  unfold fptr at *
  go_enter Try.func14, Try.ntmps14
  go_wp2_with fail
  refine K.out.mono ?_
  rintro e w1 ⟨rfl, hb⟩
  have HB := Lib.hid hb
  clear hb K
  go_wp2_with fail
  go_ret
  exact ⟨by first | rfl | (rw [← q]; rfl), HB.out⟩
theorem uses_in {q : Nat} {ino : Int} (hq : w.cell? ⟨q, 0, none⟩ = some (.int .i64 ino)) (o : Opn) : Calls Try.prog 21 #[o.val, .pointer (some ⟨q, 0, none⟩)] w (Grows (.bool (usesP ino o)) w) := by
  have K := Lib.hid (fun w => fIsOpen o w)
  have hlt : q < w.heap.size := by
    refine Decidable.byContradiction fun h => ?_
    unfold World.cell? at hq
    rw [Array.getElem?_eq_none (by show w.heap.size ≤ q; omega)] at hq
    cases hq
  have hq2 : ∀ w2, Below w.heap.size w w2 → w2.cell? ⟨q, 0, none⟩ = some (.int .i64 ino) := fun w2 hb => (hb.cell (p := ⟨q, 0, none⟩) hlt).trans hq
  have HQ := Lib.hid hq2
  clear hq2 hq hlt
  unfold usesP openP Opn.val at *
  cases hp : decide (1 ≤ o.ino) with
  | true =>
    rw [hp] at K
    clear hp
    go_enter Try.func21, Try.ntmps21
    go_wp2_with fail
    refine (K.out _).mono ?_
    rintro e w2 hg
    obtain ⟨rfl, hb2⟩ := hg.below
    have HG2 := Lib.hid (grow_trans (grow_one w _) hg.2)
    have hc := (Cells.new w 27 #[.int .i64 o.ino, .int .i64 o.off, .int .i64 o.fl]).below' hb2
    have c0 := hc.cell 0
    have c1 := hc.cell 1
    have c2 := hc.cell 2
    simp only [List.getElem?_toArray, List.getElem?_cons_zero, List.getElem?_cons_succ] at c0 c1 c2
    have cq := HQ.out w2 ((below_of_grown (World.grownBy_alloc w _ none)).trans (hb2.mono (by simp)))
    clear hg hb2 hc
    go_wp2_with fail
    go_ret
    exact ⟨rfl, HG2.out⟩
  | false =>
    rw [hp] at K
    clear hp
    go_enter Try.func21, Try.ntmps21
    go_wp2_with fail
    refine (K.out _).mono ?_
    rintro e w2 hg
    obtain ⟨rfl, hb2⟩ := hg.below
    have HG2 := Lib.hid (grow_trans (grow_one w _) hg.2)
    clear hg hb2
    go_wp2_with fail
    go_ret
    exact ⟨rfl, HG2.out⟩
theorem asks_uses {q : Nat} {ino : Int} (hq : w.cell? ⟨q, 0, none⟩ = some (.int .i64 ino)) (hlt : q < w.heap.size) : Asks w 21 #[] #[.pointer (some ⟨q, 0, none⟩)] (usesP ino) :=
  ⟨fun args w => by simp [go_sem], fun o w2 hb => uses_in ((hb.cell (p := ⟨q, 0, none⟩) hlt).trans hq) o⟩
theorem tUsers (h : Tb w g T) (hT : GoodT T) (ino : Int) : Calls Try.prog 15 #[fptr g, .int .i64 ino] w fun e w' => e = .returned (.int .i64 (usersT T ino : Nat)) ∧ Below w.heap.size w w' := by
  have hb0 : Below w.heap.size w (w.alloc (.cells #[.int .i64 ino] 3)) := below_of_grown (World.grownBy_alloc w _ none)
  have hq := (Cells.new w 3 #[.int .i64 ino]).cell 0
  simp only [List.getElem?_toArray, List.getElem?_cons_zero] at hq
  have K := Lib.hid (fThose (w := w.alloc (.cells #[.int .i64 ino] 3)) (h.below' hb0) hT.1 (asks_uses hq (by simp)))
  have HB0 := Lib.hid hb0
  rw [← users_eq hT ino]
  clear h hT hb0
  unfold fptr
  go_enter Try.func15, Try.ntmps15
  go_wp2_with fail
  refine K.out.mono ?_
  rintro e w1 ⟨A, c, rfl, hr, hb⟩
  have HB := Lib.hid (HB0.out.trans (hb.mono HB0.out.size))
  clear hr hb K
  go_wp2_with fail
  go_ret
  exact ⟨rfl, HB.out⟩
end
end Go.Proofs.Ytcmgngjafnpnoaa
