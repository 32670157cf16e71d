import Derived.Test.YtcdpmifgjaongaaGreatDoorG34
/-! The refs that effects leave, plainly: none twice, if each effect has one of its own. -/
namespace Go.Proofs.YtcdpmifgjaongaaGreatDoor
open Wd Ino
set_option linter.unusedVariables false
def cR (x : Int) (l : List Nod) : Nat := (l.map (fun n => (refsP n.pages).count x)).sum
theorem cR_refs (x : Int) (l : List Nod) : (refsS l).count x = cR x l := by
  unfold refsS cR
  rw [List.count_flatMap]
  rfl
def LeR (l' l : List Nod) : Prop := ∀ x, cR x l' ≤ cR x l
theorem LeR.refl (l : List Nod) : LeR l l := fun _ => Nat.le_refl _
theorem LeR.trans {a b c : List Nod} (h : LeR a b) (k : LeR b c) : LeR a c := fun x => Nat.le_trans (h x) (k x)
theorem LeR.mod (l : List Nod) (i : Int) {f : Nod → Nod} (hf : ∀ n x, (refsP (f n).pages).count x ≤ (refsP n.pages).count x) : LeR (modS l i f) l := fun x => by
  unfold cR modS
  induction l with
  | nil => exact Nat.le_refl _
  | cons a l ih =>
    rw [List.map_cons, List.map_cons, List.sum_cons, List.map_cons, List.sum_cons]
    refine Nat.add_le_add ?_ ih
    split
    · exact hf a x
    · exact Nat.le_refl _
theorem LeR.same (l : List Nod) (i : Int) {f : Nod → Nod} (hf : ∀ n, (f n).pages = n.pages) : LeR (modS l i f) l := LeR.mod l i (fun n x => by rw [hf n]; exact Nat.le_refl _)
theorem LeR.rm (l : List Nod) (i : Int) : LeR (rmS l i) l := fun x => by
  unfold cR rmS
  induction l with
  | nil => exact Nat.le_refl _
  | cons a l ih =>
    rw [List.filter_cons, List.map_cons, List.sum_cons]
    split
    · rw [List.map_cons, List.sum_cons]; omega
    · omega
theorem LeR.enter (l : List Nod) (d : Int) (s : ByteArray) (i : Int) : LeR (enterS l d s i) l := LeR.same _ _ (fun _ => rfl)
theorem LeR.leave (l : List Nod) (d : Int) (s : ByteArray) : LeR (leaveS l d s) l := LeR.same _ _ (fun _ => rfl)
theorem LeR.forget (l : List Nod) (d : Int) (s : ByteArray) (i : Int) : LeR (forgetS l d s i) l := by
  unfold forgetS
  split
  · exact (LeR.rm _ _).trans (LeR.leave _ _ _)
  · exact (LeR.same _ _ (f := lessLk) (fun _ => rfl)).trans (LeR.leave _ _ _)
theorem LeR.move (l : List Nod) (e : Eff) : LeR (moveS l e) l := by
  unfold moveS
  dsimp only
  split
  · exact ((LeR.same _ _ (f := setUp e.dst) (fun _ => rfl)).trans (LeR.enter _ _ _ _)).trans (LeR.leave _ _ _)
  · exact (LeR.enter _ _ _ _).trans (LeR.leave _ _ _)
theorem refs_fit_count (P : List Int) (K : Nat) (x : Int) : (refsP (fitP P K)).count x ≤ (refsP P).count x := by
  unfold refsP fitP
  rw [List.filter_append, List.count_append]
  have h1 : (List.replicate (K - P.length) (0 : Int)).filter (fun x => x != 0) = [] := by simp
  rw [h1, List.count_nil, Nat.add_zero]
  exact List.Sublist.count_le _ ((List.take_sublist K P).filter _)
theorem refs_set_count (P : List Int) (k : Nat) (r x : Int) : (refsP (P.set k r)).count x ≤ (refsP P).count x + (if x = r then 1 else 0) := by
  unfold refsP
  by_cases hk : k < P.length
  · rw [List.set_eq_take_append_cons_drop, if_pos hk, List.filter_append, List.count_append]
    have h1 : ((P.drop (k + 1)).filter (fun x => x != 0)).count x + ((P.take k).filter (fun x => x != 0)).count x ≤ (P.filter (fun x => x != 0)).count x := by
      conv => rhs; rw [← List.take_append_drop k P]
      rw [List.filter_append, List.count_append]
      have h2 := List.Sublist.count_le x ((List.drop_sublist 1 (P.drop k)).filter (fun x => x != 0))
      rw [List.drop_drop] at h2
      rw [Nat.add_comm k 1] at *
      omega
    rw [List.filter_cons]
    split
    · rw [List.count_cons]
      by_cases hx : x = r
      · subst hx
        simp only [beq_self_eq_true, if_true]
        omega
      · have : (r == x) = false := by rw [beq_eq_false_iff_ne]; exact fun e => hx e.symm
        rw [this, if_neg hx]
        simp only [Bool.false_eq_true, if_false]
        omega
    · omega
  · rw [List.set_eq_of_length_le (by omega)]
    omega
theorem put_mod {l : List Nod} (ha : AscS l) (i page r size x : Int) : cR x (modS l i (putNod page r size)) ≤ cR x l + (if x = r then 1 else 0) := by
  unfold cR modS
  induction l with
  | nil => exact Nat.zero_le _
  | cons a l ih =>
    have ha' := List.pairwise_cons.1 ha
    rw [List.map_cons, List.map_cons, List.sum_cons, List.map_cons, List.sum_cons]
    by_cases e : a.ino = i
    · rw [if_pos e]
      have hrest : (l.map (fun n => if n.ino = i then putNod page r size n else n)) = l := by
        conv => rhs; rw [← List.map_id l]
        refine List.map_congr_left fun n hn => ?_
        have := ha'.1 n hn
        rw [if_neg (by omega)]; rfl
      rw [hrest]
      have h1 := refs_set_count (fitP a.pages (needP size).toNat) page.toNat r x
      have h2 := refs_fit_count a.pages (needP size).toNat x
      have h3 : (putNod page r size a).pages = (fitP a.pages (needP size).toNat).set page.toNat r := rfl
      rw [h3]
      omega
    · rw [if_neg e]
      have := ih ha'.2
      omega
theorem step_refs {S : Stt} (iv : Inv S) {e : Eff} {r : Int} {y : Stt × List Int} (hs : stepS S e r = some y) (x : Int) : cR x y.1.l ≤ cR x S.l + (if x = r then 1 else 0) := by
  have le : LeR y.1.l S.l → cR x y.1.l ≤ cR x S.l + (if x = r then 1 else 0) := fun h => Nat.le_trans (h x) (Nat.le_add_right _ _)
  unfold stepS at hs
  split at hs
  · have h1 := bare_some hs
    unfold makeS at h1
    split at h1
    · rw [← Option.some.inj h1]
      refine Nat.le_trans (LeR.enter _ _ _ _ x) ?_
      unfold cR
      rw [List.map_append, List.sum_append]
      simp [newNod, refsP]
    · cases h1
  · split at hs
    · have h1 := bare_some hs
      unfold linkS at h1
      split at h1
      · refine le ?_
        rw [← Option.some.inj h1]
        exact (LeR.enter _ _ _ _).trans (LeR.same _ _ (f := moreLk) (fun _ => rfl))
      · cases h1
    · have rmv : ∀ j, removeS S e j = some y.1 → cR x y.1.l ≤ cR x S.l + (if x = r then 1 else 0) := fun j h1 => by
        unfold removeS at h1
        split at h1
        · refine le ?_
          rw [← Option.some.inj h1]
          exact LeR.forget _ _ _ _
        · cases h1
      split at hs
      · exact rmv _ (bare_some hs)
      · split at hs
        · exact rmv _ (bare_some hs)
        · split at hs
          · have h1 := bare_some hs
            unfold renameS at h1
            split at h1
            · split at h1
              · split at h1
                · refine le ?_
                  rw [← Option.some.inj h1]
                  exact (LeR.move _ _).trans (LeR.forget _ _ _ _)
                · cases h1
              · refine le ?_
                rw [← Option.some.inj h1]
                exact LeR.move _ _
            · cases h1
          · split at hs
            · unfold truncS at hs
              split at hs
              · refine le ?_
                rw [← Option.some.inj hs]
                exact LeR.mod _ _ (fun n x => refs_fit_count _ _ _)
              · cases hs
            · split at hs
              · unfold writeS at hs
                split at hs
                · rw [← Option.some.inj hs]
                  exact put_mod iv.asc _ _ _ _ _
                · cases hs
              · split at hs
                · unfold dropS at hs
                  split at hs
                  · refine le ?_
                    rw [← Option.some.inj hs]
                    exact LeR.rm _ _
                  · cases hs
                · cases hs
theorem next_refs {S : Stt} (iv : Inv S) (e : Eff) (r x : Int) : cR x (nextS S e r).l ≤ cR x S.l + (if x = r then 1 else 0) := by
  unfold nextS
  split
  · cases hs : stepS S e r with
    | none => exact Nat.le_add_right _ _
    | some y => exact step_refs iv hs x
  · exact Nat.le_add_right _ _
/-- each ref once, and none above k -/
def OneRef (k : Int) (l : List Nod) : Prop := (∀ x, cR x l ≤ 1) ∧ ∀ x, k < x → cR x l = 0
theorem OneRef.next {S : Stt} {k : Int} (iv : Inv S) (h : OneRef k S.l) (e : Eff) {r : Int} (hr : k < r) : OneRef r (nextS S e r).l := by
  refine ⟨fun x => ?_, fun x hx => ?_⟩
  · have h1 := next_refs iv e r x
    by_cases hx : x = r
    · rw [if_pos hx, h.2 x (by omega)] at h1; exact h1
    · rw [if_neg hx] at h1; have := h.1 x; omega
  · have h1 := next_refs iv e r x
    rw [if_neg (by omega), h.2 x (by omega)] at h1
    omega
theorem OneRef.nodup {k : Int} {l : List Nod} (h : OneRef k l) : (refsS l).Nodup := by
  rw [List.nodup_iff_count]
  intro a
  rw [cR_refs]
  exact h.1 a
theorem OneRef.mono {k k' : Int} {l : List Nod} (h : OneRef k l) (hk : k ≤ k') : OneRef k' l := ⟨h.1, fun x hx => h.2 x (by omega)⟩
theorem OneRef.new : OneRef 0 newStt.l := ⟨fun x => by show cR x newStt.l ≤ 1; have : cR x newStt.l = 0 := rfl; omega, fun x _ => rfl⟩
/-- the state behind deeds, each with a ref of its own -/
def runN : List Dd → Nat → Stt → Stt
  | [], _, S => S
  | d :: l, k, S => runN l (k + 1) (nextS S d.e ((k : Int) + 1))
end Go.Proofs.YtcdpmifgjaongaaGreatDoor
