import Derived.Test.YtdfgehmabfacbaaCaMem
import Derived.Lib.SlKeysI
/-! The cache's keys, how many pages there are, whether there is room, a new cache. -/
namespace Go.Proofs.Ytdfgehmabfacbaa
open Wd Sm Go.Maps Go.RowKit Go.ChangeShapes Go.WideShapes Go.Sort Go.Shelf
set_option linter.unusedVariables false
set_option linter.unusedSimpArgs false
theorem rise_srt {ss : List Int} (h : ss.Nodup) : (ss.mergeSort leI).Pairwise (· < ·) := by
  have tr : ∀ a b c : Int, leI a b = true → leI b c = true → leI a c = true := fun a b c h1 h2 => by simp only [leI, decide_eq_true_eq] at *; exact Int.le_trans h1 h2
  have tot : ∀ a b : Int, (leI a b || leI b a) = true := fun a b => by simp only [leI, Bool.or_eq_true, decide_eq_true_eq]; exact Int.le_total a b
  have h1 := List.pairwise_mergeSort tr tot ss
  have h2 : (ss.mergeSort leI).Nodup := (List.mergeSort_perm ss leI).nodup_iff.2 h
  refine (h1.and h2).imp fun {a b} ⟨h3, h4⟩ => ?_
  simp only [leI, decide_eq_true_eq] at h3
  have : a ≠ b := h4
  omega
theorem rise_uniq : ∀ {l m : List Int}, l.Pairwise (· < ·) → m.Pairwise (· < ·) → (∀ x, x ∈ l ↔ x ∈ m) → l = m
  | [], [], _, _, _ => rfl
  | [], b :: m, _, _, h => absurd ((h b).2 List.mem_cons_self) (by simp)
  | a :: l, [], _, _, h => absurd ((h a).1 List.mem_cons_self) (by simp)
  | a :: l, b :: m, hl, hm, h => by
    have hl' := List.pairwise_cons.1 hl
    have hm' := List.pairwise_cons.1 hm
    have hab : a = b := by
      rcases List.mem_cons.1 ((h a).1 List.mem_cons_self) with h1 | h1
      · exact h1
      · rcases List.mem_cons.1 ((h b).2 List.mem_cons_self) with h2 | h2
        · exact h2.symm
        · have h3 := hm'.1 a h1
          have h4 := hl'.1 b h2
          omega
    subst hab
    refine congrArg _ (rise_uniq hl'.2 hm'.2 fun x => ⟨fun hx => ?_, fun hx => ?_⟩)
    · have h3 := hl'.1 x hx
      rcases List.mem_cons.1 ((h x).1 (List.mem_cons_of_mem _ hx)) with h1 | h1
      · omega
      · exact h1
    · have h3 := hm'.1 x hx
      rcases List.mem_cons.1 ((h x).2 (List.mem_cons_of_mem _ hx)) with h1 | h1
      · omega
      · exact h1
theorem keysM {w : World} {b n : Nat} {F : VFn} (h : Mv Try.prog 3 w b n F) : ∃ D : DataW Value, w.ownsMap Try.prog 3 HR b n D ∧ ∀ ss : List Int, ss.Perm (intKeys D) → (ss.mergeSort leI).Pairwise (· < ·) ∧ ∀ x, x ∈ ss.mergeSort leI ↔ (F x).isSome = true := by
  obtain ⟨D, h, v⟩ := h
  refine ⟨D, h, fun ss hp => ?_⟩
  have h' := h
  obtain ⟨es, clock, h1, F1, h2, rfl⟩ := h
  have ap := Maps.fit_apart keyedC F1
  have each : ∀ p ∈ es.toList.map (WideElems.rg (H := Value) Try.prog 3 HR), ∃ x, p.1 = .int .i64 x := by
    intro p hp
    obtain ⟨m, hm, rfl⟩ := List.mem_map.1 hp
    obtain ⟨y, hy⟩ := F1.reads m hm
    obtain ⟨x, _, ex, _⟩ := Maps.keyOf_int_inv Try.underlying3 (WideElems.rd_key hy)
    exact ⟨x, by rw [WideElems.rg_of hy, ex]⟩
  obtain ⟨es', e1, pw, hk⟩ := h'.entries keyedC
  injection e1 with e1
  rw [e1] at hp v
  have each' : ∀ p ∈ es', ∃ x, p.1 = .int .i64 x := fun p hp => by rw [← e1] at hp; exact each p (mem_sorted.1 hp)
  have hnd : (es'.map fun p => Go.intOf p.1).Nodup := by
    refine List.pairwise_map.2 (pw.imp_of_mem fun {p q} hp' hq' hne e => hne ?_)
    obtain ⟨a, ha⟩ := each' p hp'
    obtain ⟨b, hb⟩ := each' q hq'
    rw [ha, hb] at e ⊢
    exact congrArg _ e
  refine ⟨rise_srt (hp.nodup_iff.2 hnd), fun x => ?_⟩
  rw [List.mem_mergeSort, hp.mem_iff, ← (v x).1, has_eq, List.any_eq_true]
  show x ∈ es'.map (fun p => Go.intOf p.1) ↔ _
  rw [List.mem_map]
  constructor
  · rintro ⟨p, hp', rfl⟩
    obtain ⟨a, ha⟩ := each' p hp'
    exact ⟨p, hp', by rw [ha]; simp [Lit.sameKey, Go.intOf, KI]⟩
  · rintro ⟨p, hp', hs⟩
    obtain ⟨a, ha⟩ := each' p hp'
    rw [ha] at hs
    exact ⟨p, hp', by rw [ha]; simpa [Lit.sameKey, Go.intOf, KI] using hs⟩

section
variable {w w' : World} {base p m : Nat} {S : Cst}
theorem ids_of {n : Nat} (ok : S.Ok) (h : Mv Try.prog 3 w m n S.F) : ∃ D : DataW Value, w.ownsMap Try.prog 3 HR m n D ∧ ∀ ss : List Int, ss.Perm (intKeys D) → ss.mergeSort leI = S.ids := by
  obtain ⟨D, hD, hk⟩ := keysM h
  refine ⟨D, hD, fun ss hss => ?_⟩
  obtain ⟨k1, k2⟩ := hk ss hss
  exact rise_uniq k1 ok.rise fun x => by rw [k2, ok.mem]
theorem ids_size {w : World} {D : DataW Value} {b n : Nat} (ho : w.ownsMap Try.prog 3 HR b n D) (h : ∀ ss : List Int, ss.Perm (intKeys D) → ss.mergeSort leI = S.ids) : Maps.size D = S.ids.length := by
  have h1 := congrArg List.length (h _ (List.Perm.refl _))
  rw [List.length_mergeSort] at h1
  rw [← h1]
  obtain ⟨es, clock, _, _, _, rfl⟩ := ho
  unfold intKeys Maps.size
  exact (List.length_map _).symm
theorem CaAt.len (h : CaAt w base p m S) (ty : TypeId) : ∀ w', w'.heap[m]? = w.heap[m]? → (Builtin.len_ #[39] ty #[.map (some m)]).run Try.prog w' = .ok (.int .i64 S.ids.length) w' := fun w' hb => by
  obtain ⟨D, hD, hk⟩ := ids_of h.ok (h.v.same hb)
  rw [hD.len Try.underlying39 ty, ids_size hD hk]
theorem caLen (h : CaAt w base p m S) : Calls Try.prog 13 #[CPtr p] w fun e w' => e = .returned (.int .i64 S.ids.length) ∧ w = w' := by
  have c0 := h.c0
  have hl := fun ty => h.len ty w rfl
  have K := Lib.hid (caMade h)
  clear h
  unfold CPtr at *
  go_enter Try.func13, Try.ntmps13
  go_wp2_with fail
  refine K.out.mono ?_
  rintro e w' ⟨rfl, rfl⟩
  go_wp2
  go_ret
  exact ⟨rfl, rfl⟩
theorem caLen_nil (w : World) : Calls Try.prog 13 #[.pointer none] w fun e w' => e = .returned (.int .i64 0) ∧ w = w' := by
  go_enter Try.func13, Try.ntmps13
  go_wp2_with fail
  refine (caMade_nil _).mono ?_
  rintro e w' ⟨rfl, rfl⟩
  go_wp2
  go_ret
  exact ⟨rfl, rfl⟩
/-- whether there is room for n more -/
@[irreducible] def roomB (S : Cst) (n : Int) : Bool := decide (0 ≤ n ∧ n ≤ (S.most : Int) - S.ids.length)
theorem roomB_of {n : Int} (h1 : 0 ≤ n) (h2 : n ≤ (S.most : Int) - S.ids.length) : roomB S n = true := by unfold roomB; simp only [decide_eq_true_eq]; exact ⟨h1, h2⟩
theorem roomB_lo {n : Int} (h1 : n < 0) : roomB S n = false := by unfold roomB; simp only [decide_eq_false_iff_not]; omega
theorem roomB_hi {n : Int} (h1 : (S.most : Int) - S.ids.length < n) : roomB S n = false := by unfold roomB; simp only [decide_eq_false_iff_not]; omega
theorem caRoom (h : CaAt w base p m S) (n : Int) : Calls Try.prog 15 #[CPtr p, .int .i64 n] w fun e w' => e = .returned (.bool (roomB S n)) ∧ w = w' := by
  have K1 := Lib.hid (caMade h); have K2 := Lib.hid (caMost h); have K3 := Lib.hid (caLen h)
  have b1 := h.ok.few
  have b2 := h.ok.hi
  obtain ⟨M, hM⟩ : ∃ M, M = S.most := ⟨_, rfl⟩
  obtain ⟨L, hL⟩ : ∃ L, L = S.ids.length := ⟨_, rfl⟩
  rw [← hM, ← hL] at b1
  rw [← hM] at b2
  have k1 : n < 0 → roomB S n = false := roomB_lo
  have k2 : (M : Int) - L < n → roomB S n = false := by rw [hM, hL]; exact roomB_hi
  have k3 : 0 ≤ n → n ≤ (M : Int) - L → roomB S n = true := by rw [hM, hL]; exact roomB_of
  have HM := Lib.hid hM; have HL := Lib.hid hL; have HK2 := Lib.hid k2; have HK3 := Lib.hid k3
  clear h k2 k3 hM hL
  unfold CPtr at *
  go_enter Try.func15, Try.ntmps15
  by_cases h0 : 0 ≤ n
  · by_cases h1 : n ≤ (M : Int) - L
    · rw [HK3.out h0 h1]
      go_wp2_with fail
      refine K1.out.mono ?_
      rintro e w' ⟨rfl, rfl⟩
      go_wp2_with fail
      refine K2.out.mono ?_
      rintro e w' ⟨rfl, rfl⟩
      rw [← HM.out]
      go_wp2_with fail
      refine K3.out.mono ?_
      rintro e w' ⟨rfl, rfl⟩
      rw [← HL.out]
      go_wp2
      go_ret
      exact ⟨rfl, rfl⟩
    · rw [HK2.out (by omega)]
      have h1' := Int.not_le.1 h1
      go_wp2_with fail
      refine K1.out.mono ?_
      rintro e w' ⟨rfl, rfl⟩
      go_wp2_with fail
      refine K2.out.mono ?_
      rintro e w' ⟨rfl, rfl⟩
      rw [← HM.out]
      go_wp2_with fail
      refine K3.out.mono ?_
      rintro e w' ⟨rfl, rfl⟩
      rw [← HL.out]
      go_wp2
      go_ret
      exact ⟨by rw [show decide (n ≤ (M : Int) - L) = false from decide_eq_false (Int.not_le.2 h1)]; rfl, rfl⟩
  · rw [k1 (by omega)]
    go_wp2_with fail
    refine K1.out.mono ?_
    rintro e w' ⟨rfl, rfl⟩
    go_wp2
    go_ret
    exact ⟨rfl, rfl⟩
theorem caRoom_nil (w : World) (n : Int) : Calls Try.prog 15 #[.pointer none, .int .i64 n] w fun e w' => e = .returned (.bool false) ∧ w = w' := by
  go_enter Try.func15, Try.ntmps15
  go_wp2_with fail
  refine (caMade_nil _).mono ?_
  rintro e w' ⟨rfl, rfl⟩
  go_wp2
  go_ret
  exact ⟨rfl, rfl⟩
end
end Go.Proofs.Ytdfgehmabfacbaa
