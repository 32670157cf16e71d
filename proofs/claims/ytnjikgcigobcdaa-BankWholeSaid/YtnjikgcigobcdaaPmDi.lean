import Derived.Test.YtnjikgcigobcdaaPmFf
namespace Go.Proofs.Ytnjikgcigobcdaa
open Wd Pm Go.Maps Go.RowKit Go.Sort Go.Shelf
set_option linter.unusedVariables false

theorem sortsA (m : Nat) : AnyZI.SortsIn Try.prog Try.sortedA_ren Fence.wide m :=
  ⟨fun blk off cap ss W hH hblk hsz => callsIn_wide.2 (AnyM.slices_Sort_int Try.sortA blk off cap ss W hH hblk hsz),
   fun p cap W => callsIn_wide.2 (AnyM.slices_Sort_int_none Try.sortA p cap W)⟩

/-- ints, rising, each once: just those where something is there -/
structure KeysOf (F : IFn) (l : List Int) : Prop where
  rise : l.Pairwise (· < ·)
  mem : ∀ x, x ∈ l ↔ (F x).isSome = true

theorem rise_sort {ss : List Int} (h : ss.Nodup) : (ss.mergeSort leI).Pairwise (· < ·) := by
  have tr : ∀ a b c : Int, leI a b = true → leI b c = true → leI a c = true := fun a b c h1 h2 => by simp only [leI, decide_eq_true_eq] at *; exact Int.le_trans h1 h2
  have to : ∀ a b : Int, (leI a b || leI b a) = true := fun a b => by simp only [leI, Bool.or_eq_true, decide_eq_true_eq]; exact Int.le_total a b
  have h1 := List.pairwise_mergeSort tr to ss
  have h2 : (ss.mergeSort leI).Nodup := (List.mergeSort_perm ss leI).nodup_iff.2 h
  refine (h1.and h2).imp fun {a b} ⟨h3, h4⟩ => ?_
  simp only [leI, decide_eq_true_eq] at h3
  have : a ≠ b := h4
  omega
theorem keys_of {w : World} {b n : Nat} {F : IFn} (h : Mp Try.prog 3 49 w b n F) : ∃ D : DataW Unit, w.ownsMap Try.prog 3 (plainElem Try.prog 49) b n D ∧ ∀ ss : List Int, ss.Perm (intKeys D) → KeysOf F (ss.mergeSort leI) := by
  obtain ⟨D, h, v⟩ := h
  refine ⟨D, h, fun ss hp => ?_⟩
  have h' := h
  obtain ⟨es, clock, h1, F1, h2, rfl⟩ := h
  have ap := Maps.fit_apart keyedInt F1
  have each : ∀ p ∈ es.toList.map (WideElems.rg (H := Unit) Try.prog 3 (plainElem Try.prog 49)), ∃ x, p.1 = .int .i64 x := by
    intro p hp
    obtain ⟨m, hm, rfl⟩ := List.mem_map.1 hp
    obtain ⟨y, hy⟩ := F1.reads m hm
    obtain ⟨x, _, ex, _⟩ := Maps.keyOf_int_inv Try.underlying3 (WideElems.rd_key hy)
    exact ⟨x, by rw [WideElems.rg_of hy, ex]⟩
  obtain ⟨es', e1, pw, hk⟩ := h'.entries keyedInt
  injection e1 with e1
  rw [e1] at hp v
  have each' : ∀ p ∈ es', ∃ x, p.1 = .int .i64 x := fun p hp => by rw [← e1] at hp; exact each p (mem_sorted.1 hp)
  have hnd : (es'.map fun p => Go.intOf p.1).Nodup := by
    refine List.pairwise_map.2 (pw.imp_of_mem fun {p q} hp' hq' hne e => hne ?_)
    obtain ⟨a, ha⟩ := each' p hp'
    obtain ⟨b, hb⟩ := each' q hq'
    rw [ha, hb] at e ⊢
    exact congrArg _ e
  refine ⟨rise_sort (hp.nodup_iff.2 hnd), fun x => ?_⟩
  rw [List.mem_mergeSort, hp.mem_iff, ← (v x).1, has_eq, List.any_eq_true]
  show x ∈ es'.map (fun p => Go.intOf p.1) ↔ _
  rw [List.mem_map]
  constructor
  · rintro ⟨p, hp', rfl⟩
    obtain ⟨a, ha⟩ := each' p hp'
    exact ⟨p, hp', by rw [ha]; simp [Lit.sameKey, Go.intOf]⟩
  · rintro ⟨p, hp', hs⟩
    obtain ⟨a, ha⟩ := each' p hp'
    rw [ha] at hs
    exact ⟨p, hp', by rw [ha]; simpa [Lit.sameKey, Go.intOf] using hs⟩

/-- the dirty words, rising -/
def Dirties (w : World) (F : IFn) (e : Ending) (w' : World) : Prop := ∃ l, KeysOf F l ∧ MadeRow w l e w'

set_option maxHeartbeats 1000000 in
theorem dirty_dev {w : World} {f : Fp} {σ : St} (h : Dev w f σ) : Calls Try.prog 46 #[f.ptr] w (Dirties w σ.hd) := by
  have hp : f.ptr = .pointer (some ⟨f.p, 0, none⟩) := rfl
  have c1 := h.reads.c1
  have nle := h.good.nle
  obtain ⟨D0, hown, hkeys⟩ := keys_of h.2.2.1
  have hmade := (callsIn_wide (n := 5)).2 (made_dev h)
  rw [hp] at hmade ⊢
  clear hp
  refine (callsIn_wide (n := 6)).1 ?_
  have hbl := hown.lt
  have hsz := hown.size_le
  have hseq : SeqGives Fence.wide 2 Try.prog 77 #[.pointer (some ⟨w.heap.size, 0, none⟩)] encZ (fun ss => ss.Perm (intKeys D0)) (Maps.size D0) (w.alloc (.cells #[.map (some f.bh)] 71)) :=
    AnyZI.keys_gives (ρ := Try.keysA_ren) { Try.keysA with } Fence.wide _ trivial rfl (by omega) w.heap.size f.bh σ.n D0 _ (by simp) (by simp) (by
      obtain ⟨es, clock, hb, Ft, hs, hD⟩ := hown
      exact ⟨es, clock, (Below.heap_alloc _ _ f.bh hbl).trans hb, Ft, hs, hD⟩)
  have cK : ∀ mb W, CallsIn Fence.wide 5 Try.prog 65 #[.map mb] W fun e w' => e = .returned (.func (.func 77) #[] #[.pointer (some ⟨W.heap.size, 0, none⟩)]) ∧ w' = W.alloc (.cells #[.map mb] 71) := fun mb W => AnyZI.keys_in Try.keysA Fence.wide 5 trivial rfl mb W
  have cS := AnyZI.sorted_in Try.sortedA Fence.wide 5 trivial trivial trivial trivial rfl (by omega) (sortsA _) (enters_of Try.func76 (by kernel_rfl) rfl) 77 #[.pointer (some ⟨w.heap.size, 0, none⟩)] trivial (enters_of Try.func77 (by kernel_rfl) rfl) _ _ (by unfold maxLen; omega) (by omega) _ hseq
  change CallsIn _ _ Try.prog 64 _ _ _ at cS
  have hfM : Fence.wide.fn 45 := trivial
  have hfK : Fence.wide.fn 65 := trivial
  have hfS : Fence.wide.fn 64 := trivial
  have HK := Lib.hid hkeys
  clear hkeys hseq hown
  refine callsIn_of_wp Try.func46 rfl trivial ?_ rfl
  simp only [Try.ntmps46, List.size_toArray, List.length_cons, List.length_nil, Nat.reduceAdd, Nat.reduceSub, Array.replicate_succ, Array.replicate_zero, List.push_toArray, List.append_toArray, List.nil_append, List.cons_append]
  gi_wp2_with (first
    | (gi_at_call 45; refine hmade.mono ?_; rintro e w' ⟨rfl, rfl⟩)
    | (gi_at_call 65; refine (cK _ _).mono ?_; rintro e w' ⟨rfl, rfl⟩)
    | (gi_at_call 64; refine cS.mono ?_; rintro e w' ⟨v, ss, rfl, hS, hrow, hnil, hb⟩))
  go_ret
  refine ⟨ss.mergeSort leI, HK.out ss hS, v, rfl, ?_, ((Below.refl _ w).alloc (Nat.le_refl _) _).trans (hb.mono (by simp))⟩
  have hrow' := ownsRow_base_a hrow (by simp : w.heap.size ≤ _)
  rw [List.length_mergeSort]
  exact hrow'
end Go.Proofs.Ytnjikgcigobcdaa
