import Derived.Test.YtdfgehmabfacbaaCaPut
import Derived.Test.YtdfgehmabfacbaaShelf
import Derived.RangeFuncNested
import Derived.RangeFuncBound
import Derived.RangeFuncCalls
import Derived.RangeFuncLeaves
import Derived.Shelf.Abstract
/-! The numbers, rising; the eldest. -/
namespace Go.Proofs.Ytdfgehmabfacbaa
open Wd Sm Go.Maps Go.RowKit Go.ChangeShapes Go.WideShapes Go.Sort Go.Shelf
set_option linter.unusedVariables false
set_option maxRecDepth 100000
theorem sortsC (m : Nat) : AnyZI.SortsIn Try.prog Try.sortedA_ren Fence.wide m :=
  ⟨fun blk off cap ss W hH hblk hsz => callsIn_wide.2 (AnyM.slices_Sort_int Try.sortA blk off cap ss W hH hblk hsz),
   fun p cap W => callsIn_wide.2 (AnyM.slices_Sort_int_none Try.sortA p cap W)⟩
theorem own_mono_c {w : World} {b1 b2 sz n : Nat} {e : TypeId} {v : Value} {xs : List Value} (h : w.ownsRow b1 e sz v n xs) (hb : b2 ≤ b1) : w.ownsRow b2 e sz v n xs := by
  refine ⟨h.1, ?_⟩
  rcases h.2 with h2 | ⟨g, cap, cur, h2, h3, h4⟩
  · exact .inl h2
  · exact .inr ⟨g, cap, cur, h2, Nat.le_trans hb h3, h4⟩
section
variable {w w' : World} {base p m : Nat} {S : Cst}
def IdsCa (ids : List Int) (w : World) (e : Ending) (w' : World) : Prop := ∃ v, e = .returned v ∧ w'.ownsRow w.heap.size 3 1 v ids.length (ids.map (Value.int .i64)) ∧ Below w.heap.size w w'
theorem caSorted (h : CaAt w base p m S) : Calls Try.prog 17 #[.func (.func 21) #[] #[.pointer (some ⟨w.heap.size, 0, none⟩)]] (w.alloc (.cells #[.map (some m)] 39)) (IdsCa S.ids w) := by
    obtain ⟨W, hW⟩ : ∃ W, W = w := ⟨_, rfl⟩
    rw [← hW] at h ⊢
    obtain ⟨D0, hown, hkeys⟩ := ids_of h.ok h.v
    have hsz := hown.size_le
    have hbl := hown.lt
    have hlast := h.ok.last
    have hseq : SeqGives Fence.wide 2 Try.prog 21 #[.pointer (some ⟨W.heap.size, 0, none⟩)] encZ (fun ss => ss.Perm (intKeys D0)) (Maps.size D0) (W.alloc (.cells #[.map (some m)] 39)) :=
      AnyZI.keys_gives (ρ := Try.keysA_ren) { Try.keysA with } Fence.wide _ trivial rfl (by omega) W.heap.size m S.last D0 _ (by simp) (by simp) (by
        obtain ⟨es, clock, hb, Ft, hs, hD⟩ := hown
        exact ⟨es, clock, (Below.heap_alloc _ _ m hbl).trans hb, Ft, hs, hD⟩)
    have cS := AnyZI.sorted_in Try.sortedA Fence.wide 5 trivial trivial trivial trivial rfl (by omega) (sortsC _) (enters_of Try.func20 (by kernel_rfl) rfl) 21 #[.pointer (some ⟨W.heap.size, 0, none⟩)] trivial (enters_of Try.func21 (by kernel_rfl) rfl) _ _ (by unfold maxLen; omega) (by omega) _ hseq
    change CallsIn _ _ Try.prog 17 _ _ _ at cS
    refine ((callsIn_wide (n := 5)).1 cS).mono ?_
    rintro e w' ⟨v, ss, rfl, hS, hrow, _, hb⟩
    have hk := hkeys ss hS
    have hrow' := own_mono_c hrow (by simp : W.heap.size ≤ _)
    have hlen : ss.length = S.ids.length := by
      have := congrArg List.length hk
      rw [List.length_mergeSort] at this
      exact this
    refine ⟨v, rfl, ?_, ((Below.refl _ W).alloc (Nat.le_refl _) _).trans (hb.mono (by simp))⟩
    rw [← hk, List.length_mergeSort]
    exact hrow'
theorem caIds (h : CaAt w base p m S) : Calls Try.prog 12 #[CPtr p] w (IdsCa S.ids w) := by
  have cK : ∀ mb W, Calls Try.prog 18 #[.map mb] W fun e w' => e = .returned (.func (.func 21) #[] #[.pointer (some ⟨W.heap.size, 0, none⟩)]) ∧ w' = W.alloc (.cells #[.map mb] 39) := fun mb W => (callsIn_wide (n := 5)).1 (AnyZI.keys_in Try.keysA Fence.wide 5 trivial rfl mb W)
  have c0 := h.c0
  have K := Lib.hid (caMade h); have CK := Lib.hid cK; have CS := Lib.hid (caSorted h)
  clear h cK
  unfold CPtr at *
  go_enter Try.func12, Try.ntmps12
  go_wp2_with fail
  refine K.out.mono ?_
  rintro e w' ⟨rfl, rfl⟩
  go_wp2_with fail
  refine (CK.out _ _).mono ?_
  rintro e w' ⟨rfl, rfl⟩
  go_wp2_with fail
  refine CS.out.mono ?_
  rintro e w' ⟨v, rfl, h1, h2⟩
  go_wp2_with fail
  go_ret
  exact ⟨v, rfl, h1, h2⟩
theorem caIds_nil (w : World) : Calls Try.prog 12 #[.pointer none] w fun e w' => e = .returned (.slice none 0 0) ∧ w = w' := by
  go_enter Try.func12, Try.ntmps12
  go_wp2_with fail
  refine (caMade_nil _).mono ?_
  rintro e w' ⟨rfl, rfl⟩
  go_wp2
  go_ret
  exact ⟨rfl, rfl⟩
theorem caEldest (h : CaAt w base p m S) : Calls Try.prog 10 #[CPtr p] w fun e w' => e = .returned (.tuple #[.int .i64 (S.ids.headD 0), .bool (!S.ids.isEmpty)]) ∧ Below w.heap.size w w' := by
  have K := Lib.hid (caIds h)
  have hf := h.ok.few
  have hh := h.ok.hi
  obtain ⟨ids, hids⟩ : ∃ ids, ids = S.ids := ⟨_, rfl⟩
  rw [← hids] at hf K ⊢
  clear h hids
  unfold CPtr at *
  cases ids with
  | nil =>
    go_enter Try.func10, Try.ntmps10
    go_wp2_with fail
    refine K.out.mono ?_
    rintro e w' ⟨v, rfl, h1, h2⟩
    obtain ⟨A, c, rfl, hr⟩ := Row.of_own h1
    have H2 := Lib.hid h2
    clear h1 h2 hr
    go_wp2_with fail
    go_ret2
    exact ⟨rfl, H2.out⟩
  | cons x l =>
    go_enter Try.func10, Try.ntmps10
    go_wp2_with fail
    refine K.out.mono ?_
    rintro e w' ⟨v, rfl, h1, h2⟩
    obtain ⟨g, c, rfl, _, _, _, _⟩ := own_open h1 (by simp)
    obtain ⟨hc, _⟩ := own_cell h1 (k := 0) (u := .int .i64 x) (by simp)
    have H2 := Lib.hid h2
    obtain ⟨N, hN⟩ : ∃ N, N = (x :: l).length := ⟨_, rfl⟩
    rw [← hN]
    have hN0 : 0 < N := by rw [hN]; simp
    have HN := Lib.hid hN
    clear h1 h2 hN hf
    go_wp2_with fail
    go_ret2
    exact ⟨rfl, H2.out⟩
end
end Go.Proofs.Ytdfgehmabfacbaa
