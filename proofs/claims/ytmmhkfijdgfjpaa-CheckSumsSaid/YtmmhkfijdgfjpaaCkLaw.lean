import Derived.Test.YtmmhkfijdgfjpaaCkFace
import Derived.Test.YtmmhkfijdgfjpaaTrue
import Derived.Test.YtmmhkfijdgfjpaaLaw
namespace Go.Proofs.Ytmmhkfijdgfjpaa
open Wd U Go.ChangeShapes Go.WideShapes Go.RowKit Go.Sort
set_option linter.unusedVariables false


/-- the first cells of a block as a row -/
theorem row_first {w : World} {g n B : Nat} {t : TypeId} {cs : Array Value} {xs : List Value} (h : Cells w g t cs) (hx : cs.toList.take n = xs) (hn : xs.length = n) (hg : g < B) : Row w B (some ⟨g, 0, none⟩) n xs := by
  have h1 := Row.of_cells (B := B) h hg
  have hl : n ≤ cs.size := by have := congrArg List.length hx; rw [List.length_take] at this; simp at this; omega
  have h2 := row_take h1 hl
  rw [hx] at h2
  exact h2

set_option maxRecDepth 100000 in
theorem checkAwake_true (w : World) : Calls Try.prog 6 #[] w (TrueB w) := by
  have e5 : (5 : Int) = ((5 : Nat) : Int) := rfl
  have hsm : Small [5] := by intro x hx; simp at hx; omega
  have HSM := Lib.hid hsm
  clear hsm e5
  go_enter Try.func6, Try.ntmps6
  go_wp2_with fail
  refine (cSeal [5] 1 rfl HSM.out _ _ (w.heap.size + 1) _ (by omega) (by simp) (Row.of_cells (Cells.new w _ _) (by omega))).mono ?_
  rintro e w2 ⟨g, cap, cs, rfl, hcs, htk, hg, hb, hcp⟩
  have hgl := hcs.lt
  have hrow := row_first (B := w2.heap.size) hcs htk (by simp) hgl
  simp only [World.size_alloc] at hg hb
  have HB := Lib.hid (((Below.refl w.heap.size w).alloc (Nat.le_refl _) (.cells #[.int .u64 5] 23)).trans (hb.mono (by omega)))
  have HROW := Lib.hid hrow
  clear hcs htk hb hrow
  go_wp2_with fail
  refine (cOpen_yes [5] 2 rfl HSM.out _ _ w2.heap.size (by simpa using hcp) _ (by omega) (Nat.le_refl _) HROW.out).mono ?_
  rintro e w3 ⟨A, c, rfl, hr, hb⟩
  obtain ⟨b, off, x, rfl, _, hx, cx⟩ := hr.get (k := 0) (by simp)
  obtain rfl : 5 = x := by simpa using hx
  have cx' : w3.cell? ⟨b, off, none⟩ = some (.int .u64 5) := cx
  clear cx
  have HB3 := Lib.hid (HB.out.trans (hb.mono HB.out.size))
  clear hr hb hx
  go_wp2
  go_ret
  exact ⟨rfl, HB3.out⟩

set_option maxRecDepth 100000 in
theorem checkBack_far (n : Nat) (A : Option Addr) (c : Nat) (i x : Int) (w : World) (hn : 100 < n) : Calls Try.prog 4 #[.slice A n c, .int .i64 i, .int .u64 x] w (TrueB w) := by
  have hd : decide ((100 : Int) < (n : Int)) = true := decide_eq_true (by omega)
  go_enter Try.func4, Try.ntmps4
  go_wp2_with fail
  refine (checkAwake_true _).mono ?_
  rintro e w2 ⟨rfl, hb⟩
  have HB := Lib.hid hb
  clear hb
  go_wp2
  go_ret
  exact ⟨rfl, HB.out⟩

theorem opens_none (m : List Nat) (n : Nat) (hL : m.length = n) (hm : Small m) (hn0 : 0 < n) (hbad : m[n - 1]? ≠ some (sum (m.take (n - 1)))) (A : Option Addr) (c B : Nat) (hc : n ≤ c) (w : World) (hn : n ≤ 1000) (hB : B ≤ w.heap.size) (hr : Row w B A n (m.map wd)) : Calls Try.prog 7 #[.slice A n c] w (OpenNo w) := by
  obtain ⟨s, hs⟩ : ∃ s, m[n - 1]? = some s := ⟨_, List.getElem?_eq_getElem (by omega)⟩
  have hs' := (List.getElem?_eq_some_iff.1 hs).2
  have e : m = m.take (n - 1) ++ [s] := by
    have h := take_one hs
    rw [List.take_of_length_le (by omega)] at h
    exact h
  have hne : s ≠ sum (m.take (n - 1)) := fun h => hbad (by rw [hs, h])
  rw [e] at hr
  exact cOpen_no (m.take (n - 1)) s n (by rw [List.length_take]; omega) (hm.take _) (hm.at hs) hne A c B hc w hn hB hr

set_option maxRecDepth 100000 in
set_option maxHeartbeats 1000000 in
theorem checkBack_any (l : List Nat) (n : Nat) (hL : l.length = n) (hl : Small l) (hn : n ≤ 100) (A : Option Addr) (c : Nat) (i : Int) (x : Nat) (hx : x < 18446744073709551616) (w : World) (hr : Row w w.heap.size A n (l.map wd)) :
    Calls Try.prog 4 #[.slice A n c, .int .i64 i, .int .u64 (x : Int)] w (TrueB w) := by
  have hd : decide ((100 : Int) < (n : Int)) = false := decide_eq_false (by omega)
  have HL := Lib.hid hL; have HS := Lib.hid hl; have HR := Lib.hid hr
  have hsl : Small (l ++ [sum l]) := hl.append (by intro y hy; simp at hy; subst hy; exact sum_lt l)
  have HSL := Lib.hid hsl
  clear hL hl hr hsl
  go_enter Try.func4, Try.ntmps4
  go_wp2_with fail
  refine (checkAwake_true _).mono ?_
  rintro e w1 ⟨rfl, hb⟩
  have HB := Lib.hid hb
  have HR1 := Lib.hid ((HR.out.below hb).more hb.size)
  clear hb
  go_wp2_with fail
  refine (cSeal l n HL.out HS.out _ _ w1.heap.size _ (by omega) (Nat.le_refl _) HR1.out).mono ?_
  rintro e w2 ⟨g, cap, cs, rfl, hcs, htk, hg, hb, hcp⟩
  rw [HL.out] at htk hcp ⊢
  have HCP := Lib.hid hcp
  have hrow := row_first (B := w2.heap.size) hcs htk (by simp [HL.out]) hcs.lt
  have HB2 := Lib.hid (HB.out.trans (hb.mono HB.out.size))
  have HR2 := Lib.hid ((HR1.out.below hb).more hb.size)
  have HCS := Lib.hid hcs; have HTK := Lib.hid htk; have HROW := Lib.hid hrow
  have hgw : w.heap.size ≤ g := by have := HB.out.size; omega
  clear hcs htk hb hrow
  go_wp2_with fail
  refine (cOpen_yes l (n + 1) (by rw [HL.out]) HS.out _ _ w2.heap.size (by have := HL.out; omega) _ (by omega) (Nat.le_refl _) HROW.out).mono ?_
  rintro e w3 ⟨A3, c3, rfl, hr3, hb⟩
  rw [HL.out] at hr3 ⊢
  have HB3 := Lib.hid (HB2.out.trans (hb.mono HB2.out.size))
  have HR3 := Lib.hid ((HR2.out.below hb).more hb.size)
  have HRX := Lib.hid hr3
  have HCS3 := Lib.hid (HCS.out.below' hb)
  clear hb hr3
  go_wp2_with fail
  refine (sameWords_eq l n HL.out (by omega) _ _ _ _ w3.heap.size _ HRX.out HR3.out).mono ?_
  rintro e w4 ⟨rfl, hgr⟩
  have hb4 : Below w3.heap.size w3 w4 := by obtain ⟨q, os, rfl⟩ := hgr; exact below_grow' _ _ _
  have HB4 := Lib.hid (HB3.out.trans (hb4.mono HB3.out.size))
  have HCS4 := Lib.hid (HCS3.out.below' hb4)
  clear hgr hb4
  by_cases i0 : i < 0
  · go_wp2
    go_ret
    exact ⟨rfl, HB4.out⟩
  · by_cases i1 : (n : Int) + 1 ≤ i
    · go_wp2
      go_ret
      exact ⟨rfl, HB4.out⟩
    · obtain ⟨k, rfl⟩ : ∃ k : Nat, i = (k : Int) := ⟨i.toNat, by omega⟩
      have hk : k < n + 1 := by omega
      have k1 : (k : Int) < (n : Int) + 1 := by omega
      obtain ⟨v, hv⟩ : ∃ v, (l ++ [sum l])[k]? = some v := ⟨_, List.getElem?_eq_getElem (by simp [HL.out]; omega)⟩
      have hlen : (l ++ [sum l]).length = n + 1 := by simp [HL.out]
      have cv : w4.cell? ⟨g, k, none⟩ = some (.int .u64 (v : Int)) := by
        rw [HCS4.out.cell k]
        have h : (cs.toList.take (n + 1))[k]? = some (wd v) := by rw [HTK.out, List.getElem?_map, hv]; rfl
        rw [List.getElem?_take_of_lt hk] at h
        simpa [wd] using h
      have fv := HCS4.out.free k
      have hvl := HSL.out.at hv
      have HV := Lib.hid hv; have HLEN := Lib.hid hlen
      clear hv hlen i0 i1
      by_cases hvx : v = x
      · subst hvx
        go_wp2
        go_ret
        exact ⟨rfl, HB4.out⟩
      · have hne : ((v : Int) == (x : Int)) = false := by rw [beq_eq_false_iff_ne]; omega
        have HNE := Lib.hid hvx
        clear hvx
        go_wp2_with fail
        have hc5 := HCS4.out.set k (.int .u64 (x : Int))
        have htk5 : (cs.setIfInBounds k (.int .u64 (x : Int))).toList.take (n + 1) = ((l ++ [sum l]).set k x).map wd := by
          rw [Array.toList_setIfInBounds, List.take_set, HTK.out, List.map_set]
          rfl
        have hrow5 := row_first (B := (w4.setCell ⟨g, k, none⟩ (.int .u64 (x : Int))).heap.size) hc5 htk5 (by rw [List.length_map, List.length_set, HLEN.out]) hc5.lt
        have HROW5 := Lib.hid hrow5
        have hb5 := HB4.out.setCell (p := ⟨g, k, none⟩) (by exact hgw) (.int .u64 (x : Int))
        have HB5 := Lib.hid hb5
        have hbad : ((l ++ [sum l]).set k x)[n + 1 - 1]? ≠ some (sum (((l ++ [sum l]).set k x).take (n + 1 - 1))) := by
          rw [Nat.add_sub_cancel]
          by_cases hkn : k = n
          · subst hkn
            have hvs : v = sum l := by
              have := HV.out
              rw [List.getElem?_append_right (by rw [HL.out]; exact Nat.le_refl _), HL.out, Nat.sub_self] at this
              simpa using this.symm
            rw [List.getElem?_set_self (by rw [HLEN.out]; exact hk), List.take_set, List.take_append_of_le_length (by rw [HL.out]; exact Nat.le_refl _), List.take_of_length_le (by rw [HL.out]; exact Nat.le_refl _), List.set_eq_of_length_le (by rw [HL.out]; exact Nat.le_refl _)]
            intro h
            have := Option.some.inj h
            exact HNE.out (by rw [hvs, this])
          · have hkl : k < n := by omega
            rw [List.getElem?_set_ne hkn, List.getElem?_append_right (by rw [HL.out]; exact Nat.le_refl _), HL.out, Nat.sub_self, List.take_set, List.take_append_of_le_length (by rw [HL.out]; exact Nat.le_refl _), List.take_of_length_le (by rw [HL.out]; exact Nat.le_refl _)]
            intro h
            have h' : sum l = sum (l.set k x) := by simpa using h
            have hvl : l[k]? = some v := by
              have := HV.out
              rwa [List.getElem?_append_left (by rw [HL.out]; exact hkl)] at this
            exact sum_set HS.out hvl hx HNE.out h'.symm
        have hsm : Small ((l ++ [sum l]).set k x) := by
          intro y hy
          rcases List.mem_or_eq_of_mem_set hy with h | h
          · exact HSL.out y h
          · rw [h]; exact hx
        have HBAD := Lib.hid hbad; have HSM := Lib.hid hsm
        clear hc5 htk5 hrow5 hb5 hbad hsm
        refine (opens_none _ (n + 1) (by rw [List.length_set, HLEN.out]) HSM.out (by omega) HBAD.out _ _ _ HCP.out _ (by omega) (Nat.le_refl _) HROW5.out).mono ?_
        rintro e w6 ⟨A6, c6, rfl, hb⟩
        have HB6 := Lib.hid (HB5.out.trans (hb.mono HB5.out.size))
        clear hb
        go_wp2
        go_ret
        exact ⟨rfl, HB6.out⟩

theorem checkBack_walk (l : List Int) (A : Option Addr) (c : Nat) {w : World} (hr : Row w w.heap.size A l.length (l.map (Value.int .u64))) (hok : ∀ y ∈ l, (Lit.int .u64 y).wf = true) (_ : l.length ≤ maxLen) (i : Int) (_ : (Lit.int .i64 i).wf = true) (x : Int) (hx : (Lit.int .u64 x).wf = true) (_ : World) :
    Calls Try.prog 4 #[.slice A l.length c, .int .i64 i, .int .u64 x] w (TrueB w) := by
  obtain ⟨m, hm, hs, hrow⟩ := row_words hr hok
  have hb : IntKind.u64.min ≤ x ∧ x ≤ IntKind.u64.max := by simpa [Lit.wf] using hx
  have m1 : IntKind.u64.min = 0 := by decide
  have m2 : IntKind.u64.max = 18446744073709551615 := by decide
  obtain ⟨k, rfl⟩ : ∃ k : Nat, x = (k : Int) := ⟨x.toNat, by omega⟩
  by_cases h1 : l.length ≤ 100
  · rw [hm] at hrow
    exact checkBack_any m l.length hm hs h1 A c i k (by omega) w hrow
  · exact checkBack_far l.length A c i _ w (by omega)
end Go.Proofs.Ytmmhkfijdgfjpaa
