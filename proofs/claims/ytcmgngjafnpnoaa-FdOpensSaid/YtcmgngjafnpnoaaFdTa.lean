import Derived.Test.YtcmgngjafnpnoaaFdEq
/-! The project's table: what is asked of a place, and the least place that is as asked. -/
namespace Go.Proofs.Ytcmgngjafnpnoaa
open Wd Go.RowKit Go.ChangeShapes Go.WideShapes Go.Sort
set_option linter.unusedVariables false
set_option maxRecDepth 100000
theorem fIsOpen (o : Opn) (w : World) : Calls Try.prog 19 #[o.val] w (Grows (.bool (decide (1 ≤ o.ino))) w) := by
  unfold Opn.val
  go_enter Try.func19, Try.ntmps19
  go_wp2_with fail
  go_ret
  exact ⟨by simp, grow_one _ _⟩
theorem fIsFree (o : Opn) (w : World) : Calls Try.prog 18 #[o.val] w (Grows (.bool (!decide (1 ≤ o.ino))) w) := by
  have K := Lib.hid (fun w => fIsOpen o w)
  unfold Opn.val at *
  go_enter Try.func18, Try.ntmps18
  go_wp2_with fail
  refine (K.out _).mono ?_
  rintro e w2 ⟨rfl, hg⟩
  have HG := Lib.hid (grow_trans (grow_one w _) hg)
  clear hg
  go_wp2_with fail
  go_ret
  exact ⟨rfl, HG.out⟩
/-- the table's cells -/
def Tb (w : World) (g : Nat) (T : List Opn) : Prop := Cells w g 45 (ocells T).toArray
theorem Tb.at {w : World} {g : Nat} {T : List Opn} (h : Tb w g T) {i : Nat} {o : Opn} (hi : T[i]? = some o) : w.cell? ⟨g, i * 3, none⟩ = some (.int .i64 o.ino) ∧ w.cell? ⟨g, i * 3 + 1, none⟩ = some (.int .i64 o.off) ∧ w.cell? ⟨g, i * 3 + 2, none⟩ = some (.int .i64 o.fl) := by
  have hc : ∀ (k : Nat) (x : Value), o.cells[k]? = some x → w.cell? ⟨g, i * 3 + k, none⟩ = some x := fun k x hk => by
    rw [h.cell (i * 3 + k), List.getElem?_toArray]; exact ocells_at T i o k x hi hk
  exact ⟨hc 0 _ rfl, hc 1 _ rfl, hc 2 _ rfl⟩
/-- a function value that asks an open file -/
structure Asks (w0 : World) (F : FuncId) (first cap : Array Value) (p : Opn → Bool) : Prop where
  ent : ∀ (args : Array Value) (w : World), Sem.run Try.prog (callFunc F args) w = .ok (.enter F args) w
  step : ∀ (o : Opn) (w : World), Below w0.heap.size w0 w → Calls Try.prog F (first ++ #[o.val] ++ cap) w (Grows (.bool (p o)) w)
theorem asks_free (w0 : World) : Asks w0 18 #[] #[] (fun o => !decide (1 ≤ o.ino)) := ⟨fun args w => by simp [go_sem], fun o w _ => fIsFree o w⟩
theorem asks_open (w0 : World) : Asks w0 19 #[] #[] (fun o => decide (1 ≤ o.ino)) := ⟨fun args w => by simp [go_sem], fun o w _ => fIsOpen o w⟩
/-- the least place from k on that is as asked, or 16 -/
def nextP (T : List Opn) (p : Opn → Bool) (k : Nat) : Nat := k + (T.drop k).findIdx p
theorem nextP_end {T : List Opn} (hT : T.length = 16) (p : Opn → Bool) : nextP T p 16 = 16 := by
  unfold nextP; rw [List.drop_eq_nil_of_le (by omega)]; rfl
theorem nextP_ge {T : List Opn} (hT : T.length = 16) {p : Opn → Bool} {k : Nat} (hk : 16 ≤ k) : nextP T p k = k := by
  unfold nextP; rw [List.drop_eq_nil_of_le (by omega)]; rfl
theorem nextP_yes {T : List Opn} {p : Opn → Bool} {k : Nat} {o : Opn} (hk : T[k]? = some o) (hp : p o = true) : nextP T p k = k := by
  obtain ⟨h1, h2⟩ := List.getElem?_eq_some_iff.1 hk
  unfold nextP; rw [List.drop_eq_getElem_cons h1, h2, List.findIdx_cons, hp]; rfl
theorem nextP_no {T : List Opn} {p : Opn → Bool} {k : Nat} {o : Opn} (hk : T[k]? = some o) (hp : p o = false) : nextP T p k = nextP T p (k + 1) := by
  obtain ⟨h1, h2⟩ := List.getElem?_eq_some_iff.1 hk
  unfold nextP; rw [List.drop_eq_getElem_cons h1, h2, List.findIdx_cons, hp]
  show k + (_ + 1) = _; omega
def NextJ (T : List Opn) (p : Opn → Bool) (F : FuncId) (first cap : Array Value) (g : Nat) (w : World) (n : Nat) (a : Act) (wr : World) : Prop := ∃ (k : Nat) (u8 u9 u10 u11 u12 u13 u14 u15 u16 u17 u18 u19 u20 u21 u22 u23 : Value),
  a = { tmps := #[.pointer (some ⟨g, 0, none⟩), .int .i64 k, .func (.func F) first cap, undef, undef, undef, .int .i64 0, .pointer (some ⟨g, 0, none⟩), u8, u9, u10, u11, u12, u13, u14, u15, u16, u17, u18, u19, u20, u21, u22, u23], defers := [] } ∧ k ≤ 17 ∧ nextP T p k = n ∧ ∃ q os, wr = grow (w.drewN q) os
set_option maxHeartbeats 4000000 in
theorem fNext {w0 w : World} {g : Nat} {T : List Opn} (h : Tb w g T) (hT : T.length = 16) {F : FuncId} {first cap : Array Value} {p : Opn → Bool} (ha : Asks w0 F first cap p) (h0 : Below w0.heap.size w0 w) (hs : w0.heap.size ≤ w.heap.size) (k0 : Nat) (hk : k0 ≤ 17) :
    Calls Try.prog 17 #[.pointer (some ⟨g, 0, none⟩), .int .i64 k0, .func (.func F) first cap] w (Grows (.int .i64 (nextP T p k0 : Nat)) w) := by
  have H := Lib.hid h; have HA := Lib.hid ha; have H0 := Lib.hid h0; have HT := Lib.hid hT; have HS := Lib.hid hs; have HK := Lib.hid hk
  clear h ha h0 hT hs hk
  obtain ⟨n, hn⟩ : ∃ n, nextP T p k0 = n := ⟨_, rfl⟩
  rw [hn]
  have HN := Lib.hid hn
  clear hn
  go_enter Try.func17, Try.ntmps17
  go_wp2
  refine wp_scope_jumps 0 (NextJ T p F first cap g w n) (fun a' _ => 17 - (intOf (a'.tmps.getD 1 undef)).toNat) rfl ?_ ?_
  · go_wp2_with fail
    obtain ⟨k, hkk⟩ : ∃ k, k0 = k := ⟨_, rfl⟩
    have hi : k ≤ 17 ∧ nextP T p k = n ∧ ∃ q os, w = grow (w.drewN q) os := ⟨by rw [← hkk]; exact HK.out, by rw [← hkk]; exact HN.out, grow_none _⟩
    have bb : Below w.heap.size w w := Below.refl _ _
    rw [hkk]
    clear hkk
    go_step3
    have HI := Lib.hid hi
    have HB := Lib.hid bb
    clear hi bb
    by_cases hlt : k < 16
    · have i1 : decide ((k : Int) ≥ 16) = false := by simp; omega
      have i2 : (k : Int) < 16 := by omega
      have i3 : (0 : Int) ≤ (k : Int) := by omega
      obtain ⟨o, ho⟩ : ∃ o, T[k]? = some o := ⟨_, List.getElem?_eq_getElem (by rw [HT.out]; exact hlt)⟩
      have hT2 : Tb w g T := H.out.below' HB.out
      obtain ⟨c0, c1, c2⟩ := hT2.at ho
      have HO := Lib.hid ho
      clear ho hT2
      have K := Lib.hid (fun W hW => HA.out.step o W hW)
      have HB0 := Lib.hid (H0.out.trans (HB.out.mono HS.out))
      unfold Opn.val at K
      cases hp : p o with
      | true =>
        rw [hp] at K
        have HP := Lib.hid (nextP_yes HO.out hp)
        clear hp
        go_wp2_with fail
        rw [HA.out.ent]
        rw [Oper.upon_enter]
        refine (K.out _ HB0.out).mono ?_
        rintro e w2 ⟨rfl, hg2⟩
        have HG2 := Lib.hid (grow_trans HI.out.2.2 hg2)
        clear hg2
        go_wp2_with fail
        simp only [Exit.jump]
        go_ret
        exact ⟨by rw [← HI.out.2.1, HP.out]; rfl, HG2.out⟩
      | false =>
        rw [hp] at K
        have HP := Lib.hid (nextP_no HO.out hp)
        clear hp
        go_wp2_with fail
        rw [HA.out.ent]
        rw [Oper.upon_enter]
        refine (K.out _ HB0.out).mono ?_
        rintro e w2 ⟨rfl, hg2⟩
        have HG2 := Lib.hid (grow_trans HI.out.2.2 hg2)
        clear hg2
        go_wp2_with fail
        go_step3
        exact ⟨rfl, k + 1, _, _, _, _, _, _, _, _, _, _, _, _, _, _, _, _, by first | rfl | (congr 1; go_num), by omega, by rw [← HI.out.2.1, HP.out], HG2.out⟩
    · have i1 : decide ((k : Int) ≥ 16) = true := by simp; omega
      have HP := Lib.hid (nextP_ge HT.out (p := p) (k := k) (by omega))
      go_wp2_with fail
      simp only [Exit.jump]
      go_ret
      exact ⟨by rw [← HI.out.2.1, HP.out]; rfl, HI.out.2.2⟩
  · rintro a' wr ⟨k, u8, u9, u10, u11, u12, u13, u14, u15, u16, u17, u18, u19, u20, u21, u22, u23, rfl, hi⟩
    have HI := Lib.hid hi
    have hb := (Grows.below (e := .returned (.bool true)) (v := .bool true) ⟨rfl, HI.out.2.2⟩).2
    have HB := Lib.hid hb
    clear hb hi
    by_cases hlt : k < 16
    · have i1 : decide ((k : Int) ≥ 16) = false := by simp; omega
      have i2 : (k : Int) < 16 := by omega
      have i3 : (0 : Int) ≤ (k : Int) := by omega
      obtain ⟨o, ho⟩ : ∃ o, T[k]? = some o := ⟨_, List.getElem?_eq_getElem (by rw [HT.out]; exact hlt)⟩
      have hT2 : Tb wr g T := H.out.below' HB.out
      obtain ⟨c0, c1, c2⟩ := hT2.at ho
      have HO := Lib.hid ho
      clear ho hT2
      have K := Lib.hid (fun W hW => HA.out.step o W hW)
      have HB0 := Lib.hid (H0.out.trans (HB.out.mono HS.out))
      unfold Opn.val at K
      cases hp : p o with
      | true =>
        rw [hp] at K
        have HP := Lib.hid (nextP_yes HO.out hp)
        clear hp
        go_wp2_with fail
        rw [HA.out.ent]
        rw [Oper.upon_enter]
        refine (K.out _ HB0.out).mono ?_
        rintro e w2 ⟨rfl, hg2⟩
        have HG2 := Lib.hid (grow_trans HI.out.2.2 hg2)
        clear hg2
        go_wp2_with fail
        simp only [Exit.jump]
        go_ret
        exact ⟨by rw [← HI.out.2.1, HP.out]; rfl, HG2.out⟩
      | false =>
        rw [hp] at K
        have HP := Lib.hid (nextP_no HO.out hp)
        clear hp
        go_wp2_with fail
        rw [HA.out.ent]
        rw [Oper.upon_enter]
        refine (K.out _ HB0.out).mono ?_
        rintro e w2 ⟨rfl, hg2⟩
        have HG2 := Lib.hid (grow_trans HI.out.2.2 hg2)
        clear hg2
        go_wp2_with fail
        go_step3
        exact ⟨rfl, ⟨k + 1, _, _, _, _, _, _, _, _, _, _, _, _, _, _, _, _, by first | rfl | (congr 1; go_num), by omega, by rw [← HI.out.2.1, HP.out], HG2.out⟩, by simp [intOf]; omega⟩
    · have i1 : decide ((k : Int) ≥ 16) = true := by simp; omega
      have HP := Lib.hid (nextP_ge HT.out (p := p) (k := k) (by omega))
      go_wp2_with fail
      simp only [Exit.jump]
      go_ret
      exact ⟨by rw [← HI.out.2.1, HP.out]; rfl, HI.out.2.2⟩
end Go.Proofs.Ytcmgngjafnpnoaa
