import Derived.Test.YtajmboolgekdeaaInWo
import Derived.ScopeJumps
import Derived.WalkMore
import Derived.StillTailTactics
namespace Go.Proofs.Ytajmboolgekdeaa
open Wd Ino Go.RowKit Go.ChangeShapes Go.WideShapes Go.Sort
set_option linter.unusedVariables false
set_option maxRecDepth 100000

/-! the pages that aren't holes -/
def refsP (l : List Int) : List Int := l.filter (fun x => x != 0)
theorem infoI : (Try.prog.info? 3).map (fun i => (i.zero, i.size, i.bytes)) = some (some (.int .i64 0), 1, 8) := by kernel_rfl
/-- a row of ints that the call made -/
def OwnI (w : World) (base : Nat) (v : Value) (l : List Int) : Prop := w.ownsRow base 3 1 v l.length (l.map iv)
def MadeI (l : List Int) (w : World) (e : Ending) (w' : World) : Prop := ∃ v, e = .returned v ∧ OwnI w' w.heap.size v l ∧ Below w.heap.size w w'
theorem OwnI.nil (w : World) (base : Nat) : OwnI w base (.slice none 0 0) [] := own_nil _ _ _
theorem OwnI.below {w w' : World} {base : Nat} {v : Value} {l : List Int} (h : OwnI w base v l) (hb : Below w.heap.size w w') : OwnI w' base v l := own_below h hb
theorem OwnI.mono {w : World} {b1 b2 : Nat} {v : Value} {l : List Int} (h : OwnI w b1 v l) (hb : b2 ≤ b1) : OwnI w b2 v l := by
  rcases h with ⟨h1, h2⟩
  refine ⟨h1, ?_⟩
  rcases h2 with h2 | ⟨g, cap, cur, h2, h3, h4⟩
  · exact .inl h2
  · exact .inr ⟨g, cap, cur, h2, Nat.le_trans hb h3, h4⟩
theorem OwnI.row {w : World} {base : Nat} {v : Value} {l : List Int} (h : OwnI w base v l) : ∃ A c, v = .slice A l.length c ∧ Row w w.heap.size A l.length (l.map iv) := Row.of_own h
theorem refs_take {l : List Int} {k : Nat} {x : Int} (h : l[k]? = some x) : refsP (l.take (k + 1)) = refsP (l.take k) ++ (if x = 0 then [] else [x]) := by
  rw [take_two h]
  unfold refsP
  rw [List.filter_append]
  by_cases hx : x = 0
  · simp [hx]
  · simp [hx]
theorem refs_len (l : List Int) : (refsP l).length ≤ l.length := List.length_filter_le _ _
theorem getI {w : World} {B n : Nat} {A : Option Addr} {l : List Int} (h : Row w B A n (l.map iv)) {k : Nat} (hk : k < n) : ∃ b off x, A = some ⟨b, off, none⟩ ∧ b < B ∧ l[k]? = some x ∧ w.cell? ⟨b, off + k, none⟩ = some (.int .i64 x) := h.get hk
def GathJ (l : List Int) (n c : Nat) (A : Option Addr) (W : World) (a : Act) (w : World) : Prop :=
  ∃ (k : Nat) (v : Value) (u5 u6 u7 u8 u9 u10 u11 u12 u13 u14 u15 u16 u17 u18 u19 u20 u21 u22 u23 : Value), a = { tmps := #[.slice A n c, undef, .slice none 0 0, v, .int .i64 k, u5, u6, u7, u8, u9, u10, u11, u12, u13, u14, u15, u16, u17, u18, u19, u20, u21, u22, u23], defers := [] } ∧ k ≤ n ∧ OwnI w W.heap.size v (refsP (l.take k)) ∧ Below W.heap.size W w

set_option maxHeartbeats 8000000 in
theorem iGather (l : List Int) (n : Nat) (hL : l.length = n) (A : Option Addr) (c : Nat) (w : World) (hn : n ≤ 1000) (hr : Row w w.heap.size A n (l.map iv)) : Calls Try.prog 24 #[.slice A n c] w (MadeI (refsP l) w) := by
  have HL := Lib.hid hL; have HR := Lib.hid hr
  clear hL hr
  go_enter Try.func24, Try.ntmps24
  go_wp2
  refine wp_scope_jumps 0 (GathJ l n c A w) (fun a' _ => n - (intOf (a'.tmps.getD 4 undef)).toNat) rfl ?_ ?_
  · go_wp2
    obtain ⟨k, wr, hk, hown, hbl, hkI, hwr⟩ : ∃ (k : Nat) (wr : World), k ≤ n ∧ OwnI wr w.heap.size (.slice none 0 0) (refsP (l.take k)) ∧ Below w.heap.size w wr ∧ (0 : Int) = (k : Int) ∧ w = wr := ⟨0, w, Nat.zero_le _, OwnI.nil _ _, Below.refl _ _, rfl, rfl⟩
    rw [hkI]
    have H0 : (w.heap.size) = w.heap.size := rfl
    clear H0 hkI
    subst hwr
    go_step3
    by_cases heq : k = n
    · subst heq
      rw [List.take_of_length_le (by rw [HL.out]; exact Nat.le_refl _)] at hown
      have HO := Lib.hid hown; have HBL := Lib.hid hbl
      clear hbl hown hk
      go_wp2
      simp only [Exit.jump]
      go_ret
      exact ⟨_, rfl, HO.out, HBL.out⟩
    · have hkn : k < n := by omega
      have hne : ((k : Int) == (n : Int)) = false := by rw [beq_eq_false_iff_ne]; omega
      obtain ⟨b1, o1, x, hA, hbb, hx, cx⟩ := getI (HR.out.below hbl) hkn
      have ht := refs_take hx
      have hle := Nat.le_trans (refs_len (l.take k)) (by rw [List.length_take]; exact Nat.min_le_left k _)
      have HO := Lib.hid hown; have HBL := Lib.hid hbl
      have hsz := hbl.size
      by_cases hx0 : x = 0
      · have hz : (x != 0) = false := by simp [hx0]
        rw [if_pos hx0, List.append_nil] at ht
        have HT := Lib.hid ht
        clear hbl hown hx ht heq hx0 hle
        subst hA
        go_wp2
        go_step3
        exact ⟨rfl, k + 1, _, _, _, _, _, _, _, _, _, _, _, _, _, _, _, _, _, _, _, _, rfl, by omega, by rw [HT.out]; exact HO.out, HBL.out⟩
      · have hz : (x != 0) = true := by simp [hx0]
        rw [if_neg hx0] at ht
        have HT := Lib.hid ht
        have hle2 : (refsP (l.take k)).length + 1 ≤ 1001 := by omega
        have HO2 := Lib.hid (show (w.alloc (.cells #[.int .i64 x] 3)).ownsRow w.heap.size 3 1 (.slice none 0 0) (refsP (l.take k)).length ((refsP (l.take k)).map iv) from own_below hown ((Below.refl _ _).alloc (Nat.le_refl _) _))
        have HR2 := Lib.hid (Row.one w (.int .i64 x) 3)
        clear hbl hown hx ht heq hx0 hle
        subst hA
        go_wp2_with (at_builtin; refine wpList_append_row _ rfl (.tmp 15) (.tmp 20) 22 rfl w.heap.size 3 (.int .i64 0) 8 Try.underlying22 infoI rfl (.slice none 0 0) (refsP (l.take k)).length ((refsP (l.take k)).map iv) rfl HO2.out _ (some ⟨w.heap.size, 0, none⟩) 1 1 [.int .i64 x] rfl HR2.out (by simp [Value.oneCell']) (by unfold maxLen; omega) (by omega) (by simp <;> omega) ?_; intro v5 w5 hown5 hgr5 hat5; have hb5 := Lib.hid (show Below w.heap.size w w5 from (HBL.out.alloc hsz _).grown hgr5 (by simp <;> omega) (own_base HO2.out)); have HO5 := Lib.hid hown5; clear hown5 hgr5 hat5)
        go_step3
        exact ⟨rfl, k + 1, _, _, _, _, _, _, _, _, _, _, _, _, _, _, _, _, _, _, _, _, rfl, by omega, by rw [HT.out]; unfold OwnI; rw [List.length_append, List.map_append]; exact HO5.out, hb5.out⟩
  · rintro a' wr ⟨k, v, u5, u6, u7, u8, u9, u10, u11, u12, u13, u14, u15, u16, u17, u18, u19, u20, u21, u22, u23, rfl, hk, hown, hbl⟩
    by_cases heq : k = n
    · subst heq
      rw [List.take_of_length_le (by rw [HL.out]; exact Nat.le_refl _)] at hown
      have HO := Lib.hid hown; have HBL := Lib.hid hbl
      clear hbl hown hk
      go_wp2
      simp only [Exit.jump]
      go_ret
      exact ⟨_, rfl, HO.out, HBL.out⟩
    · have hkn : k < n := by omega
      have hne : ((k : Int) == (n : Int)) = false := by rw [beq_eq_false_iff_ne]; omega
      obtain ⟨b1, o1, x, hA, hbb, hx, cx⟩ := getI (HR.out.below hbl) hkn
      have ht := refs_take hx
      have hle := Nat.le_trans (refs_len (l.take k)) (by rw [List.length_take]; exact Nat.min_le_left k _)
      have HO := Lib.hid hown; have HBL := Lib.hid hbl
      have hsz := hbl.size
      by_cases hx0 : x = 0
      · have hz : (x != 0) = false := by simp [hx0]
        rw [if_pos hx0, List.append_nil] at ht
        have HT := Lib.hid ht
        clear hbl hown hx ht heq hx0 hle
        subst hA
        go_wp2
        go_step3
        exact ⟨rfl, ⟨k + 1, _, _, _, _, _, _, _, _, _, _, _, _, _, _, _, _, _, _, _, _, rfl, by omega, by rw [HT.out]; exact HO.out, HBL.out⟩, by simp [intOf]; omega⟩
      · have hz : (x != 0) = true := by simp [hx0]
        rw [if_neg hx0] at ht
        have HT := Lib.hid ht
        have hle2 : (refsP (l.take k)).length + 1 ≤ 1001 := by omega
        have HO2 := Lib.hid (show (wr.alloc (.cells #[.int .i64 x] 3)).ownsRow w.heap.size 3 1 v (refsP (l.take k)).length ((refsP (l.take k)).map iv) from own_below hown ((Below.refl _ _).alloc (Nat.le_refl _) _))
        have HR2 := Lib.hid (Row.one wr (.int .i64 x) 3)
        clear hbl hown hx ht heq hx0 hle
        subst hA
        go_wp2_with (at_builtin; refine wpList_append_row _ rfl (.tmp 15) (.tmp 20) 22 rfl w.heap.size 3 (.int .i64 0) 8 Try.underlying22 infoI rfl v (refsP (l.take k)).length ((refsP (l.take k)).map iv) rfl HO2.out _ (some ⟨wr.heap.size, 0, none⟩) 1 1 [.int .i64 x] rfl HR2.out (by simp [Value.oneCell']) (by unfold maxLen; omega) (by omega) (by simp <;> omega) ?_; intro v5 w5 hown5 hgr5 hat5; have hb5 := Lib.hid (show Below w.heap.size w w5 from (HBL.out.alloc hsz _).grown hgr5 (by simp <;> omega) (own_base HO2.out)); have HO5 := Lib.hid hown5; clear hown5 hgr5 hat5)
        go_step3
        exact ⟨rfl, ⟨k + 1, _, _, _, _, _, _, _, _, _, _, _, _, _, _, _, _, _, _, _, _, rfl, by omega, by rw [HT.out]; unfold OwnI; rw [List.length_append, List.map_append]; exact HO5.out, hb5.out⟩, by simp [intOf]; omega⟩
end Go.Proofs.Ytajmboolgekdeaa
