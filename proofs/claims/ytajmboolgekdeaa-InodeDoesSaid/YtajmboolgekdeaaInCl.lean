import Derived.Test.YtajmboolgekdeaaInGa
import Derived.Lib.SliceRun
namespace Go.Proofs.Ytajmboolgekdeaa
open Wd Ino Go.RowKit Go.ChangeShapes Go.WideShapes Go.Sort
set_option linter.unusedVariables false
set_option maxRecDepth 100000

/-! slices.Clone of ints and of names -/
theorem oneI (l : List Int) : ∀ u ∈ l.map iv, u.oneCell' = true := by
  intro u hu
  obtain ⟨x, _, rfl⟩ := List.mem_map.1 hu
  rfl
def MadeE (l : List Ent) (w : World) (e : Ending) (w' : World) : Prop := ∃ v, e = .returned v ∧ OwnE w' w.heap.size v l ∧ Below w.heap.size w w'
set_option maxHeartbeats 4000000 in
theorem cloneI {w : World} {B n c : Nat} {A : Option Addr} {xs : List Int} (hn : xs.length = n) (h : Row w B A n (xs.map iv)) (hB : B ≤ w.heap.size) (hle : n ≤ 100000) : Calls Try.prog 34 #[.slice A n c] w (MadeI xs w) := by
  cases A with
  | none =>
    have h0 : n = 0 := by
      apply Classical.byContradiction
      intro hc
      obtain ⟨b, off, e, _⟩ := h.2 (by omega)
      cases e
    subst h0
    obtain rfl : xs = [] := List.eq_nil_of_length_eq_zero hn
    have hq := fun (w : World) => Lib.run_eql_slice_nil (P := Try.prog) w 22 3 none 0 c 0 0 Try.underlying22
    clear h hn
    go_enter Try.func34, Try.ntmps34
    go_wp2
    go_ret
    exact ⟨_, rfl, OwnI.nil _ _, Below.refl _ _⟩
  | some a =>
    have ho : (w.alloc (.cells #[] 3)).ownsRow w.heap.size 3 1 (.slice (some ⟨w.heap.size, 0, none⟩) 0 0) 0 [] := ⟨rfl, .inr ⟨w.heap.size, 0, #[], rfl, Nat.le_refl _, Cells.new w _ _, Nat.le_refl _, by decide, rfl, rfl⟩⟩
    have HO := Lib.hid ho
    have hr' : Row (w.alloc (.cells #[] 3)) w.heap.size (some a) n (xs.map iv) := (h.more hB).below ((Below.refl w.heap.size w).alloc (Nat.le_refl _) _)
    have HR := Lib.hid hr'
    have HN := Lib.hid hn
    have hq := fun (w : World) => Lib.run_eql_slice_nil (P := Try.prog) w 22 3 (some a) n c 0 0 Try.underlying22
    clear ho hr' h hn
    go_enter Try.func34, Try.ntmps34
    go_wp2_with (at_builtin; refine wpList_append_row _ rfl (.tmp 5) (.tmp 6) 22 rfl w.heap.size 3 (.int .i64 0) 8 Try.underlying22 infoI rfl _ _ _ rfl HO.out _ (some a) n c (xs.map iv) rfl HR.out (oneI _) (by unfold maxLen; omega) (by omega) (by simp) ?_; intro v5 w5 hown5 hgr5 hat5; have HO5 := Lib.hid hown5; have HG5 := Lib.hid hgr5; clear hown5 hgr5 hat5)
    go_ret
    have hb5 : Below w.heap.size w w5 := ((Below.refl _ _).alloc (Nat.le_refl _) _).grown HG5.out (by simp) (own_base HO.out)
    have ho5 := HO5.out
    rw [Nat.zero_add, List.nil_append, ← HN.out] at ho5
    exact ⟨_, rfl, ho5, hb5⟩
theorem ownE_base {w : World} {base : Nat} {v : Value} {l : List Ent} (h : OwnE w base v l) : ∀ q, v.ownBlock = some q → base ≤ q := own_base h
set_option maxHeartbeats 4000000 in
theorem cloneE {w : World} {B n c : Nat} {A : Option Addr} {xs : List Ent} (hn : xs.length = n) (h : Ens w B A xs) (hB : B ≤ w.heap.size) (hle : n ≤ 50000) : Calls Try.prog 35 #[.slice A n c] w (MadeE xs w) := by
  subst hn
  cases A with
  | none =>
    obtain rfl : xs = [] := by
      cases xs with
      | nil => rfl
      | cons e l =>
        obtain ⟨b, off, e, _⟩ := h (by simp)
        cases e
    have hq := fun (w : World) => Lib.run_eql_slice_nil (P := Try.prog) w 23 43 none 0 c 0 0 Try.underlying23
    clear h
    go_enter Try.func35, Try.ntmps35
    go_wp2
    go_ret
    exact ⟨_, rfl, own_nilE _ _, Below.refl _ _⟩
  | some a =>
    have ho : OwnE (w.alloc (.cells #[] 43)) w.heap.size (.slice (some ⟨w.heap.size, 0, none⟩) 0 0) [] := ⟨rfl, .inr ⟨w.heap.size, 0, #[], rfl, Nat.le_refl _, Cells.new w _ _, Nat.le_refl _, by decide, rfl, rfl⟩⟩
    have HO := Lib.hid ho
    have hr' : Ens (w.alloc (.cells #[] 43)) w.heap.size (some a) xs := (h.more hB).below ((Below.refl w.heap.size w).alloc (Nat.le_refl _) _)
    have HR := Lib.hid hr'
    have hl3 : ([] : List Ent).length + xs.length ≤ 100000 := by rw [List.length_nil]; omega
    have hs3 : w.heap.size ≤ (w.alloc (.cells #[] 43)).heap.size := by simp
    have hq := fun (w : World) => Lib.run_eql_slice_nil (P := Try.prog) w 23 43 (some a) xs.length c 0 0 Try.underlying23
    clear ho hr' h
    go_enter Try.func35, Try.ntmps35
    go_wp2_with (at_builtin; refine wpList_append_ens rfl (.tmp 5) (.tmp 6) rfl rfl rfl HO.out HR.out hl3 hs3 ?_; intro v5 w5 hown5 hgr5 hat5; have HO5 := Lib.hid hown5; have HG5 := Lib.hid hgr5; clear hown5 hgr5 hat5)
    go_ret
    have hb5 : Below w.heap.size w w5 := ((Below.refl _ _).alloc (Nat.le_refl _) _).grown HG5.out (by simp) (ownE_base HO.out)
    have ho5 := HO5.out
    rw [List.nil_append] at ho5
    exact ⟨_, rfl, ho5, hb5⟩
/-- a node's refs -/
theorem iRefs (n : Nd) (w : World) (h : n.In w) (hp : n.pages.length ≤ 1000) : Calls Try.prog 12 #[n.val] w (MadeI (refsP n.pages) w) := by
  obtain ⟨i, ki, l, s, u, A, ac, P, B, bc, N⟩ := n
  dsimp only at hp
  have hr := h.row
  dsimp only at hr
  have hb := (Below.refl w.heap.size w).alloc (Nat.le_refl _) (.cells (ncells i ki l s u (.slice A P.length ac) (.slice B N.length bc)) 25)
  have KG := Lib.hid (iGather P _ rfl A ac _ hp ((hr.below hb).more hb.size))
  have hc := Cells.new w 25 (ncells i ki l s u (.slice A P.length ac) (.slice B N.length bc))
  obtain ⟨c0, c1, c2, c3, c4, c5, c6⟩ := cells7 hc
  have HB := Lib.hid hb
  unfold Nd.val
  dsimp only
  unfold ncells at c5 HB KG
  clear hc hb hr h c0 c1 c2 c3 c4 c6
  go_enter Try.func12, Try.ntmps12
  go_wp2_with fail
  refine KG.out.mono ?_
  rintro e w2 ⟨v, rfl, ho, hb2⟩
  have HO := Lib.hid ho; have HB2 := Lib.hid hb2
  clear ho hb2
  go_wp2
  go_ret
  exact ⟨_, rfl, HO.out.mono HB.out.size, HB.out.trans (HB2.out.mono HB.out.size)⟩
end Go.Proofs.Ytajmboolgekdeaa
