import Derived.Test.YtamndllolppmoaaGreatDoorG02
import Derived.Lib.SliceRun
import Derived.OwnWalk
import Derived.Test.YtamndllolppmoaaGreatDoorG03
import Derived.Deep.RegionWith
import Derived.Deep.RegionHeld3
import Derived.Deep.RegionLaw
import Derived.Deep.CutRange
import Derived.Deep.DeepCutAuto

namespace Go.Proofs.YtamndllolppmoaaGreatDoor
open Wd Ino Go.RowKit Go.ChangeShapes Go.WideShapes Go.Sort
set_option linter.unusedVariables false
set_option maxRecDepth 100000

/-! slices.Clone of names -/
def MadeE (l : List Ent) (w : World) (e : Ending) (w' : World) : Prop := ∃ v, e = .returned v ∧ OwnE w' w.heap.size v l ∧ Below w.heap.size w w'
theorem ownE_base {w : World} {base : Nat} {v : Value} {l : List Ent} (h : OwnE w base v l) : ∀ q, v.ownBlock = some q → base ≤ q := own_base h
set_option maxHeartbeats 4000000 in
theorem cloneE {w : World} {B n c : Nat} {A : Option Addr} {xs : List Ent} (hn : xs.length = n) (h : Ens w B A xs) (hB : B ≤ w.heap.size) (hle : n ≤ 50000) : Calls Tryz.prog 67 #[.slice A n c] w (MadeE xs w) := by
  subst hn
  cases A with
  | none =>
    obtain rfl : xs = [] := by
      cases xs with
      | nil => rfl
      | cons e l =>
        obtain ⟨b, off, e, _⟩ := h (by simp)
        cases e
    have hq := fun (w : World) => Lib.run_eql_slice_nil (P := Tryz.prog) w 36 97 none 0 c 0 0 Tryz.underlying36
    clear h
    go_enter Tryz.func67, Tryz.ntmps67
    go_wp2
    go_ret
    exact ⟨_, rfl, own_nilE _ _, Below.refl _ _⟩
  | some a =>
    have ho : OwnE (w.alloc (.cells #[] 97)) w.heap.size (.slice (some ⟨w.heap.size, 0, none⟩) 0 0) [] := ⟨rfl, .inr ⟨w.heap.size, 0, #[], rfl, Nat.le_refl _, Cells.new w _ _, Nat.le_refl _, by decide, rfl, rfl⟩⟩
    have HO := Lib.hid ho
    have hr' : Ens (w.alloc (.cells #[] 97)) w.heap.size (some a) xs := (h.more hB).below ((Below.refl w.heap.size w).alloc (Nat.le_refl _) _)
    have HR := Lib.hid hr'
    have hl3 : ([] : List Ent).length + xs.length ≤ 100000 := by rw [List.length_nil]; omega
    have hs3 : w.heap.size ≤ (w.alloc (.cells #[] 97)).heap.size := by simp
    have hq := fun (w : World) => Lib.run_eql_slice_nil (P := Tryz.prog) w 36 97 (some a) xs.length c 0 0 Tryz.underlying36
    clear ho hr' h
    go_enter Tryz.func67, Tryz.ntmps67
    go_wp2_with (at_builtin; refine wpList_append_ens rfl (.tmp 5) (.tmp 6) rfl rfl rfl HO.out HR.out hl3 hs3 ?_; intro v5 w5 hown5 hgr5 hat5; have HO5 := Lib.hid hown5; have HG5 := Lib.hid hgr5; clear hown5 hgr5 hat5)
    go_ret
    have hb5 : Below w.heap.size w w5 := ((Below.refl _ _).alloc (Nat.le_refl _) _).grown HG5.out (by simp) (ownE_base HO.out)
    have ho5 := HO5.out
    rw [List.nil_append] at ho5
    exact ⟨_, rfl, ho5, hb5⟩
end Go.Proofs.YtamndllolppmoaaGreatDoor

namespace Go.Proofs.YtamndllolppmoaaGreatDoor
open Wd Ino Go.RowKit Go.ChangeShapes Go.WideShapes Go.Sort
set_option linter.unusedVariables false
set_option maxRecDepth 100000

/-! slices.Clone of ints and of names -/
theorem oneI (l : List Int) : ∀ u ∈ l.map iv, u.oneCell' = true := by
  intro u hu
  obtain ⟨x, _, rfl⟩ := List.mem_map.1 hu
  rfl
set_option maxHeartbeats 4000000 in
theorem cloneI {w : World} {B n c : Nat} {A : Option Addr} {xs : List Int} (hn : xs.length = n) (h : Row w B A n (xs.map iv)) (hB : B ≤ w.heap.size) (hle : n ≤ 100000) : Calls Tryz.prog 66 #[.slice A n c] w (MadeI xs w) := by
  cases A with
  | none =>
    have h0 : n = 0 := by
      apply Classical.byContradiction
      intro hc
      obtain ⟨b, off, e, _⟩ := h.2 (by omega)
      cases e
    subst h0
    obtain rfl : xs = [] := List.eq_nil_of_length_eq_zero hn
    have hq := fun (w : World) => Lib.run_eql_slice_nil (P := Tryz.prog) w 35 3 none 0 c 0 0 Tryz.underlying35
    clear h hn
    go_enter Tryz.func66, Tryz.ntmps66
    go_wp2
    go_ret
    exact ⟨_, rfl, OwnI.nil _ _, Below.refl _ _⟩
  | some a =>
    have ho : (w.alloc (.cells #[] 3)).ownsRow w.heap.size 3 1 (.slice (some ⟨w.heap.size, 0, none⟩) 0 0) 0 [] := ⟨rfl, .inr ⟨w.heap.size, 0, #[], rfl, Nat.le_refl _, Cells.new w _ _, Nat.le_refl _, by decide, rfl, rfl⟩⟩
    have HO := Lib.hid ho
    have hr' : Row (w.alloc (.cells #[] 3)) w.heap.size (some a) n (xs.map iv) := (h.more hB).below ((Below.refl w.heap.size w).alloc (Nat.le_refl _) _)
    have HR := Lib.hid hr'
    have HN := Lib.hid hn
    have hq := fun (w : World) => Lib.run_eql_slice_nil (P := Tryz.prog) w 35 3 (some a) n c 0 0 Tryz.underlying35
    clear ho hr' h hn
    go_enter Tryz.func66, Tryz.ntmps66
    go_wp2_with (at_builtin; refine wpList_append_row _ rfl (.tmp 5) (.tmp 6) 35 rfl w.heap.size 3 (.int .i64 0) 8 Tryz.underlying35 infoI rfl _ _ _ rfl HO.out _ (some a) n c (xs.map iv) rfl HR.out (oneI _) (by unfold maxLen; omega) (by omega) (by simp) ?_; intro v5 w5 hown5 hgr5 hat5; have HO5 := Lib.hid hown5; have HG5 := Lib.hid hgr5; clear hown5 hgr5 hat5)
    go_ret
    have hb5 : Below w.heap.size w w5 := ((Below.refl _ _).alloc (Nat.le_refl _) _).grown HG5.out (by simp) (own_base HO.out)
    have ho5 := HO5.out
    rw [Nat.zero_add, List.nil_append, ← HN.out] at ho5
    exact ⟨_, rfl, ho5, hb5⟩
/-- a node's refs -/
theorem iRefs (n : Nd) (w : World) (h : n.In w) (hp : n.pages.length ≤ 1000) : Calls Tryz.prog 55 #[n.val] w (MadeI (refsP n.pages) w) := by
  obtain ⟨i, ki, l, s, u, A, ac, P, B, bc, N⟩ := n
  dsimp only at hp
  have hr := h.row
  dsimp only at hr
  have hb := (Below.refl w.heap.size w).alloc (Nat.le_refl _) (.cells (ncells i ki l s u (.slice A P.length ac) (.slice B N.length bc)) 38)
  have KG := Lib.hid (iGather P _ rfl A ac _ hp ((hr.below hb).more hb.size))
  have hc := Cells.new w 38 (ncells i ki l s u (.slice A P.length ac) (.slice B N.length bc))
  obtain ⟨c0, c1, c2, c3, c4, c5, c6⟩ := cells7 hc
  have HB := Lib.hid hb
  unfold Nd.val
  dsimp only
  unfold ncells at c5 HB KG
  clear hc hb hr h c0 c1 c2 c3 c4 c6
  go_enter Tryz.func55, Tryz.ntmps55
  go_wp2_with fail
  refine KG.out.mono ?_
  rintro e w2 ⟨v, rfl, ho, hb2⟩
  have HO := Lib.hid ho; have HB2 := Lib.hid hb2
  clear ho hb2
  go_wp2
  go_ret
  exact ⟨_, rfl, HO.out.mono HB.out.size, HB.out.trans (HB2.out.mono HB.out.size)⟩
end Go.Proofs.YtamndllolppmoaaGreatDoor

namespace Go.Proofs.YtamndllolppmoaaGreatDoor
open Wd Ino Go.RowKit Go.ChangeShapes Go.WideShapes Go.Sort
set_option linter.unusedVariables false
set_option maxRecDepth 100000

/-- a node of that: its numbers, its pages and its names in rows of their own -/
structure OwnN (w : World) (base : Nat) (V : Value) (i k l s u : Int) (P : List Int) (N : List Ent) (A : Option Addr) (ac : Nat) (B : Option Addr) (bc : Nat) : Prop where
  val : V = nv i k l s u (.slice A P.length ac) (.slice B N.length bc)
  pages : OwnI w base (.slice A P.length ac) P
  names : OwnE w base (.slice B N.length bc) N
theorem fill2 {w : World} {g : Nat} {i k l s u : Int} {pv mv : Value} (h : Cells w g 38 (ncells i k l s u pv mv)) (p m : Value) : Cells ((w.setCell ⟨g, 5, none⟩ p).setCell ⟨g, 6, none⟩ m) g 38 (ncells i k l s u p m) := by
  have h1 := Cells.set h 5 p
  have h2 := Cells.set h1 6 m
  exact h2
theorem own_far {w : World} {base : Nat} {e : TypeId} {sz n : Nat} {v : Value} {xs : List Value} (h : w.ownsRow base e sz v n xs) {p : Addr} (hp : p.block < base) (u : Value) : (w.setCell p u).ownsRow base e sz v n xs := by
  rcases h with ⟨hl, h⟩
  refine ⟨hl, ?_⟩
  rcases h with h | ⟨g, cap, cur, hv, hb, hh, h1⟩
  · exact .inl h
  · exact .inr ⟨g, cap, cur, hv, hb, (Below.heap_setCell _ _ _ g (by omega)).trans hh, h1⟩
/-- a node's seven cells written -/
def set7 (w : World) (g : Nat) (i k l s u : Int) (p m : Value) : World :=
  ((((((w.setCell ⟨g, 0, none⟩ (.int .i64 i)).setCell ⟨g, 1, none⟩ (.int .i64 k)).setCell ⟨g, 2, none⟩ (.int .i64 l)).setCell ⟨g, 3, none⟩ (.int .i64 s)).setCell ⟨g, 4, none⟩ (.int .i64 u)).setCell ⟨g, 5, none⟩ p).setCell ⟨g, 6, none⟩ m
theorem set7_cells {w : World} {g : Nat} {i k l s u i' k' l' s' u' : Int} {p m p' m' : Value} (h : Cells w g 38 (ncells i' k' l' s' u' p' m')) : Cells (set7 w g i k l s u p m) g 38 (ncells i k l s u p m) := by
  have h0 : Cells _ g 38 (ncells i k' l' s' u' p' m') := Cells.set h 0 (.int .i64 i)
  have h1 : Cells _ g 38 (ncells i k l' s' u' p' m') := Cells.set h0 1 (.int .i64 k)
  have h2 : Cells _ g 38 (ncells i k l s' u' p' m') := Cells.set h1 2 (.int .i64 l)
  have h3 : Cells _ g 38 (ncells i k l s u' p' m') := Cells.set h2 3 (.int .i64 s)
  have h4 : Cells _ g 38 (ncells i k l s u p' m') := Cells.set h3 4 (.int .i64 u)
  have h5 : Cells _ g 38 (ncells i k l s u p m') := Cells.set h4 5 p
  have h6 : Cells _ g 38 (ncells i k l s u p m) := Cells.set h5 6 m
  exact h6
theorem set7_heap {w : World} {g : Nat} {i k l s u : Int} {p m : Value} {b : Nat} (h : b ≠ g) : (set7 w g i k l s u p m).heap[b]? = w.heap[b]? := by
  unfold set7
  have f := fun (w : World) (j : Nat) (x : Value) => Below.heap_setCell w ⟨g, j, none⟩ x b h
  rw [f, f, f, f, f, f, f]
theorem set7_below {B : Nat} {w0 w : World} {g : Nat} {i k l s u : Int} {p m : Value} (h : Below B w0 w) (hg : B ≤ g) : Below B w0 (set7 w g i k l s u p m) := by
  unfold set7
  have f := fun (w : World) (j : Nat) (x : Value) (h : Below B w0 w) => Below.setCell h (p := ⟨g, j, none⟩) hg x
  exact f _ _ _ (f _ _ _ (f _ _ _ (f _ _ _ (f _ _ _ (f _ _ _ (f _ _ _ h))))))
theorem own_set7 {w : World} {base : Nat} {e : TypeId} {sz n : Nat} {v : Value} {xs : List Value} (h : w.ownsRow base e sz v n xs) {g : Nat} (hp : g < base) {i k l s u : Int} {p m : Value} : (set7 w g i k l s u p m).ownsRow base e sz v n xs := by
  rcases h with ⟨hl, h⟩
  refine ⟨hl, ?_⟩
  rcases h with h | ⟨g', cap, cur, hv, hb, hh, h1⟩
  · exact .inl h
  · exact .inr ⟨g', cap, cur, hv, hb, (set7_heap (by omega)).trans hh, h1⟩
theorem own_apart {w : World} {base g : Nat} {e t : TypeId} {sz n : Nat} {v : Value} {xs : List Value} {cs : Array Value} (h : w.ownsRow base e sz v n xs) (hc : Cells w g t cs) (hne : t ≠ e) (k : Nat) (u : Value) : (w.setCell ⟨g, k, none⟩ u).ownsRow base e sz v n xs := by
  rcases h with ⟨hl, h⟩
  refine ⟨hl, ?_⟩
  rcases h with h | ⟨g', cap, cur, hv, hb, hh, h1⟩
  · exact .inl h
  · have hn : g' ≠ g := fun e' => Cells.ne hc (show Cells w g' e cur from hh) hne e'.symm
    exact .inr ⟨g', cap, cur, hv, hb, (Below.heap_setCell _ _ _ g' hn).trans hh, h1⟩
theorem ownE_open {w : World} {base : Nat} {v : Value} {N : List Ent} (h : OwnE w base v N) (hn : 0 < N.length) : ∃ g cap cur, v = .slice (some ⟨g, 0, none⟩) N.length cap ∧ base ≤ g ∧ Cells w g 97 cur ∧
    ∀ (j : Nat) (e : Ent), N[j]? = some e → cur[j * 2]? = some (.string e.s) ∧ cur[j * 2 + 1]? = some (.int .i64 e.n) := by
  rcases h.2 with ⟨_, h0⟩ | ⟨g, cap, cur, hv, hb, hh, hc, hm, _, ht⟩
  · omega
  · refine ⟨g, cap, cur, hv, hb, hh, fun j e hj => ?_⟩
    have get : ∀ (k : Nat) (x : Value), (ev e)[k]? = some x → cur[j * 2 + k]? = some x := fun k x hk => by
      have hx := evals_at N j k e x hj hk
      rw [← ht, List.getElem?_take] at hx
      split at hx
      · rw [← Array.getElem?_toList]; exact hx
      · cases hx
    exact ⟨get 0 _ rfl, get 1 _ rfl⟩
theorem ownE_same {w : World} {base g n cap : Nat} {N : List Ent} {cur : Array Value} (h : OwnE w base (.slice (some ⟨g, 0, none⟩) n cap) N) (hc : Cells w g 97 cur) {j : Nat} {u : Value} (hj : cur[j]? = some u) : OwnE (w.setCell ⟨g, j, none⟩ u) base (.slice (some ⟨g, 0, none⟩) n cap) N := by
  have h1 := Cells.set hc j u
  have h2 : cur.setIfInBounds j u = cur := by
    apply Array.ext_getElem?
    intro i
    rw [Array.getElem?_setIfInBounds]
    by_cases hi : j = i
    · subst hi
      have := (Array.getElem?_eq_some_iff.1 hj).1
      rw [if_pos rfl, if_pos this, hj]
    · rw [if_neg hi]
  rw [h2] at h1
  refine ⟨h.1, ?_⟩
  rcases h.2 with ⟨h0, _⟩ | ⟨g', cap', cur', hv, hb, hh, h3⟩
  · cases h0
  · injection hv with hv hn hcap
    injection hv with hv
    injection hv with hv
    subst hv
    have : cur' = cur := by
      have e : (some (Obj.cells cur' 97 (0, 0)) : Option Obj) = some (Obj.cells cur 97 (0, 0)) := hh.symm.trans hc
      injection e with e
      injection e
    subst this
    exact .inr ⟨g, cap', cur', by rw [hn, hcap], hb, h1, h3⟩
def CopyI (n : Nd) (w : World) (A3 : Option Addr) (c3 : Nat) (B4 : Option Addr) (c4 : Nat) (wx : World) : Prop := OwnI wx (w.heap.size + 2) (.slice A3 n.pages.length c3) n.pages ∧ OwnE wx (w.heap.size + 2) (.slice B4 n.names.length c4) n.names ∧
  Cells wx w.heap.size 38 (ncells n.ino n.kind n.links n.size n.up (.slice A3 n.pages.length c3) (.slice B4 n.names.length c4)) ∧ Cells wx (w.heap.size + 1) 38 (ncells 0 0 0 0 0 (.slice none 0 0) (.slice none 0 0)) ∧ Below w.heap.size w wx
set_option maxHeartbeats 8000000 in
theorem iCopy (n : Nd) (w : World) (h : n.In w) (hp : n.pages.length ≤ 1000) (hq : n.names.length ≤ 1000) (hsz : ∀ e ∈ n.names, e.s.size ≤ 1000) :
    Calls Tryz.prog 39 #[n.val] w fun e w' => ∃ V A ac B bc, e = .returned V ∧ OwnN w' w.heap.size V n.ino n.kind n.links n.size n.up n.pages n.names A ac B bc ∧ Below w.heap.size w w' := by
  obtain ⟨i, ki, l, s, u, A, ac, P, B, bc, N⟩ := n
  dsimp only at hp hq hsz ⊢
  have hr := h.row
  have he := h.ens
  dsimp only at hr he
  have HRow := Lib.hid hr; have HEns := Lib.hid he; have HS := Lib.hid hsz
  unfold Nd.val
  dsimp only
  clear h hr he hsz
  go_enter Tryz.func39, Tryz.ntmps39
  go_upto_region 1 with fail
  obtain ⟨W2, hW2⟩ : ∃ W2, (w.alloc (.cells (ncells i ki l s u (.slice A P.length ac) (.slice B N.length bc)) 38)).alloc (.cells (ncells 0 0 0 0 0 (.slice none 0 0) (.slice none 0 0)) 38) = W2 := ⟨_, rfl⟩
  have hc : Cells W2 w.heap.size 38 (ncells i ki l s u (.slice A P.length ac) (.slice B N.length bc)) := by rw [← hW2]; exact (Cells.new _ _ _).alloc _
  have hr : Cells W2 (w.heap.size + 1) 38 (ncells 0 0 0 0 0 (.slice none 0 0) (.slice none 0 0)) := by rw [← hW2]; have := Cells.new (w.alloc (.cells (ncells i ki l s u (.slice A P.length ac) (.slice B N.length bc)) 38)) 38 (ncells 0 0 0 0 0 (.slice none 0 0) (.slice none 0 0)); simpa using this
  have hb : Below w.heap.size w W2 := by rw [← hW2]; exact ((Below.refl _ _).alloc (Nat.le_refl _) _).alloc (by simp) _
  unfold ncells at hW2
  rw [hW2]
  have HC := Lib.hid hc; have HR := Lib.hid hr; have HB := Lib.hid hb
  have hs2 : W2.heap.size = w.heap.size + 2 := by rw [← hW2]; simp
  have HS2 := Lib.hid hs2
  have KI := Lib.hid (fun w1 (b : Below w.heap.size w w1) => cloneI (c := ac) rfl (HRow.out.below b) b.size (by omega))
  have KE := Lib.hid (fun w1 (b : Below w.heap.size w w1) => cloneE (c := bc) rfl (HEns.out.below b) b.size (by omega))
  obtain ⟨_, _, _, _, _, c5, c6⟩ := cells7 hc
  have b0 : Below W2.heap.size W2 W2.drew := below_drewN (Below.refl _ _) 1
  clear hW2 hc hr hb hs2
  go_cut [7] from 5 to 12 (fun x wx => ∃ A3 c3 B4 c4, CopyI ⟨i, ki, l, s, u, A, ac, P, B, bc, N⟩ w A3 c3 B4 c4 wx)
  case first =>
    go_region_with (first
      | (go_at_call 66; (with_reducible refine (KI.out _ (HB.out.trans (b0.mono HB.out.size))).mono ?_); rintro e' w3 ⟨vI, rfl, oI, bI⟩; obtain ⟨A3, c3, rfl, _⟩ := oI.row; have kI : Below W2.heap.size W2 w3 := b0.trans (bI.mono b0.size); have x6 := (HC.out.below' kI).cell 6; simp [ncells] at x6)
      | (go_at_call 67; (with_reducible refine (KE.out _ (HB.out.trans (kI.mono HB.out.size))).mono ?_); rintro e' w4 ⟨vE, rfl, oE, bE⟩; obtain ⟨A4, c4, rfl, _, _⟩ := oE.form; have kE : Below W2.heap.size W2 w4 := kI.trans (bE.mono kI.size); have z5 := (HC.out.below' kE).free 5; have z6 := (HC.out.below' kE).free 6; have y5 := (HC.out.below' kE).cell 5; have y6 := (HC.out.below' kE).cell 6; simp [ncells] at y5 y6))
    all_goals
      have hs := HS2.out
      have oI4 : OwnI w4 (w.heap.size + 2) (.slice A3 P.length c3) P := (oI.below bE).mono (by show w.heap.size + 2 ≤ W2.heap.size; omega)
      have oE4 : OwnE w4 (w.heap.size + 2) (.slice A4 N.length c4) N := oE.mono (by have := kI.size; omega)
      have OI5 := Lib.hid (own_far (own_far oI4 (p := ⟨w.heap.size, 5, none⟩) (by simp) (.slice A3 P.length c3)) (p := ⟨w.heap.size, 6, none⟩) (by simp) (.slice A4 N.length c4))
      have OE5 := Lib.hid (own_far (own_far oE4 (p := ⟨w.heap.size, 5, none⟩) (by simp) (.slice A3 P.length c3)) (p := ⟨w.heap.size, 6, none⟩) (by simp) (.slice A4 N.length c4))
      have HC5 := Lib.hid (fill2 (HC.out.below' kE) (.slice A3 P.length c3) (.slice A4 N.length c4))
      have HR5 := Lib.hid (((HR.out.below' kE).far (p := ⟨w.heap.size, 5, none⟩) (by simp) (.slice A3 P.length c3)).far (p := ⟨w.heap.size, 6, none⟩) (by simp) (.slice A4 N.length c4))
      have HB5 := Lib.hid (((HB.out.trans (kE.mono HB.out.size)).setCell (p := ⟨w.heap.size, 5, none⟩) (Nat.le_refl _) (.slice A3 P.length c3)).setCell (p := ⟨w.heap.size, 6, none⟩) (Nat.le_refl _) (.slice A4 N.length c4))
      clear oI4 oE4 z5 z6 y5 y6 oI oE bI bE kI kE hs c5 c6
      go_wp2_with fail
      go_meet
      exact ⟨A3, c3, A4, c4, OI5.out, OE5.out, HC5.out, HR5.out, HB5.out⟩
  case rest =>
  obtain ⟨A3, c3, B4, c4, hI⟩ := hcut
  have HI := Lib.hid hI
  obtain ⟨_, _, hc3, _, _⟩ := hI
  have c6 := (cells7 hc3).2.2.2.2.2.2
  dsimp only at c6
  clear hc3 HC HR HB HS2 KI KE HRow HEns b0
  go_wp2
  go_loopw [16] (fun v wr => ∃ k : Nat, k ≤ N.length ∧ v = .int .i64 k ∧ CopyI ⟨i, ki, l, s, u, A, ac, P, B, bc, N⟩ w A3 c3 B4 c4 wr) (fun v _ => N.length - (intOf v).toNat)
  case atStart => exact ⟨0, Nat.zero_le _, rfl, HI.out⟩
  case round =>
    obtain ⟨k, hk, rfl, hJ⟩ := hrel
    have HJ := Lib.hid hJ
    obtain ⟨oI, oE, hc, hr, hb⟩ := hJ
    dsimp only at oI oE hc hr
    by_cases hlt : k < N.length
    · obtain ⟨e, he⟩ : ∃ e, N[k]? = some e := ⟨_, List.getElem?_eq_getElem hlt⟩
      obtain ⟨g, cap, cur, hv, hg, hcur, hat⟩ := ownE_open oE (by omega)
      obtain ⟨x0, x1⟩ := hat k e he
      injection hv with hv1 _ hv2
      subst hv1
      subst hv2
      have y0 : wr.cell? ⟨g, k * 2, none⟩ = some (.string e.s) := (hcur.cell _).trans x0
      have y1 : wr.cell? ⟨g, k * 2 + 1, none⟩ = some (.int .i64 e.n) := (hcur.cell _).trans x1
      have hlt2 : (k : Int) < (N.length : Int) := Int.ofNat_lt.2 hlt
      have KC := Lib.hid (fun w => cloneG e.s (by have := HS.out e (List.mem_of_getElem? he); omega) w)
      have HE := Lib.hid he
      clear hc hr hb oI oE hat c6
      go_upto_region 5 with fail
      obtain ⟨W3, hW3⟩ : ∃ W3, wr.alloc (.cells #[.string e.s, .int .i64 e.n] 97) = W3 := ⟨_, rfl⟩
      rw [hW3]
      have hx : CopyI ⟨i, ki, l, s, u, A, ac, P, B, bc, N⟩ w A3 c3 (some ⟨g, 0, none⟩) c4 W3 := by
        obtain ⟨oI, oE, hc, hr, hb⟩ := HJ.out
        have b1 := (Below.refl wr.heap.size wr).alloc (Nat.le_refl _) (.cells #[.string e.s, .int .i64 e.n] 97)
        rw [hW3] at b1
        exact ⟨oI.below b1, oE.below b1, hc.below' b1, hr.below' b1, hb.trans (b1.mono hb.size)⟩
      have hbox : Cells W3 wr.heap.size 97 #[.string e.s, .int .i64 e.n] := by rw [← hW3]; exact Cells.new _ _ _
      have hcur3 : Cells W3 g 97 cur := by rw [← hW3]; exact hcur.alloc _
      have HX := Lib.hid hx
      have hc6 := (cells7 hx.2.2.1).2.2.2.2.2.2
      dsimp only at hc6
      have hb0 := hbox.cell 0
      have hz := hcur3.free (k * 2)
      have hy := (hcur3.cell (k * 2)).trans x0
      have hb1 := hbox.cell 0
      simp at hb0
      have HCur := Lib.hid hcur3
      have hk0 : (0 : Int) ≤ (k : Int) := Int.natCast_nonneg k
      have b0 : Below W3.heap.size W3 W3.drew := below_drewN (Below.refl _ _) 1
      have HX0 := Lib.hid x0
      clear hW3 hx hbox hcur3 y0 y1 x0 x1 hcur hb1 HJ hg
      go_region_with (first
        | (go_at_call 63; (with_reducible refine (KC.out _).mono ?_); rintro e' w5 hG; obtain ⟨rfl, bG⟩ := hG.below; clear hG; have kG : Below W3.heap.size W3 w5 := b0.trans (bG.mono b0.size); have z6 := (cells7 (HX.out.2.2.1.below' kG)).2.2.2.2.2.2; have z7 := (HCur.out.below' kG).free (k * 2); have z8 := ((HCur.out.below' kG).cell (k * 2)).trans HX0.out; (dsimp only at z6)))
      all_goals
        have hJ5 : CopyI ⟨i, ki, l, s, u, A, ac, P, B, bc, N⟩ w A3 c3 (some ⟨g, 0, none⟩) c4 (w5.setCell ⟨g, k * 2, none⟩ (.string e.s)) := by
          obtain ⟨oI, oE, hc, hr, hb⟩ := HX.out
          have hg := own_base oE g rfl
          exact ⟨own_apart (oI.below kG) (HCur.out.below' kG) (by decide) _ _, ownE_same (oE.below kG) (HCur.out.below' kG) HX0.out, (hc.below' kG).far (p := ⟨g, k * 2, none⟩) (by simp; omega) _, (hr.below' kG).far (p := ⟨g, k * 2, none⟩) (by simp; omega) _, (hb.trans (kG.mono hb.size)).setCell (p := ⟨g, k * 2, none⟩) (by simp; omega) _⟩
        have HJ5 := Lib.hid hJ5
        clear hJ5 bG kG z6 z7 z8 hc6 hb0 hz hy b0
        go_wp2
        go_roundw
        case rel => exact ⟨k + 1, by omega, by go_num, HJ5.out⟩
        case measure => simp [intOf]; omega
    · obtain rfl : k = N.length := by omega
      obtain ⟨e0, e1, e2, e3, e4, e5, e6⟩ := cells7 hc
      obtain ⟨d0, d1, d2, d3, d4, d5, d6⟩ := cells7 hr
      have z := fun j => Cells.free hr j
      clear hc hr hb oI oE c6 hlt
      go_wp2
      obtain ⟨oI, oE, hc, hr, hb⟩ := HJ.out
      dsimp only at oI oE hr
      exact bodyPost_ret (results_cell_row rfl _ _ (w.heap.size + 1) 38 (ncells i ki l s u (.slice A3 P.length c3) (.slice B4 N.length c4)) (0, 0) _ rfl (set7_cells hr) Tryz.underlying38 rfl (by kernel_rfl)) rfl
        ⟨_, A3, c3, B4, c4, rfl, ⟨rfl, OwnI.mono (own_set7 oI (by omega)) (by omega), OwnE.mono (own_set7 oE (by omega)) (by omega)⟩, set7_below hb (by omega)⟩
end Go.Proofs.YtamndllolppmoaaGreatDoor
