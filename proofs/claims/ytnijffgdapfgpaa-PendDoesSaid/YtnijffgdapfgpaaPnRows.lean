import Derived.Test.YtnijffgdapfgpaaPnAdd
/-! The project's All. -/
namespace Go.Proofs.Ytnijffgdapfgpaa
open Wd U Go.Maps Go.ChangeShapes Go.WideShapes Go.RowKit Go.Sort
set_option linter.unusedVariables false
set_option maxRecDepth 100000
def evs (l : List Eff) : List Value := l.flatMap Eff.vals
theorem evs_snoc (l : List Eff) (x : Eff) : evs (l ++ [x]) = evs l ++ x.vals := by unfold evs; simp [List.flatMap_append]
theorem evs_drop (x : Eff) (l : List Eff) : (evs (x :: l)).drop 9 = evs l := by
  have e : x.vals.length = 9 := rfl
  unfold evs; rw [List.flatMap_cons, List.drop_append_of_le_length (Nat.le_of_eq e.symm), List.drop_of_length_le (Nat.le_of_eq e), List.nil_append]
theorem evs_at : ∀ (l : List Eff) (j k : Nat) (x : Eff) (u : Value), l[j]? = some x → x.vals[k]? = some u → (evs l)[j * 9 + k]? = some u := by
  intro l
  induction l with
  | nil => intro j k x u hj; simp at hj
  | cons y l ih =>
    intro j k x u hj hk
    have e : evs (y :: l) = y.vals ++ evs l := by unfold evs; rw [List.flatMap_cons]
    have hl : y.vals.length = 9 := rfl
    rw [e]
    cases j with
    | zero =>
      simp at hj
      subst hj
      have : k < y.vals.length := (List.getElem?_eq_some_iff.1 hk).1
      rw [Nat.zero_mul, Nat.zero_add, List.getElem?_append_left this]
      exact hk
    | succ j =>
      rw [List.getElem?_append_right (by rw [hl]; omega), hl, show (j + 1) * 9 + k - 9 = j * 9 + k by omega]
      exact ih j k x u (by simpa using hj) hk
theorem effs_of_off {w : World} {B : Nat} {A : Option Addr} {c : Nat} {l : List Eff} (h : OffRow w B 32 9 (.slice A l.length c) l.length (evs l)) (hb : ∀ e ∈ l, EfBare e) : Effs w w.heap.size A l := by
  refine ⟨fun hn => ?_, fun e he => (hb e he).ok _ _⟩
  rcases h.2 with ⟨_, h2⟩ | ⟨q, off, cap, cur, h1, hB, hh, h2, h3, h4, h5⟩
  · omega
  · injection h1 with h1 _ h6
    exact ⟨q, off, h1, hh.lt, fun j e hj k x hk => by rw [hh.cell]; exact h5 _ x (evs_at l j k e x hj hk)⟩
theorem infoEf : (Try.prog.info? 32).map (fun i => (i.zero, i.size, i.bytes)) = some (some (Eff.val ⟨0, 0, 0, 0, 0, 0, ByteArray.empty, ByteArray.empty, none, 0, []⟩), 9, 104) := by kernel_rfl
theorem oneEf (x : Eff) : ∀ u ∈ x.vals, u.oneCell' = true := by intro u hu; unfold Eff.vals at hu; simp at hu; rcases hu with rfl | rfl | rfl | rfl | rfl | rfl | rfl | rfl | rfl <;> rfl
theorem elemEf : Try.prog.elem 22 = 32 := by kernel_rfl
def efsOf (l : List (Eff × Int)) : List Eff := l.map (·.1)
theorem efsOf_take {l : List (Eff × Int)} {k : Nat} {x : Eff × Int} (h : l[k]? = some x) : efsOf (l.take (k + 1)) = efsOf (l.take k) ++ [x.1] := by unfold efsOf; rw [List.take_add_one, h]; simp
def AllRel (w : World) (n : Nat) (l : List (Eff × Int)) (v i : Value) (wr : World) : Prop := ∃ k : Nat, k ≤ n ∧ i = .int .i64 k ∧ OffRow wr w.heap.size 32 9 v k (evs (efsOf (l.take k))) ∧ Below w.heap.size w wr
def AllRet (w : World) (n : Nat) (l : List (Eff × Int)) (e : Ending) (w' : World) : Prop := ∃ v, e = .returned v ∧ OffRow w' w.heap.size 32 9 v n (evs (efsOf l)) ∧ Below w.heap.size w w'
set_option maxHeartbeats 4000000 in
theorem pnRows {w : World} {B b : Nat} {S : Pst} (h : PnAt w B b S) : Calls Try.prog 16 #[PPtr b] w (AllRet w S.rows.length S.rows) := by
  obtain ⟨A, c, hc, hr⟩ := h.open_
  have KA := Lib.hid (pnAll hc)
  obtain ⟨N, hN⟩ : ∃ N, S.rows.length = N := ⟨_, rfl⟩
  rw [hN] at KA hr ⊢
  have hle := h.len
  rw [hN] at hle
  have HR := Lib.hid hr; have HN := Lib.hid hN; have HBR := Lib.hid h.bare
  clear h hc hr hN
  unfold PPtr at *
  go_enter Try.func16, Try.ntmps16
  go_wp2_with (go_at_call 18; refine KA.out.mono ?_; rintro e w1 ⟨rfl, rfl⟩)
  go_loopw [3, 9] (fun v i wr => AllRel w N S.rows v i wr) (fun _ i _ => N - (intOf i).toNat)
  case atStart => exact ⟨0, Nat.zero_le _, rfl, OffRow.nil _ _ _ _, Below.refl _ _⟩
  case round =>
    obtain ⟨k, hk, rfl, ho, hb⟩ := hrel
    obtain ⟨A2, c2, rfl, _, _⟩ := ho.shape
    by_cases hlt : k < N
    · obtain ⟨x, hx⟩ : ∃ x, S.rows[k]? = some x := ⟨_, List.getElem?_eq_getElem (by rw [HN.out]; exact hlt)⟩
      obtain ⟨q, off, cur, hA, hBq, hcur, hxx⟩ := off_at HR.out HN.out hx
      subst hA
      have hcell : ∀ (j : Nat) (u : Value), (wcells x)[j]? = some u → wr.cell? ⟨q, off + (k * 10 + j), none⟩ = some u := fun j u hj => (hb.cell (p := ⟨q, off + (k * 10 + j), none⟩) hcur.lt).trans (hxx j u hj)
      have x0 := hcell 0 _ rfl; have x1 := hcell 1 _ rfl; have x2 := hcell 2 _ rfl; have x3 := hcell 3 _ rfl; have x4 := hcell 4 _ rfl; have x5 := hcell 5 _ rfl; have x6 := hcell 6 _ rfl; have x7 := hcell 7 _ rfl; have x8 := hcell 8 _ rfl; have x9 := hcell 9 _ rfl
      simp only [Nat.add_zero, ← Nat.add_assoc] at x0 x1 x2 x3 x4 x5 x6 x7 x8 x9
      have hbx := (HBR.out x (List.mem_of_getElem? hx)).1
      have KB := Lib.hid (fun w => eBare x.1 w hbx.name hbx.other)
      rw [hbx.bare] at KB
      unfold Eff.val at KB
      have hlt2 : (k : Int) < (N : Int) := Int.ofNat_lt.2 hlt
      obtain ⟨W2, hW2⟩ : ∃ W2, wr.alloc (.cells #[.int .i64 x.1.kind, .int .i64 x.1.ino, .int .i64 x.1.dir, .int .i64 x.1.dst, .int .i64 x.1.page, .int .i64 x.1.size, .string x.1.name, .string x.1.other, .slice x.1.A x.1.data.length x.1.cp, .int .i64 x.2] 44) = W2 := ⟨_, rfl⟩
      have hb2 : Below wr.heap.size wr W2 := by rw [← hW2]; exact (Below.refl _ _).alloc (Nat.le_refl _) _
      have HB2 := Lib.hid (hb.trans (hb2.mono hb.size)); have HO2 := Lib.hid (ho.below hb2)
      have hC2 : Cells W2 wr.heap.size 44 #[.int .i64 x.1.kind, .int .i64 x.1.ino, .int .i64 x.1.dir, .int .i64 x.1.dst, .int .i64 x.1.page, .int .i64 x.1.size, .string x.1.name, .string x.1.other, .slice x.1.A x.1.data.length x.1.cp, .int .i64 x.2] := by rw [← hW2]; exact Cells.new _ _ _
      have d0 := hC2.cell 0; have d1 := hC2.cell 1; have d2 := hC2.cell 2; have d3 := hC2.cell 3; have d4 := hC2.cell 4; have d5 := hC2.cell 5; have d6 := hC2.cell 6; have d7 := hC2.cell 7; have d8 := hC2.cell 8
      simp at d0 d1 d2 d3 d4 d5 d6 d7 d8
      have HX := Lib.hid hx
      clear hC2 hx hxx hcell hbx hcur hBq hb2 hb ho
      go_wp2_with (first
        | (go_at_call 17; (with_reducible refine (KB.out _).mono ?_); rintro e3 w3 h3
           obtain ⟨rfl, b3⟩ := h3.below
           have b4 : Below w3.heap.size w3 (w3.alloc (.cells x.1.vals.toArray 32)) := (Below.refl _ _).alloc (Nat.le_refl _) _
           have HB4 := Lib.hid (HB2.out.trans ((b3.trans (b4.mono b3.size)).mono HB2.out.size))
           have HO4 := Lib.hid ((HO2.out.below b3).below b4)
           have HN4 := Lib.hid (show Cells (w3.alloc (.cells x.1.vals.toArray 32)) w3.heap.size 32 x.1.vals.toArray from Cells.new _ _ _)
           clear h3 b3 b4)
        | (refine wpList_append_off rfl (.tmp 13) (.tmp 17) 22 rfl 32 _ 9 104 Try.underlying22 infoEf rfl (by decide) rfl HO4.out _ x.1.vals rfl rfl HN4.out (oneEf _) (by omega) (by decide) HB4.out.size ?_; intro v5 w5 ho5 hk5
           obtain ⟨A5, c5, rfl, _, _⟩ := ho5.shape
           have HO5 := Lib.hid ho5; have HK5 := Lib.hid hk5
           clear ho5 hk5))
      go_roundw
      case rel =>
        refine ⟨k + 1, by omega, by go_num, ?_, HB4.out.trans HK5.out.below⟩
        rw [efsOf_take HX.out, evs_snoc]
        exact HO5.out
      case measure => simp [intOf]; omega
    · obtain rfl : k = N := by omega
      have ht : S.rows.take k = S.rows := List.take_of_length_le (by rw [HN.out]; exact Nat.le_refl _)
      rw [ht] at ho
      have HO := Lib.hid ho; have HB := Lib.hid hb
      clear ho hb ht
      go_wp2
      go_ret
      exact ⟨_, rfl, HO.out, HB.out⟩
theorem pnRows_nil (w : World) : Calls Try.prog 16 #[.pointer none] w fun e w' => e = .returned (.slice none 0 0) ∧ w = w' := by
  have KA := Lib.hid (pnAll_nil w)
  go_enter Try.func16, Try.ntmps16
  go_wp2_with (go_at_call 18; refine KA.out.mono ?_; rintro e w1 ⟨rfl, rfl⟩)
  go_loopw [3, 9] (fun v i wr => v = .slice none 0 0 ∧ i = .int .i64 0 ∧ w = wr) (fun _ _ _ => 0)
  case atStart => exact ⟨rfl, rfl, rfl⟩
  case round =>
    obtain ⟨rfl, rfl, rfl⟩ := hrel
    go_wp2
    go_ret
    exact ⟨rfl, rfl⟩
end Go.Proofs.Ytnijffgdapfgpaa
