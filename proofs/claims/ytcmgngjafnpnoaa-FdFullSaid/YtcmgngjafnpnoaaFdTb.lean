import Derived.Test.YtcmgngjafnpnoaaFdTa
/-! The project's table: a row of those places that are as asked. -/
namespace Go.Proofs.Ytcmgngjafnpnoaa
open Wd Go.RowKit Go.ChangeShapes Go.WideShapes Go.Sort
set_option linter.unusedVariables false
set_option maxRecDepth 100000
def OwnO (w : World) (base : Nat) (v : Value) (l : List Opn) : Prop := w.ownsRow base 27 3 v l.length (ocells l)
theorem own_nilO (w : World) (base : Nat) : OwnO w base (.slice none 0 0) [] := World.ownsRow_nil _ _ _ _
theorem ocells_append (l m : List Opn) : ocells (l ++ m) = ocells l ++ ocells m := by unfold ocells; rw [List.flatMap_append]
theorem OwnO.form {w : World} {base : Nat} {v : Value} {l : List Opn} (h : OwnO w base v l) : ∃ A c, v = .slice A l.length c ∧ OpRow w A l := by
  rcases h.2 with ⟨rfl, h0⟩ | ⟨g, cap, cur, rfl, hb, hh, hc, hm, _, ht⟩
  · exact ⟨none, 0, by rw [h0], fun h1 => absurd h1 (by omega)⟩
  · refine ⟨_, cap, rfl, fun _ => ⟨g, 0, rfl, lt_of_block hh, fun j e hj k x hk => ?_⟩⟩
    have hx := ocells_at l j e k x hj hk
    rw [← ht] at hx
    rw [Nat.zero_add, Cells.cell hh (j * 3 + k)]
    have h2 := (List.getElem?_eq_some_iff.1 hx).1
    rw [List.getElem?_take_of_lt (by rw [List.length_take] at h2; omega)] at hx
    simpa using hx
theorem OwnO.below {w w' : World} {base : Nat} {v : Value} {l : List Opn} (h : OwnO w base v l) (hb : Below w.heap.size w w') : OwnO w' base v l := by
  refine ⟨h.1, ?_⟩
  rcases h.2 with ⟨h1, h0⟩ | ⟨g, cap, cur, h1, h2, hh, h3⟩
  · exact .inl ⟨h1, h0⟩
  · exact .inr ⟨g, cap, cur, h1, h2, (hb.block g (lt_of_block hh)).trans hh, h3⟩
theorem infoOp : (Try.prog.info? 27).map (fun i => (i.zero, i.size, i.bytes)) = some (some (.agg #[.int .i64 0, .int .i64 0, .int .i64 0]), 3, 24) := by kernel_rfl
theorem wpList_append_opn {ops : Array Oper} {rest : List Oper} {oo : Oper} {a : Act} {Q : Exit → Act → World → Prop} {w : World} (hgd : oo.guard = none) (s x : Operand)
    (ho : oo.op = .call { callee := .builtin .append, args := #[s, x], argTypes := #[37, 37] })
    {base b c : Nat} {v : Value} {l : List Opn} {o : Opn} (hs : a.eval s = v) (hx' : a.eval x = .slice (some ⟨b, 0, none⟩) 1 c) (hown : OwnO w base v l) (hx : Cells w b 27 o.cells.toArray) (hl : l.length ≤ 100000) (hb : base ≤ w.heap.size)
    (h : ∀ v' w', OwnO w' base v' (l ++ [o]) → w.grownBy w' v.ownBlock → (v'.ownBlock = v.ownBlock ∨ v'.ownBlock = some w.heap.size) → wpList Try.prog ops Q rest (a.put oo.dst v') w') : wpList Try.prog ops Q (oo :: rest) a w := by
  refine wpList_plain hgd fun _ hK => ?_
  obtain ⟨i, i1, i2, i3, i4⟩ := info_parts infoOp
  obtain ⟨v', w', hrun, h3, h4, _, h5⟩ := run_append_own_at (P := Try.prog) w base 37 oo.type 27 i (.agg #[.int .i64 0, .int .i64 0, .int .i64 0]) 3 24 Try.underlying37 i1 i2 i3 i4 rfl (by decide) v l.length (ocells l) hown ⟨b, 0, none⟩ 1 c (ocells [o]) (by rw [ocells_len]; rfl) (fun j u hu => by
      have e1 : (⟨b, 0, none⟩ : Addr).add j = ⟨b, j, none⟩ := by unfold Addr.add; split <;> simp_all
      rw [e1, hx.cell j, List.getElem?_toArray]
      simpa [ocells] using hu) (fun u hu => by
      obtain ⟨e, _, he⟩ := List.mem_flatMap.1 hu
      simp [Opn.cells] at he
      rcases he with rfl | rfl | rfl <;> rfl) (by unfold maxLen; omega) (by omega) hb
  unfold Oper.wp execOp
  simp only [ho, resolve, invoke, builtin, Sem.run_bind, Sem.run_pure, Result.andThen_ok, List.map_toArray, List.map_cons, List.map_nil, hs, hx', hrun]
  exact hK _ _ (h v' w' (by unfold OwnO; rw [List.length_append, ocells_append]; exact h3) h4 h5)
theorem nextP_le {T : List Opn} (hT : T.length = 16) (p : Opn → Bool) {k : Nat} (hk : k ≤ 16) : nextP T p k ≤ 16 := by
  unfold nextP
  have := List.findIdx_le_length (p := p) (xs := T.drop k)
  rw [List.length_drop] at this; omega
theorem nextP_up (T : List Opn) (p : Opn → Bool) (k : Nat) : k ≤ nextP T p k := by unfold nextP; omega
theorem nextP_at {T : List Opn} (hT : T.length = 16) {p : Opn → Bool} {k : Nat} (hk : nextP T p k < 16) : ∃ o, T[nextP T p k]? = some o ∧ p o = true := by
  unfold nextP at *
  have hl : (T.drop k).findIdx p < (T.drop k).length := by rw [List.length_drop]; omega
  have h1 := List.findIdx_getElem (p := p) (xs := T.drop k) (w := hl)
  refine ⟨_, ?_, h1⟩
  rw [List.getElem_drop]
  exact List.getElem?_eq_getElem _
theorem nextP_skip (T : List Opn) (p : Opn → Bool) (k : Nat) : (T.take (nextP T p k)).filter p = (T.take k).filter p := by
  unfold nextP
  rw [List.take_add, List.filter_append, show (List.take ((T.drop k).findIdx p) (T.drop k)).filter p = [] from ?_, List.append_nil]
  refine List.filter_eq_nil_iff.2 fun x hx => ?_
  obtain ⟨i, hi, rfl⟩ := List.mem_take_iff_getElem.1 hx
  have := List.not_of_lt_findIdx (p := p) (xs := T.drop k) (i := i) (by omega)
  simpa using this
theorem nextP_more {T : List Opn} {p : Opn → Bool} {k : Nat} {o : Opn} (hk : T[k]? = some o) (hp : p o = true) : (T.take (nextP T p (k + 1))).filter p = (T.take k).filter p ++ [o] := by
  rw [nextP_skip, List.take_add_one, hk, List.filter_append]
  simp [hp]
def ThoseRel (T : List Opn) (p : Opn → Bool) (w : World) (v i : Value) (wr : World) : Prop := ∃ (j : Nat) , i = .int .i64 (nextP T p j : Nat) ∧ j ≤ 16 ∧ OwnO wr w.heap.size v ((T.take (nextP T p j)).filter p) ∧ Below w.heap.size w wr
def Those (T : List Opn) (p : Opn → Bool) (w : World) (e : Ending) (w' : World) : Prop := ∃ A c, e = .returned (.slice A (T.filter p).length c) ∧ OpRow w' A (T.filter p) ∧ Below w.heap.size w w'
set_option maxHeartbeats 4000000 in
theorem fThose {w : World} {g : Nat} {T : List Opn} (h : Tb w g T) (hT : T.length = 16) {F : FuncId} {first cap : Array Value} {p : Opn → Bool} (ha : Asks w F first cap p) :
    Calls Try.prog 20 #[.pointer (some ⟨g, 0, none⟩), .func (.func F) first cap] w (Those T p w) := by
  have H := Lib.hid h; have HT := Lib.hid hT
  have KN := Lib.hid (fun (wr : World) (hb : Below w.heap.size w wr) (hs : w.heap.size ≤ wr.heap.size) (k : Nat) (hk : k ≤ 17) => fNext (h.below' hb) hT ha hb hs k hk)
  have KNZ := Lib.hid (fNext h hT ha (Below.refl _ _) (Nat.le_refl _) 0 (by omega))
  clear h hT ha
  go_enter Try.func20, Try.ntmps20
  go_wp2_with fail
  refine KNZ.out.mono ?_
  rintro e w1 hg
  obtain ⟨rfl, hb1⟩ := hg.below
  have HB1 := Lib.hid hb1
  clear hg hb1
  go_wp2
  go_loopw [5, 6] (fun v i wr => ThoseRel T p w v i wr) (fun _ i _ => 16 - (intOf i).toNat)
  case atStart => exact ⟨0, rfl, by omega, by rw [nextP_skip]; exact own_nilO _ _, HB1.out⟩
  case round =>
    obtain ⟨j, rfl, hj, hown, hb⟩ := hrel
    obtain ⟨k, hk⟩ : ∃ k, nextP T p j = k := ⟨_, rfl⟩
    have hk16 := nextP_le HT.out p hj
    have hat := nextP_at HT.out (p := p) (k := j)
    rw [hk] at hown hk16 hat ⊢
    by_cases hlt : k < 16
    · obtain ⟨o, ho, hp⟩ := hat hlt
      have hlt2 : (k : Int) < 16 := by omega
      have i3 : (0 : Int) ≤ (k : Int) := by omega
      have HM := Lib.hid (nextP_more ho hp)
      obtain ⟨c0, c1, c2⟩ := (Tb.at (show Tb _ g T from H.out.below' hb) ho)
      have HB := Lib.hid hb; have HOWN := Lib.hid hown; have HKK := Lib.hid hk; have HLE := Lib.hid hk16
      clear hb hown hat hk ho hp hk16
      have hb3 : Below wr.heap.size wr (wr.alloc (.cells #[.int .i64 o.ino, .int .i64 o.off, .int .i64 o.fl] 27)) := below_of_grown (World.grownBy_alloc wr _ none)
      have O3 := Lib.hid (HOWN.out.below hb3)
      have X3 := Lib.hid (show Cells (wr.alloc (.cells #[.int .i64 o.ino, .int .i64 o.off, .int .i64 o.fl] 27)) wr.heap.size 27 o.cells.toArray from Cells.new _ _ _)
      have B3 := Lib.hid (HB.out.trans (hb3.mono HB.out.size))
      have hs3 : w.heap.size ≤ (wr.alloc (.cells #[.int .i64 o.ino, .int .i64 o.off, .int .i64 o.fl] 27)).heap.size := B3.out.size
      have hl3 : ((T.take k).filter p).length ≤ 100000 := by
        have := List.length_filter_le p (T.take k)
        rw [List.length_take, HT.out] at this; omega
      have HS3 := Lib.hid hs3; have HL3 := Lib.hid hl3
      clear hb3 hs3 hl3
      go_wp2_with (at_builtin; refine wpList_append_opn rfl (.tmp 17) (.tmp 24) rfl rfl rfl O3.out X3.out HL3.out HS3.out ?_; intro v7 w7 hown7 hgr7 hat7; have HO7 := Lib.hid hown7; have B7 := Lib.hid (show Below w.heap.size w w7 from B3.out.grown hgr7 HS3.out (own_base O3.out)); clear hown7 hgr7 hat7)
      have q1 : IntKind.i64.wrap ((k : Int) + 1) = ((k + 1 : Nat) : Int) := by rw [IntKind.wrap_i64]; omega
      refine (KN.out w7 B7.out B7.out.size (k + 1) (by omega)).mono ?_
      rintro e w8 hg
      obtain ⟨rfl, hb8⟩ := hg.below
      have B8 := Lib.hid (B7.out.trans (hb8.mono B7.out.size))
      have O8 := Lib.hid (HO7.out.below hb8)
      clear hg hb8
      go_wp2_with fail
      go_roundw
      case rel => exact ⟨k + 1, rfl, by omega, by rw [HM.out]; exact O8.out, B8.out⟩
      case measure => simp [intOf]; have := nextP_up T p (k + 1); omega
    · obtain rfl : k = 16 := by omega
      have HB := Lib.hid hb; have HOWN := Lib.hid hown
      clear hb hown
      go_wp2_with fail
      go_ret
      have h2 := HOWN.out
      rw [List.take_of_length_le (by rw [HT.out]; omega)] at h2
      obtain ⟨A, c, rfl, hr⟩ := h2.form
      exact ⟨A, c, rfl, hr, HB.out⟩
end Go.Proofs.Ytcmgngjafnpnoaa
