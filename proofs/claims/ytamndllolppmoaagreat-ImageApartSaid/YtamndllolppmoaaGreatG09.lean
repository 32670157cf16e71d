import Derived.Test.YtamndllolppmoaaGreatG08

namespace Go.Proofs.YtamndllolppmoaaGreat
open Wd Ino Go.RowKit Go.ChangeShapes Go.WideShapes Go.Sort
set_option linter.unusedVariables false
set_option maxRecDepth 100000

/-! the document's PutEntry -/
def putR (s : ByteArray) (n : Int) (l : List Ent) : List Ent := if hasN s l then l else putN s n l
def PutRel (s : ByteArray) (n : Int) (l : List Ent) (w : World) (v d i : Value) (wr : World) : Prop := ∃ (k : Nat) (acc : List Ent), k ≤ l.length ∧ i = .int .i64 k ∧ acc.length ≤ k + 1 ∧ OwnE wr w.heap.size v acc ∧ Below w.heap.size w wr ∧
  ((d = .bool false ∧ acc = l.take k ∧ ∀ x ∈ l.take k, foreE s x = false) ∨ (d = .bool true ∧ acc ++ l.drop k = putN s n l))
theorem put_here {s : ByteArray} {n : Int} {l : List Ent} {k : Nat} {e : Ent} (h0 : ∀ x ∈ l.take k, foreE s x = false) (he : l[k]? = some e) (hs : foreE s e = true) : ((l.take k ++ [⟨s, n⟩]) ++ [e]) ++ l.drop (k + 1) = putN s n l := by
  obtain ⟨hk, hke⟩ := List.getElem?_eq_some_iff.1 he
  unfold putN
  rw [findIdx_at h0 he hs, List.drop_eq_getElem_cons hk, hke]
  simp
theorem put_end {s : ByteArray} {n : Int} {l : List Ent} (h0 : ∀ x ∈ l, foreE s x = false) : l ++ [⟨s, n⟩] = putN s n l := by
  unfold putN
  rw [findIdx_all h0, List.take_length, List.drop_length]
theorem drop_more {l : List Ent} {k : Nat} {e : Ent} (he : l[k]? = some e) (acc : List Ent) : (acc ++ [e]) ++ l.drop (k + 1) = acc ++ l.drop k := by
  obtain ⟨hk, hke⟩ := List.getElem?_eq_some_iff.1 he
  rw [List.drop_eq_getElem_cons hk, hke]
  simp
theorem one_new' (w : World) (x : Ent) : Ens (w.alloc (.cells #[.string x.s, .int .i64 x.n] 114)) (w.heap.size + 1) (some ⟨w.heap.size, 0, none⟩) [x] := by
  have h := ens_one (x := x) (hi := w.heap.size + 1) (Cells.new w 114 (ecells x)) (by simp)
  exact h
theorem ownE_lt {w : World} {base : Nat} {v : Value} {l : List Ent} (h : OwnE w base v l) : ∀ q, v.ownBlock = some q → q < w.heap.size := by
  intro q hq
  rcases h.2 with ⟨rfl, _⟩ | ⟨g, cap, cur, rfl, _, hh, _⟩
  · cases hq
  · have : g = q := by simpa [Value.ownBlock] using hq
    subst this
    exact lt_of_block hh
theorem ownE_ne {w : World} {base : Nat} {v : Value} {l : List Ent} (h : OwnE w base v l) {g : Nat} (hg : w.heap.size ≤ g) : some g ≠ v.ownBlock := fun e => by
  have := ownE_lt h g e.symm
  omega
/-- e's block reads as it did behind the append -/
theorem kept2 {w w5 : World} {base : Nat} {v : Value} {l : List Ent} {g : Nat} {e : Ent} {o : Obj} (ho : OwnE w base v l) (hg : w.heap.size = g) (h5 : ((w.alloc (.cells #[.string e.s, .int .i64 e.n] 114)).alloc o).grownBy w5 v.ownBlock) :
    w5.cell? ⟨g, 0, none⟩ = some (.string e.s) ∧ w5.cell? ⟨g, 1, none⟩ = some (.int .i64 e.n) := by
  subst hg
  have h := ((Cells.new w 114 (ecells e)).alloc o).grown h5 (ownE_ne ho (Nat.le_refl _))
  exact ecells2 h
set_option maxHeartbeats 8000000 in
theorem rPutO {w : World} {hi : Nat} {A : Option Addr} {c : Nat} {l : List Ent} (h : Ens w hi A l) (hh : hi ≤ w.heap.size) (hc : l.length ≤ c) (hm : l.length ≤ 1000) (s : ByteArray) (n : Int) (hn : hasN s l = false) : Calls Tryz.prog 149 #[.slice A l.length c, .string s, .int .i64 n] w (GivesO (putR s n l) (!hasN s l) w) := by
  have H := Lib.hid h
  have K := Lib.hid (rFind (c := c) h hh hm s)
  clear h
  have HR := Lib.hid (show putR s n l = putN s n l by unfold putR; rw [if_neg (by rw [hn]; decide)])
  rw [hn] at K ⊢
  clear hn
  go_enter Tryz.func149, Tryz.ntmps149
  go_wp2_with fail
  refine K.out.mono ?_
  rintro e1 w1 ⟨rfl, hw1⟩
  have HB1 := Lib.hid (grown_self hw1)
  clear hw1 K
  go_wp2
  go_loopw [10, 11, 24] (fun v d i wr => PutRel s n l w v d i wr) (fun _ _ i _ => l.length - (intOf i).toNat)
  case atStart => exact ⟨0, [], Nat.zero_le _, rfl, by simp, own_nilE _ _, HB1.out, .inl ⟨rfl, by simp, by simp⟩⟩
  case round =>
    obtain ⟨k, acc, hk, rfl, ha, ho, hb, hd⟩ := hrel
    have HO := Lib.hid ho; have HB := Lib.hid hb
    clear ho hb
    by_cases hlt : k < l.length
    · obtain ⟨e, he⟩ : ∃ e, l[k]? = some e := ⟨_, List.getElem?_eq_getElem hlt⟩
      obtain ⟨bl, off, rfl, hbB, x0, x1⟩ := ens_cells (H.out.below (HB.out.mono hh)) he
      have hlt2 : (k : Int) < (l.length : Int) := Int.ofNat_lt.2 hlt
      have HE := Lib.hid he
      clear he
      have hb2 := below_two wr (.cells (ecells e) 114) (.cells (ecells e) 114)
      have ho2 := HO.out.below hb2
      have hz := Nat.le_trans HB.out.size hb2.size
      have HX := Lib.hid (two_new wr (.cells (ecells e) 114) e)
      unfold ecells at hb2 ho2 hz HX
      have HB2 := Lib.hid hb2; have HO2 := Lib.hid ho2; have HZ := Lib.hid hz
      clear hb2 ho2 hz
      rcases hd with ⟨rfl, rfl, hf⟩ | ⟨rfl, hp⟩
      · have HF := Lib.hid hf
        clear hf
        cases hl : foreE s e with
        | true =>
          have q0 : Op.bytesLess s.toList e.s.toList = true := hl
          have HP := Lib.hid (put_here (n := n) HF.out HE.out hl)
          clear hl HX HO2 HB2 HZ
          have hb2 := below_two wr (.cells (ecells e) 114) (.cells (ecells ⟨s, n⟩) 114)
          have ho2 := HO.out.below hb2
          have hz := Nat.le_trans HB.out.size hb2.size
          have HX := Lib.hid (two_new wr (.cells (ecells e) 114) ⟨s, n⟩)
          unfold ecells at hb2 ho2 hz HX
          have HB2 := Lib.hid hb2; have HO2 := Lib.hid ho2; have HZ := Lib.hid hz
          have HL := Lib.hid (show (l.take k).length + [(⟨s, n⟩ : Ent)].length ≤ 100000 by rw [List.length_take]; simp; omega)
          have y0 := (Cells.new wr 114 (ecells e)).alloc (.cells (ecells ⟨s, n⟩) 114)
          unfold ecells at y0
          have Y0 := Lib.hid y0
          clear hb2 ho2 hz y0
          go_wp2_with (first
            | (at_builtin; refine wpList_append_ens (m := [⟨s, n⟩]) rfl (.tmp 36) (.tmp 40) rfl rfl rfl HO2.out HX.out HL.out HZ.out ?_; intro v5 w5 hown5 hgr5 hat5
               have HO5 := Lib.hid hown5
               obtain ⟨c0, c1⟩ := kept2 HO.out rfl hgr5
               have hb5 := (HB.out.trans (HB2.out.mono HB.out.size)).grown hgr5 HZ.out (ownE_base HO2.out)
               have HB5 := Lib.hid hb5
               have HX5 := Lib.hid (one_new' w5 e)
               have hb6 := (Below.refl w5.heap.size w5).alloc (Nat.le_refl _) (.cells #[.string e.s, .int .i64 e.n] 114)
               have HO6 := Lib.hid (hown5.below hb6)
               have HZ6 := Lib.hid (Nat.le_trans hb5.size hb6.size)
               have HL6 := Lib.hid (show (l.take k ++ [(⟨s, n⟩ : Ent)]).length + [e].length ≤ 100000 by rw [List.length_append, List.length_take]; simp; omega)
               clear hown5 hgr5 hat5 hb5 hb6)
            | (at_builtin; refine wpList_append_ens (m := [e]) rfl (.tmp 42) (.tmp 44) rfl rfl rfl HO6.out HX5.out HL6.out HZ6.out ?_; intro v7 w7 hown7 hgr7 hat7; have HO7 := Lib.hid hown7; have HG7 := Lib.hid hgr7; clear hown7 hgr7 hat7))
          go_roundw
          case rel => exact ⟨k + 1, (l.take k ++ [⟨s, n⟩]) ++ [e], by omega, by go_num, by simp; omega, HO7.out, (HB5.out.alloc HB5.out.size _).grown HG7.out HZ6.out (ownE_base HO6.out), .inr ⟨rfl, HP.out⟩⟩
          case measure => simp [intOf]; omega
        | false =>
          have q0 : Op.bytesLess s.toList e.s.toList = false := hl
          have HP := Lib.hid (none_snoc HE.out HF.out hl)
          have HL := Lib.hid (show (l.take k).length + [e].length ≤ 100000 by rw [List.length_take]; simp; omega)
          clear hl
          go_wp2_with (at_builtin; refine wpList_append_ens (m := [e]) rfl (.tmp 42) (.tmp 44) rfl rfl rfl HO2.out HX.out HL.out HZ.out ?_; intro v5 w5 hown5 hgr5 hat5; have HO5 := Lib.hid hown5; have HG5 := Lib.hid hgr5; clear hown5 hgr5 hat5)
          go_roundw
          case rel => exact ⟨k + 1, l.take k ++ [e], by omega, by go_num, by simp; omega, HO5.out, (HB.out.trans (HB2.out.mono HB.out.size)).grown HG5.out HZ.out (ownE_base HO2.out), .inl ⟨rfl, (take_snoc HE.out).symm, HP.out⟩⟩
          case measure => simp [intOf]; omega
      · have HP := Lib.hid (show (acc ++ [e]) ++ l.drop (k + 1) = putN s n l by rw [drop_more HE.out]; exact hp)
        have HL := Lib.hid (show acc.length + [e].length ≤ 100000 by simp; omega)
        clear hp
        go_wp2_with (at_builtin; refine wpList_append_ens (m := [e]) rfl (.tmp 42) (.tmp 44) rfl rfl rfl HO2.out HX.out HL.out HZ.out ?_; intro v5 w5 hown5 hgr5 hat5; have HO5 := Lib.hid hown5; have HG5 := Lib.hid hgr5; clear hown5 hgr5 hat5)
        go_roundw
        case rel => exact ⟨k + 1, acc ++ [e], by omega, by go_num, by simp; omega, HO5.out, (HB.out.trans (HB2.out.mono HB.out.size)).grown HG5.out HZ.out (ownE_base HO2.out), .inr ⟨rfl, HP.out⟩⟩
        case measure => simp [intOf]; omega
    · obtain rfl : k = l.length := by omega
      rcases hd with ⟨rfl, rfl, hf⟩ | ⟨rfl, hp⟩
      · rw [List.take_length] at hf
        have ho := HO.out
        rw [List.take_length] at ho
        have HP := Lib.hid (put_end (n := n) hf)
        have HL := Lib.hid (show l.length + [(⟨s, n⟩ : Ent)].length ≤ 100000 by simp; omega)
        have hb2 := (Below.refl wr.heap.size wr).alloc (Nat.le_refl _) (.cells #[.string s, .int .i64 n] 114)
        have HX := Lib.hid (one_new' wr ⟨s, n⟩)
        have HO2 := Lib.hid (ho.below hb2)
        have HZ := Lib.hid (Nat.le_trans HB.out.size hb2.size)
        clear hf ho hb2 HO
        go_wp2_with (at_builtin; refine wpList_append_ens (m := [⟨s, n⟩]) rfl (.tmp 49) (.tmp 53) rfl rfl rfl HO2.out HX.out HL.out HZ.out ?_; intro v5 w5 hown5 hgr5 hat5; have HO5 := Lib.hid hown5; have HG5 := Lib.hid hgr5; clear hown5 hgr5 hat5)
        go_ret2
        have ho5 := HO5.out
        rw [HP.out, ← HR.out] at ho5
        obtain ⟨A1, c1, rfl, hc1, hx⟩ := ho5.form
        exact ⟨A1, c1, rfl, hc1, ho5, (HB.out.alloc HB.out.size _).grown HG5.out HZ.out (ownE_base HO2.out)⟩
      · rw [List.drop_length, List.append_nil] at hp
        have ho := HO.out
        rw [hp, ← HR.out] at ho
        obtain ⟨A1, c1, rfl, hc1, hx⟩ := ho.form
        have HX := Lib.hid ho
        clear hp hx ho HO
        go_wp2
        go_ret2
        exact ⟨A1, c1, rfl, hc1, HX.out, HB.out⟩
set_option maxHeartbeats 8000000 in
theorem rPut {w : World} {hi : Nat} {A : Option Addr} {c : Nat} {l : List Ent} (h : Ens w hi A l) (hh : hi ≤ w.heap.size) (hc : l.length ≤ c) (hm : l.length ≤ 1000) (s : ByteArray) (n : Int) : Calls Tryz.prog 149 #[.slice A l.length c, .string s, .int .i64 n] w (GivesE (putR s n l) (!hasN s l) w) := by
  have HH := Lib.hid h
  have H := Lib.hid h
  have K := Lib.hid (rFind (c := c) h hh hm s)
  clear h
  cases hn : hasN s l with
  | true =>
    have HR := Lib.hid (show putR s n l = l by unfold putR; rw [if_pos hn])
    rw [hn] at K
    clear hn
    go_enter Tryz.func149, Tryz.ntmps149
    go_wp2_with fail
    refine K.out.mono ?_
    rintro e1 w1 ⟨rfl, hw1⟩
    have HB := Lib.hid (grown_self hw1)
    clear hw1 K
    go_wp2_with fail
    go_ret2
    rw [HR.out]
    exact ⟨A, c, rfl, hc, ((H.out.more hh).below HB.out).more HB.out.size, HB.out⟩
  | false => exact (by have := (rPutO HH.out hh hc hm s n hn).mono fun _ _ k => k.ens; rw [hn] at this; exact this)
end Go.Proofs.YtamndllolppmoaaGreat
