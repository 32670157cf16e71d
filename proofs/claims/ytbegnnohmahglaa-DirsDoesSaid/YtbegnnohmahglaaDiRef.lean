import Derived.Test.YtbegnnohmahglaaDiOwn
namespace Go.Proofs.Ytbegnnohmahglaa
open Wd Ino Go.RowKit Go.ChangeShapes Go.WideShapes Go.Sort
set_option linter.unusedVariables false
set_option maxRecDepth 100000

/-! the document's Find, PutEntry and DropEntry -/
/-- a row of names and a bool -/
def GivesE (l : List Ent) (b : Bool) (w : World) (e : Ending) (w' : World) : Prop := ∃ A c, e = .returned (.tuple #[.slice A l.length c, .bool b]) ∧ l.length ≤ c ∧ Ens w' w'.heap.size A l ∧ Below w.heap.size w w'
theorem ens_one {w : World} {g hi : Nat} {t : TypeId} {x : Ent} (h : Cells w g t (ecells x)) (hg : g < hi) : Ens w hi (some ⟨g, 0, none⟩) [x] := fun _ => by
  refine ⟨g, 0, rfl, hg, fun j e hj k y hk => ?_⟩
  have hj0 : j = 0 := by have := (List.getElem?_eq_some_iff.1 hj).1; simp at this; omega
  subst hj0
  cases hj
  rw [show 0 + (0 * 2 + k) = k by omega, h.cell k]
  match k, hk with
  | 0, hk => exact hk
  | 1, hk => exact hk
  | k + 2, hk => simp [ev] at hk
theorem below_two (w : World) (a b : Obj) : Below w.heap.size w ((w.alloc a).alloc b) := ((Below.refl _ w).alloc (Nat.le_refl _) a).alloc (by simp) b
theorem two_new (w : World) (o : Obj) (x : Ent) : Ens ((w.alloc o).alloc (.cells #[.string x.s, .int .i64 x.n] 32)) (w.heap.size + 2) (some ⟨w.heap.size + 1, 0, none⟩) [x] := by
  have h := ens_one (x := x) (hi := w.heap.size + 2) (Cells.new (w.alloc o) 32 (ecells x)) (by simp)
  simpa [ecells] using h
def FindRel (s : ByteArray) (l : List Ent) (w : World) (i : Value) (wr : World) : Prop := ∃ k : Nat, k ≤ l.length ∧ i = .int .i64 k ∧ (∀ x ∈ l.take k, nameIs s x = false) ∧ ∃ q os, wr = grow (w.drewN q) os
set_option maxHeartbeats 4000000 in
theorem rFind {w : World} {hi : Nat} {A : Option Addr} {c : Nat} {l : List Ent} (h : Ens w hi A l) (hh : hi ≤ w.heap.size) (hm : l.length ≤ 1000) (s : ByteArray) : Calls Try.prog 9 #[.slice A l.length c, .string s] w (Grows (.tuple #[.int .i64 (inoN s l), .bool (hasN s l)]) w) := by
  have H := Lib.hid h
  clear h
  go_enter Try.func9, Try.ntmps9
  go_wp2
  go_loopw [10] (fun i wr => FindRel s l w i wr) (fun i _ => l.length - (intOf i).toNat)
  case atStart => exact ⟨0, Nat.zero_le _, rfl, by simp, grow_none _⟩
  case round =>
    obtain ⟨k, hk, rfl, hno, hgr⟩ := hrel
    have HNO := Lib.hid hno; have HG := Lib.hid hgr
    have hb := (Grows.below (e := .returned (.bool true)) ⟨rfl, hgr⟩).2
    have HB := Lib.hid hb
    clear hno hgr hb
    by_cases hlt : k < l.length
    · obtain ⟨e, he⟩ : ∃ e, l[k]? = some e := ⟨_, List.getElem?_eq_getElem hlt⟩
      obtain ⟨bl, off, rfl, hbB, x0, x1⟩ := ens_cells (H.out.below (HB.out.mono hh)) he
      have hlt2 : (k : Int) < (l.length : Int) := Int.ofNat_lt.2 hlt
      have HE := Lib.hid he
      clear he
      cases hn : nameIs s e with
      | true =>
        have q0 : (e.s.toList == s.toList) = true := hn
        have HR := Lib.hid (look_yes HNO.out HE.out hn)
        clear hn
        go_wp2
        go_ret2
        exact ⟨by rw [HR.out.1, HR.out.2.2]; rfl, grow_alloc HG.out _⟩
      | false =>
        have q0 : (e.s.toList == s.toList) = false := hn
        have HN := Lib.hid (none_snoc HE.out HNO.out hn)
        clear hn
        go_wp2
        go_roundw
        case rel => exact ⟨k + 1, by omega, by go_num, HN.out, grow_alloc HG.out _⟩
        case measure => simp [intOf]; omega
    · obtain rfl : k = l.length := by omega
      have hno := HNO.out
      rw [List.take_length] at hno
      have HR := Lib.hid (look_no hno)
      clear hno
      go_wp2
      go_ret2
      exact ⟨by rw [HR.out.1, HR.out.2.2]; rfl, HG.out⟩

def DropRel (s : ByteArray) (l : List Ent) (w : World) (v i : Value) (wr : World) : Prop := ∃ k : Nat, k ≤ l.length ∧ i = .int .i64 k ∧ OwnE wr w.heap.size v (dropN s (l.take k)) ∧ Below w.heap.size w wr
theorem dropN_snoc {s : ByteArray} {l : List Ent} {k : Nat} {e : Ent} (he : l[k]? = some e) : dropN s (l.take (k + 1)) = dropN s (l.take k) ++ (if nameIs s e then [] else [e]) := by
  rw [take_snoc he]
  unfold dropN
  rw [List.filter_append, List.filter_cons]
  cases nameIs s e <;> rfl
set_option maxHeartbeats 4000000 in
theorem rDrop {w : World} {hi : Nat} {A : Option Addr} {c : Nat} {l : List Ent} (h : Ens w hi A l) (hh : hi ≤ w.heap.size) (hm : l.length ≤ 1000) (s : ByteArray) : Calls Try.prog 13 #[.slice A l.length c, .string s] w (GivesE (dropN s l) (hasN s l) w) := by
  have H := Lib.hid h
  clear h
  go_enter Try.func13, Try.ntmps13
  go_wp2
  go_loopw [6, 11] (fun v i wr => DropRel s l w v i wr) (fun _ i _ => l.length - (intOf i).toNat)
  case atStart => exact ⟨0, Nat.zero_le _, rfl, by rw [List.take_zero]; exact own_nilE _ _, Below.refl _ _⟩
  case round =>
    obtain ⟨k, hk, rfl, ho, hb⟩ := hrel
    have HO := Lib.hid ho; have HB := Lib.hid hb
    clear ho hb
    by_cases hlt : k < l.length
    · obtain ⟨e, he⟩ : ∃ e, l[k]? = some e := ⟨_, List.getElem?_eq_getElem hlt⟩
      obtain ⟨bl, off, rfl, hbB, x0, x1⟩ := ens_cells (H.out.below (HB.out.mono hh)) he
      have hlt2 : (k : Int) < (l.length : Int) := Int.ofNat_lt.2 hlt
      have HE := Lib.hid he
      clear he
      cases hn : nameIs s e with
      | true =>
        have q0 : (e.s.toList == s.toList) = true := hn
        have HN := Lib.hid (show dropN s (l.take (k + 1)) = dropN s (l.take k) by rw [dropN_snoc HE.out, hn]; simp)
        clear hn
        go_wp2
        go_roundw
        case rel => exact ⟨k + 1, by omega, by go_num, by rw [HN.out]; exact HO.out.below ((Below.refl _ _).alloc (Nat.le_refl _) _), HB.out.alloc HB.out.size _⟩
        case measure => simp [intOf]; omega
      | false =>
        have q0 : (e.s.toList == s.toList) = false := hn
        have HN := Lib.hid (show dropN s (l.take (k + 1)) = dropN s (l.take k) ++ [e] by rw [dropN_snoc HE.out, hn]; simp)
        have HL := Lib.hid (show (dropN s (l.take k)).length + [e].length ≤ 100000 by have := dropN_len s (l.take k); rw [List.length_take] at this; simp; omega)
        have hb2 := below_two wr (.cells (ecells e) 32) (.cells (ecells e) 32)
        have ho2 := HO.out.below hb2
        have hz := Nat.le_trans HB.out.size hb2.size
        have HX := Lib.hid (two_new wr (.cells (ecells e) 32) e)
        unfold ecells at hb2 ho2 hz HX
        have HB2 := Lib.hid hb2; have HO2 := Lib.hid ho2; have HZ := Lib.hid hz
        clear hn hb2 ho2 hz
        go_wp2_with (at_builtin; refine wpList_append_ens (m := [e]) rfl (.tmp 19) (.tmp 21) rfl rfl rfl HO2.out HX.out HL.out HZ.out ?_; intro v5 w5 hown5 hgr5 hat5; have HO5 := Lib.hid hown5; have HG5 := Lib.hid hgr5; clear hown5 hgr5 hat5)
        go_roundw
        case rel => exact ⟨k + 1, by omega, by go_num, by rw [HN.out]; exact HO5.out, (HB.out.trans (HB2.out.mono HB.out.size)).grown HG5.out HZ.out (ownE_base HO2.out)⟩
        case measure => simp [intOf]; omega
    · obtain rfl : k = l.length := by omega
      have ho := HO.out
      rw [List.take_length] at ho
      obtain ⟨A1, c1, rfl, hc, hx⟩ := ho.form
      have HX := Lib.hid hx
      have HD := Lib.hid (drop_less s l)
      have HQ := Lib.hid (show decide (((dropN s l).length : Int) < (l.length : Int)) = decide ((dropN s l).length < l.length) by simp)
      obtain ⟨d, hd⟩ : ∃ d, (dropN s l).length = d := ⟨_, rfl⟩
      have HDN := Lib.hid hd
      rw [hd] at HD HQ
      rw [hd]
      clear ho hx hd HO
      go_wp2
      go_ret2
      exact ⟨A1, c1, by rw [HDN.out, ← HD.out]; rfl, hc, HX.out, HB.out⟩
end Go.Proofs.Ytbegnnohmahglaa
