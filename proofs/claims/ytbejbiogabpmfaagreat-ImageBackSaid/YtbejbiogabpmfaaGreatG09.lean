import Derived.Test.YtbejbiogabpmfaaGreatG08
import Derived.Test.YtbejbiogabpmfaaGreatG04

namespace Go.Proofs.YtbejbiogabpmfaaGreat
open Wd Ino Go.RowKit Go.ChangeShapes Go.WideShapes Go.Sort
set_option linter.unusedVariables false
set_option maxRecDepth 100000

/-! the document's Find, PutEntry and DropEntry -/
/-- a row of names and a bool -/
def GivesE (l : List Ent) (b : Bool) (w : World) (e : Ending) (w' : World) : Prop := ∃ A c, e = .returned (.tuple #[.slice A l.length c, .bool b]) ∧ l.length ≤ c ∧ Ens w' w'.heap.size A l ∧ Below w.heap.size w w'
/-- .. and the row is its own -/
def GivesO (l : List Ent) (b : Bool) (w : World) (e : Ending) (w' : World) : Prop := ∃ A c, e = .returned (.tuple #[.slice A l.length c, .bool b]) ∧ l.length ≤ c ∧ OwnE w' w.heap.size (.slice A l.length c) l ∧ Below w.heap.size w w'
theorem GivesO.ens {l : List Ent} {b : Bool} {w w' : World} {e : Ending} (h : GivesO l b w e w') : GivesE l b w e w' := by
  obtain ⟨A, c, he, hc, ho, hb⟩ := h
  obtain ⟨A', c', hv, _, hx⟩ := ho.form
  injection hv with h1 h2 h3
  subst h1
  exact ⟨A, c, he, hc, hx, hb⟩
theorem ens_one {w : World} {g hi : Nat} {t : TypeId} {x : Ent} (h : Cells w g t (ecells x)) (hg : g < hi) : Ens w hi (some ⟨g, 0, none⟩) [x] := fun _ => by
  refine ⟨g, 0, rfl, hg, fun j e hj k y hk => ?_⟩
  have hj0 : j = 0 := by have := (List.getElem?_eq_some_iff.1 hj).1; simp at this; omega
  subst hj0
  cases hj
  rw [show 0 + (0 * 2 + k) = k by omega, h.cell k]
  match k, hk with
  | 0, hk => exact hk
  | 1, hk => exact hk
  | k + 2, hk => simp [ev] at hk
theorem below_two (w : World) (a b : Obj) : Below w.heap.size w ((w.alloc a).alloc b) := ((Below.refl _ w).alloc (Nat.le_refl _) a).alloc (by simp) b
theorem two_new (w : World) (o : Obj) (x : Ent) : Ens ((w.alloc o).alloc (.cells #[.string x.s, .int .i64 x.n] 103)) (w.heap.size + 2) (some ⟨w.heap.size + 1, 0, none⟩) [x] := by
  have h := ens_one (x := x) (hi := w.heap.size + 2) (Cells.new (w.alloc o) 103 (ecells x)) (by simp)
  simpa [ecells] using h
def FindRel (s : ByteArray) (l : List Ent) (w : World) (i : Value) (wr : World) : Prop := ∃ k : Nat, k ≤ l.length ∧ i = .int .i64 k ∧ (∀ x ∈ l.take k, nameIs s x = false) ∧ ∃ q os, wr = grow (w.drewN q) os
set_option maxHeartbeats 4000000 in
theorem rFind {w : World} {hi : Nat} {A : Option Addr} {c : Nat} {l : List Ent} (h : Ens w hi A l) (hh : hi ≤ w.heap.size) (hm : l.length ≤ 1000) (s : ByteArray) : Calls Tryz.prog 144 #[.slice A l.length c, .string s] w (Grows (.tuple #[.int .i64 (inoN s l), .bool (hasN s l)]) w) := by
  have H := Lib.hid h
  clear h
  go_enter Tryz.func144, Tryz.ntmps144
  go_wp2
  go_loopw [10] (fun i wr => FindRel s l w i wr) (fun i _ => l.length - (intOf i).toNat)
  case atStart => exact ⟨0, Nat.zero_le _, rfl, by simp, grow_none _⟩
  case round =>
    obtain ⟨k, hk, rfl, hno, hgr⟩ := hrel
    have HNO := Lib.hid hno; have HG := Lib.hid hgr
    have hb := (Grows.below (e := .returned (.bool true)) ⟨rfl, hgr⟩).2
    have HB := Lib.hid hb
    clear hno hgr hb
    by_cases hlt : k < l.length
    · obtain ⟨e, he⟩ : ∃ e, l[k]? = some e := ⟨_, List.getElem?_eq_getElem hlt⟩
      obtain ⟨bl, off, rfl, hbB, x0, x1⟩ := ens_cells (H.out.below (HB.out.mono hh)) he
      have hlt2 : (k : Int) < (l.length : Int) := Int.ofNat_lt.2 hlt
      have HE := Lib.hid he
      clear he
      cases hn : nameIs s e with
      | true =>
        have q0 : (e.s.toList == s.toList) = true := hn
        have HR := Lib.hid (look_yes HNO.out HE.out hn)
        clear hn
        go_wp2
        go_ret2
        exact ⟨by rw [HR.out.1, HR.out.2.2]; rfl, grow_alloc HG.out _⟩
      | false =>
        have q0 : (e.s.toList == s.toList) = false := hn
        have HN := Lib.hid (none_snoc HE.out HNO.out hn)
        clear hn
        go_wp2
        go_roundw
        case rel => exact ⟨k + 1, by omega, by go_num, HN.out, grow_alloc HG.out _⟩
        case measure => simp [intOf]; omega
    · obtain rfl : k = l.length := by omega
      have hno := HNO.out
      rw [List.take_length] at hno
      have HR := Lib.hid (look_no hno)
      clear hno
      go_wp2
      go_ret2
      exact ⟨by rw [HR.out.1, HR.out.2.2]; rfl, HG.out⟩

def DropRel (s : ByteArray) (l : List Ent) (w : World) (v i : Value) (wr : World) : Prop := ∃ k : Nat, k ≤ l.length ∧ i = .int .i64 k ∧ OwnE wr w.heap.size v (dropN s (l.take k)) ∧ Below w.heap.size w wr
theorem dropN_snoc {s : ByteArray} {l : List Ent} {k : Nat} {e : Ent} (he : l[k]? = some e) : dropN s (l.take (k + 1)) = dropN s (l.take k) ++ (if nameIs s e then [] else [e]) := by
  rw [take_snoc he]
  unfold dropN
  rw [List.filter_append, List.filter_cons]
  cases nameIs s e <;> rfl
set_option maxHeartbeats 4000000 in
theorem rDropO {w : World} {hi : Nat} {A : Option Addr} {c : Nat} {l : List Ent} (h : Ens w hi A l) (hh : hi ≤ w.heap.size) (hm : l.length ≤ 1000) (s : ByteArray) : Calls Tryz.prog 179 #[.slice A l.length c, .string s] w (GivesO (dropN s l) (hasN s l) w) := by
  have H := Lib.hid h
  clear h
  go_enter Tryz.func179, Tryz.ntmps179
  go_wp2
  go_loopw [6, 11] (fun v i wr => DropRel s l w v i wr) (fun _ i _ => l.length - (intOf i).toNat)
  case atStart => exact ⟨0, Nat.zero_le _, rfl, by rw [List.take_zero]; exact own_nilE _ _, Below.refl _ _⟩
  case round =>
    obtain ⟨k, hk, rfl, ho, hb⟩ := hrel
    have HO := Lib.hid ho; have HB := Lib.hid hb
    clear ho hb
    by_cases hlt : k < l.length
    · obtain ⟨e, he⟩ : ∃ e, l[k]? = some e := ⟨_, List.getElem?_eq_getElem hlt⟩
      obtain ⟨bl, off, rfl, hbB, x0, x1⟩ := ens_cells (H.out.below (HB.out.mono hh)) he
      have hlt2 : (k : Int) < (l.length : Int) := Int.ofNat_lt.2 hlt
      have HE := Lib.hid he
      clear he
      cases hn : nameIs s e with
      | true =>
        have q0 : (e.s.toList == s.toList) = true := hn
        have HN := Lib.hid (show dropN s (l.take (k + 1)) = dropN s (l.take k) by rw [dropN_snoc HE.out, hn]; simp)
        clear hn
        go_wp2
        go_roundw
        case rel => exact ⟨k + 1, by omega, by go_num, by rw [HN.out]; exact HO.out.below ((Below.refl _ _).alloc (Nat.le_refl _) _), HB.out.alloc HB.out.size _⟩
        case measure => simp [intOf]; omega
      | false =>
        have q0 : (e.s.toList == s.toList) = false := hn
        have HN := Lib.hid (show dropN s (l.take (k + 1)) = dropN s (l.take k) ++ [e] by rw [dropN_snoc HE.out, hn]; simp)
        have HL := Lib.hid (show (dropN s (l.take k)).length + [e].length ≤ 100000 by have := dropN_len s (l.take k); rw [List.length_take] at this; simp; omega)
        have hb2 := below_two wr (.cells (ecells e) 103) (.cells (ecells e) 103)
        have ho2 := HO.out.below hb2
        have hz := Nat.le_trans HB.out.size hb2.size
        have HX := Lib.hid (two_new wr (.cells (ecells e) 103) e)
        unfold ecells at hb2 ho2 hz HX
        have HB2 := Lib.hid hb2; have HO2 := Lib.hid ho2; have HZ := Lib.hid hz
        clear hn hb2 ho2 hz
        go_wp2_with (at_builtin; refine wpList_append_ens (m := [e]) rfl (.tmp 19) (.tmp 21) rfl rfl rfl HO2.out HX.out HL.out HZ.out ?_; intro v5 w5 hown5 hgr5 hat5; have HO5 := Lib.hid hown5; have HG5 := Lib.hid hgr5; clear hown5 hgr5 hat5)
        go_roundw
        case rel => exact ⟨k + 1, by omega, by go_num, by rw [HN.out]; exact HO5.out, (HB.out.trans (HB2.out.mono HB.out.size)).grown HG5.out HZ.out (ownE_base HO2.out)⟩
        case measure => simp [intOf]; omega
    · obtain rfl : k = l.length := by omega
      have ho := HO.out
      rw [List.take_length] at ho
      obtain ⟨A1, c1, rfl, hc, hx⟩ := ho.form
      have HX := Lib.hid ho
      have HD := Lib.hid (drop_less s l)
      have HQ := Lib.hid (show decide (((dropN s l).length : Int) < (l.length : Int)) = decide ((dropN s l).length < l.length) by simp)
      obtain ⟨d, hd⟩ : ∃ d, (dropN s l).length = d := ⟨_, rfl⟩
      have HDN := Lib.hid hd
      rw [hd] at HD HQ
      rw [hd]
      clear ho hx hd HO
      go_wp2
      go_ret2
      exact ⟨A1, c1, by rw [HDN.out, ← HD.out]; rfl, hc, HX.out, HB.out⟩
end Go.Proofs.YtbejbiogabpmfaaGreat

/-! The project's image: an entry that is read where it is there, and a row of them. -/
namespace Go.Proofs.YtbejbiogabpmfaaGreat
open Wd Ino Sm U Go.RowKit Go.ChangeShapes Go.WideShapes Go.Sort
set_option linter.unusedVariables false
set_option maxRecDepth 100000
def entI (e : Ent) : Prop := 1 ≤ e.s.size ∧ e.s.size ≤ 24 ∧ okZ e.n
def EntF (g : Nat) : Value := .func (.func 78) #[.pointer (some ⟨g, 0, none⟩)] #[]
theorem entry_t {W w : World} {g : Nat} {s : ByteArray} {n : Int} {rest : List Nat} (h : RdStI W g (nameW ⟨s, n⟩ ++ rest) false w) (h1 : 1 ≤ s.size) (h2 : s.size ≤ 24) (hz : okZ n) : Calls Tryz.prog 78 #[.pointer (some ⟨g, 0, none⟩)] w (GotT W g (.agg #[.string s, .int .i64 n]) rest w) := by
  have h' : RdStI W g (s.size :: (pk (bsOfW s) ++ (uw n :: rest))) false w := by
    have e : nameW ⟨s, n⟩ ++ rest = s.size :: (pk (bsOfW s) ++ (uw n :: rest)) := by unfold nameW; simp
    rw [← e]; exact h
  have KT := Lib.hid (fun wx (hb : Below w.heap.size w wx) => text_i (h'.below hb) h1 h2)
  have HB := Lib.hid h'
  have HZ := Lib.hid hz
  have hb0 : Below w.heap.size w (w.alloc (.cells #[.string ByteArray.empty, .int .i64 0] 103)) := below_of_grown (World.grownBy_alloc w _ none)
  have hc0 : Cells (w.alloc (.cells #[.string ByteArray.empty, .int .i64 0] 103)) w.heap.size 103 #[.string ByteArray.empty, .int .i64 0] := Cells.new _ _ _
  have HB0 := Lib.hid hb0; have HC0 := Lib.hid hc0
  clear h h' h1 h2 hz hb0 hc0
  go_enter Tryz.func78, Tryz.ntmps78
  go_wp2_with fail
  refine (KT.out _ HB0.out).mono ?_
  rintro e w1 ⟨rfl, h1, t1⟩
  have hc1 := ((HB.out.below HB0.out).keepC t1) _ _ _ (by decide) HC0.out
  have KN := num_t h1 (uw_zle HZ.out)
  rw [uw_z HZ.out] at KN
  have KN' := Lib.hid KN; have HC1 := Lib.hid hc1; have T1 := Lib.hid t1; have H1 := Lib.hid h1
  clear KN hc1 t1 h1 KT
  go_wp2_with fail
  refine (KN'.out).mono ?_
  rintro e w2 ⟨rfl, h2, t2⟩
  have hc2 := (H1.out.keepC t2) _ _ _ (by decide) HC1.out
  have z0 := hc2.cell 0; have z1 := hc2.cell 1
  have f0 := hc2.free 0; have f1 := hc2.free 1
  simp only [List.getElem?_toArray, List.getElem?_cons_zero, List.getElem?_cons_succ] at z0 z1
  have HC2 := Lib.hid hc2; have T2 := Lib.hid t2; have H2 := Lib.hid h2
  clear hc2 t2 h2 KN'
  go_wp2
  have hcf : Cells ((w2.setCell ⟨w.heap.size, 0, none⟩ (.string s)).setCell ⟨w.heap.size, 1, none⟩ (.int .i64 n)) w.heap.size 103 #[.string s, .int .i64 n] := by simpa using (HC2.out.set 0 (.string s)).set 1 (.int .i64 n)
  have hk : KeepC [103] w2 ((w2.setCell ⟨w.heap.size, 0, none⟩ (.string s)).setCell ⟨w.heap.size, 1, none⟩ (.int .i64 n)) := (KeepC.setI HC2.out 0 (.string s)).trans (KeepC.setI (HC2.out.set 0 (.string s)) 1 (.int .i64 n))
  have hbl : Below w.heap.size w2 ((w2.setCell ⟨w.heap.size, 0, none⟩ (.string s)).setCell ⟨w.heap.size, 1, none⟩ (.int .i64 n)) := ((Below.refl _ w2).setCell (p := ⟨w.heap.size, 0, none⟩) (Nat.le_refl _) _).setCell (p := ⟨w.heap.size, 1, none⟩) (Nat.le_refl _) _
  exact bodyPost_ret (results_cell_row rfl _ _ w.heap.size 103 #[.string s, .int .i64 n] (0, 0) _ rfl hcf Tryz.underlying103 rfl (by kernel_rfl)) rfl ⟨rfl, H2.out.keep (hbl.mono HB.out.b.size) hk (by decide) (by decide), (((Trn.refl w [g]).fresh HB0.out).trans (T1.out.trans T2.out)).fresh hbl⟩
end Go.Proofs.YtbejbiogabpmfaaGreat

/-! The project's image: a row of entries that are read where they are there. -/
namespace Go.Proofs.YtbejbiogabpmfaaGreat
open Wd Ino Sm U Go.RowKit Go.ChangeShapes Go.WideShapes Go.Sort
set_option linter.unusedVariables false
set_option maxRecDepth 100000
def RowE (W w : World) (g : Nat) (xs : List Ent) (rest : List Nat) (i v : Value) (wr : World) : Prop := ∃ k : Nat, k ≤ xs.length ∧ i = .int .i64 k ∧ OwnE wr w.heap.size v (xs.take k) ∧ RdStI W g ((xs.drop k).flatMap nameW ++ rest) false wr ∧ Trn w wr [g]
def GotEnts (W : World) (g : Nat) (xs : List Ent) (rest : List Nat) (w : World) (e : Ending) (w' : World) : Prop := ∃ A c, e = .returned (.slice A xs.length c) ∧ OwnE w' w.heap.size (.slice A xs.length c) xs ∧ RdStI W g rest false w' ∧ Trn w w' [g]
set_option maxHeartbeats 4000000 in
theorem rowE_t {W w : World} {g : Nat} {xs : List Ent} {rest : List Nat} (h : RdStI W g (xs.flatMap nameW ++ rest) false w) (hx : ∀ x ∈ xs, entI x) (hl : xs.length ≤ 1000) : Calls Tryz.prog 77 #[.pointer (some ⟨g, 0, none⟩), .int .i64 (xs.length : Nat), EntF g] w (GotEnts W g xs rest w) := by
  have H := Lib.hid h; have HX := Lib.hid hx; have HLN := Lib.hid hl
  obtain ⟨n, hn⟩ : ∃ n, xs.length = n := ⟨_, rfl⟩
  have HN := Lib.hid hn
  unfold EntF
  rw [hn]
  clear h hx hl hn
  go_enter Tryz.func77, Tryz.ntmps77
  go_wp2
  go_loopw [7, 9] (fun v i wr => RowE W w g xs rest i v wr) (fun v i _ => n - (intOf i).toNat)
  case atStart => exact ⟨0, Nat.zero_le _, rfl, own_nilE _ _, by simpa using H.out, Trn.refl _ _⟩
  case round =>
    obtain ⟨k, hk, rfl, ho, hr, ht⟩ := hrel
    rw [HN.out] at hk
    obtain ⟨v0, hc0, _⟩ := hr.v
    have c1 : wr.cell? ⟨g, 1, none⟩ = some (.bool false) := hc0.cell 1
    clear hc0
    by_cases hlt : k < n
    · have hlt2 : (k : Int) < (n : Int) := Int.ofNat_lt.2 hlt
      obtain ⟨x, hxk⟩ : ∃ x, xs[k]? = some x := ⟨_, List.getElem?_eq_getElem (by rw [HN.out]; exact hlt)⟩
      have hdr : xs.drop k = x :: xs.drop (k + 1) := by
        have := (List.getElem?_eq_some_iff.1 hxk).2
        rw [← this]; exact List.drop_eq_getElem_cons (by rw [HN.out]; exact hlt)
      have hz := HX.out x (List.mem_of_getElem? hxk)
      have hr2 := hr
      rw [hdr, List.flatMap_cons, List.append_assoc] at hr2
      obtain ⟨s, nn⟩ := x
      have KN' := Lib.hid (entry_t hr2 hz.1 hz.2.1 hz.2.2)
      have HO := Lib.hid ho; have HR := Lib.hid hr; have HT := Lib.hid ht; have HK := Lib.hid hxk; have HLT := Lib.hid hlt
      obtain ⟨A3, c3, rfl, _, _⟩ := ho.form
      have hkl : (xs.take k).length = k := by rw [List.length_take, HN.out]; omega
      have HKL := Lib.hid hkl
      have hn1 : n ≤ 1000 := by rw [← HN.out]; exact HLN.out
      clear hr hr2 ho ht hxk hdr hlt hz
      have HOF := hkl
      rw [hkl]
      rw [hkl] at HO
      go_wp2_with fail
      refine (KN'.out).mono ?_
      rintro e w1 ⟨rfl, h1, t1⟩
      have hT1 := HT.out.trans t1
      have how1 : OwnE w1 w.heap.size (.slice A3 k c3) (xs.take k) := (HR.out.keepC t1).own (by decide) HO.out
      have hb2 : Below w1.heap.size w1 (w1.alloc (.cells #[.string s, .int .i64 nn] 103)) := below_of_grown (World.grownBy_alloc w1 _ none)
      have HO2 := Lib.hid (how1.below hb2)
      have HX2 := Lib.hid (ens_one (x := ⟨s, nn⟩) (Cells.new w1 103 #[.string s, .int .i64 nn]) (Nat.lt_succ_self w1.heap.size))
      have HT1 := Lib.hid hT1; have H1 := Lib.hid h1
      have hz1 := hT1.size
      have HL2 := Lib.hid (show (xs.take k).length + [(⟨s, nn⟩ : Ent)].length ≤ 100000 by rw [HKL.out, List.length_singleton]; omega)
      have HZ2 := Lib.hid (show w.heap.size ≤ (w1.alloc (.cells #[.string s, .int .i64 nn] 103)).heap.size by have := hb2.size; omega)
      clear h1 t1 hT1 how1 hb2
      go_wp2_with (at_builtin; refine wpList_append_ens (m := [⟨s, nn⟩]) rfl (.tmp 15) (.tmp 18) rfl rfl rfl HO2.out HX2.out HL2.out HZ2.out ?_; intro v5 w5 hown5 hgr5 hat5; have HO5 := Lib.hid hown5; have HB5 := Lib.hid (show Below w.heap.size w1 w5 from ((Below.refl _ w1).alloc hz1 (.cells #[.string s, .int .i64 nn] 103)).grown hgr5 (by simp <;> omega) (fun j e => own_base HO2.out j e)); have HG5 := Lib.hid hgr5; clear hown5 hgr5 hat5)
      go_roundw
      case rel =>
        refine ⟨k + 1, by rw [HN.out]; exact HLT.out, by go_num, ?_, ?_, HT1.out.fresh HB5.out⟩
        · rw [take_two HK.out]; exact HO5.out
        · exact H1.out.keep (HB5.out.mono H.out.b.size) ((KeepC.of (Ts := []) (below_of_grown (World.grownBy_alloc w1 _ none))).more (by simp) |>.trans (KeepC.grownI HO2.out HG5.out)) (by decide) (by decide)
      case measure => simp [intOf]; have := HLT.out; omega
    · have hkn : k = n := by omega
      subst hkn
      have hlt2 : ¬ (k : Int) < (k : Int) := by omega
      rw [List.take_of_length_le (by rw [HN.out]; exact Nat.le_refl _)] at ho
      rw [List.drop_of_length_le (by rw [HN.out]; exact Nat.le_refl _), List.flatMap_nil, List.nil_append] at hr
      obtain ⟨A3, c3, rfl, _, _⟩ := ho.form
      rw [HN.out] at ho
      have HO := Lib.hid ho; have HR := Lib.hid hr; have HT := Lib.hid ht
      rw [HN.out]
      clear ho hr ht hlt
      go_wp2
      go_ret
      exact ⟨A3, c3, by rw [HN.out]; rfl, by rw [HN.out]; exact HO.out, HR.out, HT.out⟩
end Go.Proofs.YtbejbiogabpmfaaGreat

/-! The project's image: a node that is read where it is there. -/
namespace Go.Proofs.YtbejbiogabpmfaaGreat
open Wd Ino Sm U Go.RowKit Go.ChangeShapes Go.WideShapes Go.Sort
set_option linter.unusedVariables false
set_option maxRecDepth 100000
structure okN (n : Nod) : Prop where
  ino : okZ n.ino
  kind : okZ n.kind
  links : okZ n.links
  size : okZ n.size
  up : okZ n.up
  pl : n.pages.length ≤ 64
  nl : n.names.length ≤ 1000
  pg : ∀ x ∈ n.pages, okZ x
  nm : ∀ e ∈ n.names, entI e
def nodhF (n : Nod) : Nat → Int
  | 0 => n.ino | 1 => n.kind | 2 => n.links | 3 => n.size | _ => n.up
def nodhC (n : Nod) : Nat → Array Value
  | 0 => ncells 0 0 0 0 0 (.slice none 0 0) (.slice none 0 0)
  | 1 => ncells n.ino 0 0 0 0 (.slice none 0 0) (.slice none 0 0)
  | 2 => ncells n.ino n.kind 0 0 0 (.slice none 0 0) (.slice none 0 0)
  | 3 => ncells n.ino n.kind n.links 0 0 (.slice none 0 0) (.slice none 0 0)
  | 4 => ncells n.ino n.kind n.links n.size 0 (.slice none 0 0) (.slice none 0 0)
  | _ => ncells n.ino n.kind n.links n.size n.up (.slice none 0 0) (.slice none 0 0)
def nodhD (n : Nod) (k : Nat) : List Nat := (([n.ino, n.kind, n.links, n.size, n.up] : List Int).drop k).map uw
theorem nodhD_step {n : Nod} {k : Nat} (hk : k < 5) : nodhD n k = uw (nodhF n k) :: nodhD n (k + 1) := by
  match k, hk with
  | 0, _ | 1, _ | 2, _ | 3, _ | 4, _ => rfl
theorem nodhF_ok {n : Nod} (h : okN n) (k : Nat) : okZ (nodhF n k) := by
  match k with
  | 0 => exact h.ino
  | 1 => exact h.kind
  | 2 => exact h.links
  | 3 => exact h.size
  | _ + 4 => exact h.up
theorem nodh_cells {w : World} {b k : Nat} {n : Nod} (h : Cells w b 51 (nodhC n k)) (hk : k < 5) : Cells (w.setCell ⟨b, k, none⟩ (.int .i64 (nodhF n k))) b 51 (nodhC n (k + 1)) := by
  match k, hk with
  | 0, _ => exact Cells.set h 0 (.int .i64 n.ino)
  | 1, _ => exact Cells.set h 1 (.int .i64 n.kind)
  | 2, _ => exact Cells.set h 2 (.int .i64 n.links)
  | 3, _ => exact Cells.set h 3 (.int .i64 n.size)
  | 4, _ => exact Cells.set h 4 (.int .i64 n.up)
theorem keep_set7 {w : World} {g : Nat} {cs : Array Value} (h : Cells w g 51 cs) (i k l s u : Int) (p m : Value) : KeepC [51] w (set7 w g i k l s u p m) := by
  have k0 := KeepC.setI h 0 (.int .i64 i)
  have c0 := h.set 0 (.int .i64 i)
  have k1 := KeepC.setI c0 1 (.int .i64 k)
  have c1 := c0.set 1 (.int .i64 k)
  have k2 := KeepC.setI c1 2 (.int .i64 l)
  have c2 := c1.set 2 (.int .i64 l)
  have k3 := KeepC.setI c2 3 (.int .i64 s)
  have c3 := c2.set 3 (.int .i64 s)
  have k4 := KeepC.setI c3 4 (.int .i64 u)
  have c4 := c3.set 4 (.int .i64 u)
  have k5 := KeepC.setI c4 5 p
  have c5 := c4.set 5 p
  have k6 := KeepC.setI c5 6 m
  exact (((((k0.trans k1).trans k2).trans k3).trans k4).trans k5).trans k6
def NodF (g : Nat) : Value := .func (.func 46) #[.pointer (some ⟨g, 0, none⟩)] #[]
def ptrs5 (b : Nat) : Array Value := #[.pointer (some ⟨b, 0, none⟩), .pointer (some ⟨b, 1, none⟩), .pointer (some ⟨b, 2, none⟩), .pointer (some ⟨b, 3, none⟩), .pointer (some ⟨b, 4, none⟩)]
def NodJ (W w : World) (g : Nat) (n : Nod) (rest : List Nat) (i : Value) (wr : World) : Prop := ∃ k : Nat, k ≤ 5 ∧ i = .int .i64 k ∧ Cells wr w.heap.size 51 (ncells 0 0 0 0 0 (.slice none 0 0) (.slice none 0 0)) ∧ Cells wr (w.heap.size + 1) 51 (nodhC n k) ∧
  Cells wr (w.heap.size + 1 + 1) 119 (ptrs5 (w.heap.size + 1)) ∧ RdStI W g (nodhD n k ++ rest) false wr ∧ Trn w wr [g]
def GotNode (W : World) (g : Nat) (n : Nod) (rest : List Nat) (w : World) (e : Ending) (w' : World) : Prop := ∃ nd : Nd, nd.plain = n ∧ e = .returned nd.val ∧ OwnNd w' w.heap.size nd ∧ RdStI W g rest false w' ∧ Trn w w' [g]
set_option maxHeartbeats 8000000 in
theorem node_t {W w : World} {g : Nat} {n : Nod} {rest : List Nat} (h : RdStI W g (nodeW n ++ rest) false w) (hn : okN n) : Calls Tryz.prog 46 #[.pointer (some ⟨g, 0, none⟩)] w (GotNode W g n rest w) := by
  have hmf : ∀ (fn : Fn) (first cap : Array Value) (w : World), (Instr.makeFunc fn first cap).run Tryz.prog w = .ok (.func fn first cap) w := fun _ _ _ _ => rfl
  obtain ⟨r1, hr1⟩ : ∃ r, uw (n.pages.length : Nat) :: uw (n.names.length : Nat) :: (n.pages.map uw ++ (n.names.flatMap nameW ++ rest)) = r := ⟨_, rfl⟩
  have h' : RdStI W g (nodhD n 0 ++ r1) false w := by
    have e : nodeW n ++ rest = nodhD n 0 ++ r1 := by rw [← hr1]; unfold nodeW nodhD hdrZ; simp
    rw [← e]; exact h
  have H := Lib.hid h'; have HN := Lib.hid hn; have HR1 := Lib.hid hr1
  obtain ⟨w3, hw3⟩ : ∃ w3, ((w.alloc (.cells (ncells 0 0 0 0 0 (.slice none 0 0) (.slice none 0 0)) 51)).alloc (.cells (ncells 0 0 0 0 0 (.slice none 0 0) (.slice none 0 0)) 51)).alloc (.cells (ptrs5 (w.heap.size + 1)) 119) = w3 := ⟨_, rfl⟩
  have b3 : Below w.heap.size w w3 := by rw [← hw3]; exact (((Below.refl _ w).alloc (Nat.le_refl _) _).alloc (by simp) _).alloc (by simp; omega) _
  have ca3 : Cells w3 w.heap.size 51 (ncells 0 0 0 0 0 (.slice none 0 0) (.slice none 0 0)) := by rw [← hw3]; exact ((Cells.new w 51 _).alloc _).alloc _
  have cb3 : Cells w3 (w.heap.size + 1) 51 (nodhC n 0) := by
    have := (Cells.new (w.alloc (.cells (ncells 0 0 0 0 0 (.slice none 0 0) (.slice none 0 0)) 51)) 51 (ncells 0 0 0 0 0 (.slice none 0 0) (.slice none 0 0))).alloc (.cells (ptrs5 (w.heap.size + 1)) 119)
    rw [show (w.alloc (.cells (ncells 0 0 0 0 0 (.slice none 0 0) (.slice none 0 0)) 51)).heap.size = w.heap.size + 1 by simp, hw3] at this
    exact this
  have cq3 : Cells w3 (w.heap.size + 1 + 1) 119 (ptrs5 (w.heap.size + 1)) := by
    have := Cells.new ((w.alloc (.cells (ncells 0 0 0 0 0 (.slice none 0 0) (.slice none 0 0)) 51)).alloc (.cells (ncells 0 0 0 0 0 (.slice none 0 0) (.slice none 0 0)) 51)) 119 (ptrs5 (w.heap.size + 1))
    rw [show ((w.alloc (.cells (ncells 0 0 0 0 0 (.slice none 0 0) (.slice none 0 0)) 51)).alloc (.cells (ncells 0 0 0 0 0 (.slice none 0 0) (.slice none 0 0)) 51)).heap.size = w.heap.size + 1 + 1 by simp, hw3] at this
    exact this
  have B3 := Lib.hid b3; have CA := Lib.hid ca3; have CB := Lib.hid cb3; have CQ := Lib.hid cq3
  unfold ptrs5 ncells at hw3
  clear h h' hn hr1 b3 ca3 cb3 cq3
  go_enter Tryz.func46, Tryz.ntmps46
  go_wp2
  have hRd3 := Lib.hid (H.out.below B3.out)
  clear hw3
  go_loopw [15] (fun i wr => NodJ W w g n r1 i wr) (fun i _ => 5 - (intOf i).toNat)
  case atStart => exact ⟨0, by omega, rfl, CA.out, CB.out, CQ.out, hRd3.out, (Trn.refl w _).fresh B3.out⟩
  case round =>
    obtain ⟨k, hk, rfl, ca, cb, cq, hr, ht⟩ := hrel
    by_cases hlt : k < 5
    · have hlt2 : (k : Int) < 5 := by omega
      have cp : wr.cell? ⟨w.heap.size + 1 + 1, k, none⟩ = some (.pointer (some ⟨w.heap.size + 1, k, none⟩)) := by
        rw [cq.cell]
        match k, hlt with
        | 0, _ | 1, _ | 2, _ | 3, _ | 4, _ => rfl
      have hr2 := hr
      rw [nodhD_step hlt, List.cons_append] at hr2
      have KN := num_t hr2 (uw_zle (nodhF_ok HN.out k))
      rw [uw_z (nodhF_ok HN.out k)] at KN
      obtain ⟨z, hz⟩ : ∃ z, nodhF n k = z := ⟨_, rfl⟩
      rw [hz] at KN
      have KN' := Lib.hid KN; have HZ := Lib.hid hz; have HLT := Lib.hid hlt
      have CA1 := Lib.hid ca; have CB1 := Lib.hid cb; have CQ1 := Lib.hid cq; have HR := Lib.hid hr; have HT := Lib.hid ht
      clear hr2 KN hz hlt ca cb cq hr ht
      go_wp2_with fail
      refine (KN'.out).mono ?_
      rintro e w4 ⟨rfl, h4, t4⟩
      have hk4 := HR.out.keepC t4
      have ca4 := hk4 _ _ _ (by decide) CA1.out
      have cb4 := hk4 _ _ _ (by decide) CB1.out
      have cq4 := hk4 _ _ _ (by decide) CQ1.out
      have f4 := cb4.free k
      have y4 : w4.cell? ⟨w.heap.size + 1, k, none⟩ = some (.int .i64 0) := by
        rw [cb4.cell]
        match k, HLT.out with
        | 0, _ | 1, _ | 2, _ | 3, _ | 4, _ => rfl
      have CA4 := Lib.hid ca4; have CB4 := Lib.hid cb4; have CQ4 := Lib.hid cq4; have H4 := Lib.hid h4; have T4 := Lib.hid t4
      clear hk4 ca4 cb4 cq4 h4 t4 KN' cp
      go_wp2
      go_roundw
      case rel =>
        have hcb := nodh_cells CB4.out HLT.out
        rw [HZ.out] at hcb
        exact ⟨k + 1, HLT.out, by go_num, CA4.out.far (p := ⟨w.heap.size + 1, k, none⟩) (by simp) _, hcb, CQ4.out.far (p := ⟨w.heap.size + 1, k, none⟩) (by simp) _, H4.out.keep ((Below.refl _ w4).setCell (p := ⟨w.heap.size + 1, k, none⟩) (by have := H.out.b.size; simp; omega) _) (KeepC.setI CB4.out k _) (by decide) (by decide), (HT.out.trans T4.out).fresh ((Below.refl _ w4).setCell (p := ⟨w.heap.size + 1, k, none⟩) (by simp) _)⟩
      case measure => simp [intOf]; have := HLT.out; omega
    · have hkn : k = 5 := by omega
      subst hkn
      have hcb : Cells wr (w.heap.size + 1) 51 (ncells n.ino n.kind n.links n.size n.up (.slice none 0 0) (.slice none 0 0)) := cb
      have hr0 : RdStI W g (uw (n.pages.length : Nat) :: uw (n.names.length : Nat) :: (n.pages.map uw ++ (n.names.flatMap nameW ++ rest))) false wr := by
        have e : nodhD n 5 ++ r1 = r1 := rfl
        rw [e, ← HR1.out] at hr
        exact hr
      have hp64 := HN.out.pl
      have hn1000 := HN.out.nl
      have hpg := HN.out.pg
      have hnm := HN.out.nm
      obtain ⟨ino, kind, links, size, up, P, N⟩ := n
      dsimp only at hcb hr0 hp64 hn1000 hpg hnm
      rw [uw_nat (k := P.length) (by omega), uw_nat (k := N.length) (by omega)] at hr0
      have K1 := Lib.hid (upTo_t hr0 64 (by omega) hp64)
      have K2 := Lib.hid (fun wx (h : RdStI W g (N.length :: (P.map uw ++ (N.flatMap nameW ++ rest))) false wx) => upTo_t h 65536 (by omega) (by omega))
      have K3 := Lib.hid (fun wx (h : RdStI W g (P.map uw ++ (N.flatMap nameW ++ rest)) false wx) => rowI_t h hpg (by omega))
      have K4 := Lib.hid (fun wx (h : RdStI W g (N.flatMap nameW ++ rest) false wx) => rowE_t h hnm (by omega))
      have HR := Lib.hid hr; have HT := Lib.hid ht; have CA1 := Lib.hid ca; have CB1 := Lib.hid hcb
      clear hr hr0 ht ca cb cq hcb hpg hnm hlt
      unfold NumF at K3
      unfold EntF at K4
      go_wp2_with fail
      refine (K1.out).mono ?_
      rintro e w4 ⟨rfl, h4, t4⟩
      have hk4 := HR.out.keepC t4
      have CA4 := Lib.hid (hk4 _ _ _ (by decide) CA1.out)
      have CB4 := Lib.hid (hk4 _ _ _ (by decide) CB1.out)
      have H4 := Lib.hid h4; have T4 := Lib.hid (HT.out.trans t4)
      clear hk4 h4 t4
      go_wp2_with fail
      refine (K2.out _ H4.out).mono ?_
      rintro e w5 ⟨rfl, h5, t5⟩
      have hk5 := H4.out.keepC t5
      have CA5 := Lib.hid (hk5 _ _ _ (by decide) CA4.out)
      have CB5 := Lib.hid (hk5 _ _ _ (by decide) CB4.out)
      have H5 := Lib.hid h5; have T5 := Lib.hid (T4.out.trans t5)
      clear hk5 h5 t5
      go_wp2_with fail
      refine (K3.out _ H5.out).mono ?_
      rintro e w6 ⟨A6, c6, rfl, ho6, h6, t6⟩
      have hk6 := H5.out.keepC t6
      have ca6 := hk6 _ _ _ (by decide) CA5.out
      have cb6 := hk6 _ _ _ (by decide) CB5.out
      have hlt5 : w.heap.size + 1 < w5.heap.size := CB5.out.lt
      have f5 := cb6.free 5
      have y5 := (cells7 cb6).2.2.2.2.2.1
      have hcb7 : Cells (w6.setCell ⟨w.heap.size + 1, 5, none⟩ (.slice A6 P.length c6)) (w.heap.size + 1) 51 (ncells ino kind links size up (.slice A6 P.length c6) (.slice none 0 0)) := Cells.set cb6 5 (.slice A6 P.length c6)
      have hca7 := ca6.far (p := ⟨w.heap.size + 1, 5, none⟩) (by simp) (.slice A6 P.length c6)
      have hb7 : Below w.heap.size w6 (w6.setCell ⟨w.heap.size + 1, 5, none⟩ (.slice A6 P.length c6)) := (Below.refl _ w6).setCell (p := ⟨w.heap.size + 1, 5, none⟩) (by simp) _
      have ho7 : OwnI (w6.setCell ⟨w.heap.size + 1, 5, none⟩ (.slice A6 P.length c6)) w5.heap.size (.slice A6 P.length c6) P := own_far ho6 (p := ⟨w.heap.size + 1, 5, none⟩) hlt5 _
      have h7 := h6.keep (hb7.mono H.out.b.size) (KeepC.setI cb6 5 _) (by decide) (by decide)
      have ht7 := (T5.out.trans t6).fresh hb7
      obtain ⟨w7, hw7⟩ : ∃ w7, w6.setCell ⟨w.heap.size + 1, 5, none⟩ (.slice A6 P.length c6) = w7 := ⟨_, rfl⟩
      rw [hw7] at hcb7 hca7 ho7 h7 ht7
      have CB7 := Lib.hid hcb7; have CA7 := Lib.hid hca7; have HO7 := Lib.hid ho7; have H7 := Lib.hid h7; have T7 := Lib.hid ht7; have HW7 := Lib.hid hw7
      clear hk6 ca6 cb6 ho6 h6 t6 hcb7 hca7 hb7 ho7 h7 ht7 K1 K2 K3
      go_wp2_with fail
      try rw [HW7.out]
      refine (K4.out _ H7.out).mono ?_
      rintro e w8 ⟨A8, c8, rfl, ho8, h8, t8⟩
      have hk8 := H7.out.keepC t8
      have ca8 := hk8 _ _ _ (by decide) CA7.out
      have cb8 := hk8 _ _ _ (by decide) CB7.out
      have hi8 : OwnI w8 w5.heap.size (.slice A6 P.length c6) P := hk8.own (by decide) HO7.out
      have hlt7 : w.heap.size + 1 < w7.heap.size := CB7.out.lt
      have f6 := cb8.free 6
      have y6 := (cells7 cb8).2.2.2.2.2.2
      have hcb9 : Cells (w8.setCell ⟨w.heap.size + 1, 6, none⟩ (.slice A8 N.length c8)) (w.heap.size + 1) 51 (ncells ino kind links size up (.slice A6 P.length c6) (.slice A8 N.length c8)) := Cells.set cb8 6 (.slice A8 N.length c8)
      have hca9 := ca8.far (p := ⟨w.heap.size + 1, 6, none⟩) (by simp) (.slice A8 N.length c8)
      have hb9 : Below w.heap.size w8 (w8.setCell ⟨w.heap.size + 1, 6, none⟩ (.slice A8 N.length c8)) := (Below.refl _ w8).setCell (p := ⟨w.heap.size + 1, 6, none⟩) (by simp) _
      have hi9 : OwnI (w8.setCell ⟨w.heap.size + 1, 6, none⟩ (.slice A8 N.length c8)) w5.heap.size (.slice A6 P.length c6) P := own_far hi8 (p := ⟨w.heap.size + 1, 6, none⟩) hlt5 _
      have ho9 : OwnE (w8.setCell ⟨w.heap.size + 1, 6, none⟩ (.slice A8 N.length c8)) w7.heap.size (.slice A8 N.length c8) N := own_far ho8 (p := ⟨w.heap.size + 1, 6, none⟩) hlt7 _
      have h9 := h8.keep (hb9.mono H.out.b.size) (KeepC.setI cb8 6 _) (by decide) (by decide)
      have ht9 := (T7.out.trans t8).fresh hb9
      obtain ⟨w9, hw9⟩ : ∃ w9, w8.setCell ⟨w.heap.size + 1, 6, none⟩ (.slice A8 N.length c8) = w9 := ⟨_, rfl⟩
      rw [hw9] at hcb9 hca9 ho9 hi9 h9 ht9
      have CA9 := Lib.hid hca9; have HO9 := Lib.hid ho9; have HI9 := Lib.hid hi9; have H9 := Lib.hid h9; have T9 := Lib.hid ht9; have HW9 := Lib.hid hw9
      obtain ⟨e0, e1, e2, e3, e4, e5, e6⟩ := cells7 hcb9
      obtain ⟨d0, d1, d2, d3, d4, d5, d6⟩ := cells7 hca9
      have z := fun j => Cells.free hca9 j
      clear hk8 ca8 cb8 ho8 hi8 h8 t8 hcb9 hca9 hb9 ho9 hi9 h9 ht9 K4
      go_wp2
      exact bodyPost_ret (results_cell_row rfl _ _ w.heap.size 51 (ncells ino kind links size up (.slice A6 P.length c6) (.slice A8 N.length c8)) (0, 0) _ rfl (set7_cells CA9.out) Tryz.underlying51 rfl (by kernel_rfl)) rfl
        ⟨⟨ino, kind, links, size, up, A6, c6, P, A8, c8, N⟩, rfl, rfl, ⟨OwnI.mono (own_set7 HI9.out (by omega)) (by omega), OwnE.mono (own_set7 HO9.out (by omega)) (by omega)⟩, H9.out.keep (set7_below (Below.refl _ w9) H.out.b.size) (keep_set7 CA9.out _ _ _ _ _ _ _) (by decide) (by decide), T9.out.fresh (set7_below (Below.refl _ w9) (Nat.le_refl _))⟩
end Go.Proofs.YtbejbiogabpmfaaGreat
