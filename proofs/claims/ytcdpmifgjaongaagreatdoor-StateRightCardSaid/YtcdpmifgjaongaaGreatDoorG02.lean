import Derived.Test.YtcdpmifgjaongaaGreatDoorG01
import Derived.Lib.SmallJoins
import Derived.Test.YtcdpmifgjaongaaGreatDoorG00
import Derived.ProofKit
import Derived.OpenShut
import Derived.Carry
import Derived.SizedLaws
import Derived.Deep.Slices
import Derived.Deep.Grids
import Derived.Laws.Cover2
import Derived.Deep.Fields
import Derived.ChangeSame
import Derived.Laws.BytesString
import Derived.Deep.WholeRow
import Derived.Test.YtcdpmifgjaongaaGreatDoorChecked
import Derived.WalkKit

/-
  The project's own Check and Split of layer 8, and what they call.
-/
namespace Go.Proofs.YtcdpmifgjaongaaGreatDoor
open Wd Go.ChangeShapes Go.WideShapes Go.RowKit Go.Sort
set_option linter.unusedVariables false

/-- the library's variable MaxLen holds some number -/
def MaxW (w : World) : Prop := ∃ m, w.cell? ⟨0, 0, none⟩ = some (.int .i64 m)
theorem MaxW.below {B : Nat} {w w' : World} (h : MaxW w) (hb : Below B w w') (hB : 0 < B) : MaxW w' := by
  obtain ⟨m, hm⟩ := h
  exact ⟨m, (hb.cell (p := ⟨0, 0, none⟩) hB).trans hm⟩
theorem MaxW.lt {w : World} (h : MaxW w) : 0 < w.heap.size := by
  obtain ⟨m, hm⟩ := h
  exact block_lt_of_cell (a := ⟨0, 0, none⟩) hm
theorem MaxW.on {w w' : World} (h : MaxW w) (hb : Below w.heap.size w w') : MaxW w' := h.below hb h.lt

/-! what strings.Split tells, at a slash: the pieces between slashes -/
theorem no_slash {l : List UInt8} (h : l.count 47 = 0) : (47 : UInt8) ∉ l := List.count_eq_zero.1 h
theorem index_of {p r : List UInt8} (h : (47 : UInt8) ∉ p) : Lib.index (p ++ 47 :: r) [47] = (p.length : Int) := by
  rw [Lib.index_one]
  induction p with
  | nil => rfl
  | cons c t ih =>
    have hc : c ≠ 47 := by rintro rfl; exact h (by simp)
    have ih' := ih (fun hm => h (by simp [hm]))
    rw [List.cons_append, Lib.indexByte, ih', if_neg (by simpa using hc), if_neg (by simp), List.length_cons]
    simp
theorem split_cut (k : Nat) : ∀ l : List UInt8, l.count 47 = k → Lib.splitK [47] 0 k l = cutS l [] := by
  induction k with
  | zero => intro l h; rw [cut_end (no_slash h)]; rfl
  | succ k ih =>
    intro l h
    have hm : (47 : UInt8) ∈ l := List.count_pos_iff.1 (by omega)
    obtain ⟨p, r, rfl, hp⟩ := List.eq_append_cons_of_mem hm
    have hi := index_of (r := r) hp
    have hk : r.count 47 = k := by
      rw [List.count_append, List.count_cons_self, List.count_eq_zero.2 hp] at h
      omega
    rw [cut_on hp, List.nil_append, Lib.splitK, hi, if_neg (by simp)]
    simp only [Int.toNat_natCast, Nat.add_zero]
    rw [List.take_left' rfl]
    congr 1
    rw [← ih r hk]
    congr 1
    have : p ++ 47 :: r = (p ++ [47]) ++ r := by simp
    rw [this, List.drop_left' (by simp)]
theorem split_parts (s : ByteArray) : ((Lib.splitB ⟨#[47]⟩ 0 (Lib.countB s ⟨#[47]⟩) s).map ByteArray.toList) = cutS s.toList [] := by
  have h := Lib.splitB_data ⟨#[47]⟩ 0 (Lib.countB s ⟨#[47]⟩) s
  have hd : ((Lib.splitB ⟨#[47]⟩ 0 (Lib.countB s ⟨#[47]⟩) s).map ByteArray.toList) = ((Lib.splitB ⟨#[47]⟩ 0 (Lib.countB s ⟨#[47]⟩) s).map (·.data.toList)) := by
    congr 1; funext b; exact Lib.toList_data b
  rw [hd, h, Lib.toList_data]
  exact split_cut _ _ (Lib.count_one 47 _).symm
theorem cut_small (l : List UInt8) : ∀ acc, ∀ p ∈ cutS l acc, p.length ≤ l.length + acc.length := by
  induction l with
  | nil =>
    intro acc p hp
    unfold cutS at hp
    rw [List.mem_singleton.1 hp]; omega
  | cons c t ih =>
    intro acc p hp
    unfold cutS at hp
    by_cases hc : c = 47
    · rw [if_pos hc] at hp
      rcases List.mem_cons.1 hp with rfl | hp
      · omega
      · have := ih [] p hp
        simp at this ⊢; omega
    · rw [if_neg hc] at hp
      have := ih _ p hp
      simp at this ⊢; omega
theorem pieces_cut {l : List UInt8} (h : l.head? = some 47) : pieces (l.drop 1) = keepS (cutS l []) := by
  cases l with
  | nil => cases h
  | cons c t =>
    cases h
    unfold pieces
    have e : cutS (47 :: t) [] = [] :: cutS t [] := by show (if (47 : UInt8) = 47 then _ else _) = _; rw [if_pos rfl]
    rw [e, keep_cons, if_pos (show ([] : List UInt8).isEmpty = true from rfl)]; rfl
theorem keep_snoc (l : List (List UInt8)) (p : List UInt8) : keepS (l ++ [p]) = if p.isEmpty then keepS l else keepS l ++ [p] := by
  unfold keepS
  rw [List.filter_append]
  cases p <;> simp
theorem keep_app (a b : List (List UInt8)) : keepS (a ++ b) = keepS a ++ keepS b := by unfold keepS; rw [List.filter_append]
theorem prefix_one (s : ByteArray) : Lib.hasPrefix s.data.toList (ByteArray.mk #[47]).data.toList = decide (s.toList.head? = some 47) := by
  rw [Lib.toList_data]
  unfold Lib.hasPrefix
  cases s.data.toList with
  | nil => rfl
  | cons c t =>
    show ((47 == c) && [].isPrefixOf t) = decide (some c = some 47)
    rw [List.isPrefixOf_nil_left, Bool.and_true]
    by_cases h : c = 47
    · subst h; rfl
    · rw [decide_eq_false (by simpa using h), beq_eq_false_iff_ne]
      exact fun e => h e.symm

def PartsRel (ps : List ByteArray) (W : World) (i o f : Value) (w : World) : Prop :=
  ∃ (k : Nat) (bs : List ByteArray), i = .int .i64 k ∧ f = .int .i64 0 ∧ k ≤ ps.length ∧ bs.length ≤ k ∧ w.ownsRow W.heap.size 9 1 o bs.length (bs.map Value.string) ∧ Below W.heap.size W w ∧
    bs.map ByteArray.toList = keepS ((ps.take k).map ByteArray.toList) ∧ ∀ p ∈ bs.map ByteArray.toList, nameN p = 0
theorem own_belowS {w w' : World} {base : Nat} {e : TypeId} {n : Nat} {v : Value} {xs : List Value} (h : w.ownsRow base e 1 v n xs) (hb : Below w.heap.size w w') : w'.ownsRow base e 1 v n xs :=
  h.kept (grown_of_below hb none) (by cases h : v.ownBlock with | none => exact .inl rfl | some _ => exact .inr (by simp))

set_option maxHeartbeats 4000000 in
theorem split_loop (s : ByteArray) (w : World) (hM : MaxW w) (hs : s.size ≤ 120) (hh : s.toList.head? = some 47) (hE : pathE s.toList = errOf (pieces (s.toList.drop 1))) : Calls Tryz.prog 33 #[.string s] w (SplitDone s.toList w) := by
  have hd : decide ((120 : Int) < (s.size : Int)) = false := decide_eq_false (by omega)
  have HE := Lib.hid hE; have HH := Lib.hid hh
  obtain ⟨mx, hmx⟩ := hM
  have HMX := Lib.hid hmx
  clear hE hh hmx
  go_enter Tryz.func33, Tryz.ntmps33
  go_wp2_with fail
  go_step3
  go_wp2_with fail
  refine (Tryz.strings_HasPrefix s ⟨#[47]⟩ _).mono ?_
  rintro e w0 ⟨rfl, rfl⟩
  rw [prefix_one, HH.out, decide_eq_true rfl]
  go_wp2_with fail
  go_step3
  go_wp2_with fail
  refine (Tryz.strings_Split s ⟨#[47]⟩ mx _ (by omega) HMX.out (by decide)).mono ?_
  rintro e w1 ⟨rfl, hw1⟩
  have hcb := Lib.countB_le ⟨#[47]⟩ (by decide) _ s (Nat.le_refl _)
  have hall := Lib.splitB_all ⟨#[47]⟩ (by decide) 0 _ s rfl
  have hpp := split_parts s
  obtain ⟨ps, hps⟩ : ∃ ps, Lib.splitB ⟨#[47]⟩ 0 (Lib.countB s ⟨#[47]⟩) s = ps := ⟨_, rfl⟩
  rw [hps] at hall hpp hw1
  rw [← hall]
  have hr1 : Row w1 w1.heap.size (some ⟨w0.heap.size, 0, none⟩) ps.length (ps.map Value.string) := by
    rw [hw1]
    have := Row.of_cells (B := (w0.alloc (.cells (ps.map Value.string).toArray 9)).heap.size) (Cells.new w0 9 (ps.map Value.string).toArray) (by simp)
    simpa using this
  have hb1 : Below w0.heap.size w0 w1 := by rw [hw1]; exact (Below.refl _ _).alloc (Nat.le_refl _) _
  have hsm : ∀ b ∈ ps, b.size ≤ 120 := by
    intro b hb
    have h1 : b.toList ∈ cutS s.toList [] := by rw [← hpp]; exact List.mem_map.2 ⟨b, hb, rfl⟩
    have := cut_small _ _ _ h1
    rw [size_list, size_list] at this
    simp at this; omega
  have hpc : pieces (s.toList.drop 1) = keepS (ps.map ByteArray.toList) := by rw [pieces_cut HH.out, hpp]
  have HR1 := Lib.hid hr1; have HB1 := Lib.hid hb1; have HSM := Lib.hid hsm; have HPC := Lib.hid hpc
  obtain ⟨n, hn⟩ : ∃ n, ps.length = n := ⟨_, rfl⟩
  have hn121 : n ≤ 200 := by omega
  have HN := Lib.hid hn
  rw [hn]
  clear hr1 hb1 hsm hpc hall hpp hps hw1 hn hcb
  go_wp2
  go_loopw [18, 4, 5] (fun i o f wr => PartsRel ps w1 i o f wr) (fun i _ _ _ => n - (intOf i).toNat)
  case atStart => exact ⟨0, [], rfl, rfl, Nat.zero_le _, Nat.le_refl _, ⟨rfl, .inl ⟨rfl, rfl⟩⟩, Below.refl _ _, rfl, fun p hp => by cases hp⟩
  case round =>
    obtain ⟨k, bs, rfl, rfl, hk, hbk, hown, hb, hkeep, hgood⟩ := hrel
    rw [HN.out] at hk
    have HO := Lib.hid hown; have HB := Lib.hid hb; have HK := Lib.hid hkeep; have HG := Lib.hid hgood
    have HR := Lib.hid (HR1.out.below hb)
    clear hown hkeep hgood hb
    by_cases hlt : k < n
    · obtain ⟨b1, o1, b, hA, _, hbx, cb⟩ := HR.out.get (by rw [HN.out]; exact hlt)
      injection hA with hA
      injection hA with e1 e2 _
      subst e1; subst e2
      rw [Nat.zero_add] at cb
      have hmem : b ∈ ps := List.mem_of_getElem? hbx
      have hbz := HSM.out b hmem
      have htk : (ps.take (k + 1)).map ByteArray.toList = (ps.take k).map ByteArray.toList ++ [b.toList] := by
        rw [List.take_add_one, hbx, Option.toList_some, List.map_append]; rfl
      have hall : ps.map ByteArray.toList = (ps.take k).map ByteArray.toList ++ b.toList :: (ps.drop (k + 1)).map ByteArray.toList := by
        have : ps = ps.take k ++ b :: ps.drop (k + 1) := by
          conv => lhs; rw [← List.take_append_drop k ps]
          congr 1
          obtain ⟨hk1, hk2⟩ := List.getElem?_eq_some_iff.1 hbx
          rw [List.drop_eq_getElem_cons hk1, hk2]
        conv => lhs; rw [this]
        rw [List.map_append, List.map_cons]
      have HTK := Lib.hid htk; have HALL := Lib.hid hall
      clear hmem hbx htk hall
      go_wp2_with fail
      refine (nCheck b (by omega) _).mono ?_
      rintro e w3 h
      obtain ⟨rfl, hb3⟩ := h.below
      have HO3 := Lib.hid (own_belowS HO.out hb3)
      have HB3 := Lib.hid (HB.out.trans (hb3.mono HB.out.size))
      clear hb3 h
      obtain ⟨m, hm⟩ : ∃ m, nameN b.toList = m := ⟨_, rfl⟩
      rw [hm]
      have HM := Lib.hid hm
      clear hm
      cases hemp : b.toList.isEmpty with
      | true =>
        go_wp2
        go_roundw
        case rel =>
          refine ⟨k + 1, bs, by go_num, rfl, by rw [HN.out]; omega, by omega, HO3.out, HB3.out, ?_, HG.out⟩
          rw [HTK.out, keep_snoc, hemp, if_pos rfl, HK.out]
        case measure => simp [intOf]; omega
      | false =>
        by_cases hm0 : m = 0
        · subst hm0
          go_wp2_with fail
          refine (nClone b (by omega) _).mono ?_
          rintro e w4 ⟨rfl, hb4⟩
          have HO4 := Lib.hid (own_belowS HO3.out hb4)
          have HB4 := Lib.hid (HB3.out.trans (hb4.mono HB3.out.size))
          have hbs := HB4.out.size
          clear hb4
          obtain ⟨wo, rfl⟩ : ∃ wo : World, wo = w4 := ⟨_, rfl⟩
          go_wp2_with (at_builtin; refine wpList_append_row _ rfl (.tmp 31) (.tmp 34) 72 rfl w1.heap.size 9 (.string ByteArray.empty) 16 Tryz.underlying72 infoStr rfl _ bs.length (bs.map Value.string) rfl (HO4.out.alloc _) _ (some ⟨wo.heap.size, 0, none⟩) 1 1 [.string b] rfl (Row.one _ _ _) (by simp [Value.oneCell']) (by unfold maxLen; omega) (by omega) (by simp; omega) ?_; intro v5 w5 hown5 hgr5 hat5; have hb5 : Below w1.heap.size w1 w5 := (HB4.out.alloc hbs _).grown hgr5 (by simp; omega) (own_base HO4.out); have ho5 : w5.ownsRow w1.heap.size 9 1 v5 (bs ++ [b]).length ((bs ++ [b]).map Value.string) := (by rw [List.map_append, List.length_append]; exact hown5); have HO5 := Lib.hid ho5; have HB5 := Lib.hid hb5; clear hown5 hgr5 hat5 hb5 ho5)
          go_roundw
          case rel =>
            refine ⟨k + 1, bs ++ [b], by go_num, rfl, by rw [HN.out]; omega, by rw [List.length_append]; simp; omega, HO5.out, HB5.out, ?_, ?_⟩
            · rw [HTK.out, keep_snoc, hemp, if_neg (by simp), List.map_append, HK.out]; rfl
            · intro p hp
              rw [List.map_append] at hp
              rcases List.mem_append.1 hp with h1 | h1
              · exact HG.out p h1
              · rw [List.mem_singleton.1 h1]; exact HM.out
          case measure => simp [intOf]; omega
        · have hne : (m != 0) = true := by rw [bne_iff_ne]; exact hm0
          have HM0 := Lib.hid hm0
          clear hm0
          go_wp2
          rw [Exit.noGoto_ret]
          go_ret2
          have he : errOf (pieces (s.toList.drop 1)) = m := by
            rw [HPC.out, HALL.out, keep_app, keep_cons, hemp, if_neg (by simp), ← HM.out]
            refine errOf_first ?_ (by rw [HM.out]; exact HM0.out)
            rw [← HK.out]
            exact HG.out
          refine ⟨.slice none 0 0, [], by rw [HE.out, he]; rfl, ?_, ⟨rfl, .inl ⟨rfl, rfl⟩⟩, HB1.out.trans (HB3.out.mono HB1.out.size)⟩
          unfold pathL
          rw [HE.out, he, if_neg HM0.out]; rfl
    · obtain rfl : k = n := by omega
      go_wp2
      rw [Exit.noGoto_ret]
      go_ret2
      have hk2 : bs.map ByteArray.toList = pieces (s.toList.drop 1) := by
        rw [HPC.out, HK.out, ← HN.out, List.take_length]
      have he : errOf (pieces (s.toList.drop 1)) = 0 := by rw [← hk2]; exact errOf_zero HG.out
      refine ⟨_, bs, by rw [HE.out, he]; rfl, ?_, Joins.ownsRow_le HO.out HB1.out.size, HB1.out.trans (HB.out.mono HB1.out.size)⟩
      unfold pathL
      rw [HE.out, he, if_pos rfl]
      exact hk2

theorem nSplitO (s : ByteArray) (hs : s.size ≤ 1000000) (w : World) (hM : MaxW w) : Calls Tryz.prog 33 #[.string s] w (SplitDone s.toList w) := by
  have hsz := size_list s
  by_cases h1 : 120 < s.size
  · have hE : pathE s.toList = 36 := by unfold pathE; rw [hsz, if_pos h1]
    have hd := none_split (w := w) hE (by decide)
    have HD := Lib.hid hd
    have hdec : decide ((120 : Int) < (s.size : Int)) = true := decide_eq_true (by omega)
    clear hd hE hM
    go_enter Tryz.func33, Tryz.ntmps33
    go_wp2_with fail
    go_step3
    go_wp2_with fail
    rw [Exit.noGoto_ret]
    go_ret2
    exact HD.out
  · by_cases hh : s.toList.head? = some 47
    · have hE : pathE s.toList = errOf (pieces (s.toList.drop 1)) := by
        unfold pathE
        rw [hsz, if_neg h1, if_pos hh]
      exact split_loop s w hM (by omega) hh hE
    · have hE : pathE s.toList = 22 := by unfold pathE; rw [hsz, if_neg h1, if_neg hh]
      have hd := none_split (w := w) hE (by decide)
      have HD := Lib.hid hd; have HH := Lib.hid hh
      have hdec : decide ((120 : Int) < (s.size : Int)) = false := decide_eq_false (by omega)
      clear hd hE hh hM
      go_enter Tryz.func33, Tryz.ntmps33
      go_wp2_with fail
      go_step3
      go_wp2_with fail
      refine (Tryz.strings_HasPrefix s ⟨#[47]⟩ _).mono ?_
      rintro e w0 ⟨rfl, rfl⟩
      rw [prefix_one, decide_eq_false HH.out]
      go_wp2_with fail
      rw [Exit.noGoto_ret]
      go_ret2
      exact HD.out
end Go.Proofs.YtcdpmifgjaongaaGreatDoor

namespace Wd
open Go Go.RowKit
/-- a law's end: it answers true, and nothing that was there has turned -/
def TrueB (w : World) (e : Ending) (w' : World) : Prop := e = .returned (.bool true) ∧ Below w.heap.size w w'
end Wd

/-
  THE PROJECT's OWN CONTRACTS OF LAYER 8, AS THE LAWS' WALKS USE THEM (and the statement's own example).
-/
namespace Go.Proofs.YtcdpmifgjaongaaGreatDoor
open Wd Go.ChangeShapes Go.WideShapes Go.RowKit Go.Sort
set_option linter.unusedVariables false

theorem Row.firsts {w : World} {B n m : Nat} {A : Option Addr} {xs : List Value} (h : Row w B A n xs) (hm : m ≤ n) : Row w B A m (xs.take m) :=
  ⟨by rw [List.length_take, h.1]; omega, fun hp => by
    obtain ⟨b, off, e, hb, hc⟩ := h.2 (by omega)
    refine ⟨b, off, e, hb, fun j hj => ?_⟩
    rw [List.getElem_take]
    exact hc j _⟩
theorem Row.of_own_cap {w : World} {base : Nat} {e : TypeId} {n : Nat} {v : Value} {xs : List Value} (h : w.ownsRow base e 1 v n xs) : ∃ A c, v = .slice A n c ∧ n ≤ c ∧ Row w w.heap.size A n xs := by
  obtain ⟨A, c, e1, hr⟩ := Row.of_own h
  refine ⟨A, c, e1, ?_, hr⟩
  subst e1
  rcases h.2 with ⟨h2, h3⟩ | ⟨g, cap, cur, h2, _, _, hnc, _⟩
  · omega
  · cases h2; exact hnc
def SplitC (l : List UInt8) (W : World) (e : Ending) (w : World) : Prop :=
  ∃ (A : Option Addr) (c : Nat) (bs : List ByteArray), e = .returned (.tuple #[.slice A bs.length c, .int .i64 (pathE l)]) ∧ bs.map ByteArray.toList = pathL l ∧ bs.length ≤ c ∧ Row w w.heap.size A bs.length (bs.map Value.string) ∧ Below W.heap.size W w
def SplitR (l : List UInt8) (W : World) (e : Ending) (w : World) : Prop :=
  ∃ (A : Option Addr) (c : Nat) (bs : List ByteArray), e = .returned (.tuple #[.slice A bs.length c, .int .i64 (pathE l)]) ∧ bs.map ByteArray.toList = pathL l ∧ Row w w.heap.size A bs.length (bs.map Value.string) ∧ Below W.heap.size W w
def TextB (l : List UInt8) (W : World) (e : Ending) (w : World) : Prop := ∃ b : ByteArray, e = .returned (.string b) ∧ b.toList = l ∧ Below W.heap.size W w
/-- it returns v, and nothing that was there has turned -/
def Ends (v : Value) (W : World) (e : Ending) (w : World) : Prop := e = .returned v ∧ Below W.heap.size W w
theorem Ends.below {v : Value} {W w : World} {e : Ending} (h : Ends v W e w) : e = .returned v ∧ Below W.heap.size W w := h

theorem nSplitC (s : ByteArray) (hs : s.size ≤ 1000000) (w : World) (hM : MaxW w) : Calls Tryz.prog 33 #[.string s] w (SplitC s.toList w) := by
  refine (nSplitO s hs w hM).mono ?_
  rintro e w' ⟨v, bs, rfl, hl, ho, hb⟩
  obtain ⟨A, c, rfl, hc, hr⟩ := Row.of_own_cap ho
  exact ⟨A, c, bs, rfl, hl, hc, hr, hb⟩
theorem nSplit (s : ByteArray) (hs : s.size ≤ 1000000) (w : World) (hM : MaxW w) : Calls Tryz.prog 33 #[.string s] w (SplitR s.toList w) := by
  refine (nSplitC s hs w hM).mono ?_
  rintro e w' ⟨A, c, bs, rfl, hl, hc, hr, hb⟩
  exact ⟨A, c, bs, rfl, hl, hr, hb⟩

theorem nLess (a b : ByteArray) (w : World) : Calls Tryz.prog 103 #[.string a, .string b] w (Grows (.bool (Op.bytesLess a.toList b.toList)) w) := by
  go_enter Tryz.func103, Tryz.ntmps103
  go_wp2
  go_ret
  exact ⟨rfl, grow_none _⟩

theorem awake_path : (ByteArray.mk #[47, 47, 97, 47, 98, 47]).toList = [47, 47, 97, 47, 98, 47] := by rw [Lib.toList_data]
theorem awake_e : pathE [47, 47, 97, 47, 98, 47] = 0 := by decide +kernel
theorem awake_l : pathL [47, 47, 97, 47, 98, 47] = [[97], [98]] := by decide +kernel
theorem row_two (w : World) (u v : Value) (t : TypeId) : Row (w.alloc (.cells #[u, v] t)) (w.alloc (.cells #[u, v] t)).heap.size (some ⟨w.heap.size, 0, none⟩) 2 [u, v] := by
  have := Row.of_cells (B := (w.alloc (.cells #[u, v] t)).heap.size) (Cells.new w t #[u, v]) (by simp)
  simpa using this
theorem awake_bs {bs : List ByteArray} (h : bs.map ByteArray.toList = [[97], [98]]) : bs = [⟨#[97]⟩, ⟨#[98]⟩] := by
  refine (List.map_inj_right (fun a b h => tolist_inj h)).1 (h.trans ?_)
  show _ = [ByteArray.toList ⟨#[97]⟩, ByteArray.toList ⟨#[98]⟩]
  rw [Lib.toList_data, Lib.toList_data]

end Go.Proofs.YtcdpmifgjaongaaGreatDoor

namespace Wd
open Go Go.RowKit Go.ChangeShapes Go.WideShapes Go.ChangeAt

section
variable {H : Type} {enc : TypeId × Value → H} {P : Program}

/-- every argument reads in a world that has grown as it did -/
theorem trodAll_below (hl : laidOutB P = true) {W W' : World} (hb : Below W.heap.size W W') : ∀ {ts : List TypeId} {vs : List Value} {ds : List (DataW H)} {ps : List MemPlace},
    (∀ t ∈ ts, P.readableRec t = true ∧ t < P.types.size) → DataW.TrodAll enc P W 0 (fun _ => true) true ts vs ds ps → (∀ x ∈ ps, x.block < W.heap.size) →
    DataW.TrodAll enc P W' 0 (fun b => decide (b < W.heap.size)) true ts vs ds ps := by
  intro ts
  induction ts with
  | nil =>
    intro vs ds ps _ h _
    cases vs <;> cases ds <;> simp [DataW.TrodAll] at h ⊢
    exact h
  | cons t ts ih =>
    intro vs ds ps hr h hlt
    obtain ⟨v, vs', d, ds', p, q, rfl, rfl, rfl, hd, hrest⟩ := trodAll_cons h
    have h1 := hr t (by simp)
    exact trodAll_cons_mk (Below.trod hl h1.1 h1.2 hd hb (fun x hx => hlt x (by simp [hx]))) (ih (fun t' ht => hr t' (by simp [ht])) hrest (fun x hx => hlt x (by simp [hx])))

/-- a law's post: it answers true, and nothing that was there has turned -/
theorem law_post {f : Func} {s : ChangeSpec} {W W' : World} {args : Array Value} {ds gs : List (DataW H)} {before : List MemPlace} {tb : TypeId}
    (hl : laidOutB P = true) (hr : ∀ t ∈ f.params.toList, P.readableRec t = true ∧ t < P.types.size) (ht : f.resultTypes = #[tb]) (hu : P.underlying tb = some .bool) (hv : s.vars = [])
    (e1 : (s.fn H (ds ++ gs)).results = [.lit (.bool true)]) (e2 : (s.fn H (ds ++ gs)).args = ds) (e3 : (s.fn H (ds ++ gs)).vars = [])
    (hW : DataW.Whole enc P f.params.toList s.vars false W args.toList ds gs before) (hb : Below W.heap.size W W') :
    s.post enc P f false true false false W args (.bool true) W' := by
  have hlt : ∀ p ∈ before, p.block < W.heap.size := fun p hp => hW.lt p hp
  have hW' := hW
  obtain ⟨p, q, hA, hV, rfl, _, _⟩ := hW'
  rw [hv] at hV
  obtain ⟨_, rfl⟩ := trodVars_none hV
  refine ⟨ds, gs, _, [], p, [], hW, ?_, ?_, ?_, hb.frame _, fun h => by cases h⟩
  · rw [e1, ht]
    exact trodAll_cons_mk (shut_bool hu _) trodAll_mk0
  · rw [e2]
    exact trodAll_below hl hb hr hA (fun x hx => hlt x (by simp [hx]))
  · rw [e3, hv]
    rfl
variable {w : World} {base : Nat} {spare : Nat → Bool} {held : Bool}

theorem trod_float {t : TypeId} {k : FloatKind} {fuel : Nat} {cs : List Value} {x : DataW H × List MemPlace} (ht : P.underlying t = some (.float k)) (h : DataW.trod enc P w base spare held fuel t cs = some x) :
    ∃ b, cs = [.float k b] ∧ x = (.lit (.float k b), []) ∧ (Lit.float k b).wf = true := by
  cases fuel with
  | zero => simp [DataW.trod] at h
  | succ n =>
    unfold DataW.trod at h
    simp only [ht] at h
    split at h <;> simp_all

/-- a slice of one-cell elements, opened as a row -/
theorem open_row {α : Type} [Inhabited α] {f : α → Value} {ok : α → Prop} {r : Reach} {b0 : Nat} {t e : TypeId} {v : Value} {d : DataW H} {p : List MemPlace} (ht : P.underlying t = some (.slice e)) (hc : P.cellsOf e = 1)
    (hel : ∀ n v x, DataW.trod enc P w base spare held n e [v] = some x → ∃ y, v = f y ∧ ok y)
    (hv : Value.okWide P w r b0 t v) (h : DataW.Trod enc P w base spare held t v d p) :
    ∃ (A : Option Addr) (c : Nat) (l : List α), v = .slice A l.length c ∧ Row w w.heap.size A l.length (l.map f) ∧ (∀ y ∈ l, ok y) ∧ l.length ≤ maxLen := by
  obtain ⟨a0, len, cap, rfl⟩ := okWide_slice ht hv
  obtain ⟨fuel, hf⟩ := h
  rcases Go.Deep.open_slice1 ht hc hf with ⟨hcs, _⟩ | ⟨a, len', cap', m, n, V, D, Pl, hcs, _, hl, hm, hmm, _, hx⟩
  · simp [Value.cells] at hcs
    obtain ⟨rfl, rfl, rfl⟩ := hcs
    exact ⟨none, 0, [], rfl, Row.nil, (by simp), by simp⟩
  · simp [Value.cells] at hcs
    obtain ⟨rfl, rfl, rfl⟩ := hcs
    have hle : len ≤ m := by rw [hmm]; split <;> omega
    have each : ∀ i, i < len → ∃ y, V i = f y ∧ ok y := fun i hi => hel _ _ _ (hx i (by omega)).2
    obtain ⟨Y, hY⟩ := Go.Deep.choose_lt (n := len) (p := fun i y => V i = f y ∧ ok y) each
    refine ⟨some a, cap, (List.range len).map Y, by simp, ⟨by simp, fun hn => ?_⟩, ?_, by simp; omega⟩
    · simp only [List.length_map, List.length_range] at hn
      obtain ⟨b, off, spot⟩ := a
      have hc0 := (hx 0 (by omega)).1
      have hs : spot = none := by simpa [Addr.add] using World.cell?_spot hc0
      subst hs
      refine ⟨b, off, rfl, ?_, fun j hj => ?_⟩
      · simpa [Addr.add] using World.block_lt_of_cell? _ _ hc0
      · simp at hj
        have := (hx j (by omega)).1
        rw [(hY j hj).1] at this
        have e : (⟨b, off, none⟩ : Addr).add j = ⟨b, off + j, none⟩ := by unfold Addr.add; split <;> simp_all
        rw [e] at this
        simpa using this
    · intro y hy
      obtain ⟨i, hi, rfl⟩ := List.mem_map.1 hy
      exact (hY i (List.mem_range.1 hi)).2
end
end Wd

namespace Wd
open Go Go.RowKit Go.ChangeShapes Go.WideShapes Go.ChangeAt Go.Deep

section
variable {H : Type} {enc : TypeId × Value → H} {P : Program} {w : World} {base : Nat} {spare : Nat → Bool} {held : Bool}

theorem add_at {b off k : Nat} {spot : Option Nat} (hs : spot = none) : (⟨b, off, spot⟩ : Addr).add k = ⟨b, off + k, none⟩ := by
  subst hs; unfold Addr.add; split <;> simp_all

/-- a field's value, read as a slice of one-cell elements: a row -/
theorem row_of_trod {α : Type} [Inhabited α] {f : α → Value} {ok : α → Prop} {t e : TypeId} {v : Value} {m : Nat} {x : DataW H × List MemPlace} (ht : P.underlying t = some (.slice e)) (hc : P.cellsOf e = 1)
    (hel : ∀ n v x, DataW.trod enc P w base spare held n e [v] = some x → ∃ y, v = f y ∧ ok y) (h : DataW.trod enc P w base spare held m t [v] = some x) :
    ∃ (A : Option Addr) (c : Nat) (l : List α), v = .slice A l.length c ∧ Row w w.heap.size A l.length (l.map f) ∧ (∀ y ∈ l, ok y) ∧ l.length ≤ c ∧ c ≤ maxLen := by
  rcases open_slice1 ht hc h with ⟨hcs, _⟩ | ⟨a, len, cap, m', n, V, D, Pl, hcs, _, hl, hm, hmm, _, hx⟩
  · obtain rfl := (List.cons.inj hcs).1
    exact ⟨none, 0, [], rfl, Row.nil, by simp, by simp, by simp⟩
  · obtain rfl := (List.cons.inj hcs).1
    have hle : len ≤ m' := by rw [hmm]; split <;> omega
    obtain ⟨Y, hY⟩ := choose_lt (n := len) (p := fun i y => V i = f y ∧ ok y) (fun i hi => hel _ _ _ (hx i (by omega)).2)
    refine ⟨some a, cap, (List.range len).map Y, by simp, ⟨by simp, fun hn => ?_⟩, ?_, by simp; omega, hm⟩
    · simp only [List.length_map, List.length_range] at hn
      obtain ⟨b, off, spot⟩ := a
      have hc0 := (hx 0 (by omega)).1
      have hs : spot = none := by simpa [Addr.add] using World.cell?_spot hc0
      refine ⟨b, off, by rw [hs], ?_, fun j hj => ?_⟩
      · simpa [Addr.add] using World.block_lt_of_cell? _ _ hc0
      · simp at hj
        have := (hx j (by omega)).1
        rw [(hY j hj).1, add_at hs] at this
        simpa using this
    · intro y hy
      obtain ⟨i, hi, rfl⟩ := List.mem_map.1 hy
      exact (hY i (List.mem_range.1 hi)).2

/-- a slice of structs of one-cell fields: each field of each element -/
theorem open_structs {r : Reach} {b0 : Nat} {t e : TypeId} {fs : Array Field} {v : Value} {d : DataW H} {p : List MemPlace} (ht : P.underlying t = some (.slice e)) (he : P.underlying e = some (.struct fs)) (hone : oneCellFields P fs = true) (hC : P.cellsOf e = fs.size) (hpos : 0 < fs.size)
    (hv : Value.okWide P w r b0 t v) (h : DataW.Trod enc P w base spare held t v d p) :
    ∃ (A : Option Addr) (len cap : Nat), v = .slice A len cap ∧ len ≤ cap ∧ cap ≤ maxLen ∧ (0 < len → ∃ b off, A = some ⟨b, off, none⟩ ∧ b < w.heap.size ∧
      ∀ i, i < len → ∃ n, ∀ (j : Nat) (f : Field), fs[j]? = some f → ∃ (u : Value) (y : DataW H × List MemPlace), w.cell? ⟨b, off + (i * fs.size + j), none⟩ = some u ∧ DataW.trod enc P w base spare held n f.type [u] = some y) := by
  obtain ⟨a0, len0, cap0, rfl⟩ := okWide_slice ht hv
  obtain ⟨fuel, hf⟩ := h
  rcases open_slice ht hf with ⟨hcs, _⟩ | ⟨a, len, cap, m, n, D, Pl, hcs, _, hl, hm, hmm, _, hi⟩
  · obtain ⟨rfl, rfl, rfl⟩ : a0 = _ ∧ len0 = _ ∧ cap0 = _ := by simpa [Value.cells] using hcs
    exact ⟨none, 0, 0, rfl, Nat.le_refl _, by simp, fun h => absurd h (by omega)⟩
  · obtain ⟨rfl, rfl, rfl⟩ : a0 = _ ∧ len0 = _ ∧ cap0 = _ := by simpa [Value.cells] using hcs
    have hle : len0 ≤ m := by rw [hmm]; split <;> omega
    have each : ∀ i, i < len0 → ∃ n, ∀ (j : Nat) (f : Field), fs[j]? = some f → ∃ (u : Value) (y : DataW H × List MemPlace), w.cell? (a.add (i * fs.size + j)) = some u ∧ DataW.trod enc P w base spare held n f.type [u] = some y := by
      intro i hil
      obtain ⟨cs', h1, h2⟩ := hi i (by omega)
      rw [hC] at h1
      obtain ⟨ys, n', _, _, hlen, hyl, hg⟩ := DataW.trod_struct he h2
      obtain ⟨_, hcl, hat⟩ := World.cells?_some h1
      refine ⟨n', fun j f hj => ?_⟩
      obtain ⟨ho, hk⟩ := hone_of hone j f hj
      have hjl : j < fs.size := (Array.getElem?_eq_some_iff.1 hj).1
      have h3 := hg j f hj
      rw [ho, hk, show (cs'.drop j).take 1 = [cs'[j]'(by omega)] from by rw [List.drop_eq_getElem_cons (by omega)]; rfl] at h3
      have hys : ys[j]? = some (ys[j]'(by omega)) := List.getElem?_eq_getElem (by omega)
      refine ⟨cs'[j]'(by omega), _, ?_, h3.trans hys⟩
      have := hat j hjl
      rw [add_add] at this
      rw [this, List.getElem?_eq_getElem (by omega)]
    refine ⟨some a, len0, cap0, rfl, hl, hm, fun hn => ?_⟩
    obtain ⟨b, off, spot⟩ := a
    obtain ⟨f0, hf0⟩ : ∃ f, fs[0]? = some f := ⟨_, Array.getElem?_eq_getElem hpos⟩
    obtain ⟨n0, hx⟩ := each 0 hn
    obtain ⟨u, y, hc0, _⟩ := hx 0 f0 hf0
    have hs : spot = none := by simpa [Addr.add] using World.cell?_spot hc0
    refine ⟨b, off, by rw [hs], by simpa [Addr.add] using World.block_lt_of_cell? _ _ hc0, fun i hil => ?_⟩
    obtain ⟨n1, hx⟩ := each i hil
    refine ⟨n1, fun j f hj => ?_⟩
    obtain ⟨u, y, h1, h2⟩ := hx j f hj
    rw [add_at hs] at h1
    exact ⟨u, y, h1, h2⟩
end
end Wd

/-! Numbers of 64 bits; structs by value; what grows. -/
namespace Go.Proofs.YtcdpmifgjaongaaGreatDoor
open Wd Go.RowKit Go.ChangeShapes Go.WideShapes Go.ChangeAt Go.Deep Go.Sort
set_option linter.unusedVariables false
def i64R (n : Int) : Prop := -9223372036854775808 ≤ n ∧ n ≤ 9223372036854775807
theorem i64R_of {n : Int} (h : (Lit.int .i64 n).wf = true) : i64R n := by
  have h : IntKind.i64.min ≤ n ∧ n ≤ IntKind.i64.max := by simpa [Lit.wf] using h
  have m1 : IntKind.i64.min = -9223372036854775808 := by decide
  have m2 : IntKind.i64.max = 9223372036854775807 := by decide
  unfold i64R
  omega
/-- where nothing that was there has turned, and no draw is undone, the world has grown -/
theorem grow_of_below {w w' : World} (h : Below w.heap.size w w') (hd : w.drawn ≤ w'.drawn) : ∃ q os, w' = grow (w.drewN q) os := by
  refine ⟨w'.drawn - w.drawn, w'.heap.extract w.heap.size, ?_⟩
  obtain ⟨hp, tp, dr, os, out⟩ := w
  obtain ⟨hp', tp', dr', os', out'⟩ := w'
  obtain ⟨h1, h2, h3, h4, h5⟩ := h
  simp only at h1 h2 h3 h4 h5 hd
  subst h1 h2 h3
  have hh : hp' = hp ++ hp'.extract hp.size := by
    apply Array.ext_getElem?
    intro i
    by_cases hi : i < hp.size
    · rw [Array.getElem?_append_left hi]; exact h5 i hi
    · rw [Array.getElem?_append_right (by omega), Array.getElem?_extract]
      by_cases hj : i < hp'.size
      · rw [if_pos (by omega)]; congr 1; omega
      · rw [if_neg (by omega)]; exact Array.getElem?_eq_none (by omega)
  unfold grow World.drewN
  simp only [World.mk.injEq, and_true]
  exact ⟨hh, trivial, by omega⟩
theorem Grows.drawn {v : Value} {w w' : World} {e : Ending} (h : Grows v w e w') : w.drawn ≤ w'.drawn := by
  obtain ⟨_, q, os, rfl⟩ := h
  show w.drawn ≤ w.drawn + q
  omega

theorem Grows.of_below {v : Value} {w w' : World} (h : Below w.heap.size w w') (hd : w.drawn ≤ w'.drawn) : Grows v w (.returned v) w' := ⟨rfl, grow_of_below h hd⟩
/-- a struct of one-cell fields, by value: each field -/
theorem open_struct {H : Type} {enc : TypeId × Value → H} {P : Program} {w : World} {base : Nat} {spare : Nat → Bool} {held : Bool} {r : Reach} {b0 : Nat} {t : TypeId} {fs : Array Field} {v : Value} {d : DataW H} {p : List MemPlace}
    (he : P.underlying t = some (.struct fs)) (hone : oneCellFields P fs = true) (hC : P.cellsOf t = fs.size) (hv : Value.okWide P w r b0 t v) (h : DataW.Trod enc P w base spare held t v d p) :
    ∃ cs : Array Value, v = .agg cs ∧ cs.size = fs.size ∧ ∃ n, ∀ (j : Nat) (f : Field), fs[j]? = some f → ∃ (u : Value) (y : DataW H × List MemPlace), cs[j]? = some u ∧ DataW.trod enc P w base spare held n f.type [u] = some y := by
  obtain ⟨cs, rfl, hsz⟩ := okWide_struct he hv
  obtain ⟨fuel, hf⟩ := h
  rw [hC] at hsz
  obtain ⟨ys, n', _, _, hlen, hyl, hg⟩ := DataW.trod_struct he hf
  refine ⟨cs, rfl, hsz, n', fun j f hj => ?_⟩
  obtain ⟨ho, hk⟩ := hone_of hone j f hj
  have hjl : j < fs.size := (Array.getElem?_eq_some_iff.1 hj).1
  have h3 := hg j f hj
  have hjc : j < cs.toList.length := by simpa using (by omega : j < cs.size)
  rw [ho, hk, show (((Value.agg cs).cells.toList.drop j).take 1) = [cs.toList[j]] from by
    rw [show (Value.agg cs).cells.toList = cs.toList from rfl, List.drop_eq_getElem_cons hjc]; rfl] at h3
  have hys : ys[j]? = some (ys[j]'(by omega)) := List.getElem?_eq_getElem (by omega)
  refine ⟨cs.toList[j], _, ?_, h3.trans hys⟩
  rw [← Array.getElem?_toList]
  exact List.getElem?_eq_getElem hjc
end Go.Proofs.YtcdpmifgjaongaaGreatDoor

namespace Go.Proofs.YtcdpmifgjaongaaGreatDoor
open Wd Go.RowKit
set_option linter.unusedVariables false

def bt (n : Nat) : Value := .int .u8 (n : Int)
/-- bytes as a text -/
def strOf (bs : List Nat) : ByteArray := (bs.map (fun x : Nat => (x : Int))).foldl (fun r n => r.push (UInt8.ofNat n.toNat)) ByteArray.empty
theorem run_bytes_row (w : World) (A : Option Addr) (n c B : Nat) (bs : List Nat) (hL : bs.length = n) (hr : Row w B A n (bs.map bt)) :
    (convert 48 9 (.slice A n c)).run Tryz.prog w = .ok (.string (strOf bs)) w := by
  rw [run_convert_bytes_string w 48 9 5 A n c Tryz.underlying48 Tryz.underlying5 Tryz.underlying9]
  cases A with
  | none =>
    have h0 : n = 0 := by
      apply Classical.byContradiction
      intro h
      obtain ⟨b, off, e, _⟩ := hr.2 (by omega)
      cases e
    subst h0
    obtain rfl : bs = [] := List.eq_nil_of_length_eq_zero hL
    simp [Conv.bytesToString, Sem.run_pure, strOf]
  | some a =>
    have hcells : ∀ j v, (bs.map bt)[j]? = some v → w.cell? (a.add j) = some v := by
      intro j v hv
      obtain ⟨hj, rfl⟩ := List.getElem?_eq_some_iff.1 hv
      obtain ⟨b, off, e, _, hc⟩ := hr.2 (by simp at hj; omega)
      cases e
      have e : (⟨b, off, none⟩ : Addr).add j = ⟨b, off + j, none⟩ := by unfold Addr.add; split <;> simp_all
      rw [e]
      exact hc j hj
    have hld := run_loadCells_list (P := Tryz.prog) w a (bs.map bt) hcells
    rw [List.length_map, hL] at hld
    have e : bs.map bt = (bs.map (fun x : Nat => (x : Int))).map (Value.int .u8) := by rw [List.map_map]; rfl
    rw [e] at hld
    exact run_bytesToString w a n c _ hld

end Go.Proofs.YtcdpmifgjaongaaGreatDoor
