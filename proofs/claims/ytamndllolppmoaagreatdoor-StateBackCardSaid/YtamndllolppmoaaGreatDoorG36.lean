import Derived.Test.YtamndllolppmoaaGreatDoorG13
import Derived.Test.YtamndllolppmoaaGreatDoorG12
import Derived.Lib.SmallJoins
import Derived.Test.YtamndllolppmoaaGreatDoorG07
import Derived.Test.YtamndllolppmoaaGreatDoorG28
import Derived.Test.YtamndllolppmoaaGreatDoorG35
import Derived.Test.YtamndllolppmoaaGreatDoorG27

/-
  The project's own Check and Split of layer 8, and what they call.
-/
namespace Go.Proofs.YtamndllolppmoaaGreatDoor
open Wd Go.ChangeShapes Go.WideShapes Go.RowKit Go.Sort
set_option linter.unusedVariables false

/-- the library's variable MaxLen holds some number -/
def MaxW (w : World) : Prop := ∃ m, w.cell? ⟨0, 0, none⟩ = some (.int .i64 m)
theorem MaxW.below {B : Nat} {w w' : World} (h : MaxW w) (hb : Below B w w') (hB : 0 < B) : MaxW w' := by
  obtain ⟨m, hm⟩ := h
  exact ⟨m, (hb.cell (p := ⟨0, 0, none⟩) hB).trans hm⟩
theorem MaxW.lt {w : World} (h : MaxW w) : 0 < w.heap.size := by
  obtain ⟨m, hm⟩ := h
  exact block_lt_of_cell (a := ⟨0, 0, none⟩) hm
theorem MaxW.on {w w' : World} (h : MaxW w) (hb : Below w.heap.size w w') : MaxW w' := h.below hb h.lt

/-! what strings.Split tells, at a slash: the pieces between slashes -/
theorem no_slash {l : List UInt8} (h : l.count 47 = 0) : (47 : UInt8) ∉ l := List.count_eq_zero.1 h
theorem index_of {p r : List UInt8} (h : (47 : UInt8) ∉ p) : Lib.index (p ++ 47 :: r) [47] = (p.length : Int) := by
  rw [Lib.index_one]
  induction p with
  | nil => rfl
  | cons c t ih =>
    have hc : c ≠ 47 := by rintro rfl; exact h (by simp)
    have ih' := ih (fun hm => h (by simp [hm]))
    rw [List.cons_append, Lib.indexByte, ih', if_neg (by simpa using hc), if_neg (by simp), List.length_cons]
    simp
theorem split_cut (k : Nat) : ∀ l : List UInt8, l.count 47 = k → Lib.splitK [47] 0 k l = cutS l [] := by
  induction k with
  | zero => intro l h; rw [cut_end (no_slash h)]; rfl
  | succ k ih =>
    intro l h
    have hm : (47 : UInt8) ∈ l := List.count_pos_iff.1 (by omega)
    obtain ⟨p, r, rfl, hp⟩ := List.eq_append_cons_of_mem hm
    have hi := index_of (r := r) hp
    have hk : r.count 47 = k := by
      rw [List.count_append, List.count_cons_self, List.count_eq_zero.2 hp] at h
      omega
    rw [cut_on hp, List.nil_append, Lib.splitK, hi, if_neg (by simp)]
    simp only [Int.toNat_natCast, Nat.add_zero]
    rw [List.take_left' rfl]
    congr 1
    rw [← ih r hk]
    congr 1
    have : p ++ 47 :: r = (p ++ [47]) ++ r := by simp
    rw [this, List.drop_left' (by simp)]
theorem split_parts (s : ByteArray) : ((Lib.splitB ⟨#[47]⟩ 0 (Lib.countB s ⟨#[47]⟩) s).map ByteArray.toList) = cutS s.toList [] := by
  have h := Lib.splitB_data ⟨#[47]⟩ 0 (Lib.countB s ⟨#[47]⟩) s
  have hd : ((Lib.splitB ⟨#[47]⟩ 0 (Lib.countB s ⟨#[47]⟩) s).map ByteArray.toList) = ((Lib.splitB ⟨#[47]⟩ 0 (Lib.countB s ⟨#[47]⟩) s).map (·.data.toList)) := by
    congr 1; funext b; exact Lib.toList_data b
  rw [hd, h, Lib.toList_data]
  exact split_cut _ _ (Lib.count_one 47 _).symm
theorem cut_small (l : List UInt8) : ∀ acc, ∀ p ∈ cutS l acc, p.length ≤ l.length + acc.length := by
  induction l with
  | nil =>
    intro acc p hp
    unfold cutS at hp
    rw [List.mem_singleton.1 hp]; omega
  | cons c t ih =>
    intro acc p hp
    unfold cutS at hp
    by_cases hc : c = 47
    · rw [if_pos hc] at hp
      rcases List.mem_cons.1 hp with rfl | hp
      · omega
      · have := ih [] p hp
        simp at this ⊢; omega
    · rw [if_neg hc] at hp
      have := ih _ p hp
      simp at this ⊢; omega
theorem pieces_cut {l : List UInt8} (h : l.head? = some 47) : pieces (l.drop 1) = keepS (cutS l []) := by
  cases l with
  | nil => cases h
  | cons c t =>
    cases h
    unfold pieces
    have e : cutS (47 :: t) [] = [] :: cutS t [] := by show (if (47 : UInt8) = 47 then _ else _) = _; rw [if_pos rfl]
    rw [e, keep_cons, if_pos (show ([] : List UInt8).isEmpty = true from rfl)]; rfl
theorem keep_snoc (l : List (List UInt8)) (p : List UInt8) : keepS (l ++ [p]) = if p.isEmpty then keepS l else keepS l ++ [p] := by
  unfold keepS
  rw [List.filter_append]
  cases p <;> simp
theorem keep_app (a b : List (List UInt8)) : keepS (a ++ b) = keepS a ++ keepS b := by unfold keepS; rw [List.filter_append]
theorem prefix_one (s : ByteArray) : Lib.hasPrefix s.data.toList (ByteArray.mk #[47]).data.toList = decide (s.toList.head? = some 47) := by
  rw [Lib.toList_data]
  unfold Lib.hasPrefix
  cases s.data.toList with
  | nil => rfl
  | cons c t =>
    show ((47 == c) && [].isPrefixOf t) = decide (some c = some 47)
    rw [List.isPrefixOf_nil_left, Bool.and_true]
    by_cases h : c = 47
    · subst h; rfl
    · rw [decide_eq_false (by simpa using h), beq_eq_false_iff_ne]
      exact fun e => h e.symm

def PartsRel (ps : List ByteArray) (W : World) (i o f : Value) (w : World) : Prop :=
  ∃ (k : Nat) (bs : List ByteArray), i = .int .i64 k ∧ f = .int .i64 0 ∧ k ≤ ps.length ∧ bs.length ≤ k ∧ w.ownsRow W.heap.size 9 1 o bs.length (bs.map Value.string) ∧ Below W.heap.size W w ∧
    bs.map ByteArray.toList = keepS ((ps.take k).map ByteArray.toList) ∧ ∀ p ∈ bs.map ByteArray.toList, nameN p = 0
theorem own_belowS {w w' : World} {base : Nat} {e : TypeId} {n : Nat} {v : Value} {xs : List Value} (h : w.ownsRow base e 1 v n xs) (hb : Below w.heap.size w w') : w'.ownsRow base e 1 v n xs :=
  h.kept (grown_of_below hb none) (by cases h : v.ownBlock with | none => exact .inl rfl | some _ => exact .inr (by simp))

set_option maxHeartbeats 4000000 in
theorem split_loop (s : ByteArray) (w : World) (hM : MaxW w) (hs : s.size ≤ 120) (hh : s.toList.head? = some 47) (hE : pathE s.toList = errOf (pieces (s.toList.drop 1))) : Calls Tryz.prog 33 #[.string s] w (SplitDone s.toList w) := by
  have hd : decide ((120 : Int) < (s.size : Int)) = false := decide_eq_false (by omega)
  have HE := Lib.hid hE; have HH := Lib.hid hh
  obtain ⟨mx, hmx⟩ := hM
  have HMX := Lib.hid hmx
  clear hE hh hmx
  go_enter Tryz.func33, Tryz.ntmps33
  go_wp2_with fail
  go_step3
  go_wp2_with fail
  refine (Tryz.strings_HasPrefix s ⟨#[47]⟩ _).mono ?_
  rintro e w0 ⟨rfl, rfl⟩
  rw [prefix_one, HH.out, decide_eq_true rfl]
  go_wp2_with fail
  go_step3
  go_wp2_with fail
  refine (Tryz.strings_Split s ⟨#[47]⟩ mx _ (by omega) HMX.out (by decide)).mono ?_
  rintro e w1 ⟨rfl, hw1⟩
  have hcb := Lib.countB_le ⟨#[47]⟩ (by decide) _ s (Nat.le_refl _)
  have hall := Lib.splitB_all ⟨#[47]⟩ (by decide) 0 _ s rfl
  have hpp := split_parts s
  obtain ⟨ps, hps⟩ : ∃ ps, Lib.splitB ⟨#[47]⟩ 0 (Lib.countB s ⟨#[47]⟩) s = ps := ⟨_, rfl⟩
  rw [hps] at hall hpp hw1
  rw [← hall]
  have hr1 : Row w1 w1.heap.size (some ⟨w0.heap.size, 0, none⟩) ps.length (ps.map Value.string) := by
    rw [hw1]
    have := Row.of_cells (B := (w0.alloc (.cells (ps.map Value.string).toArray 9)).heap.size) (Cells.new w0 9 (ps.map Value.string).toArray) (by simp)
    simpa using this
  have hb1 : Below w0.heap.size w0 w1 := by rw [hw1]; exact (Below.refl _ _).alloc (Nat.le_refl _) _
  have hsm : ∀ b ∈ ps, b.size ≤ 120 := by
    intro b hb
    have h1 : b.toList ∈ cutS s.toList [] := by rw [← hpp]; exact List.mem_map.2 ⟨b, hb, rfl⟩
    have := cut_small _ _ _ h1
    rw [size_list, size_list] at this
    simp at this; omega
  have hpc : pieces (s.toList.drop 1) = keepS (ps.map ByteArray.toList) := by rw [pieces_cut HH.out, hpp]
  have HR1 := Lib.hid hr1; have HB1 := Lib.hid hb1; have HSM := Lib.hid hsm; have HPC := Lib.hid hpc
  obtain ⟨n, hn⟩ : ∃ n, ps.length = n := ⟨_, rfl⟩
  have hn121 : n ≤ 200 := by omega
  have HN := Lib.hid hn
  rw [hn]
  clear hr1 hb1 hsm hpc hall hpp hps hw1 hn hcb
  go_wp2
  go_loopw [18, 4, 5] (fun i o f wr => PartsRel ps w1 i o f wr) (fun i _ _ _ => n - (intOf i).toNat)
  case atStart => exact ⟨0, [], rfl, rfl, Nat.zero_le _, Nat.le_refl _, ⟨rfl, .inl ⟨rfl, rfl⟩⟩, Below.refl _ _, rfl, fun p hp => by cases hp⟩
  case round =>
    obtain ⟨k, bs, rfl, rfl, hk, hbk, hown, hb, hkeep, hgood⟩ := hrel
    rw [HN.out] at hk
    have HO := Lib.hid hown; have HB := Lib.hid hb; have HK := Lib.hid hkeep; have HG := Lib.hid hgood
    have HR := Lib.hid (HR1.out.below hb)
    clear hown hkeep hgood hb
    by_cases hlt : k < n
    · obtain ⟨b1, o1, b, hA, _, hbx, cb⟩ := HR.out.get (by rw [HN.out]; exact hlt)
      injection hA with hA
      injection hA with e1 e2 _
      subst e1; subst e2
      rw [Nat.zero_add] at cb
      have hmem : b ∈ ps := List.mem_of_getElem? hbx
      have hbz := HSM.out b hmem
      have htk : (ps.take (k + 1)).map ByteArray.toList = (ps.take k).map ByteArray.toList ++ [b.toList] := by
        rw [List.take_add_one, hbx, Option.toList_some, List.map_append]; rfl
      have hall : ps.map ByteArray.toList = (ps.take k).map ByteArray.toList ++ b.toList :: (ps.drop (k + 1)).map ByteArray.toList := by
        have : ps = ps.take k ++ b :: ps.drop (k + 1) := by
          conv => lhs; rw [← List.take_append_drop k ps]
          congr 1
          obtain ⟨hk1, hk2⟩ := List.getElem?_eq_some_iff.1 hbx
          rw [List.drop_eq_getElem_cons hk1, hk2]
        conv => lhs; rw [this]
        rw [List.map_append, List.map_cons]
      have HTK := Lib.hid htk; have HALL := Lib.hid hall
      clear hmem hbx htk hall
      go_wp2_with fail
      refine (nCheck b (by omega) _).mono ?_
      rintro e w3 h
      obtain ⟨rfl, hb3⟩ := h.below
      have HO3 := Lib.hid (own_belowS HO.out hb3)
      have HB3 := Lib.hid (HB.out.trans (hb3.mono HB.out.size))
      clear hb3 h
      obtain ⟨m, hm⟩ : ∃ m, nameN b.toList = m := ⟨_, rfl⟩
      rw [hm]
      have HM := Lib.hid hm
      clear hm
      cases hemp : b.toList.isEmpty with
      | true =>
        go_wp2
        go_roundw
        case rel =>
          refine ⟨k + 1, bs, by go_num, rfl, by rw [HN.out]; omega, by omega, HO3.out, HB3.out, ?_, HG.out⟩
          rw [HTK.out, keep_snoc, hemp, if_pos rfl, HK.out]
        case measure => simp [intOf]; omega
      | false =>
        by_cases hm0 : m = 0
        · subst hm0
          go_wp2_with fail
          refine (nClone b (by omega) _).mono ?_
          rintro e w4 ⟨rfl, hb4⟩
          have HO4 := Lib.hid (own_belowS HO3.out hb4)
          have HB4 := Lib.hid (HB3.out.trans (hb4.mono HB3.out.size))
          have hbs := HB4.out.size
          clear hb4
          obtain ⟨wo, rfl⟩ : ∃ wo : World, wo = w4 := ⟨_, rfl⟩
          go_wp2_with (at_builtin; refine wpList_append_row _ rfl (.tmp 31) (.tmp 34) 72 rfl w1.heap.size 9 (.string ByteArray.empty) 16 Tryz.underlying72 infoStr rfl _ bs.length (bs.map Value.string) rfl (HO4.out.alloc _) _ (some ⟨wo.heap.size, 0, none⟩) 1 1 [.string b] rfl (Row.one _ _ _) (by simp [Value.oneCell']) (by unfold maxLen; omega) (by omega) (by simp; omega) ?_; intro v5 w5 hown5 hgr5 hat5; have hb5 : Below w1.heap.size w1 w5 := (HB4.out.alloc hbs _).grown hgr5 (by simp; omega) (own_base HO4.out); have ho5 : w5.ownsRow w1.heap.size 9 1 v5 (bs ++ [b]).length ((bs ++ [b]).map Value.string) := (by rw [List.map_append, List.length_append]; exact hown5); have HO5 := Lib.hid ho5; have HB5 := Lib.hid hb5; clear hown5 hgr5 hat5 hb5 ho5)
          go_roundw
          case rel =>
            refine ⟨k + 1, bs ++ [b], by go_num, rfl, by rw [HN.out]; omega, by rw [List.length_append]; simp; omega, HO5.out, HB5.out, ?_, ?_⟩
            · rw [HTK.out, keep_snoc, hemp, if_neg (by simp), List.map_append, HK.out]; rfl
            · intro p hp
              rw [List.map_append] at hp
              rcases List.mem_append.1 hp with h1 | h1
              · exact HG.out p h1
              · rw [List.mem_singleton.1 h1]; exact HM.out
          case measure => simp [intOf]; omega
        · have hne : (m != 0) = true := by rw [bne_iff_ne]; exact hm0
          have HM0 := Lib.hid hm0
          clear hm0
          go_wp2
          rw [Exit.noGoto_ret]
          go_ret2
          have he : errOf (pieces (s.toList.drop 1)) = m := by
            rw [HPC.out, HALL.out, keep_app, keep_cons, hemp, if_neg (by simp), ← HM.out]
            refine errOf_first ?_ (by rw [HM.out]; exact HM0.out)
            rw [← HK.out]
            exact HG.out
          refine ⟨.slice none 0 0, [], by rw [HE.out, he]; rfl, ?_, ⟨rfl, .inl ⟨rfl, rfl⟩⟩, HB1.out.trans (HB3.out.mono HB1.out.size)⟩
          unfold pathL
          rw [HE.out, he, if_neg HM0.out]; rfl
    · obtain rfl : k = n := by omega
      go_wp2
      rw [Exit.noGoto_ret]
      go_ret2
      have hk2 : bs.map ByteArray.toList = pieces (s.toList.drop 1) := by
        rw [HPC.out, HK.out, ← HN.out, List.take_length]
      have he : errOf (pieces (s.toList.drop 1)) = 0 := by rw [← hk2]; exact errOf_zero HG.out
      refine ⟨_, bs, by rw [HE.out, he]; rfl, ?_, Joins.ownsRow_le HO.out HB1.out.size, HB1.out.trans (HB.out.mono HB1.out.size)⟩
      unfold pathL
      rw [HE.out, he, if_pos rfl]
      exact hk2

theorem nSplitO (s : ByteArray) (hs : s.size ≤ 1000000) (w : World) (hM : MaxW w) : Calls Tryz.prog 33 #[.string s] w (SplitDone s.toList w) := by
  have hsz := size_list s
  by_cases h1 : 120 < s.size
  · have hE : pathE s.toList = 36 := by unfold pathE; rw [hsz, if_pos h1]
    have hd := none_split (w := w) hE (by decide)
    have HD := Lib.hid hd
    have hdec : decide ((120 : Int) < (s.size : Int)) = true := decide_eq_true (by omega)
    clear hd hE hM
    go_enter Tryz.func33, Tryz.ntmps33
    go_wp2_with fail
    go_step3
    go_wp2_with fail
    rw [Exit.noGoto_ret]
    go_ret2
    exact HD.out
  · by_cases hh : s.toList.head? = some 47
    · have hE : pathE s.toList = errOf (pieces (s.toList.drop 1)) := by
        unfold pathE
        rw [hsz, if_neg h1, if_pos hh]
      exact split_loop s w hM (by omega) hh hE
    · have hE : pathE s.toList = 22 := by unfold pathE; rw [hsz, if_neg h1, if_neg hh]
      have hd := none_split (w := w) hE (by decide)
      have HD := Lib.hid hd; have HH := Lib.hid hh
      have hdec : decide ((120 : Int) < (s.size : Int)) = false := decide_eq_false (by omega)
      clear hd hE hh hM
      go_enter Tryz.func33, Tryz.ntmps33
      go_wp2_with fail
      go_step3
      go_wp2_with fail
      refine (Tryz.strings_HasPrefix s ⟨#[47]⟩ _).mono ?_
      rintro e w0 ⟨rfl, rfl⟩
      rw [prefix_one, decide_eq_false HH.out]
      go_wp2_with fail
      rw [Exit.noGoto_ret]
      go_ret2
      exact HD.out
end Go.Proofs.YtamndllolppmoaaGreatDoor

/-
  THE PROJECT's OWN CONTRACTS OF LAYER 8, AS THE LAWS' WALKS USE THEM (and the statement's own example).
-/
namespace Go.Proofs.YtamndllolppmoaaGreatDoor
open Wd Go.ChangeShapes Go.WideShapes Go.RowKit Go.Sort
set_option linter.unusedVariables false

theorem Row.firsts {w : World} {B n m : Nat} {A : Option Addr} {xs : List Value} (h : Row w B A n xs) (hm : m ≤ n) : Row w B A m (xs.take m) :=
  ⟨by rw [List.length_take, h.1]; omega, fun hp => by
    obtain ⟨b, off, e, hb, hc⟩ := h.2 (by omega)
    refine ⟨b, off, e, hb, fun j hj => ?_⟩
    rw [List.getElem_take]
    exact hc j _⟩
theorem Row.of_own_cap {w : World} {base : Nat} {e : TypeId} {n : Nat} {v : Value} {xs : List Value} (h : w.ownsRow base e 1 v n xs) : ∃ A c, v = .slice A n c ∧ n ≤ c ∧ Row w w.heap.size A n xs := by
  obtain ⟨A, c, e1, hr⟩ := Row.of_own h
  refine ⟨A, c, e1, ?_, hr⟩
  subst e1
  rcases h.2 with ⟨h2, h3⟩ | ⟨g, cap, cur, h2, _, _, hnc, _⟩
  · omega
  · cases h2; exact hnc
def SplitC (l : List UInt8) (W : World) (e : Ending) (w : World) : Prop :=
  ∃ (A : Option Addr) (c : Nat) (bs : List ByteArray), e = .returned (.tuple #[.slice A bs.length c, .int .i64 (pathE l)]) ∧ bs.map ByteArray.toList = pathL l ∧ bs.length ≤ c ∧ Row w w.heap.size A bs.length (bs.map Value.string) ∧ Below W.heap.size W w
def SplitR (l : List UInt8) (W : World) (e : Ending) (w : World) : Prop :=
  ∃ (A : Option Addr) (c : Nat) (bs : List ByteArray), e = .returned (.tuple #[.slice A bs.length c, .int .i64 (pathE l)]) ∧ bs.map ByteArray.toList = pathL l ∧ Row w w.heap.size A bs.length (bs.map Value.string) ∧ Below W.heap.size W w
def TextB (l : List UInt8) (W : World) (e : Ending) (w : World) : Prop := ∃ b : ByteArray, e = .returned (.string b) ∧ b.toList = l ∧ Below W.heap.size W w
/-- it returns v, and nothing that was there has turned -/
def Ends (v : Value) (W : World) (e : Ending) (w : World) : Prop := e = .returned v ∧ Below W.heap.size W w
theorem Ends.below {v : Value} {W w : World} {e : Ending} (h : Ends v W e w) : e = .returned v ∧ Below W.heap.size W w := h

theorem nSplitC (s : ByteArray) (hs : s.size ≤ 1000000) (w : World) (hM : MaxW w) : Calls Tryz.prog 33 #[.string s] w (SplitC s.toList w) := by
  refine (nSplitO s hs w hM).mono ?_
  rintro e w' ⟨v, bs, rfl, hl, ho, hb⟩
  obtain ⟨A, c, rfl, hc, hr⟩ := Row.of_own_cap ho
  exact ⟨A, c, bs, rfl, hl, hc, hr, hb⟩
theorem nSplit (s : ByteArray) (hs : s.size ≤ 1000000) (w : World) (hM : MaxW w) : Calls Tryz.prog 33 #[.string s] w (SplitR s.toList w) := by
  refine (nSplitC s hs w hM).mono ?_
  rintro e w' ⟨A, c, bs, rfl, hl, hc, hr, hb⟩
  exact ⟨A, c, bs, rfl, hl, hr, hb⟩

theorem nLess (a b : ByteArray) (w : World) : Calls Tryz.prog 103 #[.string a, .string b] w (Grows (.bool (Op.bytesLess a.toList b.toList)) w) := by
  go_enter Tryz.func103, Tryz.ntmps103
  go_wp2
  go_ret
  exact ⟨rfl, grow_none _⟩

theorem awake_path : (ByteArray.mk #[47, 47, 97, 47, 98, 47]).toList = [47, 47, 97, 47, 98, 47] := by rw [Lib.toList_data]
theorem awake_e : pathE [47, 47, 97, 47, 98, 47] = 0 := by decide +kernel
theorem awake_l : pathL [47, 47, 97, 47, 98, 47] = [[97], [98]] := by decide +kernel
theorem row_two (w : World) (u v : Value) (t : TypeId) : Row (w.alloc (.cells #[u, v] t)) (w.alloc (.cells #[u, v] t)).heap.size (some ⟨w.heap.size, 0, none⟩) 2 [u, v] := by
  have := Row.of_cells (B := (w.alloc (.cells #[u, v] t)).heap.size) (Cells.new w t #[u, v]) (by simp)
  simpa using this
theorem awake_bs {bs : List ByteArray} (h : bs.map ByteArray.toList = [[97], [98]]) : bs = [⟨#[97]⟩, ⟨#[98]⟩] := by
  refine (List.map_inj_right (fun a b h => tolist_inj h)).1 (h.trans ?_)
  show _ = [ByteArray.toList ⟨#[97]⟩, ByteArray.toList ⟨#[98]⟩]
  rw [Lib.toList_data, Lib.toList_data]

end Go.Proofs.YtamndllolppmoaaGreatDoor

/-! Find, of both states. -/
namespace Go.Proofs.YtamndllolppmoaaGreatDoor
open Wd Ino Sm U Go.RowKit Go.ChangeShapes Go.WideShapes Go.Sort
set_option linter.unusedVariables false
set_option maxRecDepth 100000
/-- what names lead to, from a node: its number, the error's -/
def walkS (l : List Nod) : List ByteArray → Int → Int × Int
  | [], at_ => (at_, 0)
  | s :: r, at_ => if kindS l at_ = 2 then (if hasN s (namesS l at_) = true then walkS l r (inoN s (namesS l at_)) else (0, 2)) else (0, 20)
/-- what a path leads to -/
def findS (S : Stt) (p : ByteArray) : Int × Int := if pathE p.toList = 0 then walkS S.l ((pathL p.toList).map fun t => ⟨t.toArray⟩) 1 else (0, pathE p.toList)
theorem bs_of {bs : List ByteArray} {l : List (List UInt8)} (h : bs.map ByteArray.toList = l) : l.map (fun t => (⟨t.toArray⟩ : ByteArray)) = bs := by
  subst h
  rw [List.map_map]
  conv => rhs; rw [← List.map_id bs]
  refine List.map_congr_left fun b _ => ?_
  refine tolist_inj ?_
  show (⟨b.toList.toArray⟩ : ByteArray).toList = b.toList
  rw [ByteArray.toList_eq, ByteArray.toList_eq]
theorem cut_many (l : List UInt8) : ∀ acc, (cutS l acc).length ≤ l.length + 1 := by
  induction l with
  | nil => intro acc; exact Nat.le_refl _
  | cons c t ih =>
    intro acc
    unfold cutS
    split
    · have := ih []; simp; omega
    · have := ih (acc ++ [c]); simp; omega
theorem path_many (l : List UInt8) : (pathL l).length ≤ 121 := by
  unfold pathL
  split
  · rename_i h
    have hl : l.length ≤ 120 := by
      unfold pathE at h
      split at h
      · cases h
      · omega
    have h1 := cut_many (l.drop 1) []
    have h2 : (keepS (cutS (l.drop 1) [])).length ≤ (cutS (l.drop 1) []).length := List.length_filter_le _ _
    have h3 : (l.drop 1).length ≤ l.length := by rw [List.length_drop]; omega
    unfold pieces
    omega
  · simp
theorem walk_step {l : List Nod} {bs : List ByteArray} {k : Nat} {s : ByteArray} (h : bs[k]? = some s) (x : Int) : walkS l (bs.drop k) x = if kindS l x = 2 then (if hasN s (namesS l x) = true then walkS l (bs.drop (k + 1)) (inoN s (namesS l x)) else (0, 2)) else (0, 20) := by
  have hlt := (List.getElem?_eq_some_iff.1 h).1
  have e : bs[k] = s := (List.getElem?_eq_some_iff.1 h).2
  rw [List.drop_eq_getElem_cons hlt, e]
  rfl
theorem ino_R {S : Stt} (hs : SmS S.l) (x : Int) (s : ByteArray) : i64R (inoN s (namesS S.l x)) := by
  by_cases h : hasN s (namesS S.l x) = true
  · obtain ⟨e, he, _, h2⟩ := has_mem h
    rw [← h2]
    exact (hs.get x).nm e he
  · rw [inoN_none (by simpa using h)]; unfold i64R; omega
def FdRel (l : List Nod) (bs : List ByteArray) (R : Int × Int) (W : World) (a i : Value) (wr : World) : Prop := ∃ (k : Nat) (x : Int), k ≤ bs.length ∧ i = .int .i64 k ∧ a = .int .i64 x ∧ i64R x ∧ walkS l (bs.drop k) x = R ∧ Below W.heap.size W wr
section
variable {w : World} {base m g b : Nat} {S : Stt}
set_option maxHeartbeats 8000000 in
theorem pFind (h : PSt w base m g b S) (hs : SmS S.l) (p : ByteArray) (hp : p.size ≤ 1000) (hM : MaxW w) :
    Calls Tryz.prog 9 #[SPtr g, .string p] w (Ends (.tuple #[.int .i64 (findS S p).1, .int .i64 (findS S p).2]) w) := by
  have KM := Lib.hid (pMade h)
  have KS := Lib.hid (fun wx (hb : Below w.heap.size w wx) => nSplitC p (by omega) wx (hM.on hb))
  have H := Lib.hid h; have HS := Lib.hid hs
  clear h hs hp hM
  unfold SPtr at *
  go_enter Tryz.func9, Tryz.ntmps9
  go_wp2_with fail
  refine (KM.out).mono ?_
  rintro e w1 ⟨rfl, hw1⟩
  have HB1 := Lib.hid (grown_b hw1)
  clear hw1 KM
  go_wp2_with fail
  refine (KS.out _ HB1.out).mono ?_
  rintro e w2 ⟨A, c, bs, rfl, hbs, hbc, hrow, hb2⟩
  have HB2 := Lib.hid (HB1.out.trans (hb2.mono HB1.out.size))
  have HROW := Lib.hid hrow
  obtain ⟨E, hE⟩ : ∃ E, pathE p.toList = E := ⟨_, rfl⟩
  rw [hE]
  obtain ⟨R, hR⟩ : ∃ R, findS S p = R := ⟨_, rfl⟩
  have HRR := Lib.hid hR
  have HFS := Lib.hid (show R = if E = 0 then walkS S.l bs 1 else (0, E) by rw [← hR]; unfold findS; rw [hE, bs_of hbs])
  have hbl : bs.length ≤ 121 := by
    have := path_many p.toList
    rw [← hbs, List.length_map] at this
    exact this
  clear hb2 hrow hbs hE hR KS
  by_cases e0 : E = 0
  · subst e0
    have hr := HFS.out
    rw [if_pos rfl] at hr
    have HR := Lib.hid hr.symm
    clear hr
    go_wp2_with fail
    go_loopw [8, 26] (fun a i wr => FdRel S.l bs R w2 a i wr) (fun _ i _ => bs.length - (intOf i).toNat)
    case atStart => exact ⟨0, 1, Nat.zero_le _, rfl, rfl, by unfold i64R; omega, by rw [List.drop_zero]; exact HR.out, Below.refl _ _⟩
    case round =>
      obtain ⟨k, x, hk, rfl, rfl, hx, hwx, hb⟩ := hrel
      have HB := Lib.hid hb
      by_cases hlt : k < bs.length
      · obtain ⟨s, hs⟩ : ∃ s, bs[k]? = some s := ⟨_, List.getElem?_eq_getElem hlt⟩
        have hk1 : (k : Int) < (bs.length : Int) := Int.ofNat_lt.2 hlt
        have hrw := HROW.out.below hb
        obtain ⟨bb, off, hA, _, hcell⟩ := hrw.2 (by omega)
        have cx := hcell k (by rw [List.length_map]; omega)
        have cx2 : wr.cell? ⟨bb, off + k, none⟩ = some (.string s) := by
          rw [cx, List.getElem_map, (List.getElem?_eq_some_iff.1 hs).2]
        have hst := walk_step (l := S.l) hs x
        rw [hwx] at hst
        have hxr := ino_R HS.out x s
        have HST := Lib.hid hst; have HXR := Lib.hid hxr; have HLT := Lib.hid hlt
        have h2 := H.out.below ((HB2.out.trans (hb.mono HB2.out.size)).mono (Nat.le_refl _))
        have KI := Lib.hid (pIs h2 x 2 hx)
        have H2 := Lib.hid h2; have HX := Lib.hid hx
        subst hA
        clear hrw hcell cx hst hxr hs hwx hb hk hx hlt h2
        go_wp2_with fail
        refine (KI.out).mono ?_
        rintro e' w3 ⟨rfl, hw3⟩
        have HB3 := Lib.hid (HB.out.trans ((grown_b hw3).mono HB.out.size))
        have h3 := H2.out.below (grown_b hw3)
        have H3 := Lib.hid h3
        clear hw3 KI h3
        by_cases q : kindS S.l x = 2
        · have qd : decide (kindS S.l x = 2) = true := decide_eq_true q
          have hst := HST.out
          rw [if_pos q] at hst
          have c0 := H3.out.c0
          obtain ⟨n, hn, ho, lk⟩ := H3.out.look HX.out
          have lk0 := lk w3 rfl
          have hsm := HS.out.get x
          have hN : namesS S.l x = n.names := by unfold namesS; rw [← hn]; rfl
          have hlen : n.names.length ≤ 1000 := by have := hsm.q; rw [← hn] at this; exact Nat.le_trans this (by decide)
          obtain ⟨hbc9, hE9⟩ := ho.ens
          have KF := Lib.hid (dFind (c := n.bc) hE9 (Nat.le_refl _) hlen s)
          have HXR2 := HXR.out
          rw [hN] at hst HXR2
          obtain ⟨HH, hH⟩ : ∃ H, hasN s n.names = H := ⟨_, rfl⟩
          obtain ⟨II, hII⟩ : ∃ H, inoN s n.names = H := ⟨_, rfl⟩
          rw [hH, hII] at KF
          rw [hH, hII] at hst
          rw [hII] at HXR2
          rw [qd]
          have HST2 := Lib.hid hst; have HXI := Lib.hid HXR2
          obtain ⟨i, ki, l, t, u, A0, ac, P, B, bc, N⟩ := n
          unfold Nd.val at lk0
          dsimp only at lk0 KF
          clear lk ho hn hN hsm hlen hE9 hbc9 hH hII hst HXR2 q qd HST HXR
          go_wp2_with fail
          refine (KF.out).mono ?_
          rintro e' w4 ⟨rfl, hw4⟩
          have HB4 := Lib.hid (HB3.out.trans ((grown_b hw4).mono HB3.out.size))
          clear hw4 KF lk0 c0
          cases HH with
          | true =>
            go_wp2
            go_roundw
            case rel => exact ⟨k + 1, II, HLT.out, by go_num, rfl, HXI.out, by have h9 := HST2.out; simp only [if_true] at h9; exact h9.symm, HB4.out⟩
            case measure => simp [intOf]; have := HLT.out; omega
          | false =>
            have HW := Lib.hid (show R = (0, 2) by have h9 := HST2.out; simp only [Bool.false_eq_true, if_false] at h9; exact h9)
            go_wp2
            go_ret2
            rw [HRR.out, HW.out]
            exact ⟨rfl, HB2.out.trans (HB4.out.mono HB2.out.size)⟩
        · have HW := Lib.hid (show R = (0, 20) by have h9 := HST.out; rw [if_neg q] at h9; exact h9)
          rw [decide_eq_false q]
          clear q
          go_wp2
          go_ret2
          rw [HRR.out, HW.out]
          exact ⟨rfl, HB2.out.trans (HB3.out.mono HB2.out.size)⟩
      · obtain rfl : k = bs.length := by omega
        rw [List.drop_length] at hwx
        have HW := Lib.hid (show R = (x, 0) from hwx.symm)
        clear hwx hb hk hx hlt
        go_wp2
        go_ret2
        rw [HRR.out, HW.out]
        exact ⟨rfl, HB2.out.trans (HB.out.mono HB2.out.size)⟩
  · have q0 : (E != 0) = true := by simpa using e0
    have hr := HFS.out
    rw [if_neg e0] at hr
    have HR := Lib.hid hr
    clear e0 hr
    go_wp2
    go_ret2
    rw [HRR.out, HR.out]
    exact ⟨rfl, HB2.out⟩
set_option maxHeartbeats 8000000 in
theorem rFindS {Ls : List Nd} {v : Value} (h : DSx w base g Ls v S) (hlen : Ls.length ≤ 1000) (hs : SmS S.l) (hok : ∀ n ∈ S.l, RightN n.names) (p : ByteArray) (hp : p.size ≤ 1000) :
    Calls Tryz.prog 10 #[SPtr g, .string p] w (Ends (.tuple #[.int .i64 (findS S p).1, .int .i64 (findS S p).2]) w) := by
  have KS := Lib.hid (refSplit_any p w hp)
  have H := Lib.hid h; have HS := Lib.hid hs; have HLE := Lib.hid hlen
  have HOK := Lib.hid (show ∀ x, ∀ e ∈ namesS S.l x, 1 ≤ e.n from fun x e he => by
    unfold namesS getS at he
    cases hx : atS S.l x with
    | none => rw [hx] at he; cases he
    | some n => rw [hx] at he; exact (okE_parts ((hok n (atS_mem hx)).1 e he)).2.1)
  clear h hs hp hlen hok
  unfold SPtr at *
  go_enter Tryz.func10, Tryz.ntmps10
  go_wp2_with fail
  refine (KS.out).mono ?_
  rintro e w2 ⟨vv, bs, rfl, hbs, hown, hb2⟩
  obtain ⟨A, c, rfl, hrow⟩ := Row.of_own hown
  have HB2 := Lib.hid hb2
  have HROW := Lib.hid hrow
  obtain ⟨E, hE⟩ : ∃ E, pathE p.toList = E := ⟨_, rfl⟩
  rw [hE]
  obtain ⟨R, hR⟩ : ∃ R, findS S p = R := ⟨_, rfl⟩
  have HRR := Lib.hid hR
  have HFS := Lib.hid (show R = if E = 0 then walkS S.l bs 1 else (0, E) by rw [← hR]; unfold findS; rw [hE, bs_of hbs])
  have hbl : bs.length ≤ 121 := by
    have := path_many p.toList
    rw [← hbs, List.length_map] at this
    exact this
  clear hb2 hrow hbs hE hR KS hown
  by_cases e0 : E = 0
  · subst e0
    have hr := HFS.out
    rw [if_pos rfl] at hr
    have HR := Lib.hid hr.symm
    clear hr
    go_wp2_with fail
    go_loopw [8, 21] (fun a i wr => FdRel S.l bs R w2 a i wr) (fun _ i _ => bs.length - (intOf i).toNat)
    case atStart => exact ⟨0, 1, Nat.zero_le _, rfl, rfl, by unfold i64R; omega, by rw [List.drop_zero]; exact HR.out, Below.refl _ _⟩
    case round =>
      obtain ⟨k, x, hk, rfl, rfl, hx, hwx, hb⟩ := hrel
      have HB := Lib.hid hb
      by_cases hlt : k < bs.length
      · obtain ⟨s, hs⟩ : ∃ s, bs[k]? = some s := ⟨_, List.getElem?_eq_getElem hlt⟩
        have hk1 : (k : Int) < (bs.length : Int) := Int.ofNat_lt.2 hlt
        have hrw := HROW.out.below hb
        obtain ⟨bb, off, hA, _, hcell⟩ := hrw.2 (by omega)
        have cx := hcell k (by rw [List.length_map]; omega)
        have cx2 : wr.cell? ⟨bb, off + k, none⟩ = some (.string s) := by
          rw [cx, List.getElem_map, (List.getElem?_eq_some_iff.1 hs).2]
        have hst := walk_step (l := S.l) hs x
        rw [hwx] at hst
        have HST := Lib.hid hst; have HLT := Lib.hid hlt; have HXR := Lib.hid (ino_R HS.out x s)
        have h2 := H.out.below ((HB2.out.trans (hb.mono HB2.out.size)).mono (Nat.le_refl _))
        have KI := Lib.hid (rKind h2 HLE.out x)
        have H2 := Lib.hid h2; have HX := Lib.hid hx
        obtain ⟨K0, hK0⟩ : ∃ K, kindS S.l x = K := ⟨_, rfl⟩
        rw [hK0] at KI
        have HK0 := Lib.hid hK0
        subst hA
        clear hrw hcell cx hst hs hwx hb hk hx hlt h2 hK0
        go_wp2_with fail
        refine (KI.out).mono ?_
        rintro e' w3 ⟨rfl, hw3⟩
        have HB3 := Lib.hid (HB.out.trans ((grown_b hw3).mono HB.out.size))
        have KN := Lib.hid (rNamed (H2.out.below (grown_b hw3)) HLE.out HS.out x s)
        clear hw3 KI
        by_cases q : K0 = 2
        · have q1 : (K0 != 2) = false := by simpa using q
          have hst := HST.out
          rw [if_pos (HK0.out.trans q)] at hst
          have hnm : namedS S.l x s = inoN s (namesS S.l x) := by unfold namedS; rw [if_pos (HK0.out.trans q)]
          obtain ⟨II, hII⟩ : ∃ H, namedS S.l x s = H := ⟨_, rfl⟩
          have hz : (II = 0) ↔ ¬ hasN s (namesS S.l x) = true := by
            rw [← hII, hnm]
            constructor
            · intro h0 hh
              obtain ⟨e9, he9, _, h9⟩ := has_mem hh
              have := HOK.out x e9 he9
              omega
            · intro hh; exact inoN_none (by simpa using hh)
          rw [hII] at KN
          have HZ := Lib.hid hz; have HXI := Lib.hid (show i64R II by rw [← hII, hnm]; exact HXR.out)
          have HST2 := Lib.hid (show R = if hasN s (namesS S.l x) = true then walkS S.l (bs.drop (k + 1)) II else (0, 2) by rw [← hII, hnm]; exact hst)
          clear hst hnm hII hz q
          go_wp2_with fail
          refine (KN.out).mono ?_
          rintro e' w4 ⟨rfl, hw4⟩
          have HB4 := Lib.hid (HB3.out.trans ((grown_b hw4).mono HB3.out.size))
          clear hw4 KN
          by_cases q3 : II = 0
          · have q4 : (II == 0) = true := by simpa using q3
            have HW := Lib.hid (show R = (0, 2) by have h9 := HST2.out; rw [if_neg (HZ.out.1 q3)] at h9; exact h9)
            clear q3
            go_wp2
            go_ret2
            rw [HRR.out, HW.out]
            exact ⟨rfl, HB2.out.trans (HB4.out.mono HB2.out.size)⟩
          · have q4 : (II == 0) = false := by simpa using q3
            have HW := Lib.hid (show walkS S.l (bs.drop (k + 1)) II = R by have h9 := HST2.out; rw [if_pos (Decidable.byContradiction fun hh => q3 (HZ.out.2 hh))] at h9; exact h9.symm)
            clear q3
            go_wp2
            go_roundw
            case rel => exact ⟨k + 1, II, HLT.out, by go_num, rfl, HXI.out, HW.out, HB4.out⟩
            case measure => simp [intOf]; have := HLT.out; omega
        · have q1 : (K0 != 2) = true := by simpa using q
          have HW := Lib.hid (show R = (0, 20) by have h9 := HST.out; rw [if_neg (by rw [HK0.out]; exact q)] at h9; exact h9)
          clear q KN
          go_wp2
          go_ret2
          rw [HRR.out, HW.out]
          exact ⟨rfl, HB2.out.trans (HB3.out.mono HB2.out.size)⟩
      · obtain rfl : k = bs.length := by omega
        rw [List.drop_length] at hwx
        have HW := Lib.hid (show R = (x, 0) from hwx.symm)
        clear hwx hb hk hx hlt
        go_wp2
        go_ret2
        rw [HRR.out, HW.out]
        exact ⟨rfl, HB2.out.trans (HB.out.mono HB2.out.size)⟩
  · have q0 : (E != 0) = true := by simpa using e0
    have hr := HFS.out
    rw [if_neg e0] at hr
    have HR := Lib.hid hr
    clear e0 hr
    go_wp2
    go_ret2
    rw [HRR.out, HR.out]
    exact ⟨rfl, HB2.out⟩
end
end Go.Proofs.YtamndllolppmoaaGreatDoor

/-! The state's laws: awake. -/
namespace Go.Proofs.YtamndllolppmoaaGreatDoor
open Wd Ino Sm U Go.RowKit Go.ChangeShapes Go.WideShapes Go.Sort
set_option linter.unusedVariables false
set_option maxRecDepth 100000
def d0A : Dd := ⟨⟨1, 2, 1, 0, 1, 0, ⟨#[97]⟩, ⟨#[]⟩, none, 0, []⟩, 0⟩
theorem d0A_ok (w : World) (B : Nat) : d0A.Ok w B := ⟨⟨(by show i64R 1; unfold i64R; omega), (by show i64R 2; unfold i64R; omega), (by show i64R 1; unfold i64R; omega), i64R_0, (by show i64R 1; unfold i64R; omega), i64R_0, (by show 1 ≤ maxLen; unfold maxLen; omega), Nat.zero_le _, (fun x hx => by cases hx), Row.nil, Nat.zero_le _, Nat.zero_le _⟩, i64R_0⟩
theorem d0A_few : fewD [d0A] = true := by rw [fewD_iff]; exact ⟨fun d hd => by rw [List.mem_singleton.1 hd]; exact ⟨Nat.zero_le _, by show 1 ≤ _; decide, Nat.zero_le _⟩, by decide⟩
theorem d0A_find : findS (runD [d0A]) ⟨#[47, 97]⟩ = (2, 0) := by decide +kernel
theorem d0A_refs : (refsS (runD [d0A]).l).Nodup := by decide +kernel
theorem d0A_dds (w : World) : Dds (w.alloc (.cells d0A.vals.toArray 52)) (w.heap.size + 1) (some ⟨w.heap.size, 0, none⟩) [d0A] := ⟨fun _ => ⟨w.heap.size, 0, rfl, by omega, fun j d hd k x hx => by
  have hj : j = 0 := by have := (List.getElem?_eq_some_iff.1 hd).1; rw [List.length_singleton] at this; omega
  subst hj
  rw [List.getElem?_cons_zero] at hd
  injection hd with hd
  subst hd
  have := (Cells.new w 52 d0A.vals.toArray).cell k
  rw [show (0 : Nat) + (0 * 10 + k) = k by omega, this, List.getElem?_toArray, hx]⟩, fun d hd => by rw [List.mem_singleton.1 hd]; exact d0A_ok _ _⟩
def AwakeIn (w : World) : Prop := Calls Tryz.prog 6 #[] w (TrueB w)
set_option maxHeartbeats 2000000 in
theorem stAwake_true (w : World) (hM : MaxW w) : Calls Tryz.prog 6 #[] w (TrueB w) := by
  have hb0 : Below w.heap.size w (w.alloc (.cells d0A.vals.toArray 52)) := below_of_grown (World.grownBy_alloc w _ none)
  have KD := Lib.hid (done_law (c := 1) (by have := d0A_dds w; rw [← World.size_alloc] at this; exact this) d0A_few)
  have B0 := Lib.hid hb0
  have HM := Lib.hid hM
  have HN := Lib.hid (Num.runD [d0A] (fun d hd => by rw [List.mem_singleton.1 hd]; exact i64R_0))
  have IV := Lib.hid (Inv.runD [d0A])
  clear hM hb0
  go_enter Tryz.func6, Tryz.ntmps6
  go_wp2_with fail
  refine (KD.out).mono ?_
  rintro e w1 ⟨g, b, gx, rfl, two, hb1⟩
  have B1 := Lib.hid (B0.out.trans (hb1.mono B0.out.size))
  have HP := Lib.hid two.p
  have KF := Lib.hid (pFind two.p (IV.out.smN HN.out (by decide)) ⟨#[47, 97]⟩ (by decide) (HM.out.below B1.out HM.out.lt))
  rw [d0A_find] at KF
  clear two hb1 KD
  go_wp2_with fail
  refine (KF.out).mono ?_
  rintro e w2 ⟨rfl, hb2⟩
  have B2 := Lib.hid (B1.out.trans (hb2.mono B1.out.size))
  have KR := Lib.hid (pRight (HP.out.below hb2) IV.out HN.out (by decide) (by decide) d0A_refs)
  clear hb2 KF
  go_wp2_with fail
  refine (KR.out).mono ?_
  rintro e w3 ⟨rfl, hb3⟩
  have B3 := Lib.hid (B2.out.trans (hb3.mono B2.out.size))
  clear hb3
  go_wp2
  go_ret
  exact ⟨rfl, B3.out⟩
end Go.Proofs.YtamndllolppmoaaGreatDoor
