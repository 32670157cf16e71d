import Derived.Test.YtblfhohoomkcmaaDoorNkAny
import Derived.Test.YtblfhohoomkcmaaDoorSpAll
import Derived.Lib.SmallJoins
/-
  The project's own Check and Split of layer 8, and what they call.
-/
namespace Go.Proofs.YtblfhohoomkcmaaDoor
open Wd Go.ChangeShapes Go.WideShapes Go.RowKit Go.Sort
set_option linter.unusedVariables false

/-- the library's variable MaxLen holds some number -/
def MaxW (w : World) : Prop := ∃ m, w.cell? ⟨0, 0, none⟩ = some (.int .i64 m)
theorem MaxW.below {B : Nat} {w w' : World} (h : MaxW w) (hb : Below B w w') (hB : 0 < B) : MaxW w' := by
  obtain ⟨m, hm⟩ := h
  exact ⟨m, (hb.cell (p := ⟨0, 0, none⟩) hB).trans hm⟩
theorem MaxW.lt {w : World} (h : MaxW w) : 0 < w.heap.size := by
  obtain ⟨m, hm⟩ := h
  exact block_lt_of_cell (a := ⟨0, 0, none⟩) hm
theorem MaxW.on {w w' : World} (h : MaxW w) (hb : Below w.heap.size w w') : MaxW w' := h.below hb h.lt

set_option maxHeartbeats 1000000 in
theorem check_odd (s : ByteArray) (w : World) (h : s.toList = [] ∨ s.toList = [46] ∨ s.toList = [46, 46]) : Calls Tryd.prog 11 #[.string s] w (Grows (.int .i64 22) w) := by
  rcases h with h | h | h
  · have h1 : s.toList.isEmpty = true := by rw [h]; rfl
    go_enter Tryd.func11, Tryd.ntmps11
    go_wp2_with fail
    go_ret
    exact ⟨rfl, grow_none _⟩
  · have h1 : s.toList.isEmpty = false := by rw [h]; rfl
    have h2 : (s.toList == [46]) = true := by rw [h]; rfl
    clear h
    go_enter Tryd.func11, Tryd.ntmps11
    go_wp2_with fail
    go_ret
    exact ⟨rfl, grow_none _⟩
  · have h1 : s.toList.isEmpty = false := by rw [h]; rfl
    have h2 : (s.toList == [46]) = false := by rw [h]; rfl
    have h3 : (s.toList == [46, 46]) = true := by rw [h]; rfl
    clear h
    go_enter Tryd.func11, Tryd.ntmps11
    go_wp2_with fail
    go_ret
    exact ⟨rfl, grow_none _⟩

set_option maxHeartbeats 1000000 in
theorem check_plain (s : ByteArray) (hs : s.size ≤ 1000) (h1 : s.toList.isEmpty = false) (h2 : (s.toList == [46]) = false) (h3 : (s.toList == [46, 46]) = false) (w : World) : Calls Tryd.prog 11 #[.string s] w (Grows (.int .i64 (plainN s.toList)) w) := by
  have hp : plainN s.toList = if s.toList.any badC then 22 else if 24 < s.size then 36 else 0 := by unfold plainN; rw [size_list]
  obtain ⟨b, hb⟩ : ∃ b, s.toList.any badC = b := ⟨_, rfl⟩
  rw [hb] at hp
  have HP := Lib.hid hp; have HB := Lib.hid hb
  clear hp hb
  go_enter Tryd.func11, Tryd.ntmps11
  go_wp2_with fail
  refine (contains_bad s (by omega) _).mono ?_
  rintro e w1 ⟨rfl, hw⟩
  rw [HB.out]
  cases b with
  | true =>
    go_wp2
    go_ret
    exact ⟨by rw [HP.out]; rfl, hw⟩
  | false =>
    by_cases h24 : 24 < s.size
    · have hd : decide ((24 : Int) < (s.size : Int)) = true := decide_eq_true (by omega)
      go_wp2
      go_ret
      exact ⟨by rw [HP.out, if_neg (by simp), if_pos h24]; rfl, hw⟩
    · have hd : decide ((24 : Int) < (s.size : Int)) = false := decide_eq_false (by omega)
      go_wp2
      go_ret
      exact ⟨by rw [HP.out, if_neg (by simp), if_neg h24]; rfl, hw⟩

theorem nCheck (s : ByteArray) (hs : s.size ≤ 1000) (w : World) : Calls Tryd.prog 11 #[.string s] w (Grows (.int .i64 (nameN s.toList)) w) := by
  by_cases h : s.toList = [] ∨ s.toList = [46] ∨ s.toList = [46, 46]
  · have := check_odd s w h
    rwa [show nameN s.toList = 22 by unfold nameN; rw [if_pos h]]
  · have e : nameN s.toList = plainN s.toList := by unfold nameN; rw [if_neg h]
    rw [e]
    refine check_plain s hs ?_ ?_ ?_ w
    · cases hl : s.toList with
      | nil => exact absurd (.inl hl) h
      | cons a t => rfl
    · rw [beq_eq_false_iff_ne]; exact fun h' => h (.inr (.inl h'))
    · rw [beq_eq_false_iff_ne]; exact fun h' => h (.inr (.inr h'))

theorem nClone (s : ByteArray) (hs : s.size ≤ 1000000) (w : World) : Calls Tryd.prog 19 #[.string s] w fun e w' => e = .returned (.string s) ∧ Below w.heap.size w w' := by
  go_enter Tryd.func19, Tryd.ntmps19
  go_wp2_with fail
  refine (Tryd.stringslite_Clone s _ (by omega)).mono ?_
  rintro e w1 ⟨rfl, hw⟩
  go_wp2
  go_ret
  exact ⟨rfl, hw⟩

/-! what strings.Split tells, at a slash: the pieces between slashes -/
theorem no_slash {l : List UInt8} (h : l.count 47 = 0) : (47 : UInt8) ∉ l := List.count_eq_zero.1 h
theorem index_of {p r : List UInt8} (h : (47 : UInt8) ∉ p) : Lib.index (p ++ 47 :: r) [47] = (p.length : Int) := by
  rw [Lib.index_one]
  induction p with
  | nil => rfl
  | cons c t ih =>
    have hc : c ≠ 47 := by rintro rfl; exact h (by simp)
    have ih' := ih (fun hm => h (by simp [hm]))
    rw [List.cons_append, Lib.indexByte, ih', if_neg (by simpa using hc), if_neg (by simp), List.length_cons]
    simp
theorem split_cut (k : Nat) : ∀ l : List UInt8, l.count 47 = k → Lib.splitK [47] 0 k l = cutS l [] := by
  induction k with
  | zero => intro l h; rw [cut_end (no_slash h)]; rfl
  | succ k ih =>
    intro l h
    have hm : (47 : UInt8) ∈ l := List.count_pos_iff.1 (by omega)
    obtain ⟨p, r, rfl, hp⟩ := List.eq_append_cons_of_mem hm
    have hi := index_of (r := r) hp
    have hk : r.count 47 = k := by
      rw [List.count_append, List.count_cons_self, List.count_eq_zero.2 hp] at h
      omega
    rw [cut_on hp, List.nil_append, Lib.splitK, hi, if_neg (by simp)]
    simp only [Int.toNat_natCast, Nat.add_zero]
    rw [List.take_left' rfl]
    congr 1
    rw [← ih r hk]
    congr 1
    have : p ++ 47 :: r = (p ++ [47]) ++ r := by simp
    rw [this, List.drop_left' (by simp)]
theorem split_parts (s : ByteArray) : ((Lib.splitB ⟨#[47]⟩ 0 (Lib.countB s ⟨#[47]⟩) s).map ByteArray.toList) = cutS s.toList [] := by
  have h := Lib.splitB_data ⟨#[47]⟩ 0 (Lib.countB s ⟨#[47]⟩) s
  have hd : ((Lib.splitB ⟨#[47]⟩ 0 (Lib.countB s ⟨#[47]⟩) s).map ByteArray.toList) = ((Lib.splitB ⟨#[47]⟩ 0 (Lib.countB s ⟨#[47]⟩) s).map (·.data.toList)) := by
    congr 1; funext b; exact Lib.toList_data b
  rw [hd, h, Lib.toList_data]
  exact split_cut _ _ (Lib.count_one 47 _).symm
theorem cut_small (l : List UInt8) : ∀ acc, ∀ p ∈ cutS l acc, p.length ≤ l.length + acc.length := by
  induction l with
  | nil =>
    intro acc p hp
    unfold cutS at hp
    rw [List.mem_singleton.1 hp]; omega
  | cons c t ih =>
    intro acc p hp
    unfold cutS at hp
    by_cases hc : c = 47
    · rw [if_pos hc] at hp
      rcases List.mem_cons.1 hp with rfl | hp
      · omega
      · have := ih [] p hp
        simp at this ⊢; omega
    · rw [if_neg hc] at hp
      have := ih _ p hp
      simp at this ⊢; omega
theorem pieces_cut {l : List UInt8} (h : l.head? = some 47) : pieces (l.drop 1) = keepS (cutS l []) := by
  cases l with
  | nil => cases h
  | cons c t =>
    cases h
    unfold pieces
    have e : cutS (47 :: t) [] = [] :: cutS t [] := by show (if (47 : UInt8) = 47 then _ else _) = _; rw [if_pos rfl]
    rw [e, keep_cons, if_pos (show ([] : List UInt8).isEmpty = true from rfl)]; rfl
theorem keep_snoc (l : List (List UInt8)) (p : List UInt8) : keepS (l ++ [p]) = if p.isEmpty then keepS l else keepS l ++ [p] := by
  unfold keepS
  rw [List.filter_append]
  cases p <;> simp
theorem keep_app (a b : List (List UInt8)) : keepS (a ++ b) = keepS a ++ keepS b := by unfold keepS; rw [List.filter_append]
theorem prefix_one (s : ByteArray) : Lib.hasPrefix s.data.toList (ByteArray.mk #[47]).data.toList = decide (s.toList.head? = some 47) := by
  rw [Lib.toList_data]
  unfold Lib.hasPrefix
  cases s.data.toList with
  | nil => rfl
  | cons c t =>
    show ((47 == c) && [].isPrefixOf t) = decide (some c = some 47)
    rw [List.isPrefixOf_nil_left, Bool.and_true]
    by_cases h : c = 47
    · subst h; rfl
    · rw [decide_eq_false (by simpa using h), beq_eq_false_iff_ne]
      exact fun e => h e.symm

def PartsRel (ps : List ByteArray) (W : World) (i o f : Value) (w : World) : Prop :=
  ∃ (k : Nat) (bs : List ByteArray), i = .int .i64 k ∧ f = .int .i64 0 ∧ k ≤ ps.length ∧ bs.length ≤ k ∧ w.ownsRow W.heap.size 9 1 o bs.length (bs.map Value.string) ∧ Below W.heap.size W w ∧
    bs.map ByteArray.toList = keepS ((ps.take k).map ByteArray.toList) ∧ ∀ p ∈ bs.map ByteArray.toList, nameN p = 0
theorem own_below {w w' : World} {base : Nat} {e : TypeId} {n : Nat} {v : Value} {xs : List Value} (h : w.ownsRow base e 1 v n xs) (hb : Below w.heap.size w w') : w'.ownsRow base e 1 v n xs :=
  h.kept (grown_of_below hb none) (by cases h : v.ownBlock with | none => exact .inl rfl | some _ => exact .inr (by simp))

set_option maxHeartbeats 4000000 in
theorem split_loop (s : ByteArray) (w : World) (hM : MaxW w) (hs : s.size ≤ 120) (hh : s.toList.head? = some 47) (hE : pathE s.toList = errOf (pieces (s.toList.drop 1))) : Calls Tryd.prog 7 #[.string s] w (SplitDone s.toList w) := by
  have hd : decide ((120 : Int) < (s.size : Int)) = false := decide_eq_false (by omega)
  have HE := Lib.hid hE; have HH := Lib.hid hh
  obtain ⟨mx, hmx⟩ := hM
  have HMX := Lib.hid hmx
  clear hE hh hmx
  go_enter Tryd.func7, Tryd.ntmps7
  go_wp2_with fail
  go_step3
  go_wp2_with fail
  refine (Tryd.strings_HasPrefix s ⟨#[47]⟩ _).mono ?_
  rintro e w0 ⟨rfl, rfl⟩
  rw [prefix_one, HH.out, decide_eq_true rfl]
  go_wp2_with fail
  go_step3
  go_wp2_with fail
  refine (Tryd.strings_Split s ⟨#[47]⟩ mx _ (by omega) HMX.out (by decide)).mono ?_
  rintro e w1 ⟨rfl, hw1⟩
  have hcb := Lib.countB_le ⟨#[47]⟩ (by decide) _ s (Nat.le_refl _)
  have hall := Lib.splitB_all ⟨#[47]⟩ (by decide) 0 _ s rfl
  have hpp := split_parts s
  obtain ⟨ps, hps⟩ : ∃ ps, Lib.splitB ⟨#[47]⟩ 0 (Lib.countB s ⟨#[47]⟩) s = ps := ⟨_, rfl⟩
  rw [hps] at hall hpp hw1
  rw [← hall]
  have hr1 : Row w1 w1.heap.size (some ⟨w0.heap.size, 0, none⟩) ps.length (ps.map Value.string) := by
    rw [hw1]
    have := Row.of_cells (B := (w0.alloc (.cells (ps.map Value.string).toArray 9)).heap.size) (Cells.new w0 9 (ps.map Value.string).toArray) (by simp)
    simpa using this
  have hb1 : Below w0.heap.size w0 w1 := by rw [hw1]; exact (Below.refl _ _).alloc (Nat.le_refl _) _
  have hsm : ∀ b ∈ ps, b.size ≤ 120 := by
    intro b hb
    have h1 : b.toList ∈ cutS s.toList [] := by rw [← hpp]; exact List.mem_map.2 ⟨b, hb, rfl⟩
    have := cut_small _ _ _ h1
    rw [size_list, size_list] at this
    simp at this; omega
  have hpc : pieces (s.toList.drop 1) = keepS (ps.map ByteArray.toList) := by rw [pieces_cut HH.out, hpp]
  have HR1 := Lib.hid hr1; have HB1 := Lib.hid hb1; have HSM := Lib.hid hsm; have HPC := Lib.hid hpc
  obtain ⟨n, hn⟩ : ∃ n, ps.length = n := ⟨_, rfl⟩
  have hn121 : n ≤ 200 := by omega
  have HN := Lib.hid hn
  rw [hn]
  clear hr1 hb1 hsm hpc hall hpp hps hw1 hn hcb
  go_wp2
  go_loopw [18, 4, 5] (fun i o f wr => PartsRel ps w1 i o f wr) (fun i _ _ _ => n - (intOf i).toNat)
  case atStart => exact ⟨0, [], rfl, rfl, Nat.zero_le _, Nat.le_refl _, ⟨rfl, .inl ⟨rfl, rfl⟩⟩, Below.refl _ _, rfl, fun p hp => by cases hp⟩
  case round =>
    obtain ⟨k, bs, rfl, rfl, hk, hbk, hown, hb, hkeep, hgood⟩ := hrel
    rw [HN.out] at hk
    have HO := Lib.hid hown; have HB := Lib.hid hb; have HK := Lib.hid hkeep; have HG := Lib.hid hgood
    have HR := Lib.hid (HR1.out.below hb)
    clear hown hkeep hgood hb
    by_cases hlt : k < n
    · obtain ⟨b1, o1, b, hA, _, hbx, cb⟩ := HR.out.get (by rw [HN.out]; exact hlt)
      injection hA with hA
      injection hA with e1 e2 _
      subst e1; subst e2
      rw [Nat.zero_add] at cb
      have hmem : b ∈ ps := List.mem_of_getElem? hbx
      have hbz := HSM.out b hmem
      have htk : (ps.take (k + 1)).map ByteArray.toList = (ps.take k).map ByteArray.toList ++ [b.toList] := by
        rw [List.take_add_one, hbx, Option.toList_some, List.map_append]; rfl
      have hall : ps.map ByteArray.toList = (ps.take k).map ByteArray.toList ++ b.toList :: (ps.drop (k + 1)).map ByteArray.toList := by
        have : ps = ps.take k ++ b :: ps.drop (k + 1) := by
          conv => lhs; rw [← List.take_append_drop k ps]
          congr 1
          obtain ⟨hk1, hk2⟩ := List.getElem?_eq_some_iff.1 hbx
          rw [List.drop_eq_getElem_cons hk1, hk2]
        conv => lhs; rw [this]
        rw [List.map_append, List.map_cons]
      have HTK := Lib.hid htk; have HALL := Lib.hid hall
      clear hmem hbx htk hall
      go_wp2_with fail
      refine (nCheck b (by omega) _).mono ?_
      rintro e w3 h
      obtain ⟨rfl, hb3⟩ := h.below
      have HO3 := Lib.hid (own_below HO.out hb3)
      have HB3 := Lib.hid (HB.out.trans (hb3.mono HB.out.size))
      clear hb3 h
      obtain ⟨m, hm⟩ : ∃ m, nameN b.toList = m := ⟨_, rfl⟩
      rw [hm]
      have HM := Lib.hid hm
      clear hm
      cases hemp : b.toList.isEmpty with
      | true =>
        go_wp2
        go_roundw
        case rel =>
          refine ⟨k + 1, bs, by go_num, rfl, by rw [HN.out]; omega, by omega, HO3.out, HB3.out, ?_, HG.out⟩
          rw [HTK.out, keep_snoc, hemp, if_pos rfl, HK.out]
        case measure => simp [intOf]; omega
      | false =>
        by_cases hm0 : m = 0
        · subst hm0
          go_wp2_with fail
          refine (nClone b (by omega) _).mono ?_
          rintro e w4 ⟨rfl, hb4⟩
          have HO4 := Lib.hid (own_below HO3.out hb4)
          have HB4 := Lib.hid (HB3.out.trans (hb4.mono HB3.out.size))
          have hbs := HB4.out.size
          clear hb4
          obtain ⟨wo, rfl⟩ : ∃ wo : World, wo = w4 := ⟨_, rfl⟩
          go_wp2_with (at_builtin; refine wpList_append_row _ rfl (.tmp 31) (.tmp 34) 23 rfl w1.heap.size 9 (.string ByteArray.empty) 16 Tryd.underlying23 infoStr rfl _ bs.length (bs.map Value.string) rfl (HO4.out.alloc _) _ (some ⟨wo.heap.size, 0, none⟩) 1 1 [.string b] rfl (Row.one _ _ _) (by simp [Value.oneCell']) (by unfold maxLen; omega) (by omega) (by simp; omega) ?_; intro v5 w5 hown5 hgr5 hat5; have hb5 : Below w1.heap.size w1 w5 := (HB4.out.alloc hbs _).grown hgr5 (by simp; omega) (own_base HO4.out); have ho5 : w5.ownsRow w1.heap.size 9 1 v5 (bs ++ [b]).length ((bs ++ [b]).map Value.string) := (by rw [List.map_append, List.length_append]; exact hown5); have HO5 := Lib.hid ho5; have HB5 := Lib.hid hb5; clear hown5 hgr5 hat5 hb5 ho5)
          go_roundw
          case rel =>
            refine ⟨k + 1, bs ++ [b], by go_num, rfl, by rw [HN.out]; omega, by rw [List.length_append]; simp; omega, HO5.out, HB5.out, ?_, ?_⟩
            · rw [HTK.out, keep_snoc, hemp, if_neg (by simp), List.map_append, HK.out]; rfl
            · intro p hp
              rw [List.map_append] at hp
              rcases List.mem_append.1 hp with h1 | h1
              · exact HG.out p h1
              · rw [List.mem_singleton.1 h1]; exact HM.out
          case measure => simp [intOf]; omega
        · have hne : (m != 0) = true := by rw [bne_iff_ne]; exact hm0
          have HM0 := Lib.hid hm0
          clear hm0
          go_wp2
          rw [Exit.noGoto_ret]
          go_ret2
          have he : errOf (pieces (s.toList.drop 1)) = m := by
            rw [HPC.out, HALL.out, keep_app, keep_cons, hemp, if_neg (by simp), ← HM.out]
            refine errOf_first ?_ (by rw [HM.out]; exact HM0.out)
            rw [← HK.out]
            exact HG.out
          refine ⟨.slice none 0 0, [], by rw [HE.out, he]; rfl, ?_, ⟨rfl, .inl ⟨rfl, rfl⟩⟩, HB1.out.trans (HB3.out.mono HB1.out.size)⟩
          unfold pathL
          rw [HE.out, he, if_neg HM0.out]; rfl
    · obtain rfl : k = n := by omega
      go_wp2
      rw [Exit.noGoto_ret]
      go_ret2
      have hk2 : bs.map ByteArray.toList = pieces (s.toList.drop 1) := by
        rw [HPC.out, HK.out, ← HN.out, List.take_length]
      have he : errOf (pieces (s.toList.drop 1)) = 0 := by rw [← hk2]; exact errOf_zero HG.out
      refine ⟨_, bs, by rw [HE.out, he]; rfl, ?_, Joins.ownsRow_le HO.out HB1.out.size, HB1.out.trans (HB.out.mono HB1.out.size)⟩
      unfold pathL
      rw [HE.out, he, if_pos rfl]
      exact hk2

theorem nSplitO (s : ByteArray) (hs : s.size ≤ 1000000) (w : World) (hM : MaxW w) : Calls Tryd.prog 7 #[.string s] w (SplitDone s.toList w) := by
  have hsz := size_list s
  by_cases h1 : 120 < s.size
  · have hE : pathE s.toList = 36 := by unfold pathE; rw [hsz, if_pos h1]
    have hd := none_split (w := w) hE (by decide)
    have HD := Lib.hid hd
    have hdec : decide ((120 : Int) < (s.size : Int)) = true := decide_eq_true (by omega)
    clear hd hE hM
    go_enter Tryd.func7, Tryd.ntmps7
    go_wp2_with fail
    go_step3
    go_wp2_with fail
    rw [Exit.noGoto_ret]
    go_ret2
    exact HD.out
  · by_cases hh : s.toList.head? = some 47
    · have hE : pathE s.toList = errOf (pieces (s.toList.drop 1)) := by
        unfold pathE
        rw [hsz, if_neg h1, if_pos hh]
      exact split_loop s w hM (by omega) hh hE
    · have hE : pathE s.toList = 22 := by unfold pathE; rw [hsz, if_neg h1, if_neg hh]
      have hd := none_split (w := w) hE (by decide)
      have HD := Lib.hid hd; have HH := Lib.hid hh
      have hdec : decide ((120 : Int) < (s.size : Int)) = false := decide_eq_false (by omega)
      clear hd hE hh hM
      go_enter Tryd.func7, Tryd.ntmps7
      go_wp2_with fail
      go_step3
      go_wp2_with fail
      refine (Tryd.strings_HasPrefix s ⟨#[47]⟩ _).mono ?_
      rintro e w0 ⟨rfl, rfl⟩
      rw [prefix_one, decide_eq_false HH.out]
      go_wp2_with fail
      rw [Exit.noGoto_ret]
      go_ret2
      exact HD.out
end Go.Proofs.YtblfhohoomkcmaaDoor
