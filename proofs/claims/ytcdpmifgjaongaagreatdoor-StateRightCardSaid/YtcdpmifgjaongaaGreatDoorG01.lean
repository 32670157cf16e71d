import Derived.Test.YtcdpmifgjaongaaGreatDoorG00
import Derived.OwnWalk
import Derived.Laws.Strings2
import Derived.Laws.Concat
import Derived.Test.YtcdpmifgjaongaaGreatDoorLib
import Derived.Laws.RangeAny
import Derived.Laws.Runes
import Derived.ScopeJumps
import Derived.WalkMore
import Derived.Lib.OthersKept
import Derived.Lib.SmallJoins

namespace Go.Proofs.YtcdpmifgjaongaaGreatDoor
open Wd Go.ChangeShapes Go.WideShapes Go.RowKit Go.Sort
set_option linter.unusedVariables false

theorem infoStr : (Tryz.prog.info? 9).map (fun i => (i.zero, i.size, i.bytes)) = some (some (.string ByteArray.empty), 1, 16) := by kernel_rfl
theorem oneS (l : List ByteArray) : ∀ u ∈ l.map Value.string, u.oneCell' = true := by
  intro u hu
  obtain ⟨b, _, rfl⟩ := List.mem_map.1 hu
  rfl
theorem extract_list (s : ByteArray) (f i : Nat) : (s.extract f i).toList = seg s.toList f i := by
  rw [ByteArray.toList_eq, ByteArray.toList_eq]
  unfold seg
  obtain ⟨⟨l⟩⟩ := s
  rw [ByteArray.extract_mk]
theorem get_list (s : ByteArray) (k : Nat) (h : k < s.size) : s.toList[k]? = some s[k] := by
  have hl : k < s.toList.length := by rw [size_list]; exact h
  rw [List.getElem?_eq_getElem hl]
  congr 1
  simp [ByteArray.toList_eq]
  rfl

def SplitRel (s : ByteArray) (W : World) (iv fv o : Value) (w : World) : Prop :=
  ∃ (i f : Nat) (bs : List ByteArray), iv = .int .i64 i ∧ fv = .int .i64 f ∧ i ≤ s.size + 1 ∧ bs.length ≤ i ∧ w.ownsRow W.heap.size 9 1 o bs.length (bs.map Value.string) ∧ Below W.heap.size W w ∧
    (i ≤ s.size → Gone s.toList f i (bs.map ByteArray.toList)) ∧ (s.size < i → bs.map ByteArray.toList = pieces (s.toList.drop 1) ∧ errOf (pieces (s.toList.drop 1)) = 0)
def SplitDone (l : List UInt8) (W : World) (e : Ending) (w : World) : Prop :=
  ∃ (v : Value) (bs : List ByteArray), e = .returned (.tuple #[v, .int .i64 (pathE l)]) ∧ bs.map ByteArray.toList = pathL l ∧ w.ownsRow W.heap.size 9 1 v bs.length (bs.map Value.string) ∧ Below W.heap.size W w

set_option maxHeartbeats 2000000 in
theorem split_good (s : ByteArray) (w : World) (hs : s.size ≤ 120) (h0 : 0 < s.size) (hc : (s[0].toNat : Int) = 47) (hE : pathE s.toList = errOf (pieces (s.toList.drop 1))) :
    Calls Tryz.prog 36 #[.string s] w (SplitDone s.toList w) := by
  have hd : decide ((120 : Int) < (s.size : Int)) = false := decide_eq_false (by omega)
  have hemp : s.toList.isEmpty = false := by
    cases hl : s.toList with
    | nil => have := size_list s; rw [hl] at this; simp at this; omega
    | cons a t => rfl
  have q1 : ((s[0].toNat : Int) != 47) = false := by rw [hc]; rfl
  have HE := Lib.hid hE
  clear hE hc
  go_enter Tryz.func36, Tryz.ntmps36
  go_wp2
  go_loopw [6, 5, 4] (fun i f o wr => SplitRel s w i f o wr) (fun i _ _ _ => s.size + 1 - (intOf i).toNat)
  case atStart => exact ⟨1, 1, [], rfl, rfl, by omega, Nat.zero_le _, ⟨rfl, .inl ⟨rfl, rfl⟩⟩, Below.refl _ _, fun h => Gone.start (by rw [size_list]; exact h), fun h => by omega⟩
  case round =>
    obtain ⟨i, f, bs, rfl, rfl, hi, hbl, hown, hb, hgo, hend⟩ := hrel
    have HO := Lib.hid hown; have HB := Lib.hid hb
    by_cases hle : i ≤ s.size
    · have HG := Lib.hid (hgo hle)
      have hfi := (hgo hle).fi
      clear hown hb hgo hend
      by_cases hlt : i < s.size
      · have hget := get_list s i hlt
        have HGET := Lib.hid hget
        clear hget
        by_cases hc : s[i] = 47
        · have q2 : ((s[i].toNat : Int) != 47) = false := by rw [hc]; rfl
          have HC := Lib.hid hc
          clear hc
          by_cases hf : f < i
          · obtain ⟨m, hm⟩ : ∃ m, nameN (s.extract f i).toList = m := ⟨_, rfl⟩
            have hm' : nameN (seg s.toList f i) = m := by rw [← extract_list]; exact hm
            have HM := Lib.hid hm; have HM2 := Lib.hid hm'
            clear hm hm'
            go_wp2_with fail
            refine (refName_any (s.extract f i) (by rw [ByteArray.size_extract]; omega) _).mono ?_
            rintro e w5 ⟨rfl, rfl⟩
            rw [HM.out]
            by_cases hm0 : m = 0
            · subst hm0
              have hbs := HB.out.size
              obtain ⟨wo, rfl⟩ : ∃ wo : World, wo = wr := ⟨_, rfl⟩
              go_wp2_with (at_builtin; refine wpList_append_row _ rfl (.tmp 45) (.tmp 50) 72 rfl w.heap.size 9 (.string ByteArray.empty) 16 Tryz.underlying72 infoStr rfl _ bs.length (bs.map Value.string) rfl (HO.out.alloc _) _ (some ⟨wo.heap.size, 0, none⟩) 1 1 [.string (s.extract f i)] rfl (Row.one _ _ _) (by simp [Value.oneCell']) (by unfold maxLen; omega) (by omega) (by simp; omega) ?_; intro v5 w5 hown5 hgr5 hat5; have hb5 : Below w.heap.size w w5 := (HB.out.alloc hbs _).grown hgr5 (by simp; omega) (own_base HO.out); have ho5 : w5.ownsRow w.heap.size 9 1 v5 (bs ++ [s.extract f i]).length ((bs ++ [s.extract f i]).map Value.string) := (by rw [List.map_append, List.length_append]; exact hown5); have HO5 := Lib.hid ho5; have HB5 := Lib.hid hb5; clear hown5 hgr5 hat5 hb5 ho5)
              go_roundw
              case rel =>
                refine ⟨i + 1, i + 1, bs ++ [s.extract f i], by go_num, by go_num, by omega, by rw [List.length_append]; simp; omega, HO5.out, HB5.out, ?_, ?_⟩
                · intro _
                  have := HG.out.take hf (by rw [HGET.out, HC.out]) HM2.out
                  rw [List.map_append, List.map_cons, List.map_nil, extract_list]
                  exact this
                · intro h; omega
              case measure => simp [intOf]; omega
            · have hne : (m != 0) = true := by rw [bne_iff_ne]; exact hm0
              have HM0 := Lib.hid hm0
              clear hm0
              go_wp2
              go_ret2
              have he : errOf (pieces (s.toList.drop 1)) = m := by
                have := HG.out.bad hf (.inl (by rw [HGET.out, HC.out])) (by rw [HM2.out]; exact HM0.out)
                rw [this, HM2.out]
              refine ⟨.slice none 0 0, [], ?_, ?_, ⟨rfl, .inl ⟨rfl, rfl⟩⟩, HB.out⟩
              · rw [HE.out, he]; rfl
              · unfold pathL
                rw [HE.out, he, if_neg HM0.out]; rfl
          · obtain rfl : f = i := by omega
            go_wp2
            go_roundw
            case rel =>
              refine ⟨f + 1, f + 1, bs, by go_num, by go_num, by omega, by omega, HO.out, HB.out, ?_, ?_⟩
              · intro _; exact HG.out.skip (by rw [HGET.out, HC.out])
              · intro h; omega
            case measure => simp [intOf]; omega
        · have q2 : ((s[i].toNat : Int) != 47) = true := by
            rw [bne_iff_ne]
            intro h
            have h47 : s[i].toNat = 47 := by omega
            exact hc (UInt8.toNat_inj.1 h47)
          have HC := Lib.hid hc
          clear hc
          go_wp2
          go_roundw
          case rel => exact ⟨i + 1, f, bs, by go_num, rfl, by omega, by omega, HO.out, HB.out, fun _ => HG.out.plain HGET.out HC.out, fun h => by omega⟩
          case measure => simp [intOf]; omega
      · have hin : i = s.size := by omega
        have HIN := Lib.hid hin
        clear hin
        by_cases hf : f < i
        · obtain ⟨m, hm⟩ : ∃ m, nameN (s.extract f i).toList = m := ⟨_, rfl⟩
          have hm' : nameN (seg s.toList f i) = m := by rw [← extract_list]; exact hm
          have HM := Lib.hid hm; have HM2 := Lib.hid hm'
          clear hm hm'
          go_wp2_with fail
          refine (refName_any (s.extract f i) (by rw [ByteArray.size_extract]; omega) _).mono ?_
          rintro e w5 ⟨rfl, rfl⟩
          rw [HM.out]
          by_cases hm0 : m = 0
          · subst hm0
            have hbs := HB.out.size
            obtain ⟨wo, rfl⟩ : ∃ wo : World, wo = wr := ⟨_, rfl⟩
            go_wp2_with (at_builtin; refine wpList_append_row _ rfl (.tmp 45) (.tmp 50) 72 rfl w.heap.size 9 (.string ByteArray.empty) 16 Tryz.underlying72 infoStr rfl _ bs.length (bs.map Value.string) rfl (HO.out.alloc _) _ (some ⟨wo.heap.size, 0, none⟩) 1 1 [.string (s.extract f i)] rfl (Row.one _ _ _) (by simp [Value.oneCell']) (by unfold maxLen; omega) (by omega) (by simp; omega) ?_; intro v5 w5 hown5 hgr5 hat5; have hb5 : Below w.heap.size w w5 := (HB.out.alloc hbs _).grown hgr5 (by simp; omega) (own_base HO.out); have ho5 : w5.ownsRow w.heap.size 9 1 v5 (bs ++ [s.extract f i]).length ((bs ++ [s.extract f i]).map Value.string) := (by rw [List.map_append, List.length_append]; exact hown5); have HO5 := Lib.hid ho5; have HB5 := Lib.hid hb5; clear hown5 hgr5 hat5 hb5 ho5)
            go_roundw
            case rel =>
              refine ⟨i + 1, i + 1, bs ++ [s.extract f i], by go_num, by go_num, by omega, by rw [List.length_append]; simp; omega, HO5.out, HB5.out, ?_, ?_⟩
              · intro h; omega
              · intro _
                have hsz := size_list s
                have hg := HG.out
                have hl := (show Gone s.toList f s.toList.length (bs.map ByteArray.toList) by rw [hsz, ← HIN.out]; exact hg).last (fun _ => by rw [hsz, ← HIN.out]; exact HM2.out)
                rw [hsz, ← HIN.out, if_pos hf] at hl
                rw [List.map_append, List.map_cons, List.map_nil, extract_list]
                exact hl
            case measure => simp [intOf]; omega
          · have hne : (m != 0) = true := by rw [bne_iff_ne]; exact hm0
            have HM0 := Lib.hid hm0
            clear hm0
            go_wp2
            go_ret2
            have he : errOf (pieces (s.toList.drop 1)) = m := by
              have := HG.out.bad hf (.inr (by rw [size_list]; exact HIN.out)) (by rw [HM2.out]; exact HM0.out)
              rw [this, HM2.out]
            refine ⟨.slice none 0 0, [], ?_, ?_, ⟨rfl, .inl ⟨rfl, rfl⟩⟩, HB.out⟩
            · rw [HE.out, he]; rfl
            · unfold pathL
              rw [HE.out, he, if_neg HM0.out]; rfl
        · obtain rfl : f = i := by omega
          go_wp2
          go_roundw
          case rel =>
            refine ⟨f + 1, f + 1, bs, by go_num, by go_num, by omega, by omega, HO.out, HB.out, ?_, ?_⟩
            · intro h; omega
            · intro _
              have hsz := size_list s
              have hg := HG.out
              have hl := (show Gone s.toList f s.toList.length (bs.map ByteArray.toList) by rw [hsz, ← HIN.out]; exact hg).last (fun h => by have := HIN.out; omega)
              rw [hsz, if_neg (by have := HIN.out; omega)] at hl
              exact hl
          case measure => simp [intOf]; omega
    · have HEND := Lib.hid (hend (by omega))
      clear hown hb hgo hend
      go_wp2
      go_ret2
      refine ⟨_, bs, ?_, ?_, HO.out, HB.out⟩
      · rw [HE.out, HEND.out.2]; rfl
      · unfold pathL; rw [HE.out, HEND.out.2, if_pos rfl]; exact HEND.out.1
end Go.Proofs.YtcdpmifgjaongaaGreatDoor

namespace Go.Proofs.YtcdpmifgjaongaaGreatDoor
open Wd Go.ChangeShapes Go.WideShapes Go.RowKit Go.Sort
set_option linter.unusedVariables false

theorem none_split {s : ByteArray} {v : Int} {w : World} (h : pathE s.toList = v) (hv : v ≠ 0) : SplitDone s.toList w (.returned (.tuple #[.slice none 0 0, .int .i64 v])) w := by
  refine ⟨.slice none 0 0, [], by rw [h], ?_, ⟨rfl, .inl ⟨rfl, rfl⟩⟩, Below.refl _ _⟩
  unfold pathL
  rw [h, if_neg hv]; rfl

theorem refSplit_any (s : ByteArray) (w : World) (hs : s.size ≤ 1000) : Calls Tryz.prog 36 #[.string s] w (SplitDone s.toList w) := by
  have hsz := size_list s
  by_cases h1 : 120 < s.size
  · have hE : pathE s.toList = 36 := by unfold pathE; rw [hsz, if_pos h1]
    have hd := none_split (w := w) hE (by decide)
    have HD := Lib.hid hd
    have hdec : decide ((120 : Int) < (s.size : Int)) = true := decide_eq_true (by omega)
    clear hd hE
    go_enter Tryz.func36, Tryz.ntmps36
    go_wp2
    go_ret2
    exact HD.out
  · have hdec : decide ((120 : Int) < (s.size : Int)) = false := decide_eq_false (by omega)
    by_cases h0 : 0 < s.size
    · have hget := get_list s 0 h0
      have hhead : s.toList.head? = some s[0] := by rw [List.head?_eq_getElem?]; exact hget
      by_cases hc : s[0] = 47
      · have hE : pathE s.toList = errOf (pieces (s.toList.drop 1)) := by
          unfold pathE
          rw [hsz, if_neg h1, hhead, hc, if_pos rfl]
        exact split_good s w (by omega) h0 (by rw [hc]; rfl) hE
      · have hE : pathE s.toList = 22 := by
          unfold pathE
          rw [hsz, if_neg h1, hhead, if_neg (by intro h; exact hc (Option.some.inj h))]
        have hd := none_split (w := w) hE (by decide)
        have HD := Lib.hid hd
        have hemp : s.toList.isEmpty = false := by
          cases hl : s.toList with
          | nil => rw [hl] at hsz; simp at hsz; omega
          | cons a t => rfl
        have q1 : ((s[0].toNat : Int) != 47) = true := by
          rw [bne_iff_ne]
          intro h
          have h47 : s[0].toNat = 47 := by omega
          exact hc (UInt8.toNat_inj.1 h47)
        clear hd hE hget hhead hc hsz h1
        go_enter Tryz.func36, Tryz.ntmps36
        go_wp2
        go_ret2
        exact HD.out
    · have hl : s.toList = [] := List.eq_nil_of_length_eq_zero (by omega)
      have hE : pathE s.toList = 22 := by unfold pathE; rw [hl]; rfl
      have hd := none_split (w := w) hE (by decide)
      have HD := Lib.hid hd
      have hemp : s.toList.isEmpty = true := by rw [hl]; rfl
      clear hd hE hl hsz h1
      go_enter Tryz.func36, Tryz.ntmps36
      go_wp2
      go_ret2
      exact HD.out

def AlikeS (xs ys : List ByteArray) (W : World) (i : Value) (w : World) : Prop := ∃ k d : Nat, k ≤ xs.length ∧ i = .int .i64 k ∧ xs.take k = ys.take k ∧ w = W.drewN d

theorem tolist_inj {a b : ByteArray} (h : a.toList = b.toList) : a = b := by
  rw [ByteArray.toList_eq, ByteArray.toList_eq] at h
  cases a with | mk x => cases b with | mk y => exact congrArg ByteArray.mk (Array.toList_inj.1 h)
theorem take_one' {α : Type} {l : List α} {k : Nat} {x : α} (h : l[k]? = some x) : l.take (k + 1) = l.take k ++ [x] := by
  rw [List.take_add_one, h]; rfl

end Go.Proofs.YtcdpmifgjaongaaGreatDoor

namespace Go.Proofs.YtcdpmifgjaongaaGreatDoor
open Wd Go.ChangeShapes Go.WideShapes Go.RowKit Go.Sort
set_option linter.unusedVariables false

/-- a slash ahead of each -/
def slashed (l : List (List UInt8)) : List UInt8 := l.flatMap (fun p => 47 :: p)
def joinN (l : List (List UInt8)) : List UInt8 := if l = [] then [47] else slashed l
theorem slashed_snoc (l : List (List UInt8)) (p : List UInt8) : slashed (l ++ [p]) = slashed l ++ 47 :: p := by
  unfold slashed; rw [List.flatMap_append]; simp
theorem slashed_le (l : List (List UInt8)) (k : Nat) : (slashed (l.take k)).length ≤ (slashed l).length := by
  have h := List.take_append_drop k l
  have e : slashed l = slashed (l.take k) ++ slashed (l.drop k) := by
    unfold slashed
    rw [← List.flatMap_append, h]
  rw [e, List.length_append]; omega

def JoinRel (ls : List ByteArray) (W : World) (iv sv : Value) (w : World) : Prop := ∃ (k : Nat) (b : ByteArray), k ≤ ls.length ∧ iv = .int .i64 k ∧ sv = .string b ∧ b.toList = slashed ((ls.map ByteArray.toList).take k) ∧ w = W
def TextIs (l : List UInt8) (W : World) (e : Ending) (w : World) : Prop := ∃ b : ByteArray, e = .returned (.string b) ∧ b.toList = l ∧ W = w
theorem append_list (a b : ByteArray) : (a ++ b).toList = a.toList ++ b.toList := by
  rw [ByteArray.toList_eq, ByteArray.toList_eq, ByteArray.toList_eq]; simp

theorem empty_list : ByteArray.empty.toList = [] := by rw [ByteArray.toList_eq]; rfl
theorem slash_list : (ByteArray.mk #[47]).toList = [47] := by rw [ByteArray.toList_eq]

end Go.Proofs.YtcdpmifgjaongaaGreatDoor

namespace Go.Proofs.YtcdpmifgjaongaaGreatDoor
set_option linter.unusedVariables false

theorem good_name {p : List UInt8} (h : nameN p = 0) : p ≠ [] ∧ (47 : UInt8) ∉ p := by
  unfold nameN at h
  by_cases h1 : p = [] ∨ p = [46] ∨ p = [46, 46]
  · rw [if_pos h1] at h; cases h
  · rw [if_neg h1] at h
    refine ⟨fun e => h1 (.inl e), fun hm => ?_⟩
    unfold plainN at h
    rw [if_pos (List.any_eq_true.2 ⟨47, hm, rfl⟩)] at h
    cases h
theorem cut_end {p : List UInt8} (h : (47 : UInt8) ∉ p) : ∀ acc, cutS p acc = [acc ++ p] := by
  induction p with
  | nil => intro acc; simp [cutS]
  | cons c t ih =>
    intro acc
    have hc : c ≠ 47 := by rintro rfl; exact h (by simp)
    unfold cutS
    rw [if_neg hc, ih (fun hm => h (by simp [hm]))]
    simp
theorem cut_on {p : List UInt8} (h : (47 : UInt8) ∉ p) (r : List UInt8) : ∀ acc, cutS (p ++ 47 :: r) acc = (acc ++ p) :: cutS r [] := by
  induction p with
  | nil => intro acc; simp [cutS]
  | cons c t ih =>
    intro acc
    have hc : c ≠ 47 := by rintro rfl; exact h (by simp)
    show cutS (c :: (t ++ 47 :: r)) acc = _
    conv => lhs; unfold cutS
    rw [if_neg hc, ih (fun hm => h (by simp [hm]))]
    simp
theorem slashed_cons (p : List UInt8) (ls : List (List UInt8)) : slashed (p :: ls) = 47 :: (p ++ slashed ls) := by unfold slashed; simp
theorem pieces_join {ls : List (List UInt8)} (h : ∀ p ∈ ls, nameN p = 0) (hne : ls ≠ []) : pieces ((slashed ls).drop 1) = ls := by
  induction ls with
  | nil => exact absurd rfl hne
  | cons p ls ih =>
    obtain ⟨h1, h2⟩ := good_name (h p (by simp))
    have hpe : p.isEmpty = false := by cases p with | nil => exact absurd rfl h1 | cons a t => rfl
    rw [slashed_cons, List.drop_one, List.tail_cons]
    unfold pieces
    cases hls : ls with
    | nil =>
      rw [show slashed [] = [] from rfl, List.append_nil, cut_end h2, List.nil_append, keep_cons, hpe]
      rfl
    | cons q qs =>
      have ih' := ih (fun r hr => h r (by simp [hr])) (by rw [hls]; simp)
      rw [hls, slashed_cons, List.drop_one, List.tail_cons] at ih'
      rw [slashed_cons, cut_on h2, List.nil_append, keep_cons, hpe]
      show p :: keepS (cutS (q ++ slashed qs) []) = _
      unfold pieces at ih'
      rw [ih']
/-- the path of good names, split again -/
theorem path_join {ls : List (List UInt8)} (h : ∀ p ∈ ls, nameN p = 0) : pathE (joinN ls) = (if 120 < (joinN ls).length then 36 else 0) ∧ pathL (joinN ls) = (if 120 < (joinN ls).length then [] else ls) := by
  have hp : (joinN ls).head? = some 47 ∧ pieces ((joinN ls).drop 1) = ls := by
    unfold joinN
    by_cases hne : ls = []
    · rw [if_pos hne, hne]; exact ⟨rfl, rfl⟩
    · rw [if_neg hne]
      refine ⟨?_, pieces_join h hne⟩
      cases ls with
      | nil => exact absurd rfl hne
      | cons p ls => rw [slashed_cons]; rfl
  have hE : pathE (joinN ls) = if 120 < (joinN ls).length then 36 else 0 := by
    unfold pathE
    rw [if_pos hp.1, hp.2, errOf_zero h]
  refine ⟨hE, ?_⟩
  unfold pathL
  rw [hE, hp.2]
  by_cases h120 : 120 < (joinN ls).length
  · rw [if_pos h120, if_pos h120, if_neg (by decide)]
  · rw [if_neg h120, if_neg h120, if_pos rfl]
end Go.Proofs.YtcdpmifgjaongaaGreatDoor

/-
  strings.IndexRune AT A RUNE THAT IS NOT ASCII, IN A TEXT THAT IS ASCII: it is not there.
-/
namespace Go.Proofs.YtcdpmifgjaongaaGreatDoor
open Wd Go.ChangeShapes Go.WideShapes Go.RowKit Go.Sort
set_option linter.unusedVariables false

def Ascii (s : ByteArray) : Prop := ∀ (j : Nat) b, s.data.toList[j]? = some b → b.toNat < 128

set_option maxRecDepth 100000 in
set_option maxHeartbeats 4000000 in
/-- the rune that stands for none: chars is gone through -/
theorem rune_err (s : ByteArray) (hs : Ascii s) (w : World) : Calls Tryz.prog 150 #[.string s, .int .i32 65533] w (Grows (.int .i64 (-1)) w) := by
  have HS := Lib.hid hs
  clear hs
  go_enter Tryz.func150, Tryz.ntmps150
  go_wp2_with fail
  go_loopg [5, 6] s.size (fun g _ _ wx => ∃ i : Nat, i + g = s.size ∧ wx = w.iter s i)
  case atStart => exact ⟨0, by omega, rfl⟩
  case round =>
    obtain ⟨i, hig, rfl⟩ := hrel
    cases gk with
    | zero =>
      obtain rfl : i = s.size := by omega
      have hnx := fun ty => run_next_end (P := Tryz.prog) w s s.size ty (by omega)
      go_wp2
      go_ret
      exact ⟨rfl, grow_one w _⟩
    | succ g =>
      have hi : i < s.size := by omega
      obtain ⟨x, hx⟩ : ∃ x : UInt8, s[i]'hi = x := ⟨_, rfl⟩
      have hxl : s.data.toList[i]? = some x := by rw [← hx]; exact Lib.data_getElem? s i hi
      have hx128 : x.toNat < 128 := HS.out i x hxl
      have hnx := fun ty => run_next_ascii (P := Tryz.prog) w s i ty hi (by rw [hx]; exact hx128)
      rw [hx] at hnx
      have hne : ((x.toNat : Int) == 65533) = false := beq_eq_false_iff_ne.2 (by omega)
      clear hxl hx
      go_wp2
      go_roundg g
      case measure => omega
      case rel => exact ⟨i + 1, by omega, rfl⟩

set_option maxRecDepth 100000 in
set_option maxHeartbeats 4000000 in
/-- a rune that is none -/
theorem rune_bad (s : ByteArray) (r : Int) (h128 : 128 ≤ r) (hne : r ≠ 65533) (hv : Lib.validRune r = false) (w : World) : Calls Tryz.prog 150 #[.string s, .int .i32 r] w (Grows (.int .i64 (-1)) w) := by
  have h1 : ¬ r < 128 := by omega
  have h2 : (r == 65533) = false := beq_eq_false_iff_ne.2 hne
  have HV := Lib.hid hv
  clear hv
  go_enter Tryz.func150, Tryz.ntmps150
  go_wp2_with fail
  refine (Tryz.utf8_ValidRune _ _).mono ?_
  rintro e w1 ⟨rfl, rfl⟩
  rw [HV.out]
  go_wp2
  go_ret
  exact ⟨rfl, grow_none _⟩

/-- a byte that is not ASCII is none of an ASCII text's -/
theorem index_none (l : List UInt8) (c : UInt8) (h : ∀ b ∈ l, b ≠ c) : Lib.indexByte l c = -1 := by
  induction l with
  | nil => rfl
  | cons b l ih =>
    have hb : (b == c) = false := beq_eq_false_iff_ne.2 (h b (by simp))
    rw [Lib.indexByte, ih (fun x hx => h x (by simp [hx])), hb]
    rfl
theorem index_far (s : ByteArray) (hs : Ascii s) (f t : Nat) (y : UInt8) (hy : 128 ≤ y.toNat) (w : World) : Calls Tryz.prog 169 #[.string (s.extract f t), .int .u8 y.toNat] w fun e w' => e = .returned (.int .i64 (-1)) ∧ w = w' := by
  refine (Tryz.strings_IndexByte _ _ _).mono ?_
  rintro e w1 ⟨rfl, rfl⟩
  refine ⟨?_, rfl⟩
  rw [index_none]
  intro b hb e
  have h1 : b ∈ s.data.toList := mem_extract hb
  obtain ⟨j, hj, hjb⟩ := List.getElem_of_mem h1
  have h2 := hs j b (by rw [List.getElem?_eq_getElem hj, hjb])
  have e2 : ((y.toNat : Int)).toNat.toUInt8 = y := by simp
  rw [e2] at e
  rw [e] at h2
  omega

set_option maxRecDepth 100000 in
set_option maxHeartbeats 4000000 in
/-- any other rune: its last byte is none of s -/
theorem rune_far (s : ByteArray) (hs : Ascii s) (r : Int) (h128 : 128 ≤ r) (hne : r ≠ 65533) (hv : Lib.validRune r = true) (w : World) : Calls Tryz.prog 150 #[.string s, .int .i32 r] w (Grows (.int .i64 (-1)) w) := by
  have h1 : ¬ r < 128 := by omega
  have h2 : (r == 65533) = false := beq_eq_false_iff_ne.2 hne
  obtain ⟨e1, e2, e3⟩ := encode_facts r (by rw [validRune_eq]; exact hv) h128
  obtain ⟨rs, hrs⟩ : ∃ rs, Utf8.encode r = rs := ⟨_, rfl⟩
  rw [hrs] at e1 e2 e3
  obtain ⟨m, hm⟩ : ∃ m : Nat, rs.size = m + 1 := ⟨rs.size - 1, by omega⟩
  have HV := Lib.hid hv; have HS := Lib.hid hs
  clear hv hs
  go_enter Tryz.func150, Tryz.ntmps150
  go_wp2_with fail
  refine (Tryz.utf8_ValidRune _ _).mono ?_
  rintro e w1 ⟨rfl, rfl⟩
  rw [HV.out]
  go_wp2
  go_step3
  go_wp2
  have em : ∀ h : m < rs.size, 128 ≤ (rs[m]'h).toNat := fun h => by
    have := e3 (by omega)
    simpa [hm] using this
  have EM := Lib.hid em
  clear e3 em
  go_loopw [9, 10] (fun s9 _ wx => s9 = .int .i64 m ∧ wx = w1) (fun _ _ _ => 0)
  case atStart => exact ⟨rfl, rfl⟩
  case round =>
    obtain ⟨rfl, rfl⟩ := hrel
    by_cases hlt : m < s.size
    · obtain ⟨x, hx⟩ : ∃ x : UInt8, s[m]'hlt = x := ⟨_, rfl⟩
      obtain ⟨y, hy⟩ : ∃ y : UInt8, rs[m]'(by omega) = y := ⟨_, rfl⟩
      have hx1 : x.toNat < 128 := HS.out m x (by rw [← hx]; exact Lib.data_getElem? s m hlt)
      have hy1 : 128 ≤ y.toNat := by rw [← hy]; exact EM.out _
      have hxy : ((x.toNat : Int) != (y.toNat : Int)) = true := by rw [bne_iff_ne]; omega
      go_wp2
      go_step3
      go_wp2
      go_quiet (skip)
      go_wp2
      go_quiet ((go_at_call 169; exact quiet_eq2 (index_far s HS.out (m + 1) s.size y hy1 _)))
      go_wp2
      go_ret
      exact ⟨rfl, grow_drewN (grow_none _) _⟩
    · go_wp2
      go_ret
      exact ⟨rfl, grow_none _⟩
end Go.Proofs.YtcdpmifgjaongaaGreatDoor

/-
  strings.ContainsAny OF WHATEVER TEXT, FOR SOME ASCII BYTES: whether one of its bytes is among them.
-/
namespace Go.Proofs.YtcdpmifgjaongaaGreatDoor
open Wd Go.ChangeShapes Go.WideShapes Go.RowKit Go.Sort
set_option linter.unusedVariables false

/-- a rune above 127 is none of an ASCII text's -/
theorem rune_any (s : ByteArray) (hs : Ascii s) (r : Int) (h128 : 128 ≤ r) (w : World) : Calls Tryz.prog 150 #[.string s, .int .i32 r] w (Grows (.int .i64 (-1)) w) := by
  by_cases hne : r = 65533
  · subst hne; exact rune_err s hs w
  · cases hv : Lib.validRune r with
    | false => exact rune_bad s r h128 hne hv w
    | true => exact rune_far s hs r h128 hne hv w

/-- all bytes of a rune that is not ASCII are not -/
theorem decode_cont (s : ByteArray) (pos : Nat) (h : pos < s.size) (ha : 128 ≤ (s[pos]'h).toNat) (j : Nat) : j < (Utf8.decode s pos).2 → pos + j < s.size ∧ 128 ≤ (s.get! (pos + j)).toNat := by
  have hn : ¬ (s[pos]'h).toNat < 128 := by omega
  have h0 : 128 ≤ (s.get! (pos + 0)).toNat := by rw [get_at s pos h]; exact ha
  simp only [Utf8.decode, get_at s pos h, hn, if_false]
  repeat' split
  all_goals
    intro hj
    have hj' : j = 0 ∨ j = 1 ∨ j = 2 ∨ j = 3 := by simp at hj; omega
    rcases hj' with rfl | rfl | rfl | rfl <;> simp_all <;> omega

theorem noany_far {s : ByteArray} {cs : List UInt8} {i : Nat} (hc : ∀ b ∈ cs, b.toNat < 128) (h : Lib.NoAny s.data.toList cs i) (d : Nat) (hd : ∀ j, j < d → 128 ≤ (s.get! (i + j)).toNat) : Lib.NoAny s.data.toList cs (i + d) := by
  intro j b hj hb
  by_cases hji : j < i
  · exact h j b hji hb
  · have h1 := hd (j - i) (by omega)
    rw [show i + (j - i) = j by omega] at h1
    have hjs : j < s.size := by have := (List.getElem?_eq_some_iff.1 hb).1; rw [Lib.size_eq]; exact this
    have h2 : s.get! j = b := by
      have h3 := Lib.data_getElem? s j hjs
      rw [hb] at h3
      have h4 := Option.some.inj h3
      rw [h4]
      have := get_at s j hjs
      simpa using this
    rw [h2] at h1
    rw [Bool.eq_false_iff, Ne, List.contains_iff_mem]
    intro hm
    have := hc b hm
    omega

/-- the iterator stands in the first block that was made -/
def ItAt (s : ByteArray) (i : Nat) (w wx : World) : Prop := wx.heap[w.heap.size]? = some (.stringIter s i) ∧ ∃ q os, wx = grow (w.drewN q) os
theorem ItAt.first (s : ByteArray) (w : World) : ItAt s 0 w (w.iter s 0) := ⟨w.iter_heap s 0, grow_one w _⟩
theorem ItAt.set {s : ByteArray} {i : Nat} {w wx : World} (h : ItAt s i w wx) (i' : Nat) : ItAt s i' w (wx.iterAt w.heap.size s i') := by
  refine ⟨Lib.iterAt_heap wx _ s i i' h.1, ?_⟩
  obtain ⟨q, os, rfl⟩ := h.2
  refine ⟨q, os.setIfInBounds 0 (.stringIter s i'), ?_⟩
  unfold World.iterAt grow
  congr 1
  apply Array.ext_getElem?
  intro k
  show ((w.heap ++ os).setIfInBounds w.heap.size _)[k]? = (w.heap ++ os.setIfInBounds 0 _)[k]?
  rw [Array.getElem?_setIfInBounds, Array.getElem?_append, Array.getElem?_append, Array.getElem?_setIfInBounds]
  by_cases hk : k < w.heap.size
  · rw [if_pos hk, if_pos hk, if_neg (by omega)]
  · rw [if_neg hk, if_neg hk]
    by_cases hk2 : w.heap.size = k
    · subst hk2; simp
    · rw [if_neg hk2, if_neg (by omega)]
theorem ItAt.more {s : ByteArray} {i : Nat} {w wx wy : World} (h : ItAt s i w wx) (hg : ∃ q os, wy = grow (wx.drewN q) os) : ItAt s i w wy := by
  refine ⟨?_, grow_trans h.2 hg⟩
  obtain ⟨q, os, rfl⟩ := hg
  have hlt : w.heap.size < wx.heap.size := (Array.getElem?_eq_some_iff.1 h.1).1
  exact (heap_grow_old (wx.drewN q) os hlt).trans h.1

set_option maxRecDepth 100000 in
set_option maxHeartbeats 8000000 in
theorem any_short (s chars : ByteArray) (hc : Ascii chars) (h2 : 2 ≤ chars.size) (h8 : s.size ≤ 8) (w : World) :
    Calls Tryz.prog 129 #[.string s, .string chars] w (Grows (.int .i64 (Lib.indexAny s.data.toList chars.data.toList)) w) := by
  have hemp : chars.toList.isEmpty = false := by
    rw [Lib.toList_data]
    cases h : chars.data.toList with
    | nil => have := Lib.size_eq chars; rw [h, List.length_nil] at this; omega
    | cons _ _ => rfl
  have hn1 : ((chars.size : Int) == 1) = false := beq_eq_false_iff_ne.2 (by omega)
  have h8z : decide ((8 : Int) < (s.size : Int)) = false := decide_eq_false (by omega)
  have HC := Lib.hid hc
  have hmem : ∀ b ∈ chars.data.toList, b.toNat < 128 := by
    intro b hb
    obtain ⟨j, hj, rfl⟩ := List.getElem_of_mem hb
    exact hc j _ (List.getElem?_eq_getElem hj)
  have HM := Lib.hid hmem
  clear hc hmem
  go_enter Tryz.func129, Tryz.ntmps129
  go_wp2_with (go_at_call 151; refine (Tryz.strings_shouldUseASCIISet _ _).mono ?_; rintro e w' ⟨rfl, hw⟩; rw [hw, h8z])
  go_loopg [9, 10] s.size (fun g _ _ wx => ∃ i : Nat, i ≤ s.size ∧ s.size ≤ i + g ∧ ItAt s i w wx ∧ Lib.NoAny s.data.toList chars.data.toList i)
  case atStart => exact ⟨0, by omega, by omega, ItAt.first s w, Lib.NoAny.zero _ _⟩
  case round =>
    obtain ⟨i, hi1, hi2, hit, hno⟩ := hrel
    have HN := Lib.hid hno
    clear hno
    have hkk := hit.1
    have HIT := Lib.hid hit
    clear hit
    by_cases hi : i < s.size
    · cases gk with
      | zero => exfalso; omega
      | succ g =>
        by_cases hx128 : (s[i]'hi).toNat < 128
        · obtain ⟨x, hx⟩ : ∃ x : UInt8, s[i]'hi = x := ⟨_, rfl⟩
          have hxl : s.data.toList[i]? = some x := by rw [← hx]; exact Lib.data_getElem? s i hi
          have hnx := fun ty => Lib.run_next_ascii_at (P := Tryz.prog) wr w.heap.size s i ty hkk hi hx128
          rw [hx] at hnx hx128
          have HX := Lib.hid hxl
          have HW := Lib.hid (HIT.out.set (i + 1))
          obtain ⟨wy, hwy⟩ : ∃ wy, wr.iterAt w.heap.size s (i + 1) = wy := ⟨_, rfl⟩
          rw [hwy] at HW
          have hcon := Lib.contains_iff_indexByte chars.data.toList x
          have hback : ((x.toNat : Int)).toNat.toUInt8 = x := by simp
          clear hxl hx hkk
          cases hin : chars.data.toList.contains x
          · rw [hin] at hcon
            have hlt : ¬ ((0 : Int) ≤ Lib.indexByte chars.data.toList x) := of_decide_eq_false hcon.symm
            clear hcon
            go_wp2_with (go_at_call 150; refine (Tryz.strings_IndexRune_ascii _ _ _ (by omega) (by omega)).mono ?_; rintro e w' ⟨rfl, hw⟩; rw [hw, hback])
            go_roundg g
            case measure => omega
            case rel => exact ⟨i + 1, by omega, by omega, by first | exact HW.out | exact HIT.out.set (i + 1), HN.out.succ HX.out hin⟩
          · rw [hin] at hcon
            have hge : (0 : Int) ≤ Lib.indexByte chars.data.toList x := of_decide_eq_true hcon.symm
            clear hcon
            go_wp2_with (go_at_call 150; refine (Tryz.strings_IndexRune_ascii _ _ _ (by omega) (by omega)).mono ?_; rintro e w' ⟨rfl, hw⟩; rw [hw, hback])
            go_ret
            exact ⟨by rw [Lib.indexAny_hit HN.out HX.out hin]; rfl, by first | exact HW.out.2 | exact (HIT.out.set (i + 1)).2⟩
        · have hx' : 128 ≤ (s[i]'hi).toNat := by omega
          obtain ⟨hr1, hr2⟩ := decode_high s i hi hx'
          have hle := decode_le s i
          have hct := decode_cont s i hi hx'
          have hnx := fun ty => Lib.run_next_any_at (P := Tryz.prog) wr w.heap.size s i ty hkk hi
          obtain ⟨r, hr⟩ : ∃ r, (Utf8.decode s i).1 = r := ⟨_, rfl⟩
          obtain ⟨d, hd⟩ : ∃ d, (Utf8.decode s i).2 = d := ⟨_, rfl⟩
          rw [hr, hd] at hnx
          rw [hr] at hr1 hle
          rw [hd] at hr2 hct
          have hid : i + d ≤ s.size := by have := (hct (d - 1) (by omega)).1; omega
          have hnn := noany_far HM.out HN.out d (fun j hj => (hct j hj).2)
          have HNN := Lib.hid hnn
          clear hkk hr hd hct hnn
          go_wp2_with fail
          refine (rune_any chars HC.out (r : Int) (by omega) _).mono ?_
          rintro e w' ⟨rfl, hw⟩
          have HW := Lib.hid (ItAt.more (HIT.out.set (i + d)) hw)
          clear hw
          go_wp2
          go_roundg g
          case measure => omega
          case rel => exact ⟨i + d, by omega, by omega, HW.out, HNN.out⟩
    · have hnx := fun ty => Lib.run_next_end_at (P := Tryz.prog) wr w.heap.size s i ty hkk hi
      obtain rfl : i = s.size := by omega
      go_wp2
      go_ret
      exact ⟨by rw [Lib.indexAny_none (by rw [← Lib.size_eq]; exact HN.out)]; rfl, HIT.out.2⟩

theorem any_any (s chars : ByteArray) (hc : Ascii chars) (h2 : 2 ≤ chars.size) (hcs : chars.size < 4294967281) (hs : s.size < 4294967281) (w : World) :
    Calls Tryz.prog 129 #[.string s, .string chars] w (Grows (.int .i64 (Lib.indexAny s.data.toList chars.data.toList)) w) := by
  by_cases h8 : s.size ≤ 8
  · exact any_short s chars hc h2 h8 w
  · refine (Tryz.strings_IndexAny_long (zero_of_info (n := 256) (by kernel_rfl)).1 s chars w h2 (by omega) hs hcs hc).mono ?_
    rintro e w' ⟨rfl, rfl⟩
    exact ⟨rfl, grow_alloc (grow_one w _) _⟩

set_option maxRecDepth 100000 in
theorem contains_any (s chars : ByteArray) (hc : Ascii chars) (h2 : 2 ≤ chars.size) (hcs : chars.size < 4294967281) (hs : s.size < 4294967281) (w : World) :
    Calls Tryz.prog 101 #[.string s, .string chars] w (Grows (.bool (Lib.containsAny s.data.toList chars.data.toList)) w) := by
  go_enter Tryz.func101, Tryz.ntmps101
  go_wp2_with fail
  refine (any_any s chars hc h2 hcs hs _).mono ?_
  rintro e w' ⟨rfl, hw⟩
  go_wp2
  go_ret
  exact ⟨rfl, hw⟩

theorem any_iff (l : List UInt8) : Lib.containsAny l [47, 0] = l.any badC := by
  have hcon : ∀ c : UInt8, ([47, 0] : List UInt8).contains c = badC c := fun c => by rw [List.contains_cons, List.contains_cons, List.contains_nil, Bool.or_false]; rfl
  unfold Lib.containsAny
  induction l with
  | nil => rfl
  | cons c l ih =>
    rw [List.any_cons, ← ih, Lib.indexAny, hcon]
    have hge := Lib.indexAny_ge [47, 0] l
    cases badC c with
    | true => rfl
    | false =>
      rw [Bool.false_or]
      by_cases hm : Lib.indexAny l [47, 0] = -1
      · rw [hm]; simp
      · rw [if_neg (by simp), if_neg (by simpa using hm)]
        exact decide_eq_decide.2 (by omega)
theorem slash_nul : Ascii ⟨#[47, 0]⟩ := by
  intro j b hb
  match j, hb with
  | 0, hb => cases hb; decide
  | 1, hb => cases hb; decide
  | k + 2, hb => simp at hb
theorem contains_bad (s : ByteArray) (hs : s.size ≤ 1000000) (w : World) : Calls Tryz.prog 101 #[.string s, .string ⟨#[47, 0]⟩] w (Grows (.bool (s.toList.any badC)) w) := by
  have h := contains_any s ⟨#[47, 0]⟩ slash_nul (by decide) (by decide) (by omega) w
  rw [show (⟨#[47, 0]⟩ : ByteArray).data.toList = [47, 0] from rfl, any_iff, ← Lib.toList_data] at h
  exact h
end Go.Proofs.YtcdpmifgjaongaaGreatDoor

/-
  The project's own Check of a name, and strings.Clone.
-/
namespace Go.Proofs.YtcdpmifgjaongaaGreatDoor
open Wd Go.ChangeShapes Go.WideShapes Go.RowKit Go.Sort
set_option linter.unusedVariables false

set_option maxHeartbeats 1000000 in
theorem check_odd (s : ByteArray) (w : World) (h : s.toList = [] ∨ s.toList = [46] ∨ s.toList = [46, 46]) : Calls Tryz.prog 62 #[.string s] w (Grows (.int .i64 22) w) := by
  rcases h with h | h | h
  · have h1 : s.toList.isEmpty = true := by rw [h]; rfl
    go_enter Tryz.func62, Tryz.ntmps62
    go_wp2_with fail
    go_ret
    exact ⟨rfl, grow_none _⟩
  · have h1 : s.toList.isEmpty = false := by rw [h]; rfl
    have h2 : (s.toList == [46]) = true := by rw [h]; rfl
    clear h
    go_enter Tryz.func62, Tryz.ntmps62
    go_wp2_with fail
    go_ret
    exact ⟨rfl, grow_none _⟩
  · have h1 : s.toList.isEmpty = false := by rw [h]; rfl
    have h2 : (s.toList == [46]) = false := by rw [h]; rfl
    have h3 : (s.toList == [46, 46]) = true := by rw [h]; rfl
    clear h
    go_enter Tryz.func62, Tryz.ntmps62
    go_wp2_with fail
    go_ret
    exact ⟨rfl, grow_none _⟩

set_option maxHeartbeats 1000000 in
theorem check_plain (s : ByteArray) (hs : s.size ≤ 1000) (h1 : s.toList.isEmpty = false) (h2 : (s.toList == [46]) = false) (h3 : (s.toList == [46, 46]) = false) (w : World) : Calls Tryz.prog 62 #[.string s] w (Grows (.int .i64 (plainN s.toList)) w) := by
  have hp : plainN s.toList = if s.toList.any badC then 22 else if 24 < s.size then 36 else 0 := by unfold plainN; rw [size_list]
  obtain ⟨b, hb⟩ : ∃ b, s.toList.any badC = b := ⟨_, rfl⟩
  rw [hb] at hp
  have HP := Lib.hid hp; have HB := Lib.hid hb
  clear hp hb
  go_enter Tryz.func62, Tryz.ntmps62
  go_wp2_with fail
  refine (contains_bad s (by omega) _).mono ?_
  rintro e w1 ⟨rfl, hw⟩
  rw [HB.out]
  cases b with
  | true =>
    go_wp2
    go_ret
    exact ⟨by rw [HP.out]; rfl, hw⟩
  | false =>
    by_cases h24 : 24 < s.size
    · have hd : decide ((24 : Int) < (s.size : Int)) = true := decide_eq_true (by omega)
      go_wp2
      go_ret
      exact ⟨by rw [HP.out, if_neg (by simp), if_pos h24]; rfl, hw⟩
    · have hd : decide ((24 : Int) < (s.size : Int)) = false := decide_eq_false (by omega)
      go_wp2
      go_ret
      exact ⟨by rw [HP.out, if_neg (by simp), if_neg h24]; rfl, hw⟩

theorem nCheck (s : ByteArray) (hs : s.size ≤ 1000) (w : World) : Calls Tryz.prog 62 #[.string s] w (Grows (.int .i64 (nameN s.toList)) w) := by
  by_cases h : s.toList = [] ∨ s.toList = [46] ∨ s.toList = [46, 46]
  · have := check_odd s w h
    rwa [show nameN s.toList = 22 by unfold nameN; rw [if_pos h]]
  · have e : nameN s.toList = plainN s.toList := by unfold nameN; rw [if_neg h]
    rw [e]
    refine check_plain s hs ?_ ?_ ?_ w
    · cases hl : s.toList with
      | nil => exact absurd (.inl hl) h
      | cons a t => rfl
    · rw [beq_eq_false_iff_ne]; exact fun h' => h (.inr (.inl h'))
    · rw [beq_eq_false_iff_ne]; exact fun h' => h (.inr (.inr h'))

theorem nClone (s : ByteArray) (hs : s.size ≤ 1000000) (w : World) : Calls Tryz.prog 63 #[.string s] w fun e w' => e = .returned (.string s) ∧ Below w.heap.size w w' := by
  go_enter Tryz.func63, Tryz.ntmps63
  go_wp2_with fail
  refine (Tryz.stringslite_Clone s _ (by omega)).mono ?_
  rintro e w1 ⟨rfl, hw⟩
  go_wp2
  go_ret
  exact ⟨rfl, hw⟩
end Go.Proofs.YtcdpmifgjaongaaGreatDoor
