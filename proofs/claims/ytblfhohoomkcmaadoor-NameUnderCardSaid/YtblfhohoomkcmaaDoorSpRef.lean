import Derived.Test.YtblfhohoomkcmaaDoorSpMath
import Derived.Test.YtblfhohoomkcmaaDoorOwn
import Derived.Test.YtblfhohoomkcmaaDoorApp
import Derived.OwnWalk
import Derived.Laws.Strings2
namespace Go.Proofs.YtblfhohoomkcmaaDoor
open Wd Go.ChangeShapes Go.WideShapes Go.RowKit Go.Sort
set_option linter.unusedVariables false

theorem infoStr : (Tryd.prog.info? 9).map (fun i => (i.zero, i.size, i.bytes)) = some (some (.string ByteArray.empty), 1, 16) := by kernel_rfl
theorem oneS (l : List ByteArray) : ∀ u ∈ l.map Value.string, u.oneCell' = true := by
  intro u hu
  obtain ⟨b, _, rfl⟩ := List.mem_map.1 hu
  rfl
theorem extract_list (s : ByteArray) (f i : Nat) : (s.extract f i).toList = seg s.toList f i := by
  rw [ByteArray.toList_eq, ByteArray.toList_eq]
  unfold seg
  obtain ⟨⟨l⟩⟩ := s
  rw [ByteArray.extract_mk]
theorem get_list (s : ByteArray) (k : Nat) (h : k < s.size) : s.toList[k]? = some s[k] := by
  have hl : k < s.toList.length := by rw [size_list]; exact h
  rw [List.getElem?_eq_getElem hl]
  congr 1
  simp [ByteArray.toList_eq]
  rfl

def SplitRel (s : ByteArray) (W : World) (iv fv o : Value) (w : World) : Prop :=
  ∃ (i f : Nat) (bs : List ByteArray), iv = .int .i64 i ∧ fv = .int .i64 f ∧ i ≤ s.size + 1 ∧ bs.length ≤ i ∧ w.ownsRow W.heap.size 9 1 o bs.length (bs.map Value.string) ∧ Below W.heap.size W w ∧
    (i ≤ s.size → Gone s.toList f i (bs.map ByteArray.toList)) ∧ (s.size < i → bs.map ByteArray.toList = pieces (s.toList.drop 1) ∧ errOf (pieces (s.toList.drop 1)) = 0)
def SplitDone (l : List UInt8) (W : World) (e : Ending) (w : World) : Prop :=
  ∃ (v : Value) (bs : List ByteArray), e = .returned (.tuple #[v, .int .i64 (pathE l)]) ∧ bs.map ByteArray.toList = pathL l ∧ w.ownsRow W.heap.size 9 1 v bs.length (bs.map Value.string) ∧ Below W.heap.size W w

set_option maxHeartbeats 2000000 in
theorem split_good (s : ByteArray) (w : World) (hs : s.size ≤ 120) (h0 : 0 < s.size) (hc : (s[0].toNat : Int) = 47) (hE : pathE s.toList = errOf (pieces (s.toList.drop 1))) :
    Calls Tryd.prog 8 #[.string s] w (SplitDone s.toList w) := by
  have hd : decide ((120 : Int) < (s.size : Int)) = false := decide_eq_false (by omega)
  have hemp : s.toList.isEmpty = false := by
    cases hl : s.toList with
    | nil => have := size_list s; rw [hl] at this; simp at this; omega
    | cons a t => rfl
  have q1 : ((s[0].toNat : Int) != 47) = false := by rw [hc]; rfl
  have HE := Lib.hid hE
  clear hE hc
  go_enter Tryd.func8, Tryd.ntmps8
  go_wp2
  go_loopw [6, 5, 4] (fun i f o wr => SplitRel s w i f o wr) (fun i _ _ _ => s.size + 1 - (intOf i).toNat)
  case atStart => exact ⟨1, 1, [], rfl, rfl, by omega, Nat.zero_le _, ⟨rfl, .inl ⟨rfl, rfl⟩⟩, Below.refl _ _, fun h => Gone.start (by rw [size_list]; exact h), fun h => by omega⟩
  case round =>
    obtain ⟨i, f, bs, rfl, rfl, hi, hbl, hown, hb, hgo, hend⟩ := hrel
    have HO := Lib.hid hown; have HB := Lib.hid hb
    by_cases hle : i ≤ s.size
    · have HG := Lib.hid (hgo hle)
      have hfi := (hgo hle).fi
      clear hown hb hgo hend
      by_cases hlt : i < s.size
      · have hget := get_list s i hlt
        have HGET := Lib.hid hget
        clear hget
        by_cases hc : s[i] = 47
        · have q2 : ((s[i].toNat : Int) != 47) = false := by rw [hc]; rfl
          have HC := Lib.hid hc
          clear hc
          by_cases hf : f < i
          · obtain ⟨m, hm⟩ : ∃ m, nameN (s.extract f i).toList = m := ⟨_, rfl⟩
            have hm' : nameN (seg s.toList f i) = m := by rw [← extract_list]; exact hm
            have HM := Lib.hid hm; have HM2 := Lib.hid hm'
            clear hm hm'
            go_wp2_with fail
            refine (refName_any (s.extract f i) (by rw [ByteArray.size_extract]; omega) _).mono ?_
            rintro e w5 ⟨rfl, rfl⟩
            rw [HM.out]
            by_cases hm0 : m = 0
            · subst hm0
              have hbs := HB.out.size
              obtain ⟨wo, rfl⟩ : ∃ wo : World, wo = wr := ⟨_, rfl⟩
              go_wp2_with (at_builtin; refine wpList_append_row _ rfl (.tmp 45) (.tmp 50) 23 rfl w.heap.size 9 (.string ByteArray.empty) 16 Tryd.underlying23 infoStr rfl _ bs.length (bs.map Value.string) rfl (HO.out.alloc _) _ (some ⟨wo.heap.size, 0, none⟩) 1 1 [.string (s.extract f i)] rfl (Row.one _ _ _) (by simp [Value.oneCell']) (by unfold maxLen; omega) (by omega) (by simp; omega) ?_; intro v5 w5 hown5 hgr5 hat5; have hb5 : Below w.heap.size w w5 := (HB.out.alloc hbs _).grown hgr5 (by simp; omega) (own_base HO.out); have ho5 : w5.ownsRow w.heap.size 9 1 v5 (bs ++ [s.extract f i]).length ((bs ++ [s.extract f i]).map Value.string) := (by rw [List.map_append, List.length_append]; exact hown5); have HO5 := Lib.hid ho5; have HB5 := Lib.hid hb5; clear hown5 hgr5 hat5 hb5 ho5)
              go_roundw
              case rel =>
                refine ⟨i + 1, i + 1, bs ++ [s.extract f i], by go_num, by go_num, by omega, by rw [List.length_append]; simp; omega, HO5.out, HB5.out, ?_, ?_⟩
                · intro _
                  have := HG.out.take hf (by rw [HGET.out, HC.out]) HM2.out
                  rw [List.map_append, List.map_cons, List.map_nil, extract_list]
                  exact this
                · intro h; omega
              case measure => simp [intOf]; omega
            · have hne : (m != 0) = true := by rw [bne_iff_ne]; exact hm0
              have HM0 := Lib.hid hm0
              clear hm0
              go_wp2
              go_ret2
              have he : errOf (pieces (s.toList.drop 1)) = m := by
                have := HG.out.bad hf (.inl (by rw [HGET.out, HC.out])) (by rw [HM2.out]; exact HM0.out)
                rw [this, HM2.out]
              refine ⟨.slice none 0 0, [], ?_, ?_, ⟨rfl, .inl ⟨rfl, rfl⟩⟩, HB.out⟩
              · rw [HE.out, he]; rfl
              · unfold pathL
                rw [HE.out, he, if_neg HM0.out]; rfl
          · obtain rfl : f = i := by omega
            go_wp2
            go_roundw
            case rel =>
              refine ⟨f + 1, f + 1, bs, by go_num, by go_num, by omega, by omega, HO.out, HB.out, ?_, ?_⟩
              · intro _; exact HG.out.skip (by rw [HGET.out, HC.out])
              · intro h; omega
            case measure => simp [intOf]; omega
        · have q2 : ((s[i].toNat : Int) != 47) = true := by
            rw [bne_iff_ne]
            intro h
            have h47 : s[i].toNat = 47 := by omega
            exact hc (UInt8.toNat_inj.1 h47)
          have HC := Lib.hid hc
          clear hc
          go_wp2
          go_roundw
          case rel => exact ⟨i + 1, f, bs, by go_num, rfl, by omega, by omega, HO.out, HB.out, fun _ => HG.out.plain HGET.out HC.out, fun h => by omega⟩
          case measure => simp [intOf]; omega
      · have hin : i = s.size := by omega
        have HIN := Lib.hid hin
        clear hin
        by_cases hf : f < i
        · obtain ⟨m, hm⟩ : ∃ m, nameN (s.extract f i).toList = m := ⟨_, rfl⟩
          have hm' : nameN (seg s.toList f i) = m := by rw [← extract_list]; exact hm
          have HM := Lib.hid hm; have HM2 := Lib.hid hm'
          clear hm hm'
          go_wp2_with fail
          refine (refName_any (s.extract f i) (by rw [ByteArray.size_extract]; omega) _).mono ?_
          rintro e w5 ⟨rfl, rfl⟩
          rw [HM.out]
          by_cases hm0 : m = 0
          · subst hm0
            have hbs := HB.out.size
            obtain ⟨wo, rfl⟩ : ∃ wo : World, wo = wr := ⟨_, rfl⟩
            go_wp2_with (at_builtin; refine wpList_append_row _ rfl (.tmp 45) (.tmp 50) 23 rfl w.heap.size 9 (.string ByteArray.empty) 16 Tryd.underlying23 infoStr rfl _ bs.length (bs.map Value.string) rfl (HO.out.alloc _) _ (some ⟨wo.heap.size, 0, none⟩) 1 1 [.string (s.extract f i)] rfl (Row.one _ _ _) (by simp [Value.oneCell']) (by unfold maxLen; omega) (by omega) (by simp; omega) ?_; intro v5 w5 hown5 hgr5 hat5; have hb5 : Below w.heap.size w w5 := (HB.out.alloc hbs _).grown hgr5 (by simp; omega) (own_base HO.out); have ho5 : w5.ownsRow w.heap.size 9 1 v5 (bs ++ [s.extract f i]).length ((bs ++ [s.extract f i]).map Value.string) := (by rw [List.map_append, List.length_append]; exact hown5); have HO5 := Lib.hid ho5; have HB5 := Lib.hid hb5; clear hown5 hgr5 hat5 hb5 ho5)
            go_roundw
            case rel =>
              refine ⟨i + 1, i + 1, bs ++ [s.extract f i], by go_num, by go_num, by omega, by rw [List.length_append]; simp; omega, HO5.out, HB5.out, ?_, ?_⟩
              · intro h; omega
              · intro _
                have hsz := size_list s
                have hg := HG.out
                have hl := (show Gone s.toList f s.toList.length (bs.map ByteArray.toList) by rw [hsz, ← HIN.out]; exact hg).last (fun _ => by rw [hsz, ← HIN.out]; exact HM2.out)
                rw [hsz, ← HIN.out, if_pos hf] at hl
                rw [List.map_append, List.map_cons, List.map_nil, extract_list]
                exact hl
            case measure => simp [intOf]; omega
          · have hne : (m != 0) = true := by rw [bne_iff_ne]; exact hm0
            have HM0 := Lib.hid hm0
            clear hm0
            go_wp2
            go_ret2
            have he : errOf (pieces (s.toList.drop 1)) = m := by
              have := HG.out.bad hf (.inr (by rw [size_list]; exact HIN.out)) (by rw [HM2.out]; exact HM0.out)
              rw [this, HM2.out]
            refine ⟨.slice none 0 0, [], ?_, ?_, ⟨rfl, .inl ⟨rfl, rfl⟩⟩, HB.out⟩
            · rw [HE.out, he]; rfl
            · unfold pathL
              rw [HE.out, he, if_neg HM0.out]; rfl
        · obtain rfl : f = i := by omega
          go_wp2
          go_roundw
          case rel =>
            refine ⟨f + 1, f + 1, bs, by go_num, by go_num, by omega, by omega, HO.out, HB.out, ?_, ?_⟩
            · intro h; omega
            · intro _
              have hsz := size_list s
              have hg := HG.out
              have hl := (show Gone s.toList f s.toList.length (bs.map ByteArray.toList) by rw [hsz, ← HIN.out]; exact hg).last (fun h => by have := HIN.out; omega)
              rw [hsz, if_neg (by have := HIN.out; omega)] at hl
              exact hl
          case measure => simp [intOf]; omega
    · have HEND := Lib.hid (hend (by omega))
      clear hown hb hgo hend
      go_wp2
      go_ret2
      refine ⟨_, bs, ?_, ?_, HO.out, HB.out⟩
      · rw [HE.out, HEND.out.2]; rfl
      · unfold pathL; rw [HE.out, HEND.out.2, if_pos rfl]; exact HEND.out.1
end Go.Proofs.YtblfhohoomkcmaaDoor
