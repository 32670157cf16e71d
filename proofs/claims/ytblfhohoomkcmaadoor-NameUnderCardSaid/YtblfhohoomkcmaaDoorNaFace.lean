import Derived.Test.YtblfhohoomkcmaaDoorNkSplit
import Derived.Test.YtblfhohoomkcmaaDoorJnMath
import Derived.Test.YtblfhohoomkcmaaDoorTrue
/-
  THE PROJECT's OWN CONTRACTS OF LAYER 8, AS THE LAWS' WALKS USE THEM (and the statement's own example).
-/
namespace Go.Proofs.YtblfhohoomkcmaaDoor
open Wd Go.ChangeShapes Go.WideShapes Go.RowKit Go.Sort
set_option linter.unusedVariables false

theorem Row.firsts {w : World} {B n m : Nat} {A : Option Addr} {xs : List Value} (h : Row w B A n xs) (hm : m ≤ n) : Row w B A m (xs.take m) :=
  ⟨by rw [List.length_take, h.1]; omega, fun hp => by
    obtain ⟨b, off, e, hb, hc⟩ := h.2 (by omega)
    refine ⟨b, off, e, hb, fun j hj => ?_⟩
    rw [List.getElem_take]
    exact hc j _⟩
theorem Row.of_own_cap {w : World} {base : Nat} {e : TypeId} {n : Nat} {v : Value} {xs : List Value} (h : w.ownsRow base e 1 v n xs) : ∃ A c, v = .slice A n c ∧ n ≤ c ∧ Row w w.heap.size A n xs := by
  obtain ⟨A, c, e1, hr⟩ := Row.of_own h
  refine ⟨A, c, e1, ?_, hr⟩
  subst e1
  rcases h.2 with ⟨h2, h3⟩ | ⟨g, cap, cur, h2, _, _, hnc, _⟩
  · omega
  · cases h2; exact hnc
def SplitC (l : List UInt8) (W : World) (e : Ending) (w : World) : Prop :=
  ∃ (A : Option Addr) (c : Nat) (bs : List ByteArray), e = .returned (.tuple #[.slice A bs.length c, .int .i64 (pathE l)]) ∧ bs.map ByteArray.toList = pathL l ∧ bs.length ≤ c ∧ Row w w.heap.size A bs.length (bs.map Value.string) ∧ Below W.heap.size W w
def SplitR (l : List UInt8) (W : World) (e : Ending) (w : World) : Prop :=
  ∃ (A : Option Addr) (c : Nat) (bs : List ByteArray), e = .returned (.tuple #[.slice A bs.length c, .int .i64 (pathE l)]) ∧ bs.map ByteArray.toList = pathL l ∧ Row w w.heap.size A bs.length (bs.map Value.string) ∧ Below W.heap.size W w
def TextB (l : List UInt8) (W : World) (e : Ending) (w : World) : Prop := ∃ b : ByteArray, e = .returned (.string b) ∧ b.toList = l ∧ Below W.heap.size W w
/-- it returns v, and nothing that was there has turned -/
def Ends (v : Value) (W : World) (e : Ending) (w : World) : Prop := e = .returned v ∧ Below W.heap.size W w
theorem Ends.below {v : Value} {W w : World} {e : Ending} (h : Ends v W e w) : e = .returned v ∧ Below W.heap.size W w := h

theorem nSplitC (s : ByteArray) (hs : s.size ≤ 1000000) (w : World) (hM : MaxW w) : Calls Tryd.prog 7 #[.string s] w (SplitC s.toList w) := by
  refine (nSplitO s hs w hM).mono ?_
  rintro e w' ⟨v, bs, rfl, hl, ho, hb⟩
  obtain ⟨A, c, rfl, hc, hr⟩ := Row.of_own_cap ho
  exact ⟨A, c, bs, rfl, hl, hc, hr, hb⟩
theorem nSplit (s : ByteArray) (hs : s.size ≤ 1000000) (w : World) (hM : MaxW w) : Calls Tryd.prog 7 #[.string s] w (SplitR s.toList w) := by
  refine (nSplitC s hs w hM).mono ?_
  rintro e w' ⟨A, c, bs, rfl, hl, hc, hr, hb⟩
  exact ⟨A, c, bs, rfl, hl, hr, hb⟩

theorem join_slash (x : List UInt8) (r : List (List UInt8)) : 47 :: Lib.join (x :: r) [47] = slashed (x :: r) := by
  rw [Lib.join_cons, slashed_cons]
  congr 2

set_option maxHeartbeats 1000000 in
theorem nJoin (ls : List ByteArray) (n : Nat) (hL : ls.length = n) (A : Option Addr) (c : Nat) (w : World) (hn : n ≤ 1000) (hc : n ≤ c) (hs : (slashed (ls.map ByteArray.toList)).length ≤ 1000000) (hr : Row w w.heap.size A n (ls.map Value.string)) : Calls Tryd.prog 16 #[.slice A n c] w (TextB (joinN (ls.map ByteArray.toList)) w) := by
  subst hL
  cases ls with
  | nil =>
    have a1 := fun (w : World) => run_string_add_sum (P := Tryd.prog) w ⟨#[47]⟩ ⟨#[]⟩ (by decide)
    go_enter Tryd.func16, Tryd.ntmps16
    go_wp2_with fail
    refine (Tryd.strings_Join_none _ _ _ _).mono ?_
    rintro e w1 ⟨rfl, rfl⟩
    go_wp2
    go_ret
    exact ⟨_, rfl, by rw [append_list, slash_list, Lib.toList_data]; rfl, Below.refl _ _⟩
  | cons x r =>
    obtain ⟨b1, o1, _, hA, hb1, _, _⟩ := hr.get (k := 0) (by simp)
    subst hA
    have hcells : ∀ (j : Nat) y, (x :: r)[j]? = some y → w.cell? ⟨b1, o1 + j, none⟩ = some (.string y) := by
      intro j y hy
      have hj : j < (x :: r).length := (List.getElem?_eq_some_iff.1 hy).1
      obtain ⟨b2, o2, z, e2, _, hz, cz⟩ := hr.get hj
      injection e2 with e2
      injection e2 with e3 e4 _
      subst e3; subst e4
      rw [hy] at hz
      rw [cz, Option.some.inj hz]
    have hdl : (x :: r).map (·.data.toList) = (x :: r).map ByteArray.toList := by congr 1; funext b; exact (Lib.toList_data b).symm
    have hjs := join_slash x.toList (r.map ByteArray.toList)
    have hlen : (Lib.join ((x :: r).map (·.data.toList)) (ByteArray.mk #[47]).data.toList).length ≤ 1000000 := by
      rw [hdl]
      have h1 := congrArg List.length hjs
      rw [List.length_cons] at h1
      rw [List.map_cons] at hs ⊢
      show (Lib.join (x.toList :: r.map ByteArray.toList) [47]).length ≤ 1000000
      omega
    have hJ := fun w (h1 : ∀ (j : Nat) y, (x :: r)[j]? = some y → w.cell? ⟨b1, o1 + j, none⟩ = some (.string y)) (h2 : b1 < w.heap.size) => Tryd.strings_Join b1 o1 c (x :: r) ⟨#[47]⟩ w h1 h2 (by omega) hc (by omega)
    obtain ⟨t, ht⟩ : ∃ t : ByteArray, (⟨(Lib.join ((x :: r).map (·.data.toList)) (ByteArray.mk #[47]).data.toList).toArray⟩ : ByteArray) = t := ⟨_, rfl⟩
    have htl : t.toList = Lib.join (x.toList :: r.map ByteArray.toList) [47] := by
      rw [← ht, Lib.toList_data, hdl]; rfl
    rw [ht] at hJ
    have hts : t.size ≤ 1000000 := by rw [← size_list, htl]; rw [hdl] at hlen; exact hlen
    have hone : (ByteArray.mk #[47]).size = 1 := rfl
    have a1 := fun (w : World) => run_string_add_sum (P := Tryd.prog) w ⟨#[47]⟩ t (by omega)
    have HC := Lib.hid hcells; have HJ := Lib.hid hJ; have HT := Lib.hid htl; have HS := Lib.hid hjs
    clear hcells hJ htl hjs hone hlen hdl ht hr
    obtain ⟨n, hn⟩ : ∃ n, (x :: r).length = n := ⟨_, rfl⟩
    go_enter Tryd.func16, Tryd.ntmps16
    go_wp2_with fail
    refine (HJ.out _ HC.out hb1).mono ?_
    rintro e w1 ⟨rfl, hb⟩
    go_wp2
    go_ret
    exact ⟨_, rfl, by rw [append_list, slash_list, HT.out]; exact HS.out, hb⟩

theorem nLess (a b : ByteArray) (w : World) : Calls Tryd.prog 14 #[.string a, .string b] w (Grows (.bool (Op.bytesLess a.toList b.toList)) w) := by
  go_enter Tryd.func14, Tryd.ntmps14
  go_wp2
  go_ret
  exact ⟨rfl, grow_none _⟩

theorem awake_path : (ByteArray.mk #[47, 47, 97, 47, 98, 47]).toList = [47, 47, 97, 47, 98, 47] := by rw [Lib.toList_data]
theorem awake_e : pathE [47, 47, 97, 47, 98, 47] = 0 := by decide +kernel
theorem awake_l : pathL [47, 47, 97, 47, 98, 47] = [[97], [98]] := by decide +kernel
theorem row_two (w : World) (u v : Value) (t : TypeId) : Row (w.alloc (.cells #[u, v] t)) (w.alloc (.cells #[u, v] t)).heap.size (some ⟨w.heap.size, 0, none⟩) 2 [u, v] := by
  have := Row.of_cells (B := (w.alloc (.cells #[u, v] t)).heap.size) (Cells.new w t #[u, v]) (by simp)
  simpa using this
theorem awake_bs {bs : List ByteArray} (h : bs.map ByteArray.toList = [[97], [98]]) : bs = [⟨#[97]⟩, ⟨#[98]⟩] := by
  refine (List.map_inj_right (fun a b h => tolist_inj h)).1 (h.trans ?_)
  show _ = [ByteArray.toList ⟨#[97]⟩, ByteArray.toList ⟨#[98]⟩]
  rw [Lib.toList_data, Lib.toList_data]

set_option maxHeartbeats 1000000 in
theorem nameAwake_true (w : World) (hM : MaxW w) : Calls Tryd.prog 6 #[] w (TrueB w) := by
  have HM := Lib.hid hM
  clear hM
  go_enter Tryd.func6, Tryd.ntmps6
  go_wp2_with fail
  refine (nSplit _ (by decide) _ HM.out).mono ?_
  rintro e w1 ⟨A, c, bs, rfl, hl, hr, hb⟩
  rw [awake_path, awake_l] at hl
  obtain rfl := awake_bs hl
  rw [awake_path, awake_e]
  have HR := Lib.hid hr; have HB := Lib.hid hb
  clear hr hb hl
  go_wp2_with fail
  refine (sameTexts_any [⟨#[97]⟩, ⟨#[98]⟩] [⟨#[97]⟩, ⟨#[98]⟩] 2 2 rfl rfl (by decide) A (some ⟨w1.heap.size, 0, none⟩) c 2 (w1.heap.size + 1) _ ?_ ?_).mono ?_
  · have := (HR.out.below ((Below.refl _ w1).alloc (Nat.le_refl _) (.cells #[Value.string ⟨#[97]⟩, Value.string ⟨#[98]⟩] 9))).more (Nat.le_succ w1.heap.size)
    exact this
  · have := row_two w1 (Value.string ⟨#[97]⟩) (Value.string ⟨#[98]⟩) 9
    simpa using this
  rintro e w2 h
  obtain ⟨rfl, hb⟩ := h.below
  rw [decide_eq_true rfl]
  go_wp2
  go_ret
  exact ⟨rfl, (HB.out.alloc HB.out.size _).trans (hb.mono (by have := HB.out.size; simp; omega))⟩
end Go.Proofs.YtblfhohoomkcmaaDoor
