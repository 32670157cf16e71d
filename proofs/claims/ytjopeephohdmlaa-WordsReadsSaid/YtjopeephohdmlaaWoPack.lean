import Derived.Test.YtjopeephohdmlaaWoAw
import Derived.Test.YtjopeephohdmlaaLaw
import Derived.Deep.DeepCutAuto
namespace Go.Proofs.Ytjopeephohdmlaa
open Wd U Go.ChangeShapes Go.WideShapes Go.RowKit Go.Sort
set_option linter.unusedVariables false

/-- a row of bytes, as the statement opens it -/
theorem row_bytes {w : World} {B : Nat} {A : Option Addr} {l : List Int} (h : Row w B A l.length (l.map (Value.int .u8))) (hok : ∀ y ∈ l, (Lit.int .u8 y).wf = true) :
    ∃ m : List Nat, m.length = l.length ∧ Bytes m ∧ Row w B A m.length (m.map bt) := by
  have hb : ∀ y ∈ l, 0 ≤ y ∧ y < 256 := by
    intro y hy
    have h : IntKind.u8.min ≤ y ∧ y ≤ IntKind.u8.max := by simpa [Lit.wf] using hok y hy
    have m1 : IntKind.u8.min = 0 := by decide
    have m2 : IntKind.u8.max = 255 := by decide
    omega
  refine ⟨l.map Int.toNat, by simp, ?_, ?_⟩
  · intro x hx
    obtain ⟨y, hy, rfl⟩ := List.mem_map.1 hx
    have := hb y hy; omega
  · have e : (l.map Int.toNat).map bt = l.map (Value.int .u8) := by
      rw [List.map_map]
      refine List.map_congr_left fun y hy => ?_
      have := hb y hy
      show Value.int .u8 ((y.toNat : Nat) : Int) = _
      rw [Int.toNat_of_nonneg this.1]
    rw [e, List.length_map]
    exact h
def ubs (l : List Nat) (n : Int) (b : Bool) : List Nat := if b then bytesOf l n.toNat else []
theorem Unpacked.rows {l : List Nat} {n : Int} {b : Bool} {W w : World} {e : Ending} (h : Unpacked l n b W e w) : ∃ (A : Option Addr) (c : Nat), e = .returned (.tuple #[.slice A (ubs l n b).length c, .bool b]) ∧ Row w w.heap.size A (ubs l n b).length ((ubs l n b).map bt) ∧ Below W.heap.size W w := by
  obtain ⟨A, c, k, rfl, rfl, hr, hb⟩ := h
  cases b
  · exact ⟨A, c, rfl, ⟨rfl, fun h => absurd h (by simp [ubs])⟩, hb⟩
  · have e : (ubs l n true).length = n.toNat := bytesOf_len l n.toNat
    rw [e]
    exact ⟨A, c, rfl, hr rfl, hb⟩

theorem wordsPack_far (L M : Nat) (A E : Option Addr) (c d : Nat) (n : Int) (w : World) (h : 300 < L ∨ L ≤ 300 ∧ 60 < M ∨ L ≤ 300 ∧ M ≤ 60 ∧ 500 < n) :
    Calls Try.prog 3 #[.slice A L c, .slice E M d, .int .i64 n] w (TrueB w) := by
  rcases h with h | ⟨h1, h2⟩ | ⟨h1, h2, h3⟩
  · have d1 : decide ((300 : Int) < (L : Int)) = true := decide_eq_true (by omega)
    go_enter Try.func3, Try.ntmps3
    go_wp2_with fail
    refine (wordsAwake_true _).mono ?_
    rintro e w2 ⟨rfl, hb⟩
    have HB := Lib.hid hb
    clear hb
    go_wp2
    go_ret
    exact ⟨rfl, HB.out⟩
  · have d1 : decide ((300 : Int) < (L : Int)) = false := decide_eq_false (by omega)
    have d2 : decide ((60 : Int) < (M : Int)) = true := decide_eq_true (by omega)
    go_enter Try.func3, Try.ntmps3
    go_wp2_with fail
    refine (wordsAwake_true _).mono ?_
    rintro e w2 ⟨rfl, hb⟩
    have HB := Lib.hid hb
    clear hb
    go_wp2
    go_ret
    exact ⟨rfl, HB.out⟩
  · have d1 : decide ((300 : Int) < (L : Int)) = false := decide_eq_false (by omega)
    have d2 : decide ((60 : Int) < (M : Int)) = false := decide_eq_false (by omega)
    go_enter Try.func3, Try.ntmps3
    go_wp2_with fail
    refine (wordsAwake_true _).mono ?_
    rintro e w2 ⟨rfl, hb⟩
    have HB := Lib.hid hb
    clear hb
    go_wp2
    go_ret
    exact ⟨rfl, HB.out⟩

set_option maxHeartbeats 2000000 in
theorem wordsPack_any (bs l : List Nat) (L M : Nat) (hL : bs.length = L) (hM : l.length = M) (hbs : Bytes bs) (hl : Small l) (h1 : L ≤ 300) (h2 : M ≤ 60) (A E : Option Addr) (c d : Nat) (n : Int) (h3 : n ≤ 500) (h4 : -9223372036854775808 ≤ n) (w : World)
    (hr : Row w w.heap.size A L (bs.map bt)) (he : Row w w.heap.size E M (l.map wd)) :
    Calls Try.prog 3 #[.slice A L c, .slice E M d, .int .i64 n] w (TrueB w) := by
  have d1 : decide ((300 : Int) < (L : Int)) = false := decide_eq_false (by omega)
  have d2 : decide ((60 : Int) < (M : Int)) = false := decide_eq_false (by omega)
  obtain ⟨b, hb⟩ : ∃ b, mayU l n = b := ⟨_, rfl⟩
  have HL := Lib.hid hL; have HM := Lib.hid hM; have HBS := Lib.hid hbs; have HS := Lib.hid hl; have HR := Lib.hid hr; have HE := Lib.hid he; have HMAY := Lib.hid hb
  clear hL hM hbs hl hr he hb
  go_enter Try.func3, Try.ntmps3
  go_wp2_with fail
  refine (wordsAwake_true _).mono ?_
  rintro e w1 ⟨rfl, hb⟩
  have HB1 := Lib.hid hb
  have HR1 := Lib.hid ((HR.out.below hb).more hb.size)
  have HE1 := Lib.hid ((HE.out.below hb).more hb.size)
  clear hb
  go_wp2_with fail
  refine (wUnpack l M n (by omega) (by omega) HM.out HS.out (by omega) b HMAY.out E d _ HE1.out).mono ?_
  rintro e w2 hu
  obtain ⟨A2, c2, rfl, hr2, hb⟩ := hu.rows
  obtain ⟨k, hk⟩ : ∃ k, (ubs l n b).length = k := ⟨_, rfl⟩
  rw [hk] at hr2 ⊢
  have HK := Lib.hid hk
  have HB2 := Lib.hid (HB1.out.trans (hb.mono HB1.out.size))
  have HR2 := Lib.hid ((HR1.out.below hb).more hb.size)
  have HE2 := Lib.hid ((HE1.out.below hb).more hb.size)
  have HX2 := Lib.hid hr2
  clear hu hb hr2 hk
  go_wp2_with fail
  refine (refUnpack_any l M n HM.out HS.out (by omega) b HMAY.out E d _ HE2.out).mono ?_
  rintro e w3 hu
  obtain ⟨A3, c3, rfl, hr3, hb⟩ := hu.rows
  rw [HK.out] at hr3 ⊢
  have HB3 := Lib.hid (HB2.out.trans (hb.mono HB2.out.size))
  have HR3 := Lib.hid ((HR2.out.below hb).more hb.size)
  have HX3 := Lib.hid ((HX2.out.below hb).more hb.size)
  have HY3 := Lib.hid hr3
  clear hu hb hr3
  obtain ⟨m, hm⟩ : ∃ m, needI n = m := ⟨_, rfl⟩
  have HN := Lib.hid hm
  clear hm
  go_upto_if 39 with fail
  go_cut [11] (fun x wx => x = .int .i64 m ∧ wx = w3)
  case first =>
    by_cases hn0 : 0 < n
    · have hm : (n + 7) / 8 = m := by rw [← HN.out]; unfold needI; rw [if_pos hn0]
      have HM2 := Lib.hid hm
      clear hm
      go_wp2_with fail
      go_meet
      exact ⟨by rw [HM2.out], rfl⟩
    · have hm : m = 0 := by rw [← HN.out]; unfold needI; rw [if_neg hn0]
      have HM2 := Lib.hid hm
      clear hm
      go_wp2_with fail
      go_meet
      exact ⟨by rw [HM2.out], rfl⟩
  case rest =>
  obtain ⟨rfl, rfl⟩ := hcut
  go_wp2_with fail
  refine (wPack bs L HL.out HBS.out A c _ (by omega) HR3.out).mono ?_
  rintro e w4 ⟨A4, c4, rfl, hr4, hb⟩
  have HB4 := Lib.hid (HB3.out.trans (hb.mono HB3.out.size))
  have HR4 := Lib.hid ((HR3.out.below hb).more hb.size)
  have HX4 := Lib.hid ((HX3.out.below hb).more hb.size)
  have HY4 := Lib.hid ((HY3.out.below hb).more hb.size)
  have HP4 := Lib.hid hr4
  obtain ⟨p, hp⟩ : ∃ p, (pk bs).length = p := ⟨_, rfl⟩
  have hp2 : p ≤ 40 := by rw [← hp, pk_len, HL.out]; unfold need; omega
  have HP := Lib.hid hp
  rw [hp]
  clear hb hr4 hp
  go_wp2_with fail
  refine (refPack_any bs L HL.out HBS.out A c _ (by omega) HR4.out).mono ?_
  rintro e w5 ⟨v5, rfl, hown, hb⟩
  obtain ⟨A5, c5, rfl, hr5⟩ := Row.of_own hown
  have hr4 := HP4.out
  rw [HP.out] at hr4 hr5 ⊢
  have HB5 := Lib.hid (HB4.out.trans (hb.mono HB4.out.size))
  have HX5 := Lib.hid ((HX4.out.below hb).more hb.size)
  have HY5 := Lib.hid ((HY4.out.below hb).more hb.size)
  have HP5 := Lib.hid ((hr4.below hb).more hb.size)
  have HQ5 := Lib.hid hr5
  clear hb hr4 hr5 hown
  go_wp2_with fail
  refine (sameWords_eq (pk bs) p HP.out (by omega) _ _ _ _ w5.heap.size _ HP5.out HQ5.out).mono ?_
  rintro e w6 ⟨rfl, hgr⟩
  have hb : Below w5.heap.size w5 w6 := by obtain ⟨q, os, rfl⟩ := hgr; exact below_grow' _ _ _
  have HB6 := Lib.hid (HB5.out.trans (hb.mono HB5.out.size))
  have HX6 := Lib.hid ((HX5.out.below hb).more hb.size)
  have HY6 := Lib.hid ((HY5.out.below hb).more hb.size)
  clear hb hgr
  go_wp2_with fail
  refine (sameBytes_eq (ubs l n b) k HK.out _ _ _ _ w6.heap.size _ HX6.out HY6.out).mono ?_
  rintro e w7 ⟨rfl, rfl⟩
  go_wp2_with fail
  refine (wNeed n (by omega) (by omega) _).mono ?_
  rintro e w7 h
  obtain ⟨rfl, hb⟩ := h.below
  rw [HN.out]
  have HB7 := Lib.hid (HB6.out.trans (hb.mono HB6.out.size))
  clear hb h
  go_wp2
  go_ret
  exact ⟨rfl, HB7.out⟩

theorem wordsPack_walk (bs : List Int) (A : Option Addr) (c : Nat) {w : World} (hr : Row w w.heap.size A bs.length (bs.map (Value.int .u8))) (hok : ∀ y ∈ bs, (Lit.int .u8 y).wf = true) (_ : bs.length ≤ maxLen)
    (l : List Int) (E : Option Addr) (d : Nat) (he : Row w w.heap.size E l.length (l.map (Value.int .u64))) (hok2 : ∀ y ∈ l, (Lit.int .u64 y).wf = true) (_ : l.length ≤ maxLen) (n : Int) (hn : (Lit.int .i64 n).wf = true) (_ : World) :
    Calls Try.prog 3 #[.slice A bs.length c, .slice E l.length d, .int .i64 n] w (TrueB w) := by
  obtain ⟨k, hk, hks, hkr⟩ := row_bytes hr hok
  obtain ⟨j, hj, hjs, hjr⟩ := row_words he hok2
  have hb : IntKind.i64.min ≤ n ∧ n ≤ IntKind.i64.max := by simpa [Lit.wf] using hn
  have m1 : IntKind.i64.min = -9223372036854775808 := by decide
  by_cases h : bs.length ≤ 300 ∧ l.length ≤ 60 ∧ n ≤ 500
  · rw [hk] at hkr
    rw [hj] at hjr
    exact wordsPack_any k j bs.length l.length hk hj hks hjs h.1 h.2.1 A E c d n h.2.2 (by omega) w hkr hjr
  · exact wordsPack_far bs.length l.length A E c d n w (by omega)
end Go.Proofs.Ytjopeephohdmlaa
