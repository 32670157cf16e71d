import Derived.Test.YtbegnnohmahglaaDiIns
import Derived.Test.YtbegnnohmahglaaDiRr
namespace Go.Proofs.Ytbegnnohmahglaa
open Wd Ino Go.RowKit Go.ChangeShapes Go.WideShapes Go.Sort
set_option linter.unusedVariables false
set_option maxRecDepth 100000

set_option maxHeartbeats 4000000 in
theorem dPut {w : World} {hi : Nat} {A : Option Addr} {c : Nat} {l : List Ent} (h : Ens w hi A l) (hh : hi ≤ w.heap.size) (hm : l.length ≤ 1000) (hs : ∀ e ∈ l, e.s.size ≤ 1000) (s : ByteArray) (hsz : s.size ≤ 1000) (n : Int) : Calls Try.prog 10 #[.slice A l.length c, .string s, .int .i64 n] w (GivesE (putR s n l) (!hasN s l) w) := by
  have H := Lib.hid h; have HS := Lib.hid hs
  have K := Lib.hid (dLook (c := c) h hh hm s)
  clear h hs
  cases hn : hasN s l with
  | true =>
    have HR := Lib.hid (show putR s n l = l by unfold putR; rw [if_pos hn])
    rw [hn] at K
    clear hn
    go_enter Try.func10, Try.ntmps10
    go_wp2_with fail
    refine K.out.mono ?_
    rintro e1 w1 ⟨rfl, hw1⟩
    have hb1 := grown_self hw1
    have HB := Lib.hid hb1
    have KO := Lib.hid (dOwn (c := c) (H.out.below (hb1.mono hh)) (Nat.le_trans hh hb1.size) hm HS.out)
    clear hw1 K hb1
    go_wp2_with fail
    refine KO.out.mono ?_
    rintro e1 w2 ⟨v, rfl, ho, hb2⟩
    obtain ⟨A1, c1, rfl, hc1, hx1⟩ := ho.form
    have HX := Lib.hid hx1
    have HB2 := Lib.hid (HB.out.trans (hb2.mono HB.out.size))
    clear ho hb2 hx1 KO
    go_wp2_with fail
    go_ret2
    rw [HR.out]
    exact ⟨A1, c1, rfl, hc1, HX.out, HB2.out⟩
  | false =>
    have HR := Lib.hid (show putR s n l = putN s n l by unfold putR; rw [if_neg (by rw [hn]; decide)])
    obtain ⟨k, hk⟩ : ∃ k, lookN s l = k := ⟨_, rfl⟩
    have hkl : k ≤ l.length := by rw [← hk]; exact lookN_le s l
    have HI := Lib.hid (show insE l k ⟨s, n⟩ = putN s n l by
      unfold insE putN
      rw [← hk]
      unfold lookN
      rw [if_neg (by rw [hn]; decide)])
    rw [hn, hk] at K
    clear hn hk
    go_enter Try.func10, Try.ntmps10
    go_wp2_with fail
    refine K.out.mono ?_
    rintro e1 w1 ⟨rfl, hw1⟩
    have hb1 := grown_self hw1
    have HB := Lib.hid hb1
    have KO := Lib.hid (dOwn (c := c) (H.out.below (hb1.mono hh)) (Nat.le_trans hh hb1.size) hm HS.out)
    clear hw1 K hb1
    go_wp2_with fail
    refine KO.out.mono ?_
    rintro e1 w2 ⟨v, rfl, ho, hb2⟩
    obtain ⟨A1, c1, rfl, hc1, hx1⟩ := ho.form
    have HO := Lib.hid ho; have HB2 := Lib.hid hb2
    have KC := Lib.hid (cloneG s (by omega))
    clear ho hb2 hx1 KO
    go_wp2_with fail
    refine (KC.out _).mono ?_
    rintro e1 w3 ⟨rfl, hw3⟩
    have hb3 := grown_self hw3
    have hb4 := hb3.alloc hb3.size (.cells (ecells ⟨s, n⟩) 32)
    have KI := Lib.hid (dIns rfl (HO.out.below hb4) hm (Nat.le_trans HB2.out.size hb4.size) hkl ⟨s, n⟩ w3.heap.size (Cells.new w3 32 (ecells ⟨s, n⟩)) (fun q hq => by
      have h1 := ownE_lt HO.out q hq
      have h2 := hb3.size
      omega))
    have HB4 := Lib.hid (HB.out.trans ((HB2.out.trans (hb4.mono HB2.out.size)).mono HB.out.size))
    have HB1 := Lib.hid (show w.heap.size ≤ w1.heap.size from HB.out.size)
    unfold ecells at KI HB4
    dsimp only at KI
    clear hw3 hb3 hb4
    go_wp2_with fail
    refine KI.out.mono ?_
    rintro e1 w5 ⟨v5, rfl, ho5, hb5⟩
    rw [HI.out, ← HR.out] at ho5
    obtain ⟨A5, c5, rfl, hc5, hx5⟩ := ho5.form
    have HX5 := Lib.hid hx5
    have HB5 := Lib.hid (HB4.out.trans (hb5.mono HB1.out))
    clear ho5 hb5 hx5 KI
    go_wp2_with fail
    go_ret2
    exact ⟨A5, c5, rfl, hc5, HX5.out, HB5.out⟩
end Go.Proofs.Ytbegnnohmahglaa
