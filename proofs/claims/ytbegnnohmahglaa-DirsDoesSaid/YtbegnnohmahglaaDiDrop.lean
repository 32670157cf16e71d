import Derived.Test.YtbegnnohmahglaaDiDel
namespace Go.Proofs.Ytbegnnohmahglaa
open Wd Ino Go.RowKit Go.ChangeShapes Go.WideShapes Go.Sort
set_option linter.unusedVariables false
set_option maxRecDepth 100000

set_option maxHeartbeats 4000000 in
theorem dDrop {w : World} {hi : Nat} {A : Option Addr} {c : Nat} {l : List Ent} (h : Ens w hi A l) (hh : hi ≤ w.heap.size) (hm : l.length ≤ 1000) (hs : ∀ e ∈ l, e.s.size ≤ 1000) (s : ByteArray) : Calls Try.prog 12 #[.slice A l.length c, .string s] w (GivesE (dropN s l) (hasN s l) w) := by
  have hb1 := (Below.refl w.heap.size w).alloc (Nat.le_refl _) (.cells #[.string s] 9)
  have HB1 := Lib.hid hb1
  have KO := Lib.hid (dOwn (c := c) (h.below (hb1.mono hh)) (Nat.le_trans hh hb1.size) hm hs)
  have HC := Lib.hid (Cells.new w 9 #[.string s])
  have HD := Lib.hid (drop_less s l)
  have HQ := Lib.hid (show decide (((dropN s l).length : Int) < (l.length : Int)) = decide ((dropN s l).length < l.length) by simp)
  clear h hs hb1
  go_enter Try.func12, Try.ntmps12
  go_wp2_with fail
  refine KO.out.mono ?_
  rintro e1 w1 ⟨v, rfl, ho, hb⟩
  obtain ⟨A1, c1, rfl, _, _⟩ := ho.form
  have KD := Lib.hid (dDel ho hm s w.heap.size (by simp) hb.size ((HC.out.below' hb).cell 0))
  have HB2 := Lib.hid (HB1.out.trans (hb.mono HB1.out.size))
  clear ho hb KO
  unfold testV at KD
  go_wp2_with fail
  refine KD.out.mono ?_
  rintro e1 w2 ⟨v2, rfl, ho2, hb2⟩
  obtain ⟨A2, c2, rfl, hc2, hx2⟩ := ho2.form
  have HX := Lib.hid hx2
  have HB3 := Lib.hid (HB2.out.trans (hb2.mono HB1.out.size))
  clear ho2 hb2 hx2 KD
  obtain ⟨n, hn⟩ : ∃ n, (dropN s l).length = n := ⟨_, rfl⟩
  have HN := Lib.hid hn
  rw [hn] at HD HQ hc2 ⊢
  clear hn
  go_wp2
  go_ret2
  exact ⟨A2, c2, by rw [HN.out, ← HD.out]; rfl, by rw [HN.out]; exact hc2, HX.out, HB3.out⟩
end Go.Proofs.Ytbegnnohmahglaa
