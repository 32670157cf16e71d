import Derived.Test.YtnijffgdapfgpaaPnMem
import Derived.Deep.RegionWith
import Derived.Deep.RegionLaw
import Derived.Deep.Cut
/-! The project's Head. -/
namespace Go.Proofs.Ytnijffgdapfgpaa
open Wd U Go.Maps Go.ChangeShapes Go.WideShapes Go.RowKit Go.Sort
set_option linter.unusedVariables false
set_option maxRecDepth 100000
abbrev zeffL : List Value := [.int .i64 0, .int .i64 0, .int .i64 0, .int .i64 0, .int .i64 0, .int .i64 0, .string ⟨#[]⟩, .string ⟨#[]⟩, .slice none 0 0]
def HeadR (v : Value) (p : Int) (is : Bool) (w : World) (e : Ending) (w' : World) : Prop := e = .returned (.tuple #[v, .int .i64 p, .bool is]) ∧ Below w.heap.size w w'
def zeffV : Value := .agg #[.int .i64 0, .int .i64 0, .int .i64 0, .int .i64 0, .int .i64 0, .int .i64 0, .string ⟨#[]⟩, .string ⟨#[]⟩, .slice none 0 0]
set_option maxHeartbeats 4000000 in
theorem pnHead {w : World} {B b : Nat} {S : Pst} {x : Eff × Int} {l : List (Eff × Int)} (h : PnAt w B b S) (hS : S.rows = x :: l) :
    Calls Try.prog 9 #[PPtr b] w (HeadR x.1.val x.2 true w) := by
  obtain ⟨A, c, hc, hr⟩ := h.open_
  obtain ⟨q, off, cur, rfl, hBq, hcur, hx⟩ := off_at hr rfl (k := 0) (x := x) (by rw [hS]; rfl)
  have hbare := h.bare x (by rw [hS]; exact List.mem_cons_self)
  have hlen : S.rows.length = l.length + 1 := by rw [hS]; rfl
  obtain ⟨N, hN⟩ : ∃ N, S.rows.length = N := ⟨_, rfl⟩
  rw [hN] at hc
  have hN0 : ¬ N = 0 := by omega
  have hN1 : (0 : Int) < (N : Int) := by omega
  obtain ⟨e, p⟩ := x
  simp only at hx hbare
  have KB := Lib.hid (fun w => eBare e w hbare.1.name hbare.1.other)
  rw [hbare.1.bare] at KB
  obtain ⟨W1, hW1⟩ : ∃ W1, w.alloc (.cells #[.int .i64 0, .int .i64 0, .int .i64 0, .int .i64 0, .int .i64 0, .int .i64 0, .string ⟨#[]⟩, .string ⟨#[]⟩, .slice none 0 0] 32) = W1 := ⟨_, rfl⟩
  have hb1 : Below w.heap.size w W1 := by rw [← hW1]; exact (Below.refl _ _).alloc (Nat.le_refl _) _
  have hE1 : Cells W1 w.heap.size 32 #[.int .i64 0, .int .i64 0, .int .i64 0, .int .i64 0, .int .i64 0, .int .i64 0, .string ⟨#[]⟩, .string ⟨#[]⟩, .slice none 0 0] := by rw [← hW1]; exact Cells.new _ _ _
  have KA := Lib.hid (pnAll (hc.below' hb1))
  have hq1 : q < w.heap.size := hcur.lt
  have hx1 : ∀ (j : Nat) (u : Value), (wcells (e, p))[j]? = some u → W1.cell? ⟨q, off + j, none⟩ = some u := fun j u hj => by
    have := hx j u hj
    rw [Nat.zero_mul, Nat.zero_add] at this
    exact (hb1.cell (p := ⟨q, off + j, none⟩) hq1).trans this
  have hd1 : w.drawn ≤ W1.drawn := by rw [← hW1]; exact Nat.le_refl _
  have HD1 := Lib.hid hd1
  clear hd1
  have hz1 : W1.heap.size = w.heap.size + 1 := by rw [← hW1]; simp
  have x0 := hx1 0 _ rfl; have x1 := hx1 1 _ rfl; have x2 := hx1 2 _ rfl; have x3 := hx1 3 _ rfl; have x4 := hx1 4 _ rfl; have x5 := hx1 5 _ rfl; have x6 := hx1 6 _ rfl; have x7 := hx1 7 _ rfl; have x8 := hx1 8 _ rfl; have x9 := hx1 9 _ rfl
  simp only [Nat.add_zero] at x0 x1 x2 x3 x4 x5 x6 x7 x8 x9
  have HE1 := Lib.hid hE1; have HB1 := Lib.hid hb1; have HX9 := Lib.hid (show q < W1.heap.size by omega)
  have HZ1 := Lib.hid hz1
  clear hx hx1 hlen hN h hS hc hr hBq hcur hE1 hb1 hq1 hz1 hbare
  unfold Eff.val at *
  unfold PPtr at *
  go_enter Try.func9, Try.ntmps9
  go_upto_region 4 with (go_at_call 18; refine KA.out.mono ?_; rintro e w1 ⟨rfl, rfl⟩)
  go_region_with (go_at_call 17; (with_reducible refine (KB.out _).mono ?_); rintro e3 w3 h3; obtain ⟨rfl, b3⟩ := h3.below; have HB3 := Lib.hid (undrew b3); have hc3 := HE1.out.below' HB3.out; have HE3 := Lib.hid hc3; have HD3 := Lib.hid (Nat.le_trans HD1.out (Nat.le_trans (Nat.le_succ _) h3.drawn)); have x9 : w3.cell? ⟨q, off + 9, none⟩ = some (.int .i64 p) := (HB3.out.cell (p := ⟨q, off + 9, none⟩) HX9.out).trans x9; have fr : ∀ k, w3.frozen? ⟨w.heap.size, k, none⟩ = false := fun k => hc3.free k; have d0 := hc3.cell 0; have d1 := hc3.cell 1; have d2 := hc3.cell 2; have d3 := hc3.cell 3; have d4 := hc3.cell 4; have d5 := hc3.cell 5; have d6 := hc3.cell 6; have d7 := hc3.cell 7; have d8 := hc3.cell 8; simp at d0 d1 d2 d3 d4 d5 d6 d7 d8; clear h3 b3 hc3)
  all_goals
    go_wp2
    obtain ⟨w6, hw6, hc6, hb6, hd6⟩ := fill9 HE3.out (HB1.out.trans (HB3.out.mono HB1.out.size)) (Nat.le_refl _) HD3.out (.int .i64 e.kind) (.int .i64 e.ino) (.int .i64 e.dir) (.int .i64 e.dst) (.int .i64 e.page) (.int .i64 e.size) (.string e.name) (.string e.other) (.slice e.A e.data.length e.cp)
    rw [hw6]
    clear hw6 x0 x1 x2 x3 x4 x5 x6 x7 x8 x9 d0 d1 d2 d3 d4 d5 d6 d7 d8 fr
    have d0 := hc6.cell 0; have d1 := hc6.cell 1; have d2 := hc6.cell 2; have d3 := hc6.cell 3; have d4 := hc6.cell 4; have d5 := hc6.cell 5; have d6 := hc6.cell 6; have d7 := hc6.cell 7; have d8 := hc6.cell 8
    simp at d0 d1 d2 d3 d4 d5 d6 d7 d8
    exact bodyPost_ret (v := .tuple #[.agg #[.int .i64 e.kind, .int .i64 e.ino, .int .i64 e.dir, .int .i64 e.dst, .int .i64 e.page, .int .i64 e.size, .string e.name, .string e.other, .slice e.A e.data.length e.cp], .int .i64 p, .bool true]) (by simp [results, Try.results9, go_sem, d0, d1, d2, d3, d4, d5, d6, d7, d8]) rfl ⟨rfl, hb6⟩
theorem pnHead_none {w : World} {B b : Nat} {S : Pst} (h : PnAt w B b S) (hS : S.rows = []) : Calls Try.prog 9 #[PPtr b] w (HeadR zeffV 0 false w) := by
  obtain ⟨A, c, hc, hr⟩ := h.open_
  rw [hS] at hc
  simp only [List.length_nil] at hc
  obtain ⟨W1, hW1⟩ : ∃ W1, w.alloc (.cells #[.int .i64 0, .int .i64 0, .int .i64 0, .int .i64 0, .int .i64 0, .int .i64 0, .string ⟨#[]⟩, .string ⟨#[]⟩, .slice none 0 0] 32) = W1 := ⟨_, rfl⟩
  have hb1 : Below w.heap.size w W1 := by rw [← hW1]; exact (Below.refl _ _).alloc (Nat.le_refl _) _
  have hE1 : Cells W1 w.heap.size 32 #[.int .i64 0, .int .i64 0, .int .i64 0, .int .i64 0, .int .i64 0, .int .i64 0, .string ⟨#[]⟩, .string ⟨#[]⟩, .slice none 0 0] := by rw [← hW1]; exact Cells.new _ _ _
  have hd1 : w.drawn ≤ W1.drawn := by rw [← hW1]; exact Nat.le_refl _
  have KA := Lib.hid (pnAll (hc.below' hb1))
  have HE1 := Lib.hid hE1; have HB1 := Lib.hid hb1; have HD1 := Lib.hid hd1
  have fr : ∀ k, W1.frozen? ⟨w.heap.size, k, none⟩ = false := fun k => hE1.free k
  have d0 := hE1.cell 0; have d1 := hE1.cell 1; have d2 := hE1.cell 2; have d3 := hE1.cell 3; have d4 := hE1.cell 4; have d5 := hE1.cell 5; have d6 := hE1.cell 6; have d7 := hE1.cell 7; have d8 := hE1.cell 8
  simp at d0 d1 d2 d3 d4 d5 d6 d7 d8
  clear hc hr h hS hb1 hE1 hd1
  unfold PPtr at *
  go_enter Try.func9, Try.ntmps9
  go_wp2_with (go_at_call 18; refine KA.out.mono ?_; rintro e w1 ⟨rfl, rfl⟩)
  obtain ⟨w6, hw6, hc6, hb6, hd6⟩ := fill9 HE1.out HB1.out (Nat.le_refl _) HD1.out (.int .i64 0) (.int .i64 0) (.int .i64 0) (.int .i64 0) (.int .i64 0) (.int .i64 0) (.string ⟨#[]⟩) (.string ⟨#[]⟩) (.slice none 0 0)
  rw [hw6]
  clear hw6 d0 d1 d2 d3 d4 d5 d6 d7 d8 fr
  have d0 := hc6.cell 0; have d1 := hc6.cell 1; have d2 := hc6.cell 2; have d3 := hc6.cell 3; have d4 := hc6.cell 4; have d5 := hc6.cell 5; have d6 := hc6.cell 6; have d7 := hc6.cell 7; have d8 := hc6.cell 8
  simp at d0 d1 d2 d3 d4 d5 d6 d7 d8
  exact bodyPost_ret (v := .tuple #[zeffV, .int .i64 0, .bool false]) (by simp [results, Try.results9, go_sem, d0, d1, d2, d3, d4, d5, d6, d7, d8]; rfl) rfl ⟨rfl, hb6⟩
theorem pnHead_nil (w : World) : Calls Try.prog 9 #[.pointer none] w (HeadR zeffV 0 false w) := by
  obtain ⟨W1, hW1⟩ : ∃ W1, w.alloc (.cells #[.int .i64 0, .int .i64 0, .int .i64 0, .int .i64 0, .int .i64 0, .int .i64 0, .string ⟨#[]⟩, .string ⟨#[]⟩, .slice none 0 0] 32) = W1 := ⟨_, rfl⟩
  have hb1 : Below w.heap.size w W1 := by rw [← hW1]; exact (Below.refl _ _).alloc (Nat.le_refl _) _
  have hE1 : Cells W1 w.heap.size 32 #[.int .i64 0, .int .i64 0, .int .i64 0, .int .i64 0, .int .i64 0, .int .i64 0, .string ⟨#[]⟩, .string ⟨#[]⟩, .slice none 0 0] := by rw [← hW1]; exact Cells.new _ _ _
  have hd1 : w.drawn ≤ W1.drawn := by rw [← hW1]; exact Nat.le_refl _
  have KA := Lib.hid (pnAll_nil W1)
  have HE1 := Lib.hid hE1; have HB1 := Lib.hid hb1; have HD1 := Lib.hid hd1
  have fr : ∀ k, W1.frozen? ⟨w.heap.size, k, none⟩ = false := fun k => hE1.free k
  have d0 := hE1.cell 0; have d1 := hE1.cell 1; have d2 := hE1.cell 2; have d3 := hE1.cell 3; have d4 := hE1.cell 4; have d5 := hE1.cell 5; have d6 := hE1.cell 6; have d7 := hE1.cell 7; have d8 := hE1.cell 8
  simp at d0 d1 d2 d3 d4 d5 d6 d7 d8
  clear hb1 hE1 hd1
  go_enter Try.func9, Try.ntmps9
  go_wp2_with (go_at_call 18; refine KA.out.mono ?_; rintro e w1 ⟨rfl, rfl⟩)
  obtain ⟨w6, hw6, hc6, hb6, hd6⟩ := fill9 HE1.out HB1.out (Nat.le_refl _) HD1.out (.int .i64 0) (.int .i64 0) (.int .i64 0) (.int .i64 0) (.int .i64 0) (.int .i64 0) (.string ⟨#[]⟩) (.string ⟨#[]⟩) (.slice none 0 0)
  rw [hw6]
  clear hw6 d0 d1 d2 d3 d4 d5 d6 d7 d8 fr
  have d0 := hc6.cell 0; have d1 := hc6.cell 1; have d2 := hc6.cell 2; have d3 := hc6.cell 3; have d4 := hc6.cell 4; have d5 := hc6.cell 5; have d6 := hc6.cell 6; have d7 := hc6.cell 7; have d8 := hc6.cell 8
  simp at d0 d1 d2 d3 d4 d5 d6 d7 d8
  exact bodyPost_ret (v := .tuple #[zeffV, .int .i64 0, .bool false]) (by simp [results, Try.results9, go_sem, d0, d1, d2, d3, d4, d5, d6, d7, d8]; rfl) rfl ⟨rfl, hb6⟩
end Go.Proofs.Ytnijffgdapfgpaa
