import Derived.Test.YtnijffgdapfgpaaEfBre
import Derived.Deep.RegionWith
import Derived.Deep.RegionLaw
/-
  The project's Bare: an effect without its bytes, its names copied.
-/
namespace Go.Proofs.Ytnijffgdapfgpaa
open Wd U Go.RowKit Go.ChangeShapes Go.WideShapes Go.Sort
set_option linter.unusedVariables false
set_option maxRecDepth 100000
def Eff.bare (e : Eff) : Eff := { e with A := none, cp := 0, data := [] }

theorem fill1 {w0 w : World} {g : Nat} {t : TypeId} {cs : Array Value} (h : Cells w g t cs) (hb : Below w0.heap.size w0 w) (hg : w0.heap.size ≤ g) (hd : w0.drawn ≤ w.drawn) (i : Nat) (v : Value) : ∃ x, w.setCell ⟨g, i, none⟩ v = x ∧ Cells x g t (cs.setIfInBounds i v) ∧ Below w0.heap.size w0 x ∧ w0.drawn ≤ x.drawn :=
  ⟨_, rfl, h.set i v, hb.setCell (p := ⟨g, i, none⟩) hg v, hd⟩
theorem fill9 {w0 w : World} {g : Nat} {t : TypeId} {u0 u1 u2 u3 u4 u5 u6 u7 u8 : Value} (h : Cells w g t #[u0, u1, u2, u3, u4, u5, u6, u7, u8]) (hb : Below w0.heap.size w0 w) (hg : w0.heap.size ≤ g) (hd : w0.drawn ≤ w.drawn) (v0 v1 v2 v3 v4 v5 v6 v7 v8 : Value) :
    ∃ w6, (((((((((w.setCell ⟨g, 0, none⟩ v0).setCell ⟨g, 1, none⟩ v1).setCell ⟨g, 2, none⟩ v2).setCell ⟨g, 3, none⟩ v3).setCell ⟨g, 4, none⟩ v4).setCell ⟨g, 5, none⟩ v5).setCell ⟨g, 6, none⟩ v6).setCell ⟨g, 7, none⟩ v7).setCell ⟨g, 8, none⟩ v8) = w6 ∧ Cells w6 g t #[v0, v1, v2, v3, v4, v5, v6, v7, v8] ∧ Below w0.heap.size w0 w6 ∧ w0.drawn ≤ w6.drawn := by
  obtain ⟨x0, e0, h0, b0, d0⟩ := fill1 h hb hg hd 0 v0
  have k0 : Cells x0 g t #[v0, u1, u2, u3, u4, u5, u6, u7, u8] := by simpa using h0
  clear h0
  obtain ⟨x1, e1, h1, b1, d1⟩ := fill1 k0 b0 hg d0 1 v1
  have k1 : Cells x1 g t #[v0, v1, u2, u3, u4, u5, u6, u7, u8] := by simpa using h1
  clear h1
  obtain ⟨x2, e2, h2, b2, d2⟩ := fill1 k1 b1 hg d1 2 v2
  have k2 : Cells x2 g t #[v0, v1, v2, u3, u4, u5, u6, u7, u8] := by simpa using h2
  clear h2
  obtain ⟨x3, e3, h3, b3, d3⟩ := fill1 k2 b2 hg d2 3 v3
  have k3 : Cells x3 g t #[v0, v1, v2, v3, u4, u5, u6, u7, u8] := by simpa using h3
  clear h3
  obtain ⟨x4, e4, h4, b4, d4⟩ := fill1 k3 b3 hg d3 4 v4
  have k4 : Cells x4 g t #[v0, v1, v2, v3, v4, u5, u6, u7, u8] := by simpa using h4
  clear h4
  obtain ⟨x5, e5, h5, b5, d5⟩ := fill1 k4 b4 hg d4 5 v5
  have k5 : Cells x5 g t #[v0, v1, v2, v3, v4, v5, u6, u7, u8] := by simpa using h5
  clear h5
  obtain ⟨x6, e6, h6, b6, d6⟩ := fill1 k5 b5 hg d5 6 v6
  have k6 : Cells x6 g t #[v0, v1, v2, v3, v4, v5, v6, u7, u8] := by simpa using h6
  clear h6
  obtain ⟨x7, e7, h7, b7, d7⟩ := fill1 k6 b6 hg d6 7 v7
  have k7 : Cells x7 g t #[v0, v1, v2, v3, v4, v5, v6, v7, u8] := by simpa using h7
  clear h7
  obtain ⟨x8, e8, h8, b8, d8⟩ := fill1 k7 b7 hg d7 8 v8
  have k8 : Cells x8 g t #[v0, v1, v2, v3, v4, v5, v6, v7, v8] := by simpa using h8
  clear h8
  rw [e0, e1, e2, e3, e4, e5, e6, e7, e8]
  exact ⟨_, rfl, k8, b8, d8⟩

set_option maxRecDepth 100000 in
set_option maxHeartbeats 4000000 in
theorem eBare (e : Eff) (w : World) (hn : e.name.size ≤ 100) (ho : e.other.size ≤ 100) : Calls Try.prog 17 #[e.val] w (Grows e.bare.val w) := by
  obtain ⟨kind, ino, dir, dst, page, size, name, other, A, cp, data⟩ := e
  have K0 := Lib.hid (fun w => cloneG name (by dsimp only at hn; omega) w)
  have K1 := Lib.hid (fun w => cloneG other (by dsimp only at ho; omega) w)
  clear hn ho
  unfold Eff.bare Eff.val
  go_enter Try.func17, Try.ntmps17
  go_upto_region 1 with fail
  obtain ⟨W2, hW2⟩ : ∃ W2, (w.alloc (.cells #[.int .i64 kind, .int .i64 ino, .int .i64 dir, .int .i64 dst, .int .i64 page, .int .i64 size, .string name, .string other, .slice A data.length cp] 32)).alloc (.cells #[.int .i64 0, .int .i64 0, .int .i64 0, .int .i64 0, .int .i64 0, .int .i64 0, .string ⟨#[]⟩, .string ⟨#[]⟩, .slice none 0 0] 32) = W2 := ⟨_, rfl⟩
  have hc : Cells W2 w.heap.size 32 #[.int .i64 kind, .int .i64 ino, .int .i64 dir, .int .i64 dst, .int .i64 page, .int .i64 size, .string name, .string other, .slice A data.length cp] := by rw [← hW2]; exact (Cells.new _ _ _).alloc _
  have hr : Cells W2 (w.heap.size + 1) 32 #[.int .i64 0, .int .i64 0, .int .i64 0, .int .i64 0, .int .i64 0, .int .i64 0, .string ⟨#[]⟩, .string ⟨#[]⟩, .slice none 0 0] := by rw [← hW2]; have := Cells.new (w.alloc (.cells #[.int .i64 kind, .int .i64 ino, .int .i64 dir, .int .i64 dst, .int .i64 page, .int .i64 size, .string name, .string other, .slice A data.length cp] 32)) 32 #[.int .i64 0, .int .i64 0, .int .i64 0, .int .i64 0, .int .i64 0, .int .i64 0, .string ⟨#[]⟩, .string ⟨#[]⟩, .slice none 0 0]; simpa using this
  have hb : Below w.heap.size w W2 := by rw [← hW2]; exact ((Below.refl _ _).alloc (Nat.le_refl _) _).alloc (by simp) _
  have hd : w.drawn ≤ W2.drawn := by rw [← hW2]; exact Nat.le_refl _
  have he : ∃ M, M = W2 := ⟨_, rfl⟩
  rw [hW2]
  have HC := Lib.hid hc; have HR := Lib.hid hr; have HB := Lib.hid hb; have HD := Lib.hid hd
  have c6 : W2.cell? ⟨w.heap.size, 6, none⟩ = some (.string name) := hc.cell 6
  have c7 : W2.cell? ⟨w.heap.size, 7, none⟩ = some (.string other) := hc.cell 7
  clear hc hr hb hd he hW2
  go_region_with (first
    | (go_at_call 21; (with_reducible refine (K0.out _).mono ?_); rintro e' w3 h3; clear c6 c7; obtain ⟨rfl, b3⟩ := h3.below; have hc3 := HC.out.below' (undrew b3); have HC3 := Lib.hid hc3; have HR3 := Lib.hid (HR.out.below' (undrew b3)); have HB3 := Lib.hid (HB.out.trans ((undrew b3).mono HB.out.size)); have HD3 := Lib.hid (Nat.le_trans HD.out (Nat.le_trans (Nat.le_succ _) h3.drawn)); have c6 : w3.cell? ⟨w.heap.size, 6, none⟩ = some (.string name) := hc3.cell 6; have c7 : w3.cell? ⟨w.heap.size, 7, none⟩ = some (.string other) := hc3.cell 7; clear h3 b3 hc3)
    | (go_at_call 21; (with_reducible refine (K1.out _).mono ?_); rintro e' w4 h4; clear c6 c7; obtain ⟨rfl, b4⟩ := h4.below; have hc4 := HC3.out.below' b4; have HC4 := Lib.hid hc4; have HR4 := Lib.hid (HR3.out.below' b4); have HB4 := Lib.hid (HB3.out.trans (b4.mono HB3.out.size)); have HD4 := Lib.hid (Nat.le_trans HD3.out h4.drawn); have c6 : w4.cell? ⟨w.heap.size, 6, none⟩ = some (.string name) := hc4.cell 6; have c7 : w4.cell? ⟨w.heap.size, 7, none⟩ = some (.string other) := hc4.cell 7; have c8 : w4.cell? ⟨w.heap.size, 8, none⟩ = some (.slice A data.length cp) := hc4.cell 8; have fr : ∀ k, w4.frozen? ⟨w.heap.size, k, none⟩ = false := fun k => hc4.free k; clear h4 b4 hc4))
  all_goals
    have hc5 : Cells (((w4.setCell ⟨w.heap.size, 6, none⟩ (.string name)).setCell ⟨w.heap.size, 7, none⟩ (.string other)).setCell ⟨w.heap.size, 8, none⟩ (.slice none 0 0)) w.heap.size 32 #[.int .i64 kind, .int .i64 ino, .int .i64 dir, .int .i64 dst, .int .i64 page, .int .i64 size, .string name, .string other, .slice none 0 0] := ((HC4.out.set 6 (.string name)).set 7 (.string other)).set 8 (.slice none 0 0)
    have hr5 := ((HR4.out.far (p := ⟨w.heap.size, 6, none⟩) (by simp) (.string name)).far (p := ⟨w.heap.size, 7, none⟩) (by simp) (.string other)).far (p := ⟨w.heap.size, 8, none⟩) (by simp) (.slice none 0 0)
    have hb5 := ((HB4.out.setCell (p := ⟨w.heap.size, 6, none⟩) (Nat.le_refl _) (.string name)).setCell (p := ⟨w.heap.size, 7, none⟩) (Nat.le_refl _) (.string other)).setCell (p := ⟨w.heap.size, 8, none⟩) (Nat.le_refl _) (.slice none 0 0)
    have hd5 : w.drawn ≤ (((w4.setCell ⟨w.heap.size, 6, none⟩ (.string name)).setCell ⟨w.heap.size, 7, none⟩ (.string other)).setCell ⟨w.heap.size, 8, none⟩ (.slice none 0 0)).drawn := HD4.out
    obtain ⟨w5, hw5⟩ : ∃ w5, ((w4.setCell ⟨w.heap.size, 6, none⟩ (.string name)).setCell ⟨w.heap.size, 7, none⟩ (.string other)).setCell ⟨w.heap.size, 8, none⟩ (.slice none 0 0) = w5 := ⟨_, rfl⟩
    rw [hw5] at hc5 hr5 hb5 hd5 ⊢
    have HB5 := Lib.hid hb5; have HD5 := Lib.hid hd5; have HR5 := Lib.hid hr5
    clear c6 c7 c8 fr hw5 hb5 hd5
    have c0 : w5.cell? ⟨w.heap.size, 0, none⟩ = some (.int .i64 kind) := hc5.cell 0
    have c1 : w5.cell? ⟨w.heap.size, 1, none⟩ = some (.int .i64 ino) := hc5.cell 1
    have c2 : w5.cell? ⟨w.heap.size, 2, none⟩ = some (.int .i64 dir) := hc5.cell 2
    have c3 : w5.cell? ⟨w.heap.size, 3, none⟩ = some (.int .i64 dst) := hc5.cell 3
    have c4 : w5.cell? ⟨w.heap.size, 4, none⟩ = some (.int .i64 page) := hc5.cell 4
    have c5 : w5.cell? ⟨w.heap.size, 5, none⟩ = some (.int .i64 size) := hc5.cell 5
    have c6 : w5.cell? ⟨w.heap.size, 6, none⟩ = some (.string name) := hc5.cell 6
    have c7 : w5.cell? ⟨w.heap.size, 7, none⟩ = some (.string other) := hc5.cell 7
    have c8 : w5.cell? ⟨w.heap.size, 8, none⟩ = some (.slice none 0 0) := hc5.cell 8
    have d0 : w5.cell? ⟨w.heap.size + 1, 0, none⟩ = some (.int .i64 0) := hr5.cell 0
    have d1 : w5.cell? ⟨w.heap.size + 1, 1, none⟩ = some (.int .i64 0) := hr5.cell 1
    have d2 : w5.cell? ⟨w.heap.size + 1, 2, none⟩ = some (.int .i64 0) := hr5.cell 2
    have d3 : w5.cell? ⟨w.heap.size + 1, 3, none⟩ = some (.int .i64 0) := hr5.cell 3
    have d4 : w5.cell? ⟨w.heap.size + 1, 4, none⟩ = some (.int .i64 0) := hr5.cell 4
    have d5 : w5.cell? ⟨w.heap.size + 1, 5, none⟩ = some (.int .i64 0) := hr5.cell 5
    have d6 : w5.cell? ⟨w.heap.size + 1, 6, none⟩ = some (.string ⟨#[]⟩) := hr5.cell 6
    have d7 : w5.cell? ⟨w.heap.size + 1, 7, none⟩ = some (.string ⟨#[]⟩) := hr5.cell 7
    have d8 : w5.cell? ⟨w.heap.size + 1, 8, none⟩ = some (.slice none 0 0) := hr5.cell 8
    have fr : ∀ k, w5.frozen? ⟨w.heap.size + 1, k, none⟩ = false := fun k => hr5.free k
    clear hc5 hr5
    go_wp2
    obtain ⟨w6, hw6, hc6, hb6, hd6⟩ := fill9 HR5.out HB5.out (Nat.le_succ _) HD5.out (.int .i64 kind) (.int .i64 ino) (.int .i64 dir) (.int .i64 dst) (.int .i64 page) (.int .i64 size) (.string name) (.string other) (.slice none 0 0)
    rw [hw6]
    clear hw6 c0 c1 c2 c3 c4 c5 c6 c7 c8 d0 d1 d2 d3 d4 d5 d6 d7 d8 fr
    have d0 : w6.cell? ⟨w.heap.size + 1, 0, none⟩ = some (.int .i64 kind) := hc6.cell 0
    have d1 : w6.cell? ⟨w.heap.size + 1, 1, none⟩ = some (.int .i64 ino) := hc6.cell 1
    have d2 : w6.cell? ⟨w.heap.size + 1, 2, none⟩ = some (.int .i64 dir) := hc6.cell 2
    have d3 : w6.cell? ⟨w.heap.size + 1, 3, none⟩ = some (.int .i64 dst) := hc6.cell 3
    have d4 : w6.cell? ⟨w.heap.size + 1, 4, none⟩ = some (.int .i64 page) := hc6.cell 4
    have d5 : w6.cell? ⟨w.heap.size + 1, 5, none⟩ = some (.int .i64 size) := hc6.cell 5
    have d6 : w6.cell? ⟨w.heap.size + 1, 6, none⟩ = some (.string name) := hc6.cell 6
    have d7 : w6.cell? ⟨w.heap.size + 1, 7, none⟩ = some (.string other) := hc6.cell 7
    have d8 : w6.cell? ⟨w.heap.size + 1, 8, none⟩ = some (.slice none 0 0) := hc6.cell 8
    exact bodyPost_ret (v := .agg #[.int .i64 kind, .int .i64 ino, .int .i64 dir, .int .i64 dst, .int .i64 page, .int .i64 size, .string name, .string other, .slice none 0 0]) (by simp [results, Try.results17, go_sem, d0, d1, d2, d3, d4, d5, d6, d7, d8]) rfl (Grows.of_below hb6 hd6)
end Go.Proofs.Ytnijffgdapfgpaa
