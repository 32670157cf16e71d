import Derived.Test.YtlfmfdbgchpjgaaExRight
import Derived.Deep.RegionWith
import Derived.Deep.RegionLaw
import Derived.Deep.RegionHeld3
namespace Go.Proofs.Ytlfmfdbgchpjgaa
open Wd Ex Go.RowKit Go.ChangeShapes Go.WideShapes Go.Sort
set_option linter.unusedVariables false
set_option maxRecDepth 100000

/-- it tells v, and nothing that was there has turned -/
def Tells (v : Value) (w : World) (e : Ending) (w' : World) : Prop := e = .returned v ∧ Below w.heap.size w w'
theorem fill3 {w : World} {g : Nat} {t : TypeId} {u0 u1 u2 : Value} (h : Cells w g t #[u0, u1, u2]) (v0 v1 v2 : Value) : Cells (((w.setCell ⟨g, 0, none⟩ v0).setCell ⟨g, 1, none⟩ v1).setCell ⟨g, 2, none⟩ v2) g t #[v0, v1, v2] := by
  simpa using ((h.set 0 v0).set 1 v1).set 2 v2
set_option maxHeartbeats 4000000 in
theorem xPart (e : Ext) (a b : Int) (ha : 0 ≤ a) (hb : b ≤ 1048576) (hab : a < b) (he : Fits e) (h1 : a < e.f + e.n) (h2 : e.f < b) (w : World) : Calls Try.prog 30 #[e.val, .int .i64 a, .int .i64 b] w (Tells (partE e a b).val w) := by
  have KA := Lib.hid (fun w => xAfter e (by have := he.f; have := he.n; omega) (by have := he.fn; omega) w)
  have hpt : (partE e a b).val = .agg #[.int .i64 (max e.f a), .int .i64 (min (e.f + e.n) b - max e.f a), .int .i64 (e.p + max e.f a - e.f)] := rfl
  rw [hpt]
  obtain ⟨f, n, p⟩ := e
  obtain ⟨e1, e2, e3, e4, e5⟩ := he
  simp only [Ext.val] at h1 h2 e1 e2 e3 e4 e5 KA ⊢
  obtain ⟨x, hx⟩ : ∃ x, max f a = x := ⟨_, rfl⟩
  obtain ⟨t, ht⟩ : ∃ t, f + n = t := ⟨_, rfl⟩
  obtain ⟨y, hy⟩ : ∃ y, min t b = y := ⟨_, rfl⟩
  rw [ht] at KA ⊢
  rw [hx, hy]
  have q1 : IntKind.i64.wrap (y - x) = y - x := by rw [IntKind.wrap_i64]; omega
  have q2 : IntKind.i64.wrap (p + x) = p + x := by rw [IntKind.wrap_i64]; omega
  have q3 : IntKind.i64.wrap (p + x - f) = p + x - f := by rw [IntKind.wrap_i64]; omega
  have fx : (if f < a then a else f) = x := by rw [← hx]; split <;> omega
  have fy : (if b < t then b else t) = y := by rw [← hy]; split <;> omega
  have FX := Lib.hid fx
  clear hpt ha hb hab h1 h2 e1 e2 e3 e4 e5 ht hx hy fx
  go_enter Try.func30, Try.ntmps30
  go_upto_region 2 with fail
  rw [FX.out]
  obtain ⟨W2, hW2⟩ : ∃ W2, (w.alloc (.cells #[.int .i64 f, .int .i64 n, .int .i64 p] 29)).alloc (.cells #[.int .i64 0, .int .i64 0, .int .i64 0] 29) = W2 := ⟨_, rfl⟩
  have hc : Cells W2 w.heap.size 29 #[.int .i64 f, .int .i64 n, .int .i64 p] := by rw [← hW2]; exact (Cells.new _ _ _).alloc _
  have hr : Cells W2 (w.heap.size + 1) 29 #[.int .i64 0, .int .i64 0, .int .i64 0] := by rw [← hW2]; have := Cells.new (w.alloc (.cells #[.int .i64 f, .int .i64 n, .int .i64 p] 29)) 29 #[.int .i64 0, .int .i64 0, .int .i64 0]; rwa [World.size_alloc] at this
  have hb : Below w.heap.size w W2 := by rw [← hW2]; exact ((Below.refl _ _).alloc (Nat.le_refl _) _).alloc (by simp) _
  rw [hW2]
  have HC := Lib.hid hc; have HR := Lib.hid hr; have HB := Lib.hid hb
  have s9 : ∀ w' : World, (∀ k, k < W2.heap.size → k ≠ w.heap.size + 1 → w'.heap[k]? = W2.heap[k]?) → w'.cell? ⟨w.heap.size, 0, none⟩ = some (.int .i64 f) ∧ w'.cell? ⟨w.heap.size, 1, none⟩ = some (.int .i64 n) ∧ w'.cell? ⟨w.heap.size, 2, none⟩ = some (.int .i64 p) := fun w' hw => by
    have d3 : Cells w' w.heap.size _ _ := (hw _ HC.out.lt (by omega)).trans HC.out
    exact ⟨d3.cell 0, d3.cell 1, d3.cell 2⟩
  have S9 := Lib.hid s9
  clear hc hr hb hW2 s9
  have b0 : Below W2.heap.size W2 W2.drew := below_drewN (Below.refl _ _) 1
  go_region_held3 (fun w' => w'.cell? ⟨w.heap.size, 0, none⟩ = some (.int .i64 f) ∧ w'.cell? ⟨w.heap.size, 1, none⟩ = some (.int .i64 n) ∧ w'.cell? ⟨w.heap.size, 2, none⟩ = some (.int .i64 p))
    (first | exact S9.out _ (fun k hk _ => b0.block k hk) | exact S9.out _ (fun k hk _ => kA.block k hk) | exact S9.out _ (fun k hk hne => (Below.heap_setCell _ _ _ k hne).trans ((Below.heap_setCell _ _ _ k hne).trans ((Below.heap_setCell _ _ _ k hne).trans (kA.block k hk)))))
    (first
      | (go_at_call 25; (with_reducible refine (KA.out _).mono ?_); rintro e' w3 h3; obtain ⟨rfl, b3⟩ := h3.below; clear h3; have kA : Below W2.heap.size W2 w3 := b0.trans (b3.mono b0.size); have HR3 := Lib.hid (HR.out.below' kA); have r0 := HR3.out.cell 0; have r1 := HR3.out.cell 1; have r2 := HR3.out.cell 2; have z0 := HR3.out.free 0; have z1 := HR3.out.free 1; have z2 := HR3.out.free 2))
  all_goals
    have cc := fill3 HR3.out (.int .i64 x) (.int .i64 (y - x)) (.int .i64 (p + x - f))
    have d0 := cc.cell 0
    have d1 := cc.cell 1
    have d2 := cc.cell 2
    simp at d0 d1 d2
    have hsz := HR3.out.lt
    have b4 := HB.out.trans (kA.mono HB.out.size)
    have b5 := ((b4.setCell (p := ⟨w.heap.size + 1, 0, none⟩) (by simp) (.int .i64 x)).setCell (p := ⟨w.heap.size + 1, 1, none⟩) (by simp) (.int .i64 (y - x))).setCell (p := ⟨w.heap.size + 1, 2, none⟩) (by simp) (.int .i64 (p + x - f))
    have HB5 := Lib.hid b5
    clear r0 r1 r2 z0 z1 z2 S9 b4 b5 cc hsz
    go_wp2
    exact bodyPost_ret (v := .agg #[.int .i64 x, .int .i64 (y - x), .int .i64 (p + x - f)]) (by simp [results, Try.results30, go_sem, d0, d1, d2]) rfl ⟨rfl, HB5.out⟩
end Go.Proofs.Ytlfmfdbgchpjgaa
