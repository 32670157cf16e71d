import Derived.Test.YtnijffgdapfgpaaPnMem
import Derived.Deep.RegionLaw
import Derived.Deep.Cut
/-! The project's Add. -/
namespace Go.Proofs.Ytnijffgdapfgpaa
open Wd U Go.Maps Go.ChangeShapes Go.WideShapes Go.RowKit Go.Sort
set_option linter.unusedVariables false
set_option maxRecDepth 100000
/-- what a method of the list keeps -/
structure PnKept (w w' : World) (B : Nat) : Prop where
  below : Below B w w'
  other : ∀ g T cs, T ≠ 29 → T ≠ 44 → Cells w g T cs → w'.heap[g]? = w.heap[g]?
theorem PnKept.size {w w' : World} {B : Nat} (h : PnKept w w' B) : w.heap.size ≤ w'.heap.size := h.below.size
theorem PnKept.cells {w w' : World} {B g : Nat} {T : TypeId} {cs : Array Value} (h : PnKept w w' B) (hc : Cells w g T cs) (h1 : T ≠ 29) (h2 : T ≠ 44) : Cells w' g T cs := (h.other g T cs h1 h2 hc).trans hc
theorem PnKept.off {w w' : World} {B B' k n : Nat} {T : TypeId} {v : Value} {xs : List Value} (h : PnKept w w' B) (hc : OffRow w B' T k v n xs) (h1 : T ≠ 29) (h2 : T ≠ 44) : OffRow w' B' T k v n xs := hc.keep fun g cs hg => h.other g T cs h1 h2 hg
theorem wone (x : Eff × Int) : ∀ u ∈ wcells x, u.oneCell' = true := by intro u hu; unfold wcells Eff.vals at hu; simp at hu; rcases hu with rfl | rfl | rfl | rfl | rfl | rfl | rfl | rfl | rfl | rfl <;> rfl
theorem add_end {w W3 w' : World} {B b : Nat} {S : Pst} {x : Eff × Int} {v v' : Value} (h : PnAt w B b S) (hl : S.rows.length < 1000) (hx : EfBare x.1 ∧ i64R x.2) (hb : Below w.heap.size w W3) (hB : B ≤ w.heap.size)
    (hc : Cells W3 b 29 #[v, .int .i64 (S.gone : Int)]) (hr : OffRow w' B 44 10 v' (S.rows.length + 1) (pvals S.rows ++ wcells x)) (hk : OffKept W3 w' B 44) :
    PnAt (w'.setCell ⟨b, 0, none⟩ v') B b ⟨S.rows ++ [x], S.gone⟩ ∧ PnKept w (w'.setCell ⟨b, 0, none⟩ v') B := by
  have hc' := hk.cells hc (by decide)
  refine ⟨⟨h.bb, by simp; omega, h.few, ⟨v', ?_, ?_⟩, fun y hy => ?_⟩, ⟨?_, ?_⟩⟩
  · have := hc'.set 0 v'; simpa using this
  · have e1 : pvals (S.rows ++ [x]) = pvals S.rows ++ wcells x := pvals_snoc _ _
    rw [e1]
    have e2 : (S.rows ++ [x]).length = S.rows.length + 1 := by simp
    rw [e2]
    exact hr.keep fun q cs hq => Below.heap_setCell w' ⟨b, 0, none⟩ v' q (hq.ne hc' (by decide))
  · rcases List.mem_append.1 hy with hy | hy
    · exact h.bare y hy
    · rw [List.mem_singleton.1 hy]; exact hx
  · exact ((hb.mono hB).trans hk.below).setCell (p := ⟨b, 0, none⟩) h.bb _
  · intro q T cs h1 h2 hq
    refine (Below.heap_setCell w' ⟨b, 0, none⟩ v' q ((hk.cells (hq.below' hb) h2).ne hc' h1)).trans ((hk.other q T cs h2 (hq.below' hb)).trans (hb.block q hq.lt))
set_option maxHeartbeats 4000000 in
theorem pnAdd {w : World} {B b : Nat} {S : Pst} (h : PnAt w B b S) (e : Eff) (id : Int) (he : EfBare e.bare) (hid : i64R id) (hl : S.rows.length < 1000) (hB : B ≤ w.heap.size) :
    Calls Try.prog 8 #[PPtr b, e.val, .int .i64 id] w fun e' w' => e' = .returned (.int .i64 ((S.gone + S.rows.length + 1 : Nat) : Int)) ∧ PnAt w' B b ⟨S.rows ++ [(e.bare, id)], S.gone⟩ ∧ PnKept w w' B := by
  obtain ⟨A, c, hc, hr⟩ := h.open_
  obtain ⟨W1, hW1⟩ : ∃ W1, w.alloc (.cells (effCells e) 32) = W1 := ⟨_, rfl⟩
  have hb1 : Below w.heap.size w W1 := by rw [← hW1]; exact (Below.refl _ _).alloc (Nat.le_refl _) _
  have hE1 : Cells W1 w.heap.size 32 (effCells e) := by rw [← hW1]; exact Cells.new _ _ _
  have hc1 := hc.below' hb1
  have KN := Lib.hid (pnNext hc1 h.len h.few)
  have hEx := Lib.hid (show EfBare e.bare ∧ i64R id from ⟨he, hid⟩)
  have KB := Lib.hid (fun w => eBare e w he.name he.other)
  have H := Lib.hid h; have HL := Lib.hid hl; have HB := Lib.hid hB
  have HC1 := Lib.hid hc1; have HR1 := Lib.hid (hr.below hb1); have HB1 := Lib.hid hb1; have HE1 := Lib.hid hE1
  have x0 := hE1.cell 0; have x1 := hE1.cell 1; have x2 := hE1.cell 2; have x3 := hE1.cell 3; have x4 := hE1.cell 4; have x5 := hE1.cell 5; have x6 := hE1.cell 6; have x7 := hE1.cell 7; have x8 := hE1.cell 8
  have y0 := hc1.cell 0
  unfold effCells at x0 x1 x2 x3 x4 x5 x6 x7 x8 hW1
  simp at x0 x1 x2 x3 x4 x5 x6 x7 x8 y0
  unfold Eff.val at KB
  unfold PPtr at *
  clear hb1 hE1 hc1 hc hr h hl hB he hid
  unfold Eff.val
  obtain ⟨N, hN⟩ : ∃ N, S.rows.length = N := ⟨_, rfl⟩
  have HN := Lib.hid hN
  rw [hN] at y0 KN HC1 HR1
  rw [hN]
  clear hN
  go_enter Try.func8, Try.ntmps8
  go_upto_region 4 with (go_at_call 13; refine KN.out.mono ?_; rintro e w1 ⟨rfl, rfl⟩)

  go_region_law (first
    | (go_simp; go_at_call 17; (with_reducible refine (KB.out _).mono ?_); rintro e3 w3 h3; obtain ⟨rfl, b3⟩ := h3.below
       have b4 : Below w3.heap.size w3 (w3.alloc (.cells #[.int .i64 e.bare.kind, .int .i64 e.bare.ino, .int .i64 e.bare.dir, .int .i64 e.bare.dst, .int .i64 e.bare.page, .int .i64 e.bare.size, .string e.bare.name, .string e.bare.other, .slice e.bare.A e.bare.data.length e.bare.cp, .int .i64 id] 44)) := (Below.refl _ _).alloc (Nat.le_refl _) _
       have HB3 := Lib.hid (undrew b3)
       have hc3 := HC1.out.below' HB3.out
       have HC4 := Lib.hid (hc3.below' b4); have HR4 := Lib.hid ((HR1.out.below HB3.out).below b4)
       have HB4 := Lib.hid (HB1.out.trans ((HB3.out.trans (b4.mono HB3.out.size)).mono HB1.out.size))
       have HS4 := Lib.hid (Nat.le_trans HB.out HB4.out.size)
       have HN4 := Lib.hid (show Cells (w3.alloc (.cells #[.int .i64 e.bare.kind, .int .i64 e.bare.ino, .int .i64 e.bare.dir, .int .i64 e.bare.dst, .int .i64 e.bare.page, .int .i64 e.bare.size, .string e.bare.name, .string e.bare.other, .slice e.bare.A e.bare.data.length e.bare.cp, .int .i64 id] 44)) w3.heap.size 44 (wcells (e.bare, id)).toArray from Cells.new _ _ _)
       have y0 : w3.cell? ⟨b, 0, none⟩ = some (.slice A N c) := by { rw [hc3.cell]; rfl }
       have y5 : (w3.alloc (.cells #[.int .i64 e.bare.kind, .int .i64 e.bare.ino, .int .i64 e.bare.dir, .int .i64 e.bare.dst, .int .i64 e.bare.page, .int .i64 e.bare.size, .string e.bare.name, .string e.bare.other, .slice e.bare.A e.bare.data.length e.bare.cp, .int .i64 id] 44)).cell? ⟨b, 0, none⟩ = some (.slice A N c) := by { rw [HC4.out.cell]; rfl }
       clear h3 b3 hc3 b4)
    | (refine step_append_off (by rfl) (.tmp 16) (.tmp 21) 27 (by rfl) 44 _ 10 112 Try.underlying27 infoPW (by rfl) (by decide) (by rfl) HR4.out _ (wcells (e.bare, id)) (by rfl) (by rfl) HN4.out (wone _) (by have := HL.out; have := HN.out; omega) (by decide) HS4.out ?_; intro v4 w4 ho4 hk4
       obtain ⟨A4, c4, rfl, _, _⟩ := ho4.shape
       have hc4 := hk4.cells HC4.out (by decide)
       have ho5 : OffRow w4 B 44 10 (.slice A4 (N + 1) c4) (S.rows.length + 1) (pvals S.rows ++ wcells (e.bare, id)) := by { rw [HN.out]; exact ho4 }
       have HO5 := Lib.hid ho5; have HK4 := Lib.hid hk4
       have y4 := hc4.cell 0; have f4 := hc4.free 0
       clear y0 y5 ho4 ho5 hk4 hc4))
  all_goals
    go_wp2
    go_ret
    exact ⟨rfl, add_end (x := (e.bare, id)) H.out HL.out hEx.out HB4.out HB.out HC4.out HO5.out HK4.out⟩
end Go.Proofs.Ytnijffgdapfgpaa
