import Derived.Test.YtjhchddmbbibpaaDoorPaTk
import Derived.Test.YtjhchddmbbibpaaDoorApp
import Derived.Lib.SliceRun
import Derived.Deep.RegionHeld3
namespace Go.Proofs.YtjhchddmbbibpaaDoor
open Wd Pa Go.ChangeShapes Go.WideShapes Go.RowKit Go.Sort
set_option linter.unusedVariables false
theorem infoW : (Tryd.prog.info? 49).map (fun i => (i.zero, i.size, i.bytes)) = some (some (.int .u64 0), 1, 8) := by kernel_rfl
def ClonedRow (w : World) (n : Nat) (xs : List Value) (e : Ending) (w' : World) : Prop := ∃ g c ex, e = .returned (.slice (some ⟨g, 0, none⟩) n c) ∧ Cells w' g 49 (xs ++ ex).toArray ∧ w.heap.size ≤ g ∧ n ≤ c ∧ Below w.heap.size w w'
set_option maxRecDepth 100000 in
theorem sclone {w : World} {B b o n c : Nat} {xs : List Value} (h : Row w B (some ⟨b, o, none⟩) n xs) (hb : b < w.heap.size) (h1 : ∀ u ∈ xs, u.oneCell' = true) (hn : n ≤ 33554432) : Calls Tryd.prog 28 #[.slice (some ⟨b, o, none⟩) n c] w (ClonedRow w n xs) := by
  have ho : (w.alloc (.cells #[] 49)).ownsRow w.heap.size 49 1 (.slice (some ⟨w.heap.size, 0, none⟩) 0 0) 0 [] := ⟨rfl, .inr ⟨w.heap.size, 0, #[], rfl, Nat.le_refl _, Cells.new w _ _, Nat.le_refl _, by decide, rfl, rfl⟩⟩
  have HO := Lib.hid ho
  have hr' : Row (w.alloc (.cells #[] 49)) w.heap.size (some ⟨b, o, none⟩) n xs := ⟨h.1, fun hp => by
    obtain ⟨b', o', e, hB, hx⟩ := h.2 hp
    injection e with e
    injection e with e1 e2
    subst e1 e2
    exact ⟨b, o, rfl, hb, fun j hj => (((Below.refl w.heap.size w).alloc (Nat.le_refl _) _).cell (p := ⟨b, _, none⟩) hb).trans (hx j hj)⟩⟩
  have HR := Lib.hid hr'
  have H1 := Lib.hid h1
  have hq := fun (w : World) => Lib.run_eql_slice_nil (P := Tryd.prog) w 46 49 (some ⟨b, o, none⟩) n c 0 0 Tryd.underlying46
  clear ho hr' h h1
  go_enter Tryd.func28, Tryd.ntmps28
  go_wp2_with (at_builtin; refine wpList_append_row _ rfl (.tmp 5) (.tmp 6) 46 rfl w.heap.size 49 (.int .u64 0) 8 Tryd.underlying46 infoW rfl _ _ _ rfl HO.out _ (some ⟨b, o, none⟩) n c xs rfl HR.out H1.out (by unfold maxLen; omega) (by omega) (by simp) ?_; intro v5 w5 hown5 hgr5 hat5; have HO5 := Lib.hid hown5; have HG5 := Lib.hid hgr5; have HA5 := Lib.hid hat5; clear hown5 hgr5 hat5)
  go_ret
  have hb5 : Below w.heap.size w w5 := ((Below.refl _ _).alloc (Nat.le_refl _) _).grown HG5.out (by simp) (own_base HO.out)
  rcases HO5.out.2 with ⟨rfl, h0⟩ | ⟨g, cap, cur, rfl, hgb, hh, k1, k2, hs, ht⟩
  · rcases HA5.out with e | e
    · cases e
    · cases e
  · have e : (xs ++ cur.toList.drop n).toArray = cur := by
      apply Array.toList_inj.1
      have ht' : cur.toList.take n = xs := by simpa using ht
      show xs ++ cur.toList.drop n = cur.toList
      rw [← ht', List.take_append_drop]
    refine ⟨g, cap, cur.toList.drop n, ?_, by rw [e]; exact hh, hgb, by simpa using k1, hb5⟩
    simp
section
variable {w : World} {B n : Nat} {f : Pp} {U : Nat → Bool} {ws : List Nat}
theorem PgAt.row (h : PgAt w B f n U ws) : Row w (f.h + 1) (some ⟨f.h, 0, none⟩) ws.length (ws.map w64) := ⟨by simp, fun hp => ⟨f.h, 0, rfl, Nat.lt_succ_self _, fun j hj => by
  have hj' : j < ws.length := by simpa using hj
  rw [Nat.zero_add, h.cX (List.getElem?_eq_getElem hj')]
  simp [w64]⟩⟩
theorem w64_one (ws : List Nat) : ∀ u ∈ ws.map w64, u.oneCell' = true := by
  intro u hu
  obtain ⟨x, _, rfl⟩ := List.mem_map.1 hu
  rfl
/-- a copy, of its own -/
def CopyR (B n : Nat) (U : Nat → Bool) (ws : List Nat) (w : World) (e : Ending) (w' : World) : Prop := ∃ c, e = .returned c.ptr ∧ PgAt w' B c n U ws ∧ w.heap.size ≤ c.g ∧ w.heap.size ≤ c.h ∧ Below w.heap.size w w'
set_option maxRecDepth 100000 in
set_option maxHeartbeats 400000 in
theorem copy_is (h : PgAt w B f n U ws) : Calls Tryd.prog 19 #[f.ptr] w (CopyR w.heap.size n U ws w) := by
  have hfew := h.few
  have KM := Lib.hid (made_yes h)
  have cN := h.cN
  have cW := h.cW
  have HW := Lib.hid h
  have hlen : ws.length < 16385 := by have := h.wds.len; omega
  have KC := Lib.hid (fun (w1 : World) (hb : Below w.heap.size w w1) => sclone (c := f.c) ((h.below hb).row) (Nat.lt_of_lt_of_le h.words.lt hb.size) (w64_one ws) (by omega))
  have hgt := Lib.hid h.gt
  have HLT := Lib.hid h.cells.lt
  unfold Pp.ptr at KM ⊢
  clear h
  go_enter Tryd.func19, Tryd.ntmps19
  go_wp2_with (go_at_call 26; refine KM.out.mono ?_; rintro e w1 ⟨rfl, rfl⟩)
  go_upto_region 3 with fail
  go_region_held3 (fun w' => w'.cell? ⟨f.g, 0, none⟩ = some (.int .i64 n) ∧ w'.cell? ⟨f.g, 1, none⟩ = some (.slice (some ⟨f.h, 0, none⟩) ws.length f.c)) (first | exact ⟨cN, cW⟩ | exact ⟨cN1.out, cW1.out⟩ | exact ⟨cN2.out, cW2.out⟩) (first
    | (go_at_call 28; refine (KC.out _ (by first | exact Below.refl _ _ | exact below_drewN (Below.refl _ _) _)).mono ?_; rintro e w1 ⟨g, c, ex, rfl, hc, hg, hle, hb⟩; have HB := Lib.hid (show Below w.heap.size w w1 from undrewN hb); have HC := Lib.hid hc; have HG := Lib.hid hg; have HLE := Lib.hid hle; have cN1 := Lib.hid ((HB.out.cell (p := ⟨f.g, 0, none⟩) HLT.out).trans cN); have cW1 := Lib.hid ((HB.out.cell (p := ⟨f.g, 1, none⟩) HLT.out).trans cW); have cN2 := Lib.hid ((((Below.refl w1.heap.size w1).alloc (Nat.le_refl _) (.cells #[.int .i64 n, .slice (some ⟨g, 0, none⟩) ws.length c] 48)).cell (p := ⟨f.g, 0, none⟩) (Nat.lt_of_lt_of_le HLT.out HB.out.size)).trans cN1.out); have cW2 := Lib.hid ((((Below.refl w1.heap.size w1).alloc (Nat.le_refl _) (.cells #[.int .i64 n, .slice (some ⟨g, 0, none⟩) ws.length c] 48)).cell (p := ⟨f.g, 1, none⟩) (Nat.lt_of_lt_of_le HLT.out HB.out.size)).trans cW1.out); clear hb hc hg hle))
  go_wp2
  go_ret
  exact ⟨⟨w1.heap.size, g, c, ex⟩, rfl, ⟨Cells.new _ _ _, HC.out.alloc _, HW.out.wds, HW.out.few, HLE.out, HB.out.size, HG.out, hgt.out, HW.out.tab.below (HB.out.alloc HB.out.size _) hgt.out⟩, HB.out.size, HG.out, HB.out.alloc HB.out.size _⟩
end
end Go.Proofs.YtjhchddmbbibpaaDoor
