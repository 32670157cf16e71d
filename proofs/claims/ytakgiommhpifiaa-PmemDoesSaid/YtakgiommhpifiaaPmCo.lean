import Derived.Test.YtakgiommhpifiaaPmCr
import Derived.Lib.SliceRun
namespace Go.Proofs.Ytakgiommhpifiaa
open Wd Pm Go.Maps Go.RowKit Go.Shelf
set_option linter.unusedVariables false

/-! a copy -/
theorem mclone {w : World} {b n : Nat} {F : IFn} (h : Mp Try.prog 3 29 w b n F) : Calls Try.prog 26 #[.map (some b)] w fun e w' => e = .returned (.map (some w.heap.size)) ∧ Mp Try.prog 3 29 w' w.heap.size n F ∧ w.heap.size < w'.heap.size ∧ Below w.heap.size w w' := by
  obtain ⟨D, h, v⟩ := h
  refine (AnyW.maps_Clone_owns Try.cloneA _ _ b n D w h).mono ?_
  rintro e w' ⟨rfl, h1, h2, hb⟩
  exact ⟨rfl, ⟨D, h1, v⟩, h1.lt, hb⟩
def ClonedRow (w : World) (n : Nat) (xs : List Value) (e : Ending) (w' : World) : Prop := ∃ g c ex, e = .returned (.slice (some ⟨g, 0, none⟩) n c) ∧ Cells w' g 29 (xs.toArray ++ ex) ∧ w.heap.size ≤ g ∧ Below w.heap.size w w'
set_option maxRecDepth 100000 in
theorem sclone {w : World} {B b o n c : Nat} {xs : List Value} (h : Row w B (some ⟨b, o, none⟩) n xs) (hb : b < w.heap.size) (h1 : ∀ u ∈ xs, u.oneCell' = true) (hn : n ≤ 33554432) : Calls Try.prog 25 #[.slice (some ⟨b, o, none⟩) n c] w (ClonedRow w n xs) := by
  have ho : (w.alloc (.cells #[] 29)).ownsRow w.heap.size 29 1 (.slice (some ⟨w.heap.size, 0, none⟩) 0 0) 0 [] := ⟨rfl, .inr ⟨w.heap.size, 0, #[], rfl, Nat.le_refl _, Cells.new w _ _, Nat.le_refl _, by decide, rfl, rfl⟩⟩
  have HO := Lib.hid ho
  have hr' : Row (w.alloc (.cells #[] 29)) w.heap.size (some ⟨b, o, none⟩) n xs := ⟨h.1, fun hp => by
    obtain ⟨b', o', e, hB, hx⟩ := h.2 hp
    injection e with e
    injection e with e1 e2
    subst e1 e2
    exact ⟨b, o, rfl, hb, fun j hj => (((Below.refl w.heap.size w).alloc (Nat.le_refl _) _).cell (p := ⟨b, _, none⟩) hb).trans (hx j hj)⟩⟩
  have HR := Lib.hid hr'
  have H1 := Lib.hid h1
  have hq := fun (w : World) => Lib.run_eql_slice_nil (P := Try.prog) w 51 29 (some ⟨b, o, none⟩) n c 0 0 Try.underlying51
  clear ho hr' h h1
  go_enter Try.func25, Try.ntmps25
  go_wp2_with (at_builtin; refine wpList_append_row _ rfl (.tmp 5) (.tmp 6) 51 rfl w.heap.size 29 (.int .u64 0) 8 Try.underlying51 infoU rfl _ _ _ rfl HO.out _ (some ⟨b, o, none⟩) n c xs rfl HR.out H1.out (by unfold maxLen; omega) (by omega) (by simp) ?_; intro v5 w5 hown5 hgr5 hat5; have HO5 := Lib.hid hown5; have HG5 := Lib.hid hgr5; have HA5 := Lib.hid hat5; clear hown5 hgr5 hat5)
  go_ret
  have hb5 : Below w.heap.size w w5 := ((Below.refl _ _).alloc (Nat.le_refl _) _).grown HG5.out (by simp) (own_base HO.out)
  rcases HO5.out.2 with ⟨rfl, h0⟩ | ⟨g, cap, cur, rfl, hgb, hh, k1, k2, hs, ht⟩
  · rcases HA5.out with e | e
    · cases e
    · cases e
  · have e : (xs.toArray ++ (cur.toList.drop n).toArray : Array Value) = cur := by
      apply Array.toList_inj.1
      rw [Array.toList_append]
      have ht' : cur.toList.take n = xs := by simpa using ht
      show xs ++ cur.toList.drop n = cur.toList
      rw [← ht', List.take_append_drop]
    refine ⟨g, cap, (cur.toList.drop n).toArray, ?_, by rw [e]; exact hh, hgb, hb5⟩
    simp

theorem Dev.words {w : World} {f : Fp} {σ : St} (h : Dev w f σ) : Row w (f.bs + 1) (some ⟨f.bs, 0, none⟩) σ.n σ.row.toList := ⟨by simp [St.row], fun hp => ⟨f.bs, 0, rfl, Nat.lt_succ_self _, fun j hj => by
  have hj' : j < σ.n := by simpa [St.row] using hj
  rw [Nat.zero_add, h.word j hj']
  simp [St.row]⟩⟩
set_option maxRecDepth 100000 in
set_option maxHeartbeats 1000000 in
theorem copy_dev {w : World} {f : Fp} {σ : St} (h : Dev w f σ) : Calls Try.prog 8 #[f.ptr] w (MadeDev w σ) := by
  have hp : f.ptr = .pointer (some ⟨f.p, 0, none⟩) := rfl
  have nle := h.good.nle
  have hlt := h.lt
  have rd := h.reads
  have c0 := rd.c0; have c1 := rd.c1; have c2 := rd.c2; have c3 := rd.c3; have c4 := rd.c4; have c5 := rd.c5
  have H := Lib.hid h
  rw [hp]
  clear hp rd
  go_enter Try.func8, Try.ntmps8
  go_wp2_with (go_at_call 24; refine (made_dev h).mono ?_; rintro e w' ⟨rfl, rfl⟩; clear h)
  obtain ⟨w1, hw1⟩ : ∃ w1, w1 = w.alloc (.cells #[.slice (some ⟨f.bs, 0, none⟩) σ.n f.c, .map (some f.bh), .map (some f.bn), .int .i64 σ.ev, .int .i64 σ.ar, .bool σ.dead] 54) := ⟨_, rfl⟩
  have k1 : Cells w1 w.heap.size 54 #[.slice (some ⟨f.bs, 0, none⟩) σ.n f.c, .map (some f.bh), .map (some f.bn), .int .i64 σ.ev, .int .i64 σ.ar, .bool σ.dead] := by rw [hw1]; exact Cells.new w _ _
  have b1 : Below w.heap.size w w1 := by rw [hw1]; exact (Below.refl _ _).alloc (Nat.le_refl _) _
  have d1 := H.out.below b1
  have s1 := k1.lt
  rw [← hw1]
  have HW1 := Lib.hid hw1
  clear hw1 c0 c1 c2 c3 c4 c5
  refine (sclone d1.words (by omega) (fun u hu => by unfold St.row at hu; rw [List.toList_toArray] at hu; obtain ⟨i, _, rfl⟩ := List.mem_map.1 hu; rfl) nle).mono ?_
  rintro e w2 ⟨g, c, ex, rfl, kg, hg, b2⟩
  have b12 := b1.trans (b2.mono b1.size)
  have k2 := k1.below' b2
  have d2 := d1.below b2
  have kgne : g ≠ w.heap.size := by omega
  have ne : f.p ≠ w.heap.size := by omega
  have y0 := k2.cell 0
  have z0 := k2.free 0
  have p1 := d2.reads.c1
  have K2 := Lib.hid k2
  have KG := Lib.hid kg
  have B12 := Lib.hid b12
  clear k1 k2 kg d1 d2 b1 b2 b12
  go_wp2_with fail
  obtain ⟨w3, hw3⟩ : ∃ w3, w3 = w2.setCell ⟨w.heap.size, 0, none⟩ (.slice (some ⟨g, 0, none⟩) σ.n c) := ⟨_, rfl⟩
  have k3 := K2.out.set 0 (.slice (some ⟨g, 0, none⟩) σ.n c)
  have kg3 := KG.out.far (p := ⟨w.heap.size, 0, none⟩) kgne (.slice (some ⟨g, 0, none⟩) σ.n c)
  have b3 := B12.out.setCell (p := ⟨w.heap.size, 0, none⟩) (Nat.le_refl _) (.slice (some ⟨g, 0, none⟩) σ.n c)
  rw [← hw3] at k3 kg3 b3 ⊢
  clear hw3 y0 z0 p1 K2 KG B12
  have d3 := H.out.below b3
  refine (mclone d3.2.2.1).mono ?_
  rintro e w4 ⟨rfl, m4, l4, b4⟩
  have k4 := k3.below' b4
  have kg4 := kg3.below' b4
  have s3 := k3.lt
  have b14 := b3.trans (b4.mono b3.size)
  have d4 := H.out.below b14
  have y1 := k4.cell 1
  have z1 := k4.free 1
  have p2 := d4.reads.c2
  have K4 := Lib.hid k4
  have KG4 := Lib.hid kg4
  have B14 := Lib.hid b14
  have M4 := Lib.hid m4
  obtain ⟨bh, hbh⟩ : ∃ bh, w3.heap.size = bh := ⟨_, rfl⟩
  rw [hbh] at m4 l4 M4 ⊢
  have hbh2 : w.heap.size < bh := by omega
  clear k3 kg3 b3 d3 k4 kg4 b4 b14 d4 m4
  go_wp2_with fail
  obtain ⟨w5, hw5⟩ : ∃ w5, w5 = w4.setCell ⟨w.heap.size, 1, none⟩ (.map (some bh)) := ⟨_, rfl⟩
  have k5 := K4.out.set 1 (.map (some bh))
  have kg5 := KG4.out.far (p := ⟨w.heap.size, 1, none⟩) kgne (.map (some bh))
  have b5 := B14.out.setCell (p := ⟨w.heap.size, 1, none⟩) (Nat.le_refl _) (.map (some bh))
  have m5 := M4.out.same (Below.heap_setCell w4 ⟨w.heap.size, 1, none⟩ (.map (some bh)) bh (by show bh ≠ w.heap.size; omega))
  rw [← hw5] at k5 kg5 b5 m5 ⊢
  clear hw5 y1 z1 p2 K4 KG4 B14 M4
  have d5 := H.out.below b5
  refine (mclone d5.2.2.2.1).mono ?_
  rintro e w6 ⟨rfl, m6, l6, b6⟩
  have k6 := k5.below' b6
  have kg6 := kg5.below' b6
  have s5 := m5.lt
  have m5' := m5.same (b6.block bh s5)
  have b16 := b5.trans (b6.mono b5.size)
  have y2 := k6.cell 2
  have z2 := k6.free 2
  have K6 := Lib.hid k6
  have KG6 := Lib.hid kg6
  have B16 := Lib.hid b16
  have M6 := Lib.hid m6
  have M5 := Lib.hid m5'
  obtain ⟨bn, hbn⟩ : ∃ bn, w5.heap.size = bn := ⟨_, rfl⟩
  rw [hbn] at s5 l6 M6 ⊢
  clear k5 kg5 b5 d5 k6 kg6 b6 b16 m5 m6 m5'
  go_wp2_with fail
  go_ret
  have k7 := K6.out.set 2 (.map (some bn))
  have kg7 := KG6.out.far (p := ⟨w.heap.size, 2, none⟩) kgne (.map (some bn))
  have b7 := B16.out.setCell (p := ⟨w.heap.size, 2, none⟩) (Nat.le_refl _) (.map (some bn))
  have m7 := M6.out.same (Below.heap_setCell w6 ⟨w.heap.size, 2, none⟩ (.map (some bn)) bn (by show bn ≠ w.heap.size; omega))
  have m8 := M5.out.same (Below.heap_setCell w6 ⟨w.heap.size, 2, none⟩ (.map (some bn)) bh (by show bh ≠ w.heap.size; omega))
  exact ⟨⟨w.heap.size, g, bh, bn, c, ex⟩, rfl, ⟨k7, by simpa using kg7, m8, m7, by show bh ≠ bn; omega, H.out.good⟩, fun k hk => by simp [Fp.blocks] at hk; omega, b7⟩
end Go.Proofs.Ytakgiommhpifiaa
