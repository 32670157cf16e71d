import Derived.Test.YtnijffgdapfgpaaPnAdd
/-! The project's Pop. -/
namespace Go.Proofs.Ytnijffgdapfgpaa
open Wd U Go.Maps Go.ChangeShapes Go.WideShapes Go.RowKit Go.Sort
set_option linter.unusedVariables false
set_option maxRecDepth 100000
/-- cells of one block stored to, below a place -/
structure SetZ (w0 w : World) (q : Nat) (T : TypeId) (cur0 : Array Value) (n : Nat) : Prop where
  os : w.os = w0.os
  tape : w.tape = w0.tape
  output : w.output = w0.output
  size : w0.heap.size ≤ w.heap.size
  other : ∀ g, g ≠ q → w.heap[g]? = w0.heap[g]?
  c : ∃ cur, Cells w q T cur ∧ cur.size = cur0.size ∧ ∀ j, n ≤ j → cur[j]? = cur0[j]?
section
variable {w0 w : World} {q n : Nat} {T : TypeId} {cur0 : Array Value}
theorem SetZ.start (h : Cells w0 q T cur0) (n : Nat) : SetZ w0 w0 q T cur0 n := ⟨rfl, rfl, rfl, Nat.le_refl _, fun _ _ => rfl, cur0, h, rfl, fun _ _ => rfl⟩
theorem SetZ.set (h : SetZ w0 w q T cur0 n) (i : Nat) (hi : i < n) (v : Value) : SetZ w0 (w.setCell ⟨q, i, none⟩ v) q T cur0 n := by
  obtain ⟨cur, h1, h2, h3⟩ := h.c
  refine ⟨h.os, h.tape, h.output, by simpa [World.setCell] using h.size, fun g hg => (Below.heap_setCell w ⟨q, i, none⟩ v g hg).trans (h.other g hg), _, h1.set i v, by simpa using h2, fun j hj => ?_⟩
  rw [Array.getElem?_setIfInBounds_ne (by omega)]
  exact h3 j hj
end
theorem pop_end {w w2 : World} {B b q off c n : Nat} {S : Pst} {x : Eff × Int} {l : List (Eff × Int)} {A : Option Addr} {c' : Nat} {cur : Array Value} (h : PnAt w B b S) (hS : S.rows = x :: l) (hbq : b ≠ q) (hBq : B ≤ q) (hcur : Cells w q 44 cur)
    (hz : SetZ w w2 q 44 cur (off + 10)) (hr : OffRow w B 44 10 (.slice (some ⟨q, off, none⟩) n c) n (pvals S.rows)) (hn : S.rows.length = n)
    (hr2 : OffRow w2 B 44 10 (.slice A l.length c') l.length (pvals l)) (hg : S.gone < 1000000) :
    PnAt ((w2.setCell ⟨b, 0, none⟩ (.slice A l.length c')).setCell ⟨b, 1, none⟩ (.int .i64 ((S.gone + 1 : Nat) : Int))) B b ⟨l, S.gone + 1⟩ ∧ PnKept w ((w2.setCell ⟨b, 0, none⟩ (.slice A l.length c')).setCell ⟨b, 1, none⟩ (.int .i64 ((S.gone + 1 : Nat) : Int))) B := by
  obtain ⟨v, c1, _⟩ := h.c
  have c2 : Cells w2 b 29 #[v, .int .i64 (S.gone : Int)] := (hz.other b hbq).trans c1
  refine ⟨⟨h.bb, ?_, hg, ⟨.slice A l.length c', ?_, ?_⟩, fun y hy => h.bare y (by rw [hS]; exact List.mem_cons_of_mem _ hy)⟩, ⟨?_, ?_⟩⟩
  · have := h.len; rw [hS] at this; simp at this ⊢; omega
  · have := (c2.set 0 (.slice A l.length c')).set 1 (.int .i64 ((S.gone + 1 : Nat) : Int)); simpa using this
  · have k1 := c2.set 0 (.slice A l.length c')
    exact (hr2.keep fun q' cs hq => Below.heap_setCell w2 ⟨b, 0, none⟩ _ q' (hq.ne c2 (by decide))).keep fun q' cs hq => Below.heap_setCell _ ⟨b, 1, none⟩ _ q' (hq.ne k1 (by decide))
  · have hb : Below B w w2 := ⟨hz.os, hz.tape, hz.output, hz.size, fun i hi => hz.other i (by omega)⟩
    exact (hb.setCell (p := ⟨b, 0, none⟩) h.bb _).setCell (p := ⟨b, 1, none⟩) h.bb _
  · intro g T cs h1 h2 hq
    have e1 : g ≠ b := hq.ne c1 h1
    have e2 : g ≠ q := hq.ne hcur h2
    exact (Below.heap_setCell _ ⟨b, 1, none⟩ _ g e1).trans ((Below.heap_setCell w2 ⟨b, 0, none⟩ _ g e1).trans (hz.other g e2))
theorem slice_off_cut {P : Program} {w w2 : World} {B k n q off cap : Nat} {T t e : TypeId} {xs : List Value} {cur : Array Value} {i : TypeInfo} (he : P.elem t = e) (ht : P.underlying t = some (.slice e)) (hi : P.info? e = some i) (hsz : i.size = k)
    (h : OffRow w B T k (.slice (some ⟨q, off, none⟩) (n + 1) cap) (n + 1) xs) (hc : Cells w q T cur) (hz : SetZ w w2 q T cur (off + k)) :
    ∃ A c, (∀ W : World, (Instr.slice t (.slice (some ⟨q, off, none⟩) (n + 1) cap) (some (.int .i64 1)) none none).run P W = .ok (.slice A n c) W) ∧ OffRow w2 B T k (.slice A n c) n (xs.drop k) := by
  have hlen : (xs.drop k).length = n * k := by rw [List.length_drop, h.1, Nat.add_mul]; omega
  have hs : ∀ W, (sizeOf e).run P W = .ok k W := fun W => by simp [sizeOf, typeInfo, hi, hsz]
  obtain ⟨cur2, g1, g2, g3⟩ := hz.c
  rcases h.2 with ⟨h0, _⟩ | ⟨q', off', cap', cur', hv, hB, hh, hnc, hcm, hfit, hx⟩
  · cases h0
  · injection hv with hv1 _ hv2
    injection hv1 with hv1
    injection hv1 with hv3 hv4
    subst hv2 hv3 hv4
    have hcc : cur' = cur := by
      have := hc
      unfold Cells at this hh
      rw [hh] at this
      injection this with this
      injection this
    subst hcc
    refine ⟨if cap = 1 then some ⟨q, off, none⟩ else (some (⟨q, off, none⟩ : Addr)).map (·.add (1 * k)), cap - 1, fun W => ?_, ⟨hlen, .inr ⟨q, if cap = 1 then off else off + k, cap - 1, cur2, ?_, hB, g1, by omega, by omega, ?_, ?_⟩⟩⟩
    · rw [run_slice_l (P := P) (t := t) (a := some ⟨q, off, none⟩) (len := n + 1) (cap := cap) (ht := by rw [he]; exact ht) (kl := .i64) (l := (1 : Int)) (h0 := by omega) (h1 := by omega), he, hs]
      rfl
    · split
      · rfl
      · simp only [Option.map_some, Nat.one_mul]
        congr 2
        unfold Addr.add; split <;> simp_all
    · rw [g2]
      split
      · next e1 => subst e1; simp only [Nat.sub_self, Nat.zero_mul, Nat.one_mul] at *; omega
      · have e2 : cap = (cap - 1) + 1 := by omega
        have e3 : cap * k = (cap - 1) * k + k := by rw [e2, Nat.add_mul, Nat.one_mul, Nat.add_sub_cancel]
        omega
    · intro j u hj
      rw [List.getElem?_drop] at hj
      have := hx _ u hj
      split
      · next e1 =>
        have hjl := (List.getElem?_eq_some_iff.1 hj).1
        rw [h.1] at hjl
        have : n = 0 := by omega
        subst this
        omega
      · rw [show off + k + j = off + (k + j) by omega, g3 _ (by omega)]; exact this
theorem elemPW : Try.prog.elem 27 = 44 := by kernel_rfl
theorem zeroPW (w : World) : (zeroValue 44).run Try.prog w = .ok (.agg #[.int .i64 0, .int .i64 0, .int .i64 0, .int .i64 0, .int .i64 0, .int .i64 0, .string ⟨#[]⟩, .string ⟨#[]⟩, .slice none 0 0, .int .i64 0]) w := by kernel_rfl
set_option maxHeartbeats 4000000 in
theorem pnPop {w : World} {B b : Nat} {S : Pst} {x : Eff × Int} {l : List (Eff × Int)} (h : PnAt w B b S) (hS : S.rows = x :: l) (hg : S.gone < 1000000) :
    Calls Try.prog 7 #[PPtr b] w fun e' w' => e' = .returned (.bool true) ∧ PnAt w' B b ⟨l, S.gone + 1⟩ ∧ PnKept w w' B := by
  obtain ⟨A, c, hc, hr⟩ := h.open_
  have hlen : S.rows.length = l.length + 1 := by rw [hS]; rfl
  obtain ⟨q, off, cur, rfl, hBq, hcur, hx⟩ := off_at hr rfl (k := 0) (x := x) (by rw [hS]; rfl)
  have hbq : b ≠ q := hc.ne hcur (by decide)
  obtain ⟨i, i1, i2, i3, i4⟩ := info_parts infoPW
  have KL := Lib.hid (pnLen hc)
  have x0 := hx 0 _ rfl; have x1 := hx 1 _ rfl; have x2 := hx 2 _ rfl; have x3 := hx 3 _ rfl; have x4 := hx 4 _ rfl; have x5 := hx 5 _ rfl; have x6 := hx 6 _ rfl; have x7 := hx 7 _ rfl; have x8 := hx 8 _ rfl; have x9 := hx 9 _ rfl
  simp only [Nat.zero_mul, Nat.zero_add, Nat.add_zero] at x0 x1 x2 x3 x4 x5 x6 x7 x8 x9
  have fr : ∀ k, w.frozen? ⟨q, k, none⟩ = false := fun k => hcur.free k
  have y0 := hc.cell 0; have y1 := hc.cell 1
  simp at y0 y1
  obtain ⟨N, hN⟩ : ∃ N, S.rows.length = N := ⟨_, rfl⟩
  rw [hN] at y0 KL
  have hN0 : ¬ N = 0 := by omega
  have hN1 : (0 : Int) < (N : Int) := by omega
  have HN := Lib.hid hN; have HLEN := Lib.hid hlen
  have H := Lib.hid h; have HSS := Lib.hid hS; have HC := Lib.hid hc; have HR := Lib.hid hr; have HBQ := Lib.hid hBq; have HCUR := Lib.hid hcur; have HNE := Lib.hid hbq; have HG := Lib.hid hg
  clear hx hlen hN h hS hc hr hBq hcur hg i1 i2 i3 i4 i
  have zp := fun w => zeroPW w
  unfold PPtr at *
  go_enter Try.func7, Try.ntmps7
  go_upto_region 4 with (go_at_call 11; refine KL.out.mono ?_; rintro e w1 ⟨rfl, rfl⟩)
  obtain ⟨w2, hw2⟩ : ∃ w2, ((((((((((w.setCell ⟨q, off, none⟩ (.int .i64 0)).setCell ⟨q, off + 1, none⟩ (.int .i64 0)).setCell ⟨q, off + 2, none⟩ (.int .i64 0)).setCell ⟨q, off + 3, none⟩ (.int .i64 0)).setCell ⟨q, off + 4, none⟩ (.int .i64 0)).setCell ⟨q, off + 5, none⟩ (.int .i64 0)).setCell ⟨q, off + 6, none⟩ (.string ⟨#[]⟩)).setCell ⟨q, off + 7, none⟩ (.string ⟨#[]⟩)).setCell ⟨q, off + 8, none⟩ (.slice none 0 0)).setCell ⟨q, off + 9, none⟩ (.int .i64 0)) = w2 := ⟨_, rfl⟩
  have hz : SetZ w w2 q 44 cur (off + 10) := by rw [← hw2]; exact (((((((((((SetZ.start HCUR.out (off + 10)).set (off) (by omega) _).set (off + 1) (by omega) _).set (off + 2) (by omega) _).set (off + 3) (by omega) _).set (off + 4) (by omega) _).set (off + 5) (by omega) _).set (off + 6) (by omega) _).set (off + 7) (by omega) _).set (off + 8) (by omega) _).set (off + 9) (by omega) _)
  rw [hw2]
  clear hw2 x0 x1 x2 x3 x4 x5 x6 x7 x8 x9 fr y0 y1 zp
  have hc2 : Cells w2 b 29 _ := (hz.other b HNE.out).trans HC.out
  have hr := HR.out
  rw [HLEN.out] at hr
  obtain ⟨i, i1, i2, i3, i4⟩ := info_parts infoPW
  obtain ⟨A', c', hsl, ho⟩ := slice_off_cut (P := Try.prog) elemPW Try.underlying27 i1 i3 hr HCUR.out hz
  rw [HSS.out, pvals_drop] at ho
  rw [← HLEN.out, HN.out] at hsl
  have y0 := hc2.cell 0; have y1 := hc2.cell 1
  have f0 := hc2.free 0; have f1 := hc2.free 1
  rw [HN.out] at y0
  simp at y0 y1
  have HZ := Lib.hid hz; have HO := Lib.hid ho
  have q1 : wrap64 ((S.gone : Int) + 1) = ((S.gone + 1 : Nat) : Int) := by have := HG.out; unfold wrap64; omega
  obtain ⟨L, hL⟩ : ∃ L, l.length = L := ⟨_, rfl⟩
  rw [hL] at hsl
  have HL := Lib.hid hL
  clear hz hc2 hr i1 i2 i3 i4 i ho hL
  go_wp2
  go_ret
  have h1 := pop_end H.out HSS.out HNE.out HBQ.out HCUR.out HZ.out (n := S.rows.length) HR.out rfl HO.out HG.out
  rw [HL.out] at h1
  exact ⟨rfl, h1⟩
theorem pnPop_none {w : World} {B b : Nat} {S : Pst} (h : PnAt w B b S) (hS : S.rows = []) : Calls Try.prog 7 #[PPtr b] w fun e' w' => e' = .returned (.bool false) ∧ w = w' := by
  obtain ⟨A, c, hc, hr⟩ := h.open_
  have KL := Lib.hid (pnLen hc)
  rw [hS] at KL
  clear hc hr hS h
  unfold PPtr at *
  simp only [List.length_nil] at KL
  go_enter Try.func7, Try.ntmps7
  go_wp2_with (go_at_call 11; refine KL.out.mono ?_; rintro e w1 ⟨rfl, rfl⟩)
  go_ret
  exact ⟨rfl, rfl⟩
theorem pnPop_nil (w : World) : Calls Try.prog 7 #[.pointer none] w fun e' w' => e' = .returned (.bool false) ∧ w = w' := by
  have KL := Lib.hid (pnLen_nil w)
  go_enter Try.func7, Try.ntmps7
  go_wp2_with (go_at_call 11; refine KL.out.mono ?_; rintro e w1 ⟨rfl, rfl⟩)
  go_ret
  exact ⟨rfl, rfl⟩
end Go.Proofs.Ytnijffgdapfgpaa
