import Derived.Test.YtlfmfdbgchpjgaaExOne
import Derived.StillTailTactics
namespace Go.Proofs.Ytlfmfdbgchpjgaa
open Wd Ex Go.RowKit Go.ChangeShapes Go.WideShapes Go.Sort
set_option linter.unusedVariables false
set_option maxRecDepth 100000

/-- a row of its own, joined: what was there but for its block is as it was -/
def Joined (base : Nat) (r0 : Option Nat) (r : List Ext) (w : World) (e : Ending) (w' : World) : Prop := ∃ v', e = .returned v' ∧ OwnX w' base v' r ∧ w.grownBy w' r0 ∧ ∀ g, v'.ownBlock = some g → r0 = some g ∨ w.heap.size ≤ g
def JoinRel (l m : List Ext) (base : Nat) (r0 : Option Nat) (w : World) (v i : Value) (wr : World) : Prop := ∃ (k : Nat) (acc : List Ext), k ≤ m.length ∧ acc.length ≤ l.length + k ∧ i = .int .i64 k ∧ m.foldl joinE l = (m.drop k).foldl joinE acc ∧ (∀ x ∈ acc, Tame x) ∧ OwnX wr base v acc ∧ w.grownBy wr r0 ∧ ∀ g, v.ownBlock = some g → r0 = some g ∨ w.heap.size ≤ g
theorem wraps_add {x y z : Int} (h : x + y = z) (h0 : -9223372036854775808 ≤ z) (h1 : z ≤ 9223372036854775807) : IntKind.i64.wrap (x + y) = z ∧ wrap64 (x + y) = z := by
  rw [IntKind.wrap_i64]; unfold wrap64; omega
theorem own_cells {w : World} {base g cap : Nat} {i : List Ext} {x : Ext} {n : Nat} (h : OwnX w base (.slice (some ⟨g, 0, none⟩) n cap) (i ++ [x])) : w.cell? ⟨g, i.length * 3, none⟩ = some (.int .i64 x.f) ∧ w.cell? ⟨g, i.length * 3 + 1, none⟩ = some (.int .i64 x.n) ∧ w.cell? ⟨g, i.length * 3 + 2, none⟩ = some (.int .i64 x.p) ∧ w.frozen? ⟨g, i.length * 3 + 1, none⟩ = false ∧ g < w.heap.size ∧ n = i.length + 1 ∧ base ≤ g := by
  obtain ⟨A, c, e1, _, hx⟩ := h.form
  injection e1 with e1 e2 e3
  subst e1
  obtain ⟨b, off, e, h1, h2, c0, c1, c2⟩ := exs_cells hx (k := i.length) (e := x) (by simp)
  injection e with e
  injection e with e4 e5
  subst e4 e5
  rw [Nat.zero_add] at c0 c1 c2
  refine ⟨c0, c1, c2, ?_, h2, by simpa using e2, h1⟩
  rcases h.2 with ⟨h3, _⟩ | ⟨g', cap', cur, h3, hb, hh, _⟩
  · cases h3
  · injection h3 with a b c
    injection a with a
    injection a with a
    subst a
    exact (show Cells w g _ cur from hh).free _
theorem own_shape {w : World} {base : Nat} {v : Value} {i : List Ext} {x : Ext} (h : OwnX w base v (i ++ [x])) : ∃ g cap, v = .slice (some ⟨g, 0, none⟩) (i.length + 1) cap ∧ i.length + 1 ≤ cap := by
  rcases h.2 with ⟨rfl, h0⟩ | ⟨g, cap, cur, rfl, _, _, hc, _⟩
  · simp at h0
  · exact ⟨g, cap, by simp, by simpa using hc⟩
theorem grown_len {w wr : World} {r0 : Option Nat} (h : w.grownBy wr r0) {g : Nat} (hg : r0 = some g ∨ w.heap.size ≤ g) (j : Nat) (u : Value) : w.grownBy (wr.setCell ⟨g, j, none⟩ u) r0 := by
  refine grown_via h (grown_set (grown_refl wr (some g)) j u) fun k hk => ?_
  cases hk
  exact hg
set_option maxHeartbeats 8000000 in
theorem xJoin {w : World} {base lo hi : Nat} {v : Value} {l m : List Ext} {A : Option Addr} {c : Nat} (hv : OwnX w base v l) (hm : Exs w lo hi A m) (hh : hi ≤ w.heap.size) (hb : base ≤ w.heap.size) (hfar : ∀ g, v.ownBlock = some g → g < lo ∨ hi ≤ g)
    (tl : ∀ x ∈ l, Tame x) (tm : ∀ x ∈ m, Tame x) (hl : l.length ≤ 100000) (hml : m.length ≤ 100000) : Calls Try.prog 22 #[v, .slice A m.length c] w (Joined base v.ownBlock (m.foldl joinE l) w) := by
  have hfol : Try.prog.follows Departure.mixedOrders = true := by kernel_rfl
  have HV := Lib.hid hv; have HM := Lib.hid hm; have HT := Lib.hid tl; have HTM := Lib.hid tm; have HFAR := Lib.hid hfar
  obtain ⟨ie, i1, i2, i3, i4⟩ := info_parts infoX
  have I1 := Lib.hid i1; have I2 := Lib.hid i2; have I3 := Lib.hid i3; have I4 := Lib.hid i4
  obtain ⟨r0, hr0⟩ : ∃ r0, v.ownBlock = r0 := ⟨_, rfl⟩
  have HR0 := Lib.hid hr0
  rw [hr0]
  clear hv hm tl tm hfar i1 i2 i3 i4 hr0
  go_enter Try.func22, Try.ntmps22
  go_wp2
  go_loopw [0, 10] (fun v i wr => JoinRel l m base r0 w v i wr) (fun _ i _ => m.length - (intOf i).toNat)
  case atStart => exact ⟨0, l, Nat.zero_le _, Nat.le_refl _, rfl, rfl, HT.out, HV.out, grown_refl _ _, fun g hg => .inl (by rw [← HR0.out]; exact hg)⟩
  case round =>
    obtain ⟨k, acc, hk, hacc, rfl, hf, hta, hown, hg, hblk⟩ := hrel
    have HF := Lib.hid hf; have HTA := Lib.hid hta; have HO := Lib.hid hown; have HG := Lib.hid hg; have HBLK := Lib.hid hblk
    have hsz := hg.size
    clear hf hta hown hg hblk
    by_cases hlt : k < m.length
    · obtain ⟨e, he⟩ : ∃ e, m[k]? = some e := ⟨_, List.getElem?_eq_getElem hlt⟩
      have hme : Exs wr lo hi A m := HM.out.keep fun b h1 h2 => HG.out.block b (by omega) (fun e => by have := HFAR.out b (by rw [HR0.out]; exact e.symm); omega)
      obtain ⟨bl, off, rfl, _, hbB, x0, x1, x2⟩ := exs_cells hme he
      have hlt2 : (k : Int) < (m.length : Int) := Int.ofNat_lt.2 hlt
      have te := HTM.out e (List.mem_of_getElem? he)
      have hf := HF.out
      rw [drop_at he, List.foldl_cons] at hf
      have HF2 := Lib.hid hf; have TE := Lib.hid te
      have C1 := Lib.hid (Cells.new wr 29 (xc e))
      have G1 := Lib.hid (grown_of_below ((Below.refl wr.heap.size wr).alloc (Nat.le_refl _) (.cells (xc e) 29)) none)
      have HO1 := Lib.hid (HO.out.below ((Below.refl wr.heap.size wr).alloc (Nat.le_refl _) (.cells (xc e) 29)))
      clear he te hf hme
      have hfe : ∀ n os, _ := (ext_grown C1.out).1
      obtain ⟨g0, g1, g2⟩ := ext_grown C1.out
      clear hfe
      rcases @last_or acc with hac | ⟨ini, a, hac⟩
      · subst hac
        obtain ⟨A0, c0', rfl, hlc, _⟩ := HO.out.form
        have hl0 : ([] : List Ext).length = 0 := rfl
        rw [hl0]
        unfold xc at g0 g1 g2
        go_upto_region 5 with fail
        refine wp_region_quiet_grown hfol (by kernel_rfl) ?_
        repeat (go_big_quiet_step (fail))
        refine wpQuiet_nil ?_
        intro _ hw'
        obtain ⟨⟨nr, osr⟩, hw''⟩ := hw'
        subst hw''
        have b3 := below_grow' (wr.alloc (.cells (xc e) 29)) nr osr
        have C3 := Lib.hid (C1.out.below' b3)
        have HO3 := Lib.hid (HO1.out.below b3)
        have b13 : Below wr.heap.size wr (grow ((wr.alloc (.cells (xc e) 29)).drewN nr) osr) := ((Below.refl wr.heap.size wr).alloc (Nat.le_refl _) (.cells (xc e) 29)).trans (b3.mono (by simp))
        have HG3 := Lib.hid (show w.grownBy (grow ((wr.alloc (.cells (xc e) 29)).drewN nr) osr) r0 from grown_via HG.out (grown_of_below b13 none) (fun g hg => by cases hg))
        have hs3 := b13.size
        unfold xc at b3 b13 hs3
        obtain ⟨w3, hw3⟩ : ∃ w3, grow ((wr.alloc (.cells #[.int .i64 e.f, .int .i64 e.n, .int .i64 e.p] 29)).drewN nr) osr = w3 := ⟨_, rfl⟩
        have e3 : grow ((wr.alloc (.cells (xc e) 29)).drewN nr) osr = w3 := hw3
        rw [e3] at C3 HO3 HG3
        rw [hw3] at hs3 ⊢
        clear b3 b13 hw3 e3
        have c0 : w3.cell? ⟨wr.heap.size, 0, none⟩ = some (.int .i64 e.f) := C3.out.cell 0
        have c1 : w3.cell? ⟨wr.heap.size, 1, none⟩ = some (.int .i64 e.n) := C3.out.cell 1
        have c2 : w3.cell? ⟨wr.heap.size, 2, none⟩ = some (.int .i64 e.p) := C3.out.cell 2
        clear g0 g1 g2
        go_wp2_with (at_builtin; refine wpList_append_own_at _ rfl (.tmp 37) (.tmp 39) 23 rfl base 29 ie (.agg #[.int .i64 0, .int .i64 0, .int .i64 0]) 3 24 Try.underlying23 I1.out I2.out I3.out I4.out rfl (by decide) (.slice A0 0 c0') 0 (xvals []) rfl (HO3.out.below ((Below.refl _ _).alloc (Nat.le_refl _) _)) ⟨w3.heap.size, 0, none⟩ 1 1 (xv e) rfl rfl (cells_three (Cells.new w3 29 (xc e))) (one3 _) (by unfold maxLen; omega) (by omega) (by simp; omega) ?_; intro v7 w7 hown7 hgr7 _ hat7; have HO7 := Lib.hid hown7; have HG7 := Lib.hid (grown_via HG3.out (grown_via (grown_of_below ((Below.refl w3.heap.size w3).alloc (Nat.le_refl _) (.cells (xc e) 29)) _) hgr7 (fun g hg => .inl hg)) HBLK.out); have HB7 := Lib.hid (show ∀ g, v7.ownBlock = some g → r0 = some g ∨ w.heap.size ≤ g from fun g hg => by rcases hat7 with h | h <;> rw [h] at hg <;> first | exact HBLK.out g hg | (cases hg; right; simp; omega)); clear hown7 hgr7 hat7)
        go_roundw
        case rel => exact ⟨k + 1, [e], by omega, by simp; omega, by go_num, HF2.out, fun x hx => by rw [List.mem_singleton.1 hx]; exact TE.out, HO7.out, HG7.out, HB7.out⟩
        case measure => simp [intOf]; omega
      · subst hac
        obtain ⟨gb, cap, rfl, hcap⟩ := own_shape HO.out
        obtain ⟨y0, y1, y2, y3, y4, _, y5⟩ := own_cells HO1.out
        have ta := HTA.out a (List.mem_append_right _ (List.mem_cons_self))
        have KS := Lib.hid (fun w => xAs a e (by have := ta.f; have := ta.n; omega) (by have := ta.fn; omega) TE.out.p (by have := TE.out.pn; have := TE.out.n; omega) (by have := ta.p; have := ta.n; omega) ta.pn w)
        have TA := Lib.hid ta
        obtain ⟨n, hn⟩ : ∃ n, ini.length = n := ⟨_, rfl⟩
        rw [List.length_append, List.length_singleton, hn] at hacc
        obtain ⟨N, hN⟩ : ∃ N, n + 1 = N := ⟨_, rfl⟩
        have q0 : (N : Int) - 1 = (n : Int) := by omega
        have Q0 := Lib.hid q0
        clear q0
        have hn1 : (n : Int) < (N : Int) := by omega
        have hN2 : N ≤ l.length + k := by omega
        have z0 := cell_grown (a := ⟨gb, ini.length * 3, none⟩) y4 y0
        have z1 := cell_grown (a := ⟨gb, ini.length * 3 + 1, none⟩) y4 y1
        have z2 := cell_grown (a := ⟨gb, ini.length * 3 + 2, none⟩) y4 y2
        rw [hn] at z0 z1 z2 hcap ⊢
        rw [hN] at hcap ⊢
        have HN := Lib.hid hn; have HNN := Lib.hid hN
        clear hN hacc
        clear y0 y1 y2 y3 y4 ta hn
        unfold xc at z0 z1 z2 g0 g1 g2
        unfold Ext.val at KS
        have hn0 : (0 : Int) ≤ (n : Int) := Int.natCast_nonneg n
        cases hs : asB a e
        · rw [hs] at KS
          have HS := Lib.hid (show ¬ (e.f = a.f + a.n ∧ e.p = a.p + a.n) by unfold asB at hs; simpa using hs)
          clear hs
          go_upto_region 5 with fail
          rw [Q0.out]
          refine wp_region_quiet_grown hfol (by kernel_rfl) ?_
          repeat (go_big_quiet_step (first
            | (go_at_call 26; (with_reducible exact Grows.in KS.out _ _ _))))
          refine wpQuiet_nil ?_
          intro _ hw'
          obtain ⟨⟨nr, osr⟩, hw''⟩ := hw'
          subst hw''
          have b3 := below_grow' (wr.alloc (.cells (xc e) 29)) nr osr
          have C3 := Lib.hid (C1.out.below' b3)
          have HO3 := Lib.hid (HO1.out.below b3)
          have b13 : Below wr.heap.size wr (grow ((wr.alloc (.cells (xc e) 29)).drewN nr) osr) := ((Below.refl wr.heap.size wr).alloc (Nat.le_refl _) (.cells (xc e) 29)).trans (b3.mono (by simp))
          have HG3 := Lib.hid (show w.grownBy (grow ((wr.alloc (.cells (xc e) 29)).drewN nr) osr) r0 from grown_via HG.out (grown_of_below b13 none) (fun g hg => by cases hg))
          have hs3 := b13.size
          unfold xc at b3 b13 hs3
          obtain ⟨w3, hw3⟩ : ∃ w3, grow ((wr.alloc (.cells #[.int .i64 e.f, .int .i64 e.n, .int .i64 e.p] 29)).drewN nr) osr = w3 := ⟨_, rfl⟩
          have e3 : grow ((wr.alloc (.cells (xc e) 29)).drewN nr) osr = w3 := hw3
          rw [e3] at C3 HO3 HG3
          rw [hw3] at hs3 ⊢
          clear b3 b13 hw3 e3
          have c0 : w3.cell? ⟨wr.heap.size, 0, none⟩ = some (.int .i64 e.f) := C3.out.cell 0
          have c1 : w3.cell? ⟨wr.heap.size, 1, none⟩ = some (.int .i64 e.n) := C3.out.cell 1
          have c2 : w3.cell? ⟨wr.heap.size, 2, none⟩ = some (.int .i64 e.p) := C3.out.cell 2
          clear g0 g1 g2 z0 z1 z2 KS
          have ho4 : w3.ownsRow base 29 3 (.slice (some ⟨gb, 0, none⟩) N cap) N (xvals (ini ++ [a])) := by
            have := HO3.out
            unfold OwnX at this
            rw [List.length_append, List.length_singleton, HN.out, HNN.out] at this
            exact this
          have HO4 := Lib.hid (show OwnX w3 base (.slice (some ⟨gb, 0, none⟩) N cap) (ini ++ [a]) from by unfold OwnX; rw [List.length_append, List.length_singleton, HN.out, HNN.out]; exact ho4)
          have ho5 : (w3.alloc (.cells (xc e) 29)).ownsRow base 29 3 (.slice (some ⟨gb, 0, none⟩) N cap) N (xvals (ini ++ [a])) := by
            have := HO4.out.below ((Below.refl _ _).alloc (Nat.le_refl _) (.cells (xc e) 29))
            unfold OwnX at this
            rw [List.length_append, List.length_singleton, HN.out, HNN.out] at this
            exact this
          have HO5 := Lib.hid ho5
          have HBN := Lib.hid (show ∀ g, (Value.slice (some ⟨gb, 0, none⟩) N cap).ownBlock = some g → r0 = some g ∨ w.heap.size ≤ g from HBLK.out)
          clear ho4 ho5
          go_wp2_with (at_builtin; refine wpList_append_own_at _ rfl (.tmp 37) (.tmp 39) 23 rfl base 29 ie (.agg #[.int .i64 0, .int .i64 0, .int .i64 0]) 3 24 Try.underlying23 I1.out I2.out I3.out I4.out rfl (by decide) (.slice (some ⟨gb, 0, none⟩) N cap) N (xvals (ini ++ [a])) rfl HO5.out ⟨w3.heap.size, 0, none⟩ 1 1 (xv e) rfl rfl (cells_three (Cells.new w3 29 (xc e))) (one3 _) (by unfold maxLen; omega) (by omega) (by simp; omega) ?_; intro v7 w7 hown7 hgr7 _ hat7; have HO7 := Lib.hid hown7; have HG7 := Lib.hid (grown_via HG3.out (grown_via (grown_of_below ((Below.refl w3.heap.size w3).alloc (Nat.le_refl _) (.cells (xc e) 29)) _) hgr7 (fun g hg => .inl hg)) HBN.out); have HB7 := Lib.hid (show ∀ g, v7.ownBlock = some g → r0 = some g ∨ w.heap.size ≤ g from fun g hg => by rcases hat7 with h | h <;> rw [h] at hg <;> first | exact HBN.out g hg | (cases hg; right; simp; omega)); clear hown7 hgr7 hat7)
          go_roundw
          case rel =>
            refine ⟨k + 1, ini ++ [a] ++ [e], by omega, by have := HNN.out; simp [HN.out]; omega, by go_num, ?_, ?_, ?_, HG7.out, HB7.out⟩
            · rw [HF2.out, joinE_no HS.out]
            · intro x hx
              rcases List.mem_append.1 hx with h | h
              · exact HTA.out x h
              · rw [List.mem_singleton.1 h]; exact TE.out
            · unfold OwnX
              rw [xvals_snoc, List.length_append, List.length_append, HN.out, List.length_singleton, HNN.out]
              exact HO7.out
          case measure => simp [intOf]; omega
        · rw [hs] at KS
          have HS := Lib.hid (show e.f = a.f + a.n ∧ e.p = a.p + a.n by unfold asB at hs; simpa using hs)
          clear hs
          go_upto_region 5 with fail
          rw [Q0.out]
          refine wp_region_quiet_grown hfol (by kernel_rfl) ?_
          repeat (go_big_quiet_step (first
            | (go_at_call 26; (with_reducible exact Grows.in KS.out _ _ _))))
          refine wpQuiet_nil ?_
          intro _ hw'
          obtain ⟨⟨nr, osr⟩, hw''⟩ := hw'
          subst hw''
          have b3 := below_grow' (wr.alloc (.cells (xc e) 29)) nr osr
          have C3 := Lib.hid (C1.out.below' b3)
          have HO3 := Lib.hid (HO1.out.below b3)
          have b13 : Below wr.heap.size wr (grow ((wr.alloc (.cells (xc e) 29)).drewN nr) osr) := ((Below.refl wr.heap.size wr).alloc (Nat.le_refl _) (.cells (xc e) 29)).trans (b3.mono (by simp))
          have HG3 := Lib.hid (show w.grownBy (grow ((wr.alloc (.cells (xc e) 29)).drewN nr) osr) r0 from grown_via HG.out (grown_of_below b13 none) (fun g hg => by cases hg))
          have hs3 := b13.size
          unfold xc at b3 b13 hs3
          obtain ⟨w3, hw3⟩ : ∃ w3, grow ((wr.alloc (.cells #[.int .i64 e.f, .int .i64 e.n, .int .i64 e.p] 29)).drewN nr) osr = w3 := ⟨_, rfl⟩
          have e3 : grow ((wr.alloc (.cells (xc e) 29)).drewN nr) osr = w3 := hw3
          rw [e3] at C3 HO3 HG3
          rw [hw3] at hs3 ⊢
          clear b3 b13 hw3 e3
          have c0 : w3.cell? ⟨wr.heap.size, 0, none⟩ = some (.int .i64 e.f) := C3.out.cell 0
          have c1 : w3.cell? ⟨wr.heap.size, 1, none⟩ = some (.int .i64 e.n) := C3.out.cell 1
          have c2 : w3.cell? ⟨wr.heap.size, 2, none⟩ = some (.int .i64 e.p) := C3.out.cell 2
          clear g0 g1 g2 z0 z1 z2 KS
          obtain ⟨y0, y1, y2, y3, y4, _, y5⟩ := own_cells (i := ini) (x := a) HO3.out
          rw [HN.out] at y0 y1 y2 y3
          have jt := join_tame HTA.out TE.out
          rw [joinE_yes HS.out] at jt
          have tj := jt ⟨a.f, a.n + e.n, a.p⟩ (by simp)
          obtain ⟨s, hs⟩ : ∃ s, a.n + e.n = s := ⟨_, rfl⟩
          rw [hs] at jt tj
          obtain ⟨w1, w2⟩ := wraps_add hs (by have := tj.n; simp only at this; omega) (by have := tj.fn; have := tj.f; simp only at *; omega)
          have JT := Lib.hid jt; have HSS := Lib.hid hs
          clear tj jt hs c0 c2
          go_upto_region 6 with fail
          have hio : (0 : Int) ≤ (n : Int) := Int.natCast_nonneg n
          go_still_tail 10, (by kernel_rfl)
          change wpList _ _ _ _ _ w3.drew
          have yy1 : w3.drew.cell? ⟨gb, n * 3 + 1, none⟩ = some (.int .i64 a.n) := y1
          have yz1 : w3.drew.frozen? ⟨gb, n * 3 + 1, none⟩ = false := y3
          have OWN := Lib.hid (show OwnX w3.drew base (.slice (some ⟨gb, 0, none⟩) (ini.length + 1) cap) (ini ++ [a]) from HO3.out)
          have GRW := Lib.hid (show w.grownBy w3.drew r0 from grown_drewN HG3.out 1)
          obtain ⟨w4, hw4⟩ : ∃ w4, w3.drew = w4 := ⟨_, rfl⟩
          rw [hw4] at yy1 yz1 OWN GRW ⊢
          clear hw4 y0 y1 y2 y3
          go_wp2
          go_roundw
          case rel =>
            have ol := own_len OWN.out s
            rw [HN.out, HNN.out] at ol
            refine ⟨k + 1, ini ++ [⟨a.f, s, a.p⟩], by omega, by have := HNN.out; simp [HN.out]; omega, by go_num, ?_, ?_, ol, grown_len GRW.out (HBLK.out gb rfl) _ _, HBLK.out⟩
            · rw [HF2.out, joinE_yes HS.out, HSS.out]
            · exact JT.out
          case measure => simp [intOf]; omega
    · obtain rfl : k = m.length := by omega
      have hf := HF.out
      rw [List.drop_length] at hf
      have HFF := Lib.hid hf
      clear hf
      go_wp2
      go_ret
      exact ⟨_, rfl, by rw [HFF.out]; exact HO.out, HG.out, HBLK.out⟩
end Go.Proofs.Ytlfmfdbgchpjgaa
