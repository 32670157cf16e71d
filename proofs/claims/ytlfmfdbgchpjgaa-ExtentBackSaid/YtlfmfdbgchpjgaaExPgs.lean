import Derived.Test.YtlfmfdbgchpjgaaExLen
namespace Go.Proofs.Ytlfmfdbgchpjgaa
open Wd Ex Go.RowKit Go.ChangeShapes Go.WideShapes Go.Sort
set_option linter.unusedVariables false
set_option maxRecDepth 100000

theorem infoII : (Try.prog.info? 3).map (fun i => (i.zero, i.size, i.bytes)) = some (some (.int .i64 0), 1, 8) := by kernel_rfl
/-- the first N numbers' pages -/
def nums (N : Nat) (F : Int → Int) : List Int := (List.range N).map (fun t : Nat => F (t : Int))
def arr (N : Nat) (F : Int → Int) : Array Value := ((nums N F).map iv).toArray
theorem nums_len (N : Nat) (F : Int → Int) : (nums N F).length = N := by simp [nums]
theorem nums_at {N : Nat} {F : Int → Int} {t : Nat} (h : t < N) : (nums N F)[t]? = some (F t) := by unfold nums; simp [h]
theorem arr_set (N : Nat) (F : Int → Int) (j : Nat) (x : Int) : (arr N F).setIfInBounds j (.int .i64 x) = arr N (fun t => if t = (j : Int) then x else F t) := by
  apply Array.ext_getElem?
  intro t
  rw [Array.getElem?_setIfInBounds]
  unfold arr
  rw [List.size_toArray, List.length_map, nums_len]
  by_cases hN : t < N
  · rw [List.getElem?_toArray, List.getElem?_toArray, List.getElem?_map, List.getElem?_map, nums_at hN, nums_at hN]
    by_cases h : j = t
    · subst h
      rw [if_pos rfl, if_pos (by omega), if_pos rfl]; rfl
    · rw [if_neg h, if_neg (by omega)]
  · rw [List.getElem?_toArray, List.getElem?_toArray, List.getElem?_eq_none (by simp [nums]; omega), List.getElem?_eq_none (by simp [nums]; omega)]
    by_cases h : j = t
    · rw [if_pos h, if_neg (by omega)]
    · rw [if_neg h]
theorem arr_zero (N : Nat) : (List.replicate N (Value.int .i64 0)).toArray = arr N (fun _ => 0) := by
  unfold arr nums
  congr 1
  apply List.ext_getElem?
  intro t
  by_cases h : t < N
  · simp [h, iv]
  · simp [h]
theorem arr_congr {N : Nat} {F G : Int → Int} (h : ∀ t : Int, 0 ≤ t → t < N → F t = G t) : arr N F = arr N G := by
  unfold arr nums
  congr 2
  refine List.map_congr_left fun t ht => h t (by omega) (by have := List.mem_range.1 ht; omega)
def pagesE (l : List Ext) (n : Int) : List Int := if rightB l = true ∧ 1 ≤ n then nums n.toNat (fun k => pg l k) else []
/-- pages told as a row of ints of its own -/
def TellsInts (xs : List Int) (w : World) (e : Ending) (w' : World) : Prop := ∃ A c, e = .returned (.slice A xs.length c) ∧ Row w' w'.heap.size A xs.length (xs.map iv) ∧ Below w.heap.size w w'
def PgsRel (m : List Ext) (N g : Nat) (w2 : World) (i : Value) (wr : World) : Prop := ∃ k : Nat, k ≤ m.length ∧ i = .int .i64 k ∧ Cells wr g 3 (arr N (pg (m.take k))) ∧ w2.grownBy wr (some g)
def PginRel (m : List Ext) (e : Ext) (k N g gc : Nat) (w2 : World) (i : Value) (wr : World) : Prop := ∃ j : Nat, (j : Int) ≤ e.n ∧ i = .int .i64 j ∧ Cells wr g 3 (arr N (fun t => if e.f ≤ t ∧ t < e.f + j then e.p + (t - e.f) else pg (m.take k) t)) ∧ w2.grownBy wr (some g) ∧ Cells wr gc 29 (xc e)
theorem pg_take {m : List Ext} {k : Nat} {e : Ext} (hm : Right m) (h : m[k]? = some e) (t : Int) : pg (m.take (k + 1)) t = if e.f ≤ t ∧ t < e.f + e.n then e.p + (t - e.f) else pg (m.take k) t := by
  have hf : ∀ x ∈ m.take k, Fits x := fun x hx => hm.fits x (List.mem_of_mem_take hx)
  have fe := hm.fits e (List.mem_of_getElem? h)
  rw [List.take_add_one, h, show (some e).toList = [e] from rfl, pg_append hf, pg]
  have hup : ∀ (l r : List Ext) (b : Int), Up b (l ++ r) → ∀ x ∈ r.head?, Ex.Ends x.f l := by
    intro l
    induction l with
    | nil => intro r b _ x _ y hy; cases hy
    | cons z l ih =>
      intro r b hu x hx y hy
      rcases List.mem_cons.1 hy with rfl | hy
      · exact hu.2.2.ge x (List.mem_append_right _ (List.mem_of_mem_head? hx))
      · exact ih r _ hu.2.2 x hx y hy
  have hends : Ex.Ends e.f (m.take k) := by
    refine hup (m.take k) (m.drop k) 0 (by rw [List.take_append_drop]; exact hm.up) e ?_
    rw [drop_at h]; rfl
  by_cases hc : e.f ≤ t ∧ t < e.f + e.n
  · rw [if_pos hc, pg_high hends hc.1, if_pos rfl, if_pos hc]
  · rw [if_neg hc, if_neg hc]
    show (if pg (m.take k) t = 0 then pg [] t else pg (m.take k) t) = _
    by_cases hz : pg (m.take k) t = 0
    · rw [if_pos hz, hz]; rfl
    · rw [if_neg hz]
section
variable {w : World} {lo hi : Nat} {A : Option Addr} {c : Nat} {l : List Ext}
set_option maxHeartbeats 4000000 in
theorem xPages (h : Exs w lo hi A l) (hh : hi ≤ w.heap.size) (hs : Small l) (hm : l.length ≤ 1000) (n : Int) (hn : n ≤ 100000) : Calls Try.prog 9 #[.slice A l.length c, .int .i64 n] w (TellsInts (pagesE l n) w) := by
  have KR := Lib.hid (xRight (c := c) h hh hs (by omega))
  have H := Lib.hid h
  clear h hs
  unfold pagesE
  cases hr : rightB l
  · rw [hr] at KR
    rw [if_neg (by simp)]
    clear hr
    go_enter Try.func9, Try.ntmps9
    go_wp2_with fail
    refine KR.out.mono ?_
    rintro e w1 hg
    obtain ⟨rfl, b1⟩ := grows_b hg
    clear hg KR
    go_wp2
    go_ret
    exact ⟨none, 0, rfl, Row.nil, b1⟩
  · rw [hr] at KR
    by_cases h1 : n < 1
    · rw [if_neg (by omega)]
      clear hr
      go_enter Try.func9, Try.ntmps9
      go_wp2_with fail
      refine KR.out.mono ?_
      rintro e w1 hg
      obtain ⟨rfl, b1⟩ := grows_b hg
      clear hg KR
      go_wp2
      go_ret
      exact ⟨none, 0, rfl, Row.nil, b1⟩
    · rw [if_pos ⟨rfl, by omega⟩]
      obtain ⟨N, rfl⟩ : ∃ N : Nat, n = N := ⟨n.toNat, by omega⟩
      rw [Int.toNat_natCast]
      have hR := rightB_iff.1 hr
      have s1 : Span 0 (N : Int) := ⟨Int.le_refl _, by omega⟩
      have KB := Lib.hid (fun (w1 : World) (b1 : Below w.heap.size w w1) => xBtw (c := c) (a := 0) (b := N) (H.out.below (b1.mono hh)) (Nat.le_trans hh b1.size) hR.fits hm s1 (by omega))
      have hmk := fun w => Wd.make_row (P := Try.prog) 22 3 (.int .i64 0) 8 Try.underlying22 infoII rfl N (by omega) (by omega) w
      have hpg := btw_pg hR.up s1
      have hin := @btw_in l 0 N
      have hmr := btw_right hR s1
      have hml := @btw_len l 0 N
      obtain ⟨m, hm'⟩ : ∃ m, btw l 0 N = m := ⟨_, rfl⟩
      rw [hm'] at KB hpg hin hmr hml
      have HMR := Lib.hid hmr; have HIN := Lib.hid hin
      have HARR := Lib.hid (show arr N (pg m) = arr N (fun k => pg l k) from arr_congr fun t h0 h1 => by rw [hpg, if_pos ⟨h0, h1⟩])
      have hN1 : ¬ ((N : Int) < 1) := h1
      clear hr hR s1 hpg hin hmr hm'
      go_enter Try.func9, Try.ntmps9
      go_wp2_with fail
      refine KR.out.mono ?_
      rintro e w1 hg
      obtain ⟨rfl, b1⟩ := grows_b hg
      have B1 := Lib.hid b1
      clear hg KR b1
      go_wp2_with fail
      have bA : Below w.heap.size w (w1.alloc (.cells (Array.replicate N (.int .i64 0)) 3)) := B1.out.alloc B1.out.size _
      have cA : Cells (w1.alloc (.cells (Array.replicate N (.int .i64 0)) 3)) w1.heap.size 3 (arr N (fun _ => 0)) := by
        rw [← arr_zero, List.toArray_replicate]; exact Cells.new _ _ _
      have sA : w1.heap.size < (w1.alloc (.cells (Array.replicate N (.int .i64 0)) 3)).heap.size := by simp
      refine (KB.out _ bA).mono ?_
      rintro e w2 ⟨v2, rfl, own2, b2⟩
      have B2 := Lib.hid (bA.trans (b2.mono bA.size))
      have C2 := Lib.hid (cA.below' b2)
      obtain ⟨A2, c2, rfl, _, hx2⟩ := own2.form
      obtain ⟨lo2, hlo2⟩ : ∃ x, (w1.alloc (.cells (Array.replicate N (.int .i64 0)) 3)).heap.size = x := ⟨_, rfl⟩
      obtain ⟨g, hg⟩ : ∃ g, w1.heap.size = g := ⟨_, rfl⟩
      have HG0 := Lib.hid (show w.heap.size ≤ g by rw [← hg]; exact B1.out.size)
      rw [hlo2] at hx2 sA
      rw [hg] at sA C2 ⊢
      have X2 := Lib.hid hx2
      have SA := Lib.hid sA
      clear own2 b2 hx2 KB bA cA sA hlo2 hg hmk
      go_wp2
      go_loopw [26] (fun i wr => PgsRel m N g w2 i wr) (fun i _ => m.length - (intOf i).toNat)
      case atStart => exact ⟨0, Nat.zero_le _, rfl, C2.out, grown_refl _ _⟩
      case round =>
        obtain ⟨wo, rfl⟩ : ∃ wo : World, wo = wr := ⟨_, rfl⟩
        obtain ⟨k, hk, rfl, hc, hgr⟩ := hrel
        have HC := Lib.hid hc; have HGR := Lib.hid hgr
        by_cases hlt : k < m.length
        · obtain ⟨e, he⟩ : ∃ e, m[k]? = some e := ⟨_, List.getElem?_eq_getElem hlt⟩
          obtain ⟨bl, off, rfl, _, hbB, x0, x1, x2⟩ := exs_cells (X2.out.keep (w' := wo) (fun b h1 h2 => hgr.block b h2 (fun e => by cases e; have := SA.out; omega))) he
          have hlt2 : (k : Int) < (m.length : Int) := Int.ofNat_lt.2 hlt
          have HE := Lib.hid he
          have fe := Lib.hid (HMR.out.fits e (List.mem_of_getElem? he))
          have ie := Lib.hid (HIN.out e (List.mem_of_getElem? he))
          have C1 := Lib.hid (Cells.new wo 29 (xc e))
          have G1 := Lib.hid (grown_via HGR.out (grown_of_below ((Below.refl wo.heap.size wo).alloc (Nat.le_refl _) (.cells (xc e) 29)) none) (fun g hg => by cases hg))
          have CG := Lib.hid (HC.out.alloc (.cells (xc e) 29))
          clear he hc hgr
          go_wp2
          go_loopw [32] (fun i w' => PginRel m e k N g wo.heap.size w2 i w') (fun i _ => e.n.toNat - (intOf i).toNat)
          case atStart =>
            refine ⟨0, by have := fe.out.n; omega, rfl, ?_, G1.out, C1.out⟩
            rw [arr_congr (G := pg (m.take k)) fun t _ _ => if_neg (by omega)]
            exact CG.out
          case round =>
            obtain ⟨j, hj, rfl, hc, hgr, hce⟩ := hrel
            have HC3 := Lib.hid hc; have HGR3 := Lib.hid hgr; have HCE := Lib.hid hce
            have y0 : wr.cell? ⟨wo.heap.size, 0, none⟩ = some (.int .i64 e.f) := hce.cell 0
            have y2 : wr.cell? ⟨wo.heap.size, 2, none⟩ = some (.int .i64 e.p) := hce.cell 2
            by_cases hjn : (j : Int) < e.n
            · obtain ⟨d, hd⟩ : ∃ d : Nat, e.f + (j : Int) = (d : Int) := ⟨(e.f + j).toNat, by have := fe.out.f; omega⟩
              have hdN : d < N := by have := ie.out.2; omega
              obtain ⟨x, hx⟩ : ∃ x, e.p + (j : Int) = x := ⟨_, rfl⟩
              have q1 : wrap64 (e.f + (j : Int)) = (d : Int) := by rw [hd]; unfold wrap64; omega
              have q2 : wrap64 (e.p + (j : Int)) = x := by have := fe.out.p; have := fe.out.pn; rw [← hx]; unfold wrap64; omega
              have z1 : wr.cell? ⟨g, d, none⟩ = (arr N (fun t => if e.f ≤ t ∧ t < e.f + j then e.p + (t - e.f) else pg (m.take k) t))[d]? := hc.cell d
              have z2 := hc.free d
              have z3 : (arr N (fun t => if e.f ≤ t ∧ t < e.f + j then e.p + (t - e.f) else pg (m.take k) t))[d]? = some (.int .i64 ((fun t => if e.f ≤ t ∧ t < e.f + j then e.p + (t - e.f) else pg (m.take k) t) (d : Int))) := by
                unfold arr; rw [List.getElem?_toArray, List.getElem?_map, nums_at hdN]; rfl
              rw [z3] at z1
              obtain ⟨y, hy⟩ : ∃ y, (fun t => if e.f ≤ t ∧ t < e.f + j then e.p + (t - e.f) else pg (m.take k) t) (d : Int) = y := ⟨_, rfl⟩
              rw [hy] at z1
              have hjb : (j : Int) < 1048576 := by have := fe.out.fn; have := fe.out.f; omega
              have hdN2 : (d : Int) < (N : Int) := by omega
              have hd0 : (0 : Int) ≤ (d : Int) := Int.natCast_nonneg d
              have NE := Lib.hid (show wo.heap.size ≠ g by have := HC.out.lt; omega)
              have HD := Lib.hid hd; have HXX := Lib.hid hx
              clear hc hgr hce hd hx hy z3
              go_wp2
              go_roundw
              case rel =>
                refine ⟨j + 1, by omega, by go_num, ?_, grown_len HGR3.out (.inl rfl) _ _, HCE.out.far (p := ⟨g, d, none⟩) NE.out _⟩
                have := HC3.out.set d (.int .i64 x)
                rw [arr_set] at this
                rw [arr_congr (G := fun t => if t = (d : Int) then x else if e.f ≤ t ∧ t < e.f + j then e.p + (t - e.f) else pg (m.take k) t) fun t t0 t1 => ?_]
                · exact this
                · have h1 := HD.out; have h2 := HXX.out
                  by_cases ht : t = (d : Int)
                  · rw [if_pos (by omega), if_pos ht]; omega
                  · rw [if_neg ht]
                    by_cases ht2 : e.f ≤ t ∧ t < e.f + (j : Int)
                    · rw [if_pos ht2, if_pos (by omega)]
                    · rw [if_neg ht2, if_neg (by omega)]
              case measure => simp [intOf]; omega
            · have hje : (j : Int) = e.n := by omega
              have CN := Lib.hid (show Cells wr g 3 (arr N (pg (m.take (k + 1)))) by
                rw [arr_congr (F := pg (m.take (k + 1))) (G := fun t => if e.f ≤ t ∧ t < e.f + (j : Int) then e.p + (t - e.f) else pg (m.take k) t) fun t _ _ => by rw [pg_take HMR.out HE.out, hje]]
                exact hc)
              clear hc hgr hce hje y0 y2
              go_wp2
              go_roundw
              case rel => exact ⟨k + 1, by omega, by go_num, CN.out, HGR3.out⟩
              case measure => simp [intOf]; omega
        · obtain rfl : k = m.length := by omega
          have hc' := HC.out
          rw [List.take_length, HARR.out] at hc'
          have CF := Lib.hid hc'
          clear hc hgr hc'
          go_wp2
          go_ret
          have hrow : Row wo wo.heap.size (some ⟨g, 0, none⟩) N ((nums N (fun k => pg l k)).map iv) := by
            have := Row.of_cells (B := wo.heap.size) CF.out CF.out.lt
            unfold arr at this
            simpa [nums_len] using this
          refine ⟨some ⟨g, 0, none⟩, N, by rw [nums_len]; rfl, by rw [nums_len]; exact hrow, B2.out.grown HGR.out B2.out.size (fun q hq => by cases hq; exact HG0.out)⟩
end
end Go.Proofs.Ytlfmfdbgchpjgaa
