import Derived.Test.YtcimmfhbffofjaaRcFs
import Derived.Test.YtcimmfhbffofjaaEfBrx
namespace Go.Proofs.Ytcimmfhbffofjaa
open Wd U Go.ChangeShapes Go.WideShapes Go.RowKit Go.Sort
set_option linter.unusedVariables false
set_option linter.unusedSimpArgs false

/-! what is read of a record -/
def rdV (xs : List Nat) : List Value := [.int .i64 (numV (nX 1 xs)), .int .i64 (numV (nX 2 xs)), .int .i64 (numV (nX 3 xs)), .int .i64 (numV (nX 4 xs)), .int .i64 (numV (nX 5 xs)), .int .i64 (numV (nX 6 xs))]
def zl : List Value := [.int .i64 0, .int .i64 0, .int .i64 0, .int .i64 0, .int .i64 0, .int .i64 0, .string ⟨#[]⟩, .string ⟨#[]⟩, .slice none 0 0]
def eL (xs : List Nat) (j : Nat) : List Value := (rdV xs).take j ++ zl.drop j
def ptrs (g : Nat) : List Value := [.pointer (some ⟨g, 0, none⟩), .pointer (some ⟨g, 1, none⟩), .pointer (some ⟨g, 2, none⟩), .pointer (some ⟨g, 3, none⟩), .pointer (some ⟨g, 4, none⟩), .pointer (some ⟨g, 5, none⟩)]
theorem eL_step (xs : List Nat) {j : Nat} (hj : j < 6) : (eL xs j).set j (.int .i64 (numV (nX (j + 1) xs))) = eL xs (j + 1) := by
  match j, hj with
  | 0, _ => rfl
  | 1, _ => rfl
  | 2, _ => rfl
  | 3, _ => rfl
  | 4, _ => rfl
  | 5, _ => rfl
theorem ptr_at (g : Nat) {j : Nat} (hj : j < 6) : (ptrs g)[j]? = some (.pointer (some ⟨g, j, none⟩)) := by
  match j, hj with
  | 0, _ => rfl
  | 1, _ => rfl
  | 2, _ => rfl
  | 3, _ => rfl
  | 4, _ => rfl
  | 5, _ => rfl
theorem eL_at (xs : List Nat) {j : Nat} (hj : j < 6) : (eL xs j)[j]? = some (.int .i64 0) := by
  match j, hj with
  | 0, _ => rfl
  | 1, _ => rfl
  | 2, _ => rfl
  | 3, _ => rfl
  | 4, _ => rfl
  | 5, _ => rfl
/-- a store beside the Reader's own block -/
theorem RdSt.aside {W w : World} {g q i : Nat} {xs : List Nat} {bad : Bool} {v : Value} {t : TypeId} {cs : Array Value} (h : RdSt W g xs bad w) (hc : Cells w q t cs) (h1 : t ≠ 61) (h2 : t ≠ 81) (hq : W.heap.size ≤ q) : RdSt W g xs bad (w.setCell ⟨q, i, none⟩ v) := by
  obtain ⟨hb, hg, hl, hs, hn, v0, hv, hr⟩ := h
  refine ⟨hb.setCell (p := ⟨q, i, none⟩) hq _, hg, hl, hs, hn, v0, hv.far (p := ⟨q, i, none⟩) (fun e => ?_) _, hr.keep fun g' cs' hc' => Below.heap_setCell w _ _ g' fun e => ?_⟩
  · exact hv.ne hc h2.symm e
  · exact hc'.ne hc h1.symm e
theorem RdSt.g_ne {W w : World} {g q : Nat} {xs : List Nat} {bad : Bool} {t : TypeId} {cs : Array Value} (h : RdSt W g xs bad w) (hc : Cells w q t cs) (h2 : t ≠ 81) : q ≠ g := by
  obtain ⟨_, _, _, _, _, v0, hv, _⟩ := h
  exact hc.ne hv h2
theorem fill9k {w0 w : World} {g : Nat} {t : TypeId} {u0 u1 u2 u3 u4 u5 u6 u7 u8 : Value} (h : Cells w g t #[u0, u1, u2, u3, u4, u5, u6, u7, u8]) (hb : Below w0.heap.size w0 w) (hg : w0.heap.size ≤ g) (v0 v1 v2 v3 v4 v5 v6 v7 v8 : Value) :
    ∃ w6, (((((((((w.setCell ⟨g, 0, none⟩ v0).setCell ⟨g, 1, none⟩ v1).setCell ⟨g, 2, none⟩ v2).setCell ⟨g, 3, none⟩ v3).setCell ⟨g, 4, none⟩ v4).setCell ⟨g, 5, none⟩ v5).setCell ⟨g, 6, none⟩ v6).setCell ⟨g, 7, none⟩ v7).setCell ⟨g, 8, none⟩ v8) = w6 ∧ Cells w6 g t #[v0, v1, v2, v3, v4, v5, v6, v7, v8] ∧ Below w0.heap.size w0 w6 ∧ (∀ (b : Nat) (t' : TypeId) (cs : Array Value), b ≠ g → Cells w b t' cs → Cells w6 b t' cs) := by
  refine ⟨_, rfl, ?_, (((((((((hb.setCell (p := ⟨g, 0, none⟩) hg v0).setCell (p := ⟨g, 1, none⟩) hg v1).setCell (p := ⟨g, 2, none⟩) hg v2).setCell (p := ⟨g, 3, none⟩) hg v3).setCell (p := ⟨g, 4, none⟩) hg v4).setCell (p := ⟨g, 5, none⟩) hg v5).setCell (p := ⟨g, 6, none⟩) hg v6).setCell (p := ⟨g, 7, none⟩) hg v7).setCell (p := ⟨g, 8, none⟩) hg v8), fun b t' cs hx hc => (((((((((hc.far (p := ⟨g, 0, none⟩) hx v0).far (p := ⟨g, 1, none⟩) hx v1).far (p := ⟨g, 2, none⟩) hx v2).far (p := ⟨g, 3, none⟩) hx v3).far (p := ⟨g, 4, none⟩) hx v4).far (p := ⟨g, 5, none⟩) hx v5).far (p := ⟨g, 6, none⟩) hx v6).far (p := ⟨g, 7, none⟩) hx v7).far (p := ⟨g, 8, none⟩) hx v8)⟩
  have := (((((((((h.set 0 v0).set 1 v1).set 2 v2).set 3 v3).set 4 v4).set 5 v5).set 6 v6).set 7 v7).set 8 v8)
  simpa using this
def RdLoop (xs : List Nat) (W : World) (g gZ gE gP : Nat) (i : Value) (wr : World) : Prop :=
  ∃ j : Nat, j ≤ 6 ∧ i = .int .i64 (j : Int) ∧ RdSt W g (nX (j + 1) xs) (nB (j + 1) xs) wr ∧ Cells wr gE 24 (eL xs j).toArray ∧ Cells wr gP 77 (ptrs gE).toArray ∧ Cells wr gZ 24 zl.toArray
/-- its bytes lie in a block of bytes -/
def Eff.Ty (x : Eff) (w : World) : Prop := ∀ b off, x.A = some ⟨b, off, none⟩ → 0 < x.data.length → ∃ cs, Cells w b 5 cs
theorem Eff.Ty.below {x : Eff} {w w' : World} (h : x.Ty w) (hb : Below w.heap.size w w') : x.Ty w' := fun b off e hn => by
  obtain ⟨cs, hc⟩ := h b off e hn
  exact ⟨cs, hc.below' hb⟩
theorem Eff.Ty.kept {x : Eff} {w w' : World} {g : Nat} {cs : Array Value} (h : x.Ty w) (hg : Cells w g 24 cs) (hk : ∀ (b : Nat) (t' : TypeId) (cs : Array Value), b ≠ g → Cells w b t' cs → Cells w' b t' cs) : x.Ty w' := fun b off e hn => by
  obtain ⟨cs', hc⟩ := h b off e hn
  exact ⟨cs', hk _ _ _ (hc.ne hg (by decide)) hc⟩
def ReadR (xs : List Nat) (W : World) (e : Ending) (w : World) : Prop :=
  ∃ x : Eff, e = .returned (.tuple #[x.val, .int .i64 (rdRef xs)]) ∧ core x = rdE xs ∧ x.data = zer x.kind ∧ x.Ok w w.heap.size ∧ Below W.heap.size W w ∧ x.Ty w
set_option maxRecDepth 100000 in
set_option maxHeartbeats 4000000 in
theorem rRead {W w : World} {g : Nat} {xs : List Nat} (h : RdSt W g xs false w) : Calls Try.prog 30 #[.pointer (some ⟨g, 0, none⟩)] w (ReadR xs W) := by
  have hz := Cells.new w 24 zl.toArray
  have hb1 : Below w.heap.size w (w.alloc (.cells zl.toArray 24)) := (Below.refl _ _).alloc (Nat.le_refl _) _
  have h1 := h.below hb1
  have H1 := Lib.hid h1; have HZ := Lib.hid hz
  have hsz := h.b.size
  clear h hz h1 hb1
  go_enter Try.func30, Try.ntmps30
  go_upto_region 2 with fail
  obtain ⟨w1, hw1⟩ : ∃ w1, w.alloc (.cells zl.toArray 24) = w1 := ⟨_, rfl⟩
  rw [hw1] at H1 HZ
  obtain ⟨gZ, hgZ⟩ : ∃ gZ, w.heap.size = gZ := ⟨_, rfl⟩
  rw [hgZ] at hsz HZ
  unfold zl at hw1
  rw [hw1, hgZ]
  clear hw1 hgZ
  go_wp2_with (go_at_call 45; (with_reducible refine (num_k H1.out).mono ?_); rintro e' w2 ⟨rfl, h2, k2⟩; have H2 := Lib.hid h2; have HZ2 := Lib.hid (k2 _ _ _ (H1.out.g_ne HZ.out (by decide)) HZ.out); clear h2 k2)
  have hE := Cells.new w2 24 zl.toArray
  have hP := Cells.new (w2.alloc (.cells zl.toArray 24)) 77 (ptrs w2.heap.size).toArray
  have hE3 := hE.alloc (.cells (ptrs w2.heap.size).toArray 77)
  have hZ3 := (HZ2.out.alloc (.cells zl.toArray 24)).alloc (.cells (ptrs w2.heap.size).toArray 77)
  have h3 := H2.out.below (((Below.refl _ _).alloc (Nat.le_refl _) (.cells zl.toArray 24)).alloc (by simp) (.cells (ptrs w2.heap.size).toArray 77))
  have hs1 : (w2.alloc (.cells zl.toArray 24)).heap.size = w2.heap.size + 1 := by simp
  have hs2 := H2.out.b.size
  have hzE := HZ2.out.lt
  rw [hs1] at hP
  obtain ⟨gE, hgE⟩ : ∃ gE, w2.heap.size = gE := ⟨_, rfl⟩
  rw [hgE] at hE3 hP hZ3 h3 hs2 hzE ⊢
  obtain ⟨w3, hw3⟩ : ∃ w3, (w2.alloc (.cells zl.toArray 24)).alloc (.cells (ptrs gE).toArray 77) = w3 := ⟨_, rfl⟩
  rw [hw3] at hE3 hP hZ3 h3
  unfold zl ptrs at hw3
  rw [hw3]
  have HE3 := Lib.hid hE3; have HP3 := Lib.hid hP; have HZ3 := Lib.hid hZ3; have H3 := Lib.hid h3
  clear hE hP hE3 hZ3 h3 hs1 hw3 hgE
  go_loopw [21] (fun i wr => RdLoop xs W g gZ gE (gE + 1) i wr) (fun i _ => 6 - (intOf i).toNat)
  case atStart => exact ⟨0, by omega, rfl, H3.out, HE3.out, HP3.out, HZ3.out⟩
  case round =>
    obtain ⟨j, hj, rfl, hr, hcE, hcP, hcZ⟩ := hrel
    have HR := Lib.hid hr; have HCE := Lib.hid hcE; have HCP := Lib.hid hcP; have HCZ := Lib.hid hcZ
    by_cases hlt : j < 6
    · have cp : wr.cell? ⟨gE + 1, j, none⟩ = some (.pointer (some ⟨gE, j, none⟩)) := by
        rw [hcP.cell j]
        simp [ptr_at gE hlt]
      have hjl : (j : Int) < 6 := by omega
      have HLT := Lib.hid hlt
      clear hr hcE hcP hcZ hj
      go_wp2_with (go_at_call 45; (with_reducible refine (num_k HR.out).mono ?_); rintro e' wn ⟨rfl, hn, kn⟩; have HN := Lib.hid hn; have hce := kn _ _ _ (HR.out.g_ne HCE.out (by decide)) HCE.out; have HCE2 := Lib.hid hce; have HCP2 := Lib.hid (kn _ _ _ (HR.out.g_ne HCP.out (by decide)) HCP.out); have HCZ2 := Lib.hid (kn _ _ _ (HR.out.g_ne HCZ.out (by decide)) HCZ.out); have ff := hce.free j; have fc : wn.cell? ⟨gE, j, none⟩ = some (.int .i64 0) := (by rw [hce.cell j]; simp [eL_at xs HLT.out]); clear hn kn hce)
      go_roundw
      case rel =>
        have hlt := HLT.out
        refine ⟨j + 1, by omega, by go_num, HN.out.aside HCE2.out (by decide) (by decide) hs2, ?_, HCP2.out.far (p := ⟨gE, j, none⟩) (by simp) _, HCZ2.out.far (p := ⟨gE, j, none⟩) (by simp; omega) _⟩
        rw [← eL_step xs hlt]
        have := HCE2.out.set j (.int .i64 (numV (nX (j + 1) xs)))
        simpa using this
      case measure => simp [intOf]; omega
    · obtain rfl : j = 6 := by omega
      have hr7 : RdSt W g (nX 7 xs) (nB 7 xs) wr := hr
      have HR7 := Lib.hid hr7
      clear hr hcE hcP hcZ hr7 hj hlt
      go_upto_region 11 with (first
        | (go_at_call 45; (with_reducible refine (num_k HR7.out).mono ?_); rintro e' w8 ⟨rfl, h8, k8⟩; have H8 := Lib.hid h8; have hce8 := k8 _ _ _ (HR7.out.g_ne HCE.out (by decide)) HCE.out; have HCE8 := Lib.hid hce8; have HCZ8 := Lib.hid (k8 _ _ _ (HR7.out.g_ne HCZ.out (by decide)) HCZ.out); clear h8 k8 hce8)
        | (go_at_call 46; (with_reducible refine (text_k H8.out 24 (by omega) (by omega) (.inr (by omega))).mono ?_); rintro e' w9 ⟨rfl, h9, k9⟩; have H9 := Lib.hid h9; have HCE9 := Lib.hid (k9 _ _ _ (H8.out.g_ne HCE8.out (by decide)) HCE8.out); have HCZ9 := Lib.hid (k9 _ _ _ (H8.out.g_ne HCZ8.out (by decide)) HCZ8.out); clear h9 k9)
        | (go_at_call 46; (with_reducible refine (text_k H9.out 24 (by omega) (by omega) (.inr (by omega))).mono ?_); rintro e' wa ⟨rfl, ha, ka⟩; have HA := Lib.hid ha; have hcea := ka _ _ _ (H9.out.g_ne HCE9.out (by decide)) HCE9.out; have HCEA := Lib.hid hcea; have HCZA := Lib.hid (ka _ _ _ (H9.out.g_ne HCZ9.out (by decide)) HCZ9.out); have ca6 : wa.cell? ⟨gE, 6, none⟩ = some (.string ⟨#[]⟩) := hcea.cell 6; have ca7 : wa.cell? ⟨gE, 7, none⟩ = some (.string ⟨#[]⟩) := hcea.cell 7; have fa : ∀ k, wa.frozen? ⟨gE, k, none⟩ = false := (fun k => hcea.free k); clear ha ka hcea))
      have hmk : ∀ W : World, (Instr.makeSlice 22 (.int .i64 256) (.int .i64 256)).run Try.prog W = .ok (.slice (some ⟨W.heap.size, 0, none⟩) 256 256) (W.alloc (.cells (Array.replicate 256 (Value.int .u8 0)) 5)) := fun W => by
        have h := make_row (P := Try.prog) 22 5 (.int .u8 0) 1 Try.underlying22 infoU8 rfl 256 (by omega) (by omega) W
        rw [List.toArray_replicate] at h
        exact h
      have e8 : numX (nX 7 xs) = nX 8 xs := rfl
      rw [e8] at HA ⊢
      obtain ⟨N, hN⟩ : ∃ N, textV 24 (nX 8 xs) = N := ⟨_, rfl⟩
      obtain ⟨O, hO⟩ : ∃ O, textV 24 (textX 24 (nX 8 xs)) = O := ⟨_, rfl⟩
      rw [hN, hO]
      have hcb : Cells ((wa.setCell ⟨gE, 6, none⟩ (.string N)).setCell ⟨gE, 7, none⟩ (.string O)) gE 24 #[.int .i64 (numV (nX 1 xs)), .int .i64 (numV (nX 2 xs)), .int .i64 (numV (nX 3 xs)), .int .i64 (numV (nX 4 xs)), .int .i64 (numV (nX 5 xs)), .int .i64 (numV (nX 6 xs)), .string N, .string O, .slice none 0 0] := by
        have := (HCEA.out.set 6 (.string N)).set 7 (.string O)
        simpa [eL, rdV, zl] using this
      have hzb : Cells ((wa.setCell ⟨gE, 6, none⟩ (.string N)).setCell ⟨gE, 7, none⟩ (.string O)) gZ 24 zl.toArray := (HCZA.out.far (p := ⟨gE, 6, none⟩) (by simp; omega) _).far (p := ⟨gE, 7, none⟩) (by simp; omega) _
      have hbb : Below W.heap.size W ((wa.setCell ⟨gE, 6, none⟩ (.string N)).setCell ⟨gE, 7, none⟩ (.string O)) := (HA.out.b.setCell (p := ⟨gE, 6, none⟩) hs2 _).setCell (p := ⟨gE, 7, none⟩) hs2 _
      obtain ⟨wb, hwb⟩ : ∃ wb, (wa.setCell ⟨gE, 6, none⟩ (.string N)).setCell ⟨gE, 7, none⟩ (.string O) = wb := ⟨_, rfl⟩
      rw [hwb] at hcb hzb hbb ⊢
      clear ca6 ca7 fa hwb
      have HRE : rdE xs = ⟨numV (nX 1 xs), numV (nX 2 xs), numV (nX 3 xs), numV (nX 4 xs), numV (nX 5 xs), numV (nX 6 xs), N, O, none, 0, []⟩ := by unfold rdE; rw [hN, hO]
      have hNs : N.size ≤ 24 := by rw [← hN]; exact textV_size 24 _
      have hOs : O.size ≤ 24 := by rw [← hO]; exact textV_size 24 _
      have hRF : rdRef xs = ((numV (nX 7 xs) : Nat) : Int) := rfl
      have x1 := numV_le (nX 1 xs); have x2 := numV_le (nX 2 xs); have x3 := numV_le (nX 3 xs); have x4 := numV_le (nX 4 xs); have x5 := numV_le (nX 5 xs); have x6 := numV_le (nX 6 xs)
      unfold topN at x1 x2 x3 x4 x5 x6
      generalize numV (nX 1 xs) = v1 at *
      generalize numV (nX 2 xs) = v2 at *
      generalize numV (nX 3 xs) = v3 at *
      generalize numV (nX 4 xs) = v4 at *
      generalize numV (nX 5 xs) = v5 at *
      generalize numV (nX 6 xs) = v6 at *
      generalize numV (nX 7 xs) = v7 at *
      have HCB := Lib.hid hcb; have HZB := Lib.hid hzb; have HBB := Lib.hid hbb
      obtain ⟨c0, c1, c2, c3, c4, c5, c6, c7, c8⟩ := cells9 (e := ⟨v1, v2, v3, v4, v5, v6, N, O, none, 0, []⟩) hcb
      clear hcb hzb hbb
      by_cases h7 : v1 = 7
      · subst h7
        go_upto_region 12 with fail
        have fE : ∀ k, wb.frozen? ⟨gE, k, none⟩ = false := fun k => HCB.out.free k
        have hal := HCB.out.alloc (.cells (Array.replicate 256 (Value.int .u8 0)) 5)
        have g8 : (wb.alloc (.cells (Array.replicate 256 (Value.int .u8 0)) 5)).cell? ⟨gE, 8, none⟩ = some (.slice none 0 0) := hal.cell 8
        have gf : (wb.alloc (.cells (Array.replicate 256 (Value.int .u8 0)) 5)).frozen? ⟨gE, 8, none⟩ = false := hal.free 8
        go_upto_region 13 with fail
        have hst : Cells ((wb.alloc (.cells (Array.replicate 256 (Value.int .u8 0)) 5)).setCell ⟨gE, 8, none⟩ (.slice (some ⟨wb.heap.size, 0, none⟩) 256 256)) gE 24 #[.int .i64 7, .int .i64 v2, .int .i64 v3, .int .i64 v4, .int .i64 v5, .int .i64 v6, .string N, .string O, .slice (some ⟨wb.heap.size, 0, none⟩) 256 256] := by
          have := hal.set 8 (.slice (some ⟨wb.heap.size, 0, none⟩) 256 256)
          simpa using this
        have hzs := (HZB.out.alloc (.cells (Array.replicate 256 (Value.int .u8 0)) 5)).far (p := ⟨gE, 8, none⟩) (by simp; omega) (.slice (some ⟨wb.heap.size, 0, none⟩) 256 256)
        have hbs := (HBB.out.alloc HBB.out.size (.cells (Array.replicate 256 (Value.int .u8 0)) 5)).setCell (p := ⟨gE, 8, none⟩) hs2 (.slice (some ⟨wb.heap.size, 0, none⟩) 256 256)
        have hlt := HCB.out.lt
        have hdt := (Cells.new wb 5 (Array.replicate 256 (Value.int .u8 0))).far (p := ⟨gE, 8, none⟩) (by simp; omega) (.slice (some ⟨wb.heap.size, 0, none⟩) 256 256)
        obtain ⟨wx, hwx⟩ : ∃ wx, (wb.alloc (.cells (Array.replicate 256 (Value.int .u8 0)) 5)).setCell ⟨gE, 8, none⟩ (.slice (some ⟨wb.heap.size, 0, none⟩) 256 256) = wx := ⟨_, rfl⟩
        rw [hwx] at hst hzs hbs hdt ⊢
        obtain ⟨gD, hgD⟩ : ∃ gD, wb.heap.size = gD := ⟨_, rfl⟩
        rw [hgD] at hst hdt hlt ⊢
        clear hal g8 gf fE hwx hgD c0 c1 c2 c3 c4 c5 c6 c7 c8
        obtain ⟨c0, c1, c2, c3, c4, c5, c6, c7, c8⟩ := cells9 (e := ⟨(7 : Int), v2, v3, v4, v5, v6, N, O, some ⟨gD, 0, none⟩, 256, List.replicate 256 0⟩) hst
        have HZB := Lib.hid hzs; have HBB := Lib.hid hbs; have HDT := Lib.hid hdt
        clear hst hzs hbs hdt
        have HZX := HZB; have HBX := HBB
        unfold zl at HZX
        have hzx := HZX.out
        have d0 : wx.cell? ⟨gZ, 0, none⟩ = some (Value.int .i64 0) := hzx.cell 0
        have d1 : wx.cell? ⟨gZ, 1, none⟩ = some (Value.int .i64 0) := hzx.cell 1
        have d2 : wx.cell? ⟨gZ, 2, none⟩ = some (Value.int .i64 0) := hzx.cell 2
        have d3 : wx.cell? ⟨gZ, 3, none⟩ = some (Value.int .i64 0) := hzx.cell 3
        have d4 : wx.cell? ⟨gZ, 4, none⟩ = some (Value.int .i64 0) := hzx.cell 4
        have d5 : wx.cell? ⟨gZ, 5, none⟩ = some (Value.int .i64 0) := hzx.cell 5
        have d6 : wx.cell? ⟨gZ, 6, none⟩ = some (.string ⟨#[]⟩) := hzx.cell 6
        have d7 : wx.cell? ⟨gZ, 7, none⟩ = some (.string ⟨#[]⟩) := hzx.cell 7
        have d8 : wx.cell? ⟨gZ, 8, none⟩ = some (.slice none 0 0) := hzx.cell 8
        have fz : ∀ k, wx.frozen? ⟨gZ, k, none⟩ = false := fun k => hzx.free k
        clear hzx
        go_wp2
        obtain ⟨w6, hw6, hc6, hb6, hk6⟩ := fill9k (w0 := W) (HZX.out) HBX.out hsz (.int .i64 7) (.int .i64 v2) (.int .i64 v3) (.int .i64 v4) (.int .i64 v5) (.int .i64 v6) (.string N) (.string O) (.slice (some ⟨gD, 0, none⟩) 256 256)
        rw [hw6]
        clear hw6 c0 c1 c2 c3 c4 c5 c6 c7 c8 d0 d1 d2 d3 d4 d5 d6 d7 d8 fz
        obtain ⟨c0, c1, c2, c3, c4, c5, c6, c7, c8⟩ := cells9 (e := ⟨(7 : Int), v2, v3, v4, v5, v6, N, O, some ⟨gD, 0, none⟩, 256, List.replicate 256 0⟩) hc6
        refine bodyPost_ret (v := .tuple #[Eff.val ⟨(7 : Int), v2, v3, v4, v5, v6, N, O, some ⟨gD, 0, none⟩, 256, List.replicate 256 0⟩, .int .i64 v7]) (by simp [results, Try.results30, go_sem, Eff.val, c0, c1, c2, c3, c4, c5, c6, c7, c8]) rfl ?_
        have hdD := hk6 _ _ _ (by omega) HDT.out
        have hrowD : Row w6 w6.heap.size (some ⟨gD, 0, none⟩) (List.replicate 256 0).length ((List.replicate 256 0).map bt) := by
          have := Row.of_cells (B := w6.heap.size) hdD hdD.lt
          simpa [bt] using this
        exact ⟨⟨(7 : Int), v2, v3, v4, v5, v6, N, O, some ⟨gD, 0, none⟩, 256, List.replicate 256 0⟩, by rw [hRF], by rw [HRE]; rfl, by unfold zer; rw [if_pos (by rfl)], ⟨by show i64R (7 : Int); unfold i64R; omega, by show i64R (v2 : Int); unfold i64R; omega, by show i64R (v3 : Int); unfold i64R; omega, by show i64R (v4 : Int); unfold i64R; omega, by show i64R (v5 : Int); unfold i64R; omega, by show i64R (v6 : Int); unfold i64R; omega, by show N.size ≤ maxLen; unfold maxLen; omega, by show O.size ≤ maxLen; unfold maxLen; omega, (fun y hy => by rw [List.eq_of_mem_replicate hy]; decide), hrowD, by show 256 ≤ maxLen; decide, Nat.le_refl _⟩, hb6, fun b off e _ => by cases e; exact ⟨_, hdD⟩⟩
      · have q7 : ((v1 : Int) == 7) = false := by rw [beq_eq_false_iff_ne]; omega
        have HZX := HZB; have HBX := HBB
        unfold zl at HZX
        have hzx := HZX.out
        have d0 : wb.cell? ⟨gZ, 0, none⟩ = some (Value.int .i64 0) := hzx.cell 0
        have d1 : wb.cell? ⟨gZ, 1, none⟩ = some (Value.int .i64 0) := hzx.cell 1
        have d2 : wb.cell? ⟨gZ, 2, none⟩ = some (Value.int .i64 0) := hzx.cell 2
        have d3 : wb.cell? ⟨gZ, 3, none⟩ = some (Value.int .i64 0) := hzx.cell 3
        have d4 : wb.cell? ⟨gZ, 4, none⟩ = some (Value.int .i64 0) := hzx.cell 4
        have d5 : wb.cell? ⟨gZ, 5, none⟩ = some (Value.int .i64 0) := hzx.cell 5
        have d6 : wb.cell? ⟨gZ, 6, none⟩ = some (.string ⟨#[]⟩) := hzx.cell 6
        have d7 : wb.cell? ⟨gZ, 7, none⟩ = some (.string ⟨#[]⟩) := hzx.cell 7
        have d8 : wb.cell? ⟨gZ, 8, none⟩ = some (.slice none 0 0) := hzx.cell 8
        have fz : ∀ k, wb.frozen? ⟨gZ, k, none⟩ = false := fun k => hzx.free k
        clear hzx
        go_wp2
        obtain ⟨w6, hw6, hc6, hb6, hk6⟩ := fill9k (w0 := W) (HZX.out) HBX.out hsz (.int .i64 v1) (.int .i64 v2) (.int .i64 v3) (.int .i64 v4) (.int .i64 v5) (.int .i64 v6) (.string N) (.string O) (.slice none 0 0)
        rw [hw6]
        clear hw6 c0 c1 c2 c3 c4 c5 c6 c7 c8 d0 d1 d2 d3 d4 d5 d6 d7 d8 fz
        obtain ⟨c0, c1, c2, c3, c4, c5, c6, c7, c8⟩ := cells9 (e := ⟨v1, v2, v3, v4, v5, v6, N, O, none, 0, []⟩) hc6
        refine bodyPost_ret (v := .tuple #[Eff.val ⟨v1, v2, v3, v4, v5, v6, N, O, none, 0, []⟩, .int .i64 v7]) (by simp [results, Try.results30, go_sem, Eff.val, c0, c1, c2, c3, c4, c5, c6, c7, c8]) rfl ?_
        exact ⟨⟨v1, v2, v3, v4, v5, v6, N, O, none, 0, []⟩, by rw [hRF], by rw [HRE]; rfl, by unfold zer; rw [if_neg (by show ¬ ((v1 : Int) = 7); omega)], ⟨by show i64R (v1 : Int); unfold i64R; omega, by show i64R (v2 : Int); unfold i64R; omega, by show i64R (v3 : Int); unfold i64R; omega, by show i64R (v4 : Int); unfold i64R; omega, by show i64R (v5 : Int); unfold i64R; omega, by show i64R (v6 : Int); unfold i64R; omega, by show N.size ≤ maxLen; unfold maxLen; omega, by show O.size ≤ maxLen; unfold maxLen; omega, (fun y hy => by cases hy), Row.nil, Nat.zero_le _, Nat.zero_le _⟩, hb6, fun b off e _ => by cases e⟩
end Go.Proofs.Ytcimmfhbffofjaa
