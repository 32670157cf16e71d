import Derived.Test.YtcimmfhbffofjaaRcSml
import Derived.Deep.RegionHeld3
import Derived.WalkKit
import Derived.WalkMore
namespace Go.Proofs.Ytcimmfhbffofjaa
open Wd U Go.ChangeShapes Go.WideShapes Go.RowKit Go.Sort
set_option linter.unusedVariables false

/-! Put of the project's own -/
def KeepI (w w' : World) : Prop := ∀ (b : Nat) (cs : Array Value), Cells w b 3 cs → Cells w' b 3 cs
theorem keepI_put {w w' : World} {g n base : Nat} {v v' : Value} {xs : List Value} (h3 : Cells w g 55 #[v]) (h4 : w.ownsRow base 61 1 v n xs) (k2 : w.grownBy w' v.ownBlock) : KeepI w (w'.setCell ⟨g, 0, none⟩ v') := by
  intro b cs hc
  have hne : some b ≠ v.ownBlock := by
    intro e
    rcases h4.2 with ⟨rfl, _⟩ | ⟨g', cap, cur, rfl, _, hh, _⟩
    · cases e
    · have : b = g' := by simpa [Value.ownBlock] using e
      exact hc.ne (show Cells w g' 61 cur from hh) (by decide) this
  have hbg : b ≠ g := hc.ne h3 (by decide)
  exact (hc.grown k2 hne).far (p := ⟨g, 0, none⟩) hbg _
def WroteK (w0 : World) (W : World) (g : Nat) (xs : List Nat) (e : Ending) (w : World) : Prop := WroteR W g xs e w ∧ KeepI w0 w
set_option maxRecDepth 100000 in
set_option maxHeartbeats 1000000 in
theorem num_wk {W w : World} {g : Nat} {xs : List Nat} (h : WrSt W g xs w) (hl : xs.length ≤ 100000) (k : Nat) (hk : k ≤ 9223372036854775807) :
    Calls Try.prog 22 #[.pointer (some ⟨g, 0, none⟩), .int .i64 k] w (WroteK w W g (xs ++ [k])) := by
  obtain ⟨h1, h2, v, h3, h4⟩ := h
  have c0 : w.cell? ⟨g, 0, none⟩ = some v := h3.cell 0
  have f0 := h3.free 0
  have hsh : v.ownBlock = none ∧ v = .slice none 0 0 ∨ ∃ q c, v = .slice (some ⟨q, 0, none⟩) xs.length c := by
    rcases h4.2 with ⟨rfl, _⟩ | ⟨g', cap, cur, rfl, _⟩
    · exact .inl ⟨rfl, rfl⟩
    · exact .inr ⟨g', cap, rfl⟩
  have hw : IntKind.u64.wrap (k : Int) = (k : Int) := by rw [IntKind.wrap_u64]; omega
  have H1 := Lib.hid h1; have H3 := Lib.hid h3; have H4 := Lib.hid h4
  have hsz := h1.size
  clear h1 h3 h4 hsh
  go_enter Try.func22, Try.ntmps22
  go_wp2_with (at_builtin; refine wpList_append_row _ rfl (.tmp 10) (.tmp 13) 25 rfl W.heap.size 61 (.int .u64 0) 8 Try.underlying25 infoU64' rfl v xs.length (xs.map wd) rfl (own_below H4.out ((Below.refl _ _).alloc (Nat.le_refl _) _)) _ (some ⟨w.heap.size, 0, none⟩) 1 1 [.int .u64 k] rfl (Row.one _ _ _) (by simp [Value.oneCell']) (by unfold maxLen; omega) (by omega) (by simp; omega) ?_; intro v5 w5 hown5 hgr5 hat5; obtain ⟨q5, k5, rfl, _, _, _, _⟩ := own_open hown5 (by omega); have hgr6 := grow_alloc' hgr5; have HO5 := Lib.hid hown5; have HG5 := Lib.hid hgr6; have hc5 := H3.out.grown hgr6 (WrSt.ne H3.out H4.out); have c5 : w5.cell? ⟨g, 0, none⟩ = some v := hc5.cell 0; have f5 := hc5.free 0; clear hown5 hgr5 hat5 hgr6 hc5)
  refine bodyPost_ret (results_none rfl _ _ _) rfl ?_
  exact ⟨⟨rfl, WrSt.put (ys := [k]) H1.out h2 H3.out H4.out HO5.out HG5.out⟩, keepI_put H3.out H4.out HG5.out⟩

/-- what Put tells: the words, or none -/
def putL (e : Eff) (r : Int) : List Nat := if recB e r then recW e r else []
def PutR (e : Eff) (r : Int) (W : World) (en : Ending) (w : World) : Prop :=
  Below W.heap.size W w ∧ ∃ (A : Option Addr) (c : Nat), en = .returned (.tuple #[.slice A (putL e r).length c, .int .i64 (errB (recB e r) 92)]) ∧ Row w w.heap.size A (putL e r).length ((putL e r).map wd) ∧ (putL e r).length ≤ c
theorem PutR.no {e : Eff} {r : Int} {W w : World} (h : recB e r = false) (hb : Below W.heap.size W w) : PutR e r W (.returned (.tuple #[.slice none 0 0, .int .i64 92])) w := by
  unfold PutR putL
  rw [h]
  exact ⟨hb, none, 0, rfl, Row.nil, Nat.le_refl _⟩
theorem PutR.yes {e : Eff} {r : Int} {W w : World} {A : Option Addr} {c : Nat} (h : recB e r = true) (hb : Below W.heap.size W w) (hr : Row w w.heap.size A (recW e r).length ((recW e r).map wd)) (hc : (recW e r).length ≤ c) : PutR e r W (.returned (.tuple #[.slice A (recW e r).length c, .int .i64 0])) w := by
  unfold PutR putL
  rw [h]
  exact ⟨hb, A, c, rfl, hr, hc⟩
def hdrR (e : Eff) (r : Int) : List Nat := [manyR e, e.kind.toNat, e.ino.toNat, e.dir.toNat, e.dst.toNat, e.page.toNat, e.size.toNat, r.toNat]
def hdrI (e : Eff) (r : Int) : List Int := [(manyR e : Int), e.kind, e.ino, e.dir, e.dst, e.page, e.size, r]
theorem hdr_at {e : Eff} {r : Int} (h : recB e r = true) {j : Nat} (hj : j < 8) : ∃ k : Nat, (hdrR e r)[j]? = some k ∧ (hdrI e r)[j]? = some (k : Int) ∧ k ≤ 1048576 := by
  obtain ⟨hc, r0, r1, _⟩ := recB_parts h
  have R := check_in hc
  have m := manyR_le R
  have h1 := R.kind; have h2 := R.ino; have h3 := R.dir; have h4 := R.dst; have h5 := R.page; have h6 := R.size
  match j, hj with
  | 0, _ => exact ⟨_, rfl, rfl, by omega⟩
  | 1, _ => exact ⟨_, rfl, by show some e.kind = _; rw [Int.toNat_of_nonneg (by omega)], by omega⟩
  | 2, _ => exact ⟨_, rfl, by show some e.ino = _; rw [Int.toNat_of_nonneg (by omega)], by omega⟩
  | 3, _ => exact ⟨_, rfl, by show some e.dir = _; rw [Int.toNat_of_nonneg (by omega)], by omega⟩
  | 4, _ => exact ⟨_, rfl, by show some e.dst = _; rw [Int.toNat_of_nonneg (by omega)], by omega⟩
  | 5, _ => exact ⟨_, rfl, by show some e.page = _; rw [Int.toNat_of_nonneg (by omega)], by omega⟩
  | 6, _ => exact ⟨_, rfl, by show some e.size = _; rw [Int.toNat_of_nonneg (by omega)], by omega⟩
  | 7, _ => exact ⟨_, rfl, by show some r = _; rw [Int.toNat_of_nonneg (by omega)], by omega⟩
theorem body_small {e : Eff} {r : Int} (h : recB e r = true) : Small (bodyR e r) := by
  obtain ⟨hc, r0, r1, _⟩ := recB_parts h
  have R := check_in hc
  have m := manyR_le R
  have h1 := R.kind; have h2 := R.ino; have h3 := R.dir; have h4 := R.dst; have h5 := R.page; have h6 := R.size; have h7 := R.name; have h8 := R.other
  have te : ∀ s : ByteArray, s.size ≤ 24 → Small (encT s) := by
    intro s hs
    unfold encT
    exact Small.append (by intro x hx; rw [List.mem_singleton] at hx; omega) (pk_small (bsOf_bytes s))
  unfold bodyR
  refine ((Small.append ?_ (te _ h7)).append (te _ h8))
  intro x hx
  simp only [List.mem_cons, List.not_mem_nil, or_false] at hx
  omega
theorem rec_small {e : Eff} {r : Int} (h : recB e r = true) : Small (recW e r) := by
  unfold recW
  exact (body_small h).append (by intro x hx; rw [List.mem_singleton] at hx; rw [hx]; exact sum_lt _)
theorem sealed_row {l : List Nat} {g : Nat} {cs : Array Value} {w : World} (hc : Cells w g 61 cs) (ht : cs.toList.take (l.length + 1) = (l ++ [sum l]).map wd) : Row w w.heap.size (some ⟨g, 0, none⟩) (l.length + 1) ((l ++ [sum l]).map wd) := by
  refine ⟨by simp, fun _ => ⟨g, 0, rfl, hc.lt, fun j hj => ?_⟩⟩
  have hj' : j < l.length + 1 := by simpa using hj
  rw [Nat.zero_add, hc.cell j, ← Array.getElem?_toList, ← List.getElem?_take_of_lt (l := cs.toList) hj', ht, List.getElem?_eq_getElem hj]

def WrLoop (e : Eff) (r : Int) (wC : World) (gW q : Nat) (i : Value) (wr : World) : Prop :=
  ∃ j : Nat, j ≤ 8 ∧ i = .int .i64 (j : Int) ∧ WrSt wC gW ((hdrR e r).take j) wr ∧ Cells wr q 3 ((hdrI e r).map (Value.int .i64)).toArray
theorem hdr_cells {e : Eff} {r : Int} (h : recB e r = true) : #[Value.int .i64 (needB e), .int .i64 e.kind, .int .i64 e.ino, .int .i64 e.dir, .int .i64 e.dst, .int .i64 e.page, .int .i64 e.size, .int .i64 r] = ((hdrI e r).map (Value.int .i64)).toArray := by
  have hn : needB e = (manyR e : Int) := by unfold needB; rw [(recB_parts h).1]; rfl
  rw [hn]
  rfl
set_option maxRecDepth 100000 in
set_option maxHeartbeats 4000000 in
theorem rPut (e : Eff) (r : Int) (w : World) (ok : e.Ok w w.heap.size) (hf : e.few) : Calls Try.prog 8 #[e.val, .int .i64 r] w (PutR e r w) := by
  have hc0 := Cells.new w 24 (effCells e)
  have HC0 := Lib.hid hc0
  have HB0 := Lib.hid ((Below.refl w.heap.size w).alloc (Nat.le_refl _) (.cells (effCells e) 24))
  have OK := Lib.hid ok
  have HF := Lib.hid hf
  clear hc0 ok
  obtain ⟨C, hC⟩ : ∃ C, e.check = C := ⟨_, rfl⟩
  obtain ⟨M, hM⟩ : ∃ M, mrB e.kind r = M := ⟨_, rfl⟩
  have HR := Lib.hid (recB_is e r)
  rw [hC, hM] at HR
  have K0 := Lib.hid (fun w ok => eCheck e w ok HF.out)
  have K1 := Lib.hid (fun w => mayRef_is e.kind r w)
  have K2 := Lib.hid (fun w ok => rNeed e w ok HF.out)
  rw [hC] at K0
  rw [hM] at K1
  clear hC hM hf
  unfold Eff.val at K0 K2 ⊢
  go_enter Try.func8, Try.ntmps8
  go_upto_region 1 with fail
  obtain ⟨w2, hw2⟩ : ∃ w2, w.alloc (.cells (effCells e) 24) = w2 := ⟨_, rfl⟩
  rw [hw2] at HC0 HB0
  unfold effCells at hw2
  rw [hw2]
  clear hw2
  have OK2 := Lib.hid (OK.out.at_ HB0.out)
  obtain ⟨c0, c1, c2, c3, c4, c5, c6, c7, c8⟩ := cells9 HC0.out
  cases C
  · rw [show errB false 92 = 92 from rfl] at K0
    go_wp2_with (go_at_call 18; (with_reducible refine (K0.out _ OK2.out).mono ?_); rintro e' w3 h3; obtain ⟨rfl, b3⟩ := h3.below)
    go_ret2
    exact PutR.no HR.out (HB0.out.trans (b3.mono HB0.out.size))
  · rw [show errB true 92 = 0 from rfl] at K0
    have hq : some M = some M := rfl
    cases M
    · go_wp2_with (first
        | (go_at_call 18; (with_reducible refine (K0.out _ OK2.out).mono ?_); rintro e' w3 h3; clear c0 c1 c2 c3 c4 c5 c6 c7 c8; obtain ⟨rfl, b3⟩ := h3.below; have HC3 := Lib.hid (HC0.out.below' b3); have HB3 := Lib.hid (HB0.out.trans (b3.mono HB0.out.size)); obtain ⟨c0, c1, c2, c3, c4, c5, c6, c7, c8⟩ := cells9 HC3.out; clear h3 b3)
        | (go_at_call 21; (with_reducible refine (K1.out _).mono ?_); rintro e' w4 ⟨rfl, rfl⟩))
      go_ret2
      exact PutR.no HR.out HB3.out
    · have HRY := Lib.hid (show recB e r = true from HR.out)
      go_upto_region 4 with (first
        | (go_at_call 18; (with_reducible refine (K0.out _ OK2.out).mono ?_); rintro e' w3 h3; clear c0 c1 c2 c3 c4 c5 c6 c7 c8; obtain ⟨rfl, b3⟩ := h3.below; have HC3 := Lib.hid (HC0.out.below' b3); have HB3 := Lib.hid (HB0.out.trans (b3.mono HB0.out.size)); obtain ⟨c0, c1, c2, c3, c4, c5, c6, c7, c8⟩ := cells9 HC3.out; clear h3 b3)
        | (go_at_call 21; (with_reducible refine (K1.out _).mono ?_); rintro e' w4 ⟨rfl, rfl⟩))
      clear c0 c1 c2 c3 c4 c5 c6 c7 c8
      have hw5 := WrSt.new w w3 HB3.out
      have hw6 := WrSt.new w3 w3 (Below.refl _ _)
      obtain ⟨w6, h6⟩ : ∃ w6, w3.alloc (.cells #[.slice none 0 0] 55) = w6 := ⟨_, rfl⟩
      have HC6 := Lib.hid (HC3.out.alloc (.cells #[.slice none 0 0] 55))
      have HB6 := Lib.hid (HB3.out.alloc HB3.out.size (.cells #[.slice none 0 0] 55))
      obtain ⟨gW, hgW⟩ : ∃ gW, w3.heap.size = gW := ⟨_, rfl⟩
      rw [h6] at hw5 hw6 HC6 HB6
      rw [hgW] at hw5 hw6 ⊢
      rw [h6]
      have HW6 := Lib.hid hw6
      clear h6 hw5 hw6
      have K3 := Lib.hid (fun wx (b : Below w6.heap.size w6 wx) => K2.out wx (OK.out.at_ (HB6.out.trans (b.mono HB6.out.size))))
      clear K0 K1 K2
      go_cut [34, 35, 36] from 19 to 36 (fun s n i wx => ∃ q : Nat, s = .slice (some ⟨q, 0, none⟩) 8 8 ∧ n = .int .i64 8 ∧ i = .int .i64 0 ∧ Cells wx q 3 ((hdrI e r).map (Value.int .i64)).toArray ∧ Below w6.heap.size w6 wx)
      case first =>
        have hb0 : Below w6.heap.size w6 w6.drew := below_drewN (Below.refl _ _) 1
        go_region_held3 (fun w' => Below w6.heap.size w6 w' ∧ w'.cell? ⟨w.heap.size, 0, none⟩ = some (.int .i64 e.kind) ∧ w'.cell? ⟨w.heap.size, 1, none⟩ = some (.int .i64 e.ino) ∧ w'.cell? ⟨w.heap.size, 2, none⟩ = some (.int .i64 e.dir) ∧ w'.cell? ⟨w.heap.size, 3, none⟩ = some (.int .i64 e.dst) ∧ w'.cell? ⟨w.heap.size, 4, none⟩ = some (.int .i64 e.page) ∧ w'.cell? ⟨w.heap.size, 5, none⟩ = some (.int .i64 e.size) ∧ w'.cell? ⟨w.heap.size, 6, none⟩ = some (.string e.name) ∧ w'.cell? ⟨w.heap.size, 7, none⟩ = some (.string e.other) ∧ w'.cell? ⟨w.heap.size, 8, none⟩ = some (.slice e.A e.data.length e.cp))
          (first | exact s9 HC6.out hb0 | exact s9 HC6.out kT | exact s9 HC6.out (kT.alloc kT.size _))
          (first | (go_at_call 19; refine (K3.out _ hb0).mono ?_; rintro e' wT hT'; obtain ⟨rfl, bT⟩ := hT'.below; have kT : Below w6.heap.size w6 wT := hb0.trans (bT.mono hb0.size); clear hT' bT))
        all_goals
          go_wp2_with fail
          go_meet
          rw [hdr_cells HRY.out]
          exact ⟨_, rfl, rfl, rfl, Cells.new _ _ _, kT.alloc kT.size _⟩
      case rest =>
      obtain ⟨q, rfl, rfl, rfl, hcq, hbx⟩ := hcut
      have HWX := Lib.hid (HW6.out.below hbx)
      have HCQ := Lib.hid hcq
      clear hcq hbx
      go_wp2
      go_loopw [36] (fun i wr => WrLoop e r w3 gW q i wr) (fun i _ => 8 - (intOf i).toNat)
      case atStart => exact ⟨0, by omega, rfl, HWX.out, HCQ.out⟩
      case round =>
        obtain ⟨j, hj, rfl, hw, hcj⟩ := hrel
        by_cases hlt : j < 8
        · obtain ⟨k, hk1, hk2, hk3⟩ := hdr_at HRY.out hlt
          have cq : wr.cell? ⟨q, j, none⟩ = some (.int .i64 (k : Int)) := by
            rw [hcj.cell j]
            simp [hk2]
          have HWJ := Lib.hid hw; have HCJ := Lib.hid hcj; have HK := Lib.hid hk1
          clear hw hcj hk1 hk2
          have hjl : (j : Int) < 8 := by omega
          go_wp2_with (go_at_call 22; refine (num_wk HWJ.out (by rw [List.length_take]; omega) k (by omega)).mono ?_; rintro e' wn ⟨⟨rfl, hn⟩, hkeep⟩; have HN := Lib.hid hn; have HKP := Lib.hid hkeep; clear hn hkeep)
          go_roundw
          case rel =>
            refine ⟨j + 1, by omega, by go_num, ?_, HKP.out _ _ HCJ.out⟩
            rw [take_snocE HK.out]
            exact HN.out
          case measure => simp [intOf]; omega
        · obtain rfl : j = 8 := by omega
          have hw : WrSt w3 gW (hdrR e r) wr := hw
          have hcr := HC3.out.below' hw.is_below
          have q6 : wr.cell? ⟨w.heap.size, 6, none⟩ = some (.string e.name) := hcr.cell 6
          have HCR := Lib.hid hcr; have HWR := Lib.hid hw
          have R := check_in (recB_parts HRY.out).1
          have l1 := R.name
          have l2 := R.other
          have l0 : (hdrR e r).length = 8 := rfl
          clear hw hcj hcr hlt hj R
          go_wp2_with (first
            | (go_at_call 23; (with_reducible refine (text_w HWR.out (by omega) e.name (by omega)).mono ?_); rintro e' wa ⟨rfl, ha⟩; clear q6; have hca := HC3.out.below' ha.is_below; have q7 : wa.cell? ⟨w.heap.size, 7, none⟩ = some (.string e.other) := hca.cell 7; have HWA := Lib.hid ha; have la : (hdrR e r ++ [e.name.size] ++ pk (bsOf e.name)).length ≤ 90000 := (by rw [List.length_append, List.length_append, pk_len, bsOf_len, l0]; unfold need; simp; omega); clear ha hca)
            | (go_at_call 23; (with_reducible refine (text_w HWA.out la e.other (by omega)).mono ?_); rintro e' wb ⟨rfl, hb⟩; clear q7 la; have eb : hdrR e r ++ [e.name.size] ++ pk (bsOf e.name) ++ [e.other.size] ++ pk (bsOf e.other) = bodyR e r := (by unfold bodyR encT hdrR; simp [List.append_assoc]); rw [eb] at hb; have HWB := Lib.hid hb; clear hb eb)
            | (go_at_call 25; (with_reducible refine (words_w HWB.out (by have := bodyR_len e r; have := manyR_le (check_in (recB_parts HRY.out).1); omega)).mono ?_); rintro e' wc ⟨v, rfl, hv, hbc⟩; obtain ⟨A, c, rfl, hle, hrow⟩ := hv.row; have HBC := Lib.hid (HB3.out.trans ((HWB.out.is_below.trans (hbc.mono HWB.out.is_below.size)).mono HB3.out.size)); have HROW := Lib.hid hrow; clear hv hbc hrow)
            | (go_at_call 24; (with_reducible refine (cSeal (bodyR e r) _ rfl (body_small HRY.out) A c _ _ (by have := bodyR_len e r; have := manyR_le (check_in (recB_parts HRY.out).1); omega) (Nat.le_refl _) HROW.out).mono ?_); rintro e' wd' ⟨g, cap, cs, rfl, hcs, htk, _, hbd, hcap⟩; have HCS := Lib.hid hcs; have HTK := Lib.hid htk; have HBD := Lib.hid (HBC.out.trans (hbd.mono HBC.out.size)); clear hcs htk hbd))
          go_ret2
          have hl : (recW e r).length = (bodyR e r).length + 1 := by unfold recW; simp
          have := PutR.yes (c := cap) HRY.out HBD.out (by rw [hl]; unfold recW; exact sealed_row HCS.out HTK.out) (by rw [hl]; exact hcap)
          rw [hl] at this
          exact this
end Go.Proofs.Ytcimmfhbffofjaa
