import Derived.Test.YtnjikgcigobcdaaBkWh
import Derived.Laws.StructEq
namespace Go.Proofs.Ytnjikgcigobcdaa
open Wd Pm Go.Maps Go.ChangeShapes Go.WideShapes Go.RowKit Go.Sort
set_option linter.unusedVariables false

theorem eqG5 (a b c d e : Int) (w : World) : Sem.run Try.prog (binOp .eql 28 (.agg #[.int .i64 a, .int .i64 b, .int .i64 c, .int .i64 d, .int .i64 e]) (.agg #[.int .i64 a, .int .i64 b, .int .i64 c, .int .i64 d, .int .i64 e])) w = .ok (.bool true) w := by
  simp [binOp, Op.equal, Op.maxDepth, go_sem]
/-! words and words: what is appended, one behind the other -/
abbrev WS := Option Addr × Nat × List Int
def wsV (y : WS) : Value := .slice y.1 y.2.2.length y.2.1
/-- a device under way -/
structure Fnd (σ : St) (p : Int) (image log : List Int) (b : Int) : Prop where
  k : Kept σ (imageG p) (logG p) image log
  n : (σ.n : Int) = 32 * p
  ar : σ.ar = 0
  ev : σ.ev ≤ b
  m : σ.st 0 = 1937075568
  p : σ.st 1 = p
  r : σ.st 2 = 2
structure RdRel (w : World) (p : Int) (image : List Int) (fp ng : Nat) (j : Nat) (lg : List Int) (v : Value) (wr : World) : Prop where
  own : wr.ownsRow w.heap.size 49 1 v lg.length (lg.map VU64)
  g : Cells wr ng 28 #[.int .i64 p, .int .i64 (bankG p), .int .i64 (imageG p), .int .i64 (logG p), .int .i64 (dataG p)]
  b : Below w.heap.size w wr
  d : ∃ f σ, f.p = fp ∧ Dev wr f σ ∧ Fresh w f ∧ Fnd σ p image lg (1000000 + 1000 * j) ∧ ∀ q, v.ownBlock = some q → q ∉ f.blocks
theorem RdRel.below {w wr w' : World} {p : Int} {image : List Int} {fp ng j : Nat} {lg : List Int} {v : Value} (h : RdRel w p image fp ng j lg v wr) (b : Below wr.heap.size wr w') : RdRel w p image fp ng j lg v w' := by
  obtain ⟨f, σ, e, d, fr, fn, hv⟩ := h.d
  exact ⟨own_bl h.own b, h.g.below' b, h.b.trans (b.mono h.b.size), f, σ, e, d.below b, fr, fn, hv⟩
theorem RdRel.up {w wr : World} {p : Int} {image : List Int} {fp ng j : Nat} {lg : List Int} {v : Value} (h : RdRel w p image fp ng j lg v wr) : RdRel w p image fp ng (j + 1) lg v wr := by
  obtain ⟨f, σ, e, d, fr, fn, hv⟩ := h.d
  exact ⟨h.own, h.g, h.b, f, σ, e, d, fr, ⟨fn.k, fn.n, fn.ar, by have := fn.ev; push_cast; omega, fn.m, fn.p, fn.r⟩, hv⟩
def RdLoop (w : World) (p : Int) (image : List Int) (fp ng N : Nat) (v i : Value) (wr : World) : Prop := ∃ (j : Nat) (lg : List Int), j ≤ N ∧ i = .int .i64 j ∧ RdRel w p image fp ng j lg v wr
/-- one more is appended: what becomes of both -/
theorem rd_append {w wr : World} {p : Int} {image : List Int} {fp ng j : Nat} {lg : List Int} {v : Value} (hg : good p) (h : RdRel w p image fp ng j lg v wr) (hj : j ≤ 100) (A : Option Addr) (c : Nat) (l : List Int) (hr : RowB w A l) (hu : ∀ v ∈ l, U64 v) (hl : l.length ≤ 200) :
    Calls Try.prog 9 #[.pointer (some ⟨fp, 0, none⟩), .agg #[.int .i64 p, .int .i64 (bankG p), .int .i64 (imageG p), .int .i64 (logG p), .int .i64 (dataG p)], .int .i64 0, .slice A l.length c] wr fun e w' =>
      e = .returned (.int .i64 (if (l.length : Int) ≤ logG p - lg.length then 0 else 28)) ∧ Cells w' ng 28 #[.int .i64 p, .int .i64 (bankG p), .int .i64 (imageG p), .int .i64 (logG p), .int .i64 (dataG p)] ∧ Below w.heap.size w w' ∧ wr.heap.size ≤ w'.heap.size ∧
      w'.ownsRow w.heap.size 49 1 v lg.length (lg.map VU64) ∧
      ∃ f σ, f.p = fp ∧ Dev w' f σ ∧ Fresh w f ∧ Fnd σ p image (if (l.length : Int) ≤ logG p - lg.length then lg ++ l else lg) (1000000 + 1000 * (j + 1 : Nat)) ∧ ∀ q, v.ownBlock = some q → q ∉ f.blocks := by
  obtain ⟨f, σ, rfl, d, fr, fn, hv⟩ := h.d
  obtain ⟨hB, hI, hL, hsz⟩ := good_bd hg
  have key := append_dev (P := p) (D := dataG p) d fn.k.bank hB A c l (hr.o h.b fr) hu (by omega) (by have := fn.ev; omega)
  refine key.mono ?_
  rintro e w2 ⟨rfl, g⟩
  obtain ⟨f2, d2, e2, n2, t2⟩ := g
  have fr2 : Fresh w f2 := fun k hk => by
    rcases n2 k hk with h1 | h1
    · exact fr k h1
    · exact Nat.le_trans h.b.size h1
  have b2 := h.b.trans (t2.below (.inr h.b.size) fr)
  have cn2 := cells_turn h.g (dev_out d h.g (by decide) (by decide)) t2
  have hown : w2.ownsRow w.heap.size 49 1 v lg.length (lg.map VU64) ∧ wr.heap.size ≤ w2.heap.size ∧ ∀ q, v.ownBlock = some q → q ∉ f2.blocks := by
    obtain ⟨o1, o | ⟨q, cap, cs, rfl, o2, o3, o4⟩⟩ := h.own
    · refine ⟨⟨o1, .inl o⟩, t2.size, fun q hq => ?_⟩
      rw [o.1] at hq; cases hq
    · have hq : q ∉ f.blocks := hv q rfl
      have hlt := Cells.lt o3
      refine ⟨⟨o1, .inr ⟨q, cap, cs, rfl, o2, (t2.block q hlt hq).trans o3, o4⟩⟩, t2.size, fun q' hq' hm => ?_⟩
      cases hq'
      rcases n2 q hm with h1 | h1
      · exact hq h1
      · exact absurd h1 (by omega)
  obtain ⟨own2, hsz2, hv2⟩ := hown
  by_cases hf : (l.length : Int) ≤ logG p - lg.length
  · obtain ⟨τ, e1, kp, ar, n, ev, hs⟩ := append_kept fn.k fn.ar hf
    rw [if_pos hf, if_pos hf]
    rw [e1] at d2 ⊢
    exact ⟨rfl, cn2, b2, hsz2, own2, f2, τ, e2, d2, fr2, ⟨kp, by rw [n]; exact fn.n, ar, by have := fn.ev; push_cast; omega, (hs 0 (by omega)).trans fn.m, (hs 1 (by omega)).trans fn.p, (hs 2 (by omega)).trans fn.r⟩, hv2⟩
  · rw [if_neg hf, if_neg hf]
    rw [append_full hf] at d2 ⊢
    exact ⟨rfl, cn2, b2, hsz2, own2, f2, σ, e2, d2, fr2, ⟨fn.k, fn.n, fn.ar, by have := fn.ev; push_cast; omega, fn.m, fn.p, fn.r⟩, hv2⟩

theorem row_eq0 {w : World} {base n : Nat} {V : Option Addr} {c : Nat} {l : List Int} (h : w.ownsRow base 49 1 (.slice V n c) l.length (l.map VU64)) (hn : l.length = n) : Row w w.heap.size V n (l.map VU64) := by
  obtain ⟨V', c', e, r⟩ := Row.of_own h
  cases e
  rw [hn] at r
  exact r
theorem rd_grow {w wr w2 : World} {p : Int} {image : List Int} {fp ng j : Nat} {lg lg2 : List Int} {v v2 : Value} (h : RdRel w p image fp ng j lg v wr) (hlg : lg2 = lg) : True := trivial
set_option maxRecDepth 100000 in
set_option maxHeartbeats 16000000 in
theorem reads_go (p : Int) (A1 : Option Addr) (c1 : Nat) (image : List Int) (A2 : Option Addr) (c2 : Nat) (L : List WS) (w : World) (r1 : RowB w A1 image) (u1 : ∀ v ∈ image, U64 v) (r2 : Row w w.heap.size A2 L.length (L.map wsV)) (u2 : ∀ y ∈ L, RowB w y.1 y.2.2 ∧ ∀ v ∈ y.2.2, U64 v)
    (hg : good p) (f1 : image.length ≤ 200) (f2 : L.length ≤ 20) (ht1 : (image.length : Int) ≤ imageG p) :
    Calls Try.prog 3 #[.int .i64 p, .slice A1 image.length c1, .slice A2 L.length c2] w (TrueB w) := by
  have R1 := Lib.hid r1; have R2 := Lib.hid r2; have U1 := Lib.hid u1; have U2 := Lib.hid u2; have F1 := Lib.hid f1; have HG := Lib.hid hg
  obtain ⟨hB, hI, hL, hsz⟩ := good_bd hg
  have HB := Lib.hid hB
  have GO := Lib.hid (⟨ht1, hL.1⟩ : (image.length : Int) ≤ imageG p ∧ (([] : List Int).length : Int) ≤ logG p)
  obtain ⟨n1, hn1⟩ : ∃ n, image.length = n := ⟨_, rfl⟩
  obtain ⟨N, hN⟩ : ∃ n, L.length = n := ⟨_, rfl⟩
  have N1 := Lib.hid hn1; have NN := Lib.hid hN
  rw [hn1] at f1 ht1 ⊢
  rw [hN] at f2 R2 ⊢
  have d1 := Lib.hid (decide_eq_true f1)
  have q2 : decide ((N : Int) > 20) = false := by simp; omega
  have q3 : decide ((n1 : Int) ≤ imageG p) = true := by simpa using ht1
  have e5 := Lib.hid (fun w => eqG5 p (bankG p) (imageG p) (logG p) (dataG p) w)
  clear r1 r2 u1 u2 f1 hg hB hsz ht1 hn1 hN
  go_enter Try.func3, Try.ntmps3
  go_wp2_with fail
  refine (awake_bank w).mono ?_
  rintro e w1 ⟨rfl, b1⟩
  have B1 := Lib.hid b1
  clear b1
  go_wp2_with fail
  refine (few_is _ _ _ _).mono ?_
  rintro e w' ⟨rfl, rfl⟩
  rw [d1.out]
  clear d1
  have KM := made_ok p HG.out A1 c1 image none 0 [] w1 ((Row.below R1.out B1.out).more B1.out.size) U1.out (by have := F1.out; omega) (row_none w1) (fun v hv => by cases hv) (by simp)
  rw [N1.out] at KM
  have KMH := Lib.hid KM
  clear KM
  go_wp2_with fail
  refine (KMH.out).mono ?_
  rintro e w2 ⟨f, rfl, b2, h2⟩
  obtain ⟨σ, e2, fr2, fnd⟩ := h2 GO.out
  rw [decide_eq_true GO.out]
  have rel0 : RdRel w p image f.p w2.heap.size 0 [] (.slice none 0 0) (w2.alloc (.cells #[.int .i64 p, .int .i64 (bankG p), .int .i64 (imageG p), .int .i64 (logG p), .int .i64 (dataG p)] 28)) :=
    ⟨own_nil _ _ _, Cells.new _ _ _, (B1.out.trans (b2.mono B1.out.size)).alloc (Nat.le_trans B1.out.size b2.size) _, f, σ, rfl, e2.alloc _, fun k hk => Nat.le_trans B1.out.size (fr2 k hk), ⟨fnd.k, fnd.n, fnd.ar, by have := fnd.ev; push_cast; omega, fnd.m, fnd.p, fnd.r⟩, fun q hq => by cases hq⟩
  have REL0 := Lib.hid rel0
  unfold Fp.ptr
  clear h2 b2 e2 fr2 fnd KMH rel0
  go_upto_region 8 with fail
  obtain ⟨w3, hw3⟩ : ∃ w3, w2.alloc (.cells #[.int .i64 p, .int .i64 (bankG p), .int .i64 (imageG p), .int .i64 (logG p), .int .i64 (dataG p)] 28) = w3 := ⟨_, rfl⟩
  obtain ⟨ng, hng⟩ : ∃ n, w2.heap.size = n := ⟨_, rfl⟩
  obtain ⟨fp, hfp⟩ : ∃ n, f.p = n := ⟨_, rfl⟩
  rw [hw3, hng, hfp] at REL0
  rw [hw3, hng, hfp]
  clear hw3 hng hfp B1
  have k2 := REL0.out.g.cell 2
  go_wp2
  clear k2 q2 q3
  go_loopw [10, 54] (fun v i wr => RdLoop w p image fp ng N v i wr) (fun _ i _ => N - (intOf i).toNat)
  case atStart => exact ⟨0, [], Nat.zero_le _, rfl, REL0.out⟩
  case round =>
    obtain ⟨j, lg, hj, rfl, hR⟩ := hrel
    by_cases hlt : j < N
    · have i1 : (j : Int) < (N : Int) := by omega
      have i0 : (0 : Int) ≤ (j : Int) := by omega
      obtain ⟨b1, o1, y, rfl, _, gy, cy⟩ := (Row.below R2.out hR.b).get hlt
      have hy := U2.out y (List.mem_of_getElem? gy)
      obtain ⟨X, cx, ws⟩ := y
      have HY := Lib.hid hy
      unfold wsV at cy
      simp only at cy
      obtain ⟨nw, hnw⟩ : ∃ n, ws.length = n := ⟨_, rfl⟩
      rw [hnw] at cy
      have NW := Lib.hid hnw
      obtain ⟨V, cv, rfl, _⟩ := Row.of_own hR.own
      obtain ⟨n, hn⟩ : ∃ n, lg.length = n := ⟨_, rfl⟩
      have HR := Lib.hid hR
      rw [hn] at HR ⊢
      have NG := Lib.hid hn
      clear gy hy hnw hR hn
      go_wp2_with fail
      refine (few_is _ _ _ _).mono ?_
      rintro e w' ⟨rfl, rfl⟩
      by_cases hfew : nw ≤ 200
      rotate_left
      · rw [decide_eq_false hfew]
        clear hfew cy
        go_wp2
        go_ret
        exact ⟨rfl, HR.out.b⟩
      rw [decide_eq_true hfew]
      have hlgb : (n : Int) ≤ logG p := by
        obtain ⟨f9, σ9, _, _, _, fn9, _⟩ := HR.out.d
        have := fn9.k.ll; have := NG.out; omega
      have KA := rd_append HG.out HR.out (by omega) X cx ws HY.out.1 HY.out.2 (by have := NW.out; omega)
      rw [NW.out, NG.out] at KA
      have q1 : IntKind.i64.wrap (logG p - (n : Int)) = logG p - n := wrapI (by omega) (by omega)
      have k0 := HR.out.g.cell 0
      have k1 := HR.out.g.cell 1
      have k2 := HR.out.g.cell 2
      have k3 := HR.out.g.cell 3
      have k4 := HR.out.g.cell 4
      by_cases hf : (nw : Int) ≤ logG p - n
      · simp only [if_pos hf] at KA
        have KAH := Lib.hid KA
        have q2 : decide ((nw : Int) ≤ logG p - n) = true := decide_eq_true hf
        clear KA cy hf
        go_wp2_with fail
        refine (KAH.out).mono ?_
        rintro e w5 ⟨rfl, g5, b5, s5, o5, f5, σ5, e5', d5, fr5, fn5, hv5⟩
        have G5 := Lib.hid g5; have B5 := Lib.hid b5; have O5 := Lib.hid o5
        have D5 := Lib.hid (⟨e5', d5, fr5, fn5, hv5⟩ : f5.p = fp ∧ Dev w5 f5 σ5 ∧ Fresh w f5 ∧ Fnd σ5 p image (lg ++ ws) (1000000 + 1000 * (j + 1 : Nat)) ∧ ∀ q, (Value.slice V n cv).ownBlock = some q → q ∉ f5.blocks)
        have RX5 := Lib.hid (show Row w5 w.heap.size X nw (ws.map VU64) from NW.out ▸ Row.below HY.out.1 b5)
        have s0 := b5.size
        have hlgb2 : n + nw ≤ 1400 := by omega
        clear g5 b5 o5 e5' d5 fr5 fn5 hv5 KAH k0 k1 k2 k3 k4
        have k3 := G5.out.cell 3
        go_upto_region 23 with (at_builtin; refine wpList_append_row _ rfl (.tmp 86) (.tmp 87) 22 rfl w.heap.size 49 (.int .u64 0) 8 Try.underlying22 infoU rfl (.slice V n cv) n (lg.map VU64) rfl O5.out w.heap.size X nw cx (ws.map VU64) rfl RX5.out (one64 ws) (by unfold maxLen; omega) (by omega) s0 ?_; intro v6 w6 hown6 hgr6 hat6; obtain ⟨V2, cv2, rfl, _⟩ := Row.of_own hown6; have OW6 := Lib.hid hown6; have GR6 := Lib.hid hgr6; have AT6 := Lib.hid hat6; clear hown6 hgr6 hat6 k3 q1 q2)
        have hX : RdRel w p image fp ng (j + 1) (lg ++ ws) (.slice V2 (n + nw) cv2) w6 := by
          obtain ⟨x1, x2, x3, x4, x5⟩ := D5.out
          refine ⟨by rw [List.length_append, NG.out, NW.out, List.map_append]; exact OW6.out, G5.out.grown GR6.out (own_far O5.out G5.out (by decide)), B5.out.grown GR6.out s0 (own_base O5.out), f5, σ5, x1, x2.keep (fun k hk => GR6.out.block k (by have := x2.lt; simp [Fp.blocks] at hk; omega) (fun e => x5 k e.symm hk)), x3, x4, fun q hq hm => ?_⟩
          rcases AT6.out with h | h
          · rw [h] at hq; exact x5 q hq hm
          · rw [h] at hq; cases hq; exact x2.out (Nat.le_refl _) hm
        obtain ⟨n', hn'⟩ : ∃ n', n + nw = n' := ⟨_, rfl⟩
        have N' := Lib.hid (show (lg ++ ws).length = n' by rw [List.length_append, NG.out, NW.out]; exact hn')
        have HX := Lib.hid hX
        rw [hn'] at HX ⊢
        clear hX hn' hlgb2 s0 hlgb hfew

        have hn'b : (n' : Int) ≤ logG p := by
          obtain ⟨f9, σ9, _, _, _, fn9, _⟩ := HX.out.d
          have h1 := fn9.k.ll; have h2 := N'.out; omega
        have q9 : IntKind.i64.wrap (logG p - (n' : Int)) = logG p - n' := wrapI (by omega) (by omega)
        have KF : ∀ W', Below w6.heap.size w6 W' → Calls Try.prog 10 #[.pointer (some ⟨fp, 0, none⟩), .agg #[.int .i64 p, .int .i64 (bankG p), .int .i64 (imageG p), .int .i64 (logG p), .int .i64 (dataG p)], .int .i64 0] W' fun e w' => e = .returned (.tuple #[.int .i64 (logG p - n'), .int .i64 0]) ∧ Below w6.heap.size w6 w' := fun W' hW => by
          obtain ⟨f9, σ9, rfl, d9, _, fn9, _⟩ := HX.out.d
          refine (free_dev (P := p) (D := dataG p) (d9.below hW) fn9.k.bank HB.out).mono ?_
          rintro e w' ⟨rfl, b'⟩
          exact ⟨by rw [N'.out], hW.trans (b'.mono hW.size)⟩
        have KR : ∀ W', Below w6.heap.size w6 W' → Calls Try.prog 11 #[.pointer (some ⟨fp, 0, none⟩), .agg #[.int .i64 p, .int .i64 (bankG p), .int .i64 (imageG p), .int .i64 (logG p), .int .i64 (dataG p)], .int .i64 0] W' fun e w' => ∃ Y cY Y2 cY2, e = .returned (.tuple #[.slice Y n1 cY, .slice Y2 n' cY2, .int .i64 0]) ∧ Row w' w'.heap.size Y n1 (image.map VU64) ∧ Row w' w'.heap.size Y2 n' ((lg ++ ws).map VU64) ∧ Below w6.heap.size w6 w' := fun W' hW => by
          obtain ⟨f9, σ9, rfl, d9, _, fn9, _⟩ := HX.out.d
          refine (read_dev (P := p) (D := dataG p) (d9.below hW) fn9.k.bank HB.out).mono ?_
          rintro e w' ⟨Y, cY, Y2, cY2, rfl, r1, r2, _, _, b'⟩
          exact ⟨Y, cY, Y2, cY2, by rw [N'.out, N1.out], N1.out ▸ r1, N'.out ▸ r2, hW.trans (b'.mono hW.size)⟩
        have KFH := Lib.hid KF; have KRH := Lib.hid KR
        clear KF KR
        have k0 := HX.out.g.cell 0
        have k1 := HX.out.g.cell 1
        have k2 := HX.out.g.cell 2
        have k3 := HX.out.g.cell 3
        have k4 := HX.out.g.cell 4
        go_wp2_with fail
        refine (KFH.out _ (Below.refl _ _)).mono ?_
        rintro e w6 ⟨rfl, b6⟩
        have B6 := Lib.hid b6
        have G6 := Lib.hid (HX.out.g.below' b6)
        clear b6 k0 k1 k2 k3 k4
        have k0 := G6.out.cell 0
        have k1 := G6.out.cell 1
        have k2 := G6.out.cell 2
        have k3 := G6.out.cell 3
        have k4 := G6.out.cell 4
        go_wp2_with fail
        refine (KRH.out _ B6.out).mono ?_
        rintro e w7 ⟨Y, cY, Y2, cY2, rfl, ry, ry2, b7⟩
        have B7 := Lib.hid b7
        have HX7 := Lib.hid (HX.out.below b7)
        have RY := Lib.hid ry; have RY2 := Lib.hid ry2
        clear ry ry2 b7 k0 k1 k2 k3 k4 G6 B6 KFH KRH
        have k3 := HX7.out.g.cell 3
        have s7 := HX7.out.b.size
        go_wp2_with fail
        refine (same_words image image n1 n1 N1.out N1.out (by have := F1.out; have := N1.out; omega) Y A1 cY c1 w7.heap.size w7 RY.out (by have h := (Row.below R1.out HX7.out.b).more s7; rw [N1.out] at h; exact h)).mono ?_
        rintro e w8 hg
        obtain ⟨rfl, b8⟩ := hg.below
        rw [decide_eq_true (rfl : image = image)]
        have HX8 := Lib.hid (HX7.out.below b8)
        have RV := Lib.hid (row_eq0 HX8.out.own N'.out)
        have RY8 := Lib.hid ((Row.below RY2.out b8).more b8.size)
        clear hg b8 k3 HX7 RY RY2
        go_wp2_with fail
        refine (same_words (lg ++ ws) (lg ++ ws) n' n' N'.out N'.out (by omega) Y2 V2 cY2 cv2 w8.heap.size w8 RY8.out RV.out).mono ?_
        rintro e w9 hg
        obtain ⟨rfl, b9⟩ := hg.below
        rw [decide_eq_true (rfl : (lg ++ ws) = (lg ++ ws))]
        have HX9 := Lib.hid (HX8.out.below b9)
        clear hg b9 HX8 RV RY8
        go_wp2
        clear q9
        go_roundw
        case rel => exact ⟨j + 1, (lg ++ ws), by omega, by go_num, HX9.out⟩
        case measure => simp [intOf]; omega

      · simp only [if_neg hf] at KA
        have KAH := Lib.hid KA
        have q2 : decide ((nw : Int) ≤ logG p - n) = false := decide_eq_false hf
        clear KA cy hf
        go_wp2_with fail
        refine (KAH.out).mono ?_
        rintro e w5 ⟨rfl, g5, b5, s5, o5, f5, σ5, e5', d5, fr5, fn5, hv5⟩
        have HX := Lib.hid (⟨NG.out.symm ▸ o5, g5, b5, f5, σ5, e5', d5, fr5, fn5, hv5⟩ : RdRel w p image fp ng (j + 1) lg (.slice V n cv) w5)
        clear g5 b5 o5 e5' d5 fr5 fn5 hv5 KAH k0 k1 k2 k3 k4 s5
        have k3 := HX.out.g.cell 3
        go_upto_region 23 with fail
        clear k3 q1 q2
        have N' := NG
        clear hlgb hfew

        have hnb : (n : Int) ≤ logG p := by
          obtain ⟨f9, σ9, _, _, _, fn9, _⟩ := HX.out.d
          have h1 := fn9.k.ll; have h2 := N'.out; omega
        have q9 : IntKind.i64.wrap (logG p - (n : Int)) = logG p - n := wrapI (by omega) (by omega)
        have KF : ∀ W', Below w5.heap.size w5 W' → Calls Try.prog 10 #[.pointer (some ⟨fp, 0, none⟩), .agg #[.int .i64 p, .int .i64 (bankG p), .int .i64 (imageG p), .int .i64 (logG p), .int .i64 (dataG p)], .int .i64 0] W' fun e w' => e = .returned (.tuple #[.int .i64 (logG p - n), .int .i64 0]) ∧ Below w5.heap.size w5 w' := fun W' hW => by
          obtain ⟨f9, σ9, rfl, d9, _, fn9, _⟩ := HX.out.d
          refine (free_dev (P := p) (D := dataG p) (d9.below hW) fn9.k.bank HB.out).mono ?_
          rintro e w' ⟨rfl, b'⟩
          exact ⟨by rw [N'.out], hW.trans (b'.mono hW.size)⟩
        have KR : ∀ W', Below w5.heap.size w5 W' → Calls Try.prog 11 #[.pointer (some ⟨fp, 0, none⟩), .agg #[.int .i64 p, .int .i64 (bankG p), .int .i64 (imageG p), .int .i64 (logG p), .int .i64 (dataG p)], .int .i64 0] W' fun e w' => ∃ Y cY Y2 cY2, e = .returned (.tuple #[.slice Y n1 cY, .slice Y2 n cY2, .int .i64 0]) ∧ Row w' w'.heap.size Y n1 (image.map VU64) ∧ Row w' w'.heap.size Y2 n (lg.map VU64) ∧ Below w5.heap.size w5 w' := fun W' hW => by
          obtain ⟨f9, σ9, rfl, d9, _, fn9, _⟩ := HX.out.d
          refine (read_dev (P := p) (D := dataG p) (d9.below hW) fn9.k.bank HB.out).mono ?_
          rintro e w' ⟨Y, cY, Y2, cY2, rfl, r1, r2, _, _, b'⟩
          exact ⟨Y, cY, Y2, cY2, by rw [N'.out, N1.out], N1.out ▸ r1, N'.out ▸ r2, hW.trans (b'.mono hW.size)⟩
        have KFH := Lib.hid KF; have KRH := Lib.hid KR
        clear KF KR
        have k0 := HX.out.g.cell 0
        have k1 := HX.out.g.cell 1
        have k2 := HX.out.g.cell 2
        have k3 := HX.out.g.cell 3
        have k4 := HX.out.g.cell 4
        go_wp2_with fail
        refine (KFH.out _ (Below.refl _ _)).mono ?_
        rintro e w6 ⟨rfl, b6⟩
        have B6 := Lib.hid b6
        have G6 := Lib.hid (HX.out.g.below' b6)
        clear b6 k0 k1 k2 k3 k4
        have k0 := G6.out.cell 0
        have k1 := G6.out.cell 1
        have k2 := G6.out.cell 2
        have k3 := G6.out.cell 3
        have k4 := G6.out.cell 4
        go_wp2_with fail
        refine (KRH.out _ B6.out).mono ?_
        rintro e w7 ⟨Y, cY, Y2, cY2, rfl, ry, ry2, b7⟩
        have B7 := Lib.hid b7
        have HX7 := Lib.hid (HX.out.below b7)
        have RY := Lib.hid ry; have RY2 := Lib.hid ry2
        clear ry ry2 b7 k0 k1 k2 k3 k4 G6 B6 KFH KRH
        have k3 := HX7.out.g.cell 3
        have s7 := HX7.out.b.size
        go_wp2_with fail
        refine (same_words image image n1 n1 N1.out N1.out (by have := F1.out; have := N1.out; omega) Y A1 cY c1 w7.heap.size w7 RY.out (by have h := (Row.below R1.out HX7.out.b).more s7; rw [N1.out] at h; exact h)).mono ?_
        rintro e w8 hg
        obtain ⟨rfl, b8⟩ := hg.below
        rw [decide_eq_true (rfl : image = image)]
        have HX8 := Lib.hid (HX7.out.below b8)
        have RV := Lib.hid (row_eq0 HX8.out.own N'.out)
        have RY8 := Lib.hid ((Row.below RY2.out b8).more b8.size)
        clear hg b8 k3 HX7 RY RY2
        go_wp2_with fail
        refine (same_words lg lg n n N'.out N'.out (by omega) Y2 V cY2 cv w8.heap.size w8 RY8.out RV.out).mono ?_
        rintro e w9 hg
        obtain ⟨rfl, b9⟩ := hg.below
        rw [decide_eq_true (rfl : lg = lg)]
        have HX9 := Lib.hid (HX8.out.below b9)
        clear hg b9 HX8 RV RY8
        go_wp2
        clear q9
        go_roundw
        case rel => exact ⟨j + 1, lg, by omega, by go_num, HX9.out⟩
        case measure => simp [intOf]; omega

    · obtain rfl : j = N := by omega
      obtain ⟨f9, σ9, e9, d9, fr9, fn9, _⟩ := hR.d
      have hn9 := fn9.n
      have hgp := HG.out
      unfold good at hgp
      have KFi := find_dev d9 fn9.k.c.dead p ⟨by omega, by omega⟩ fn9.n (by rw [load_clean fn9.k.c (by omega) (by omega)]; exact fn9.m) (by rw [load_clean fn9.k.c (by omega) (by omega)]; exact fn9.p)
      have KRo := fun (W' : World) (hW : Below wr.heap.size wr W') => root_dev (d9.below hW) fn9.k.c.dead (by omega) 2 (by rw [load_clean fn9.k.c (by omega) (by omega)]; exact fn9.r) (by omega) (by omega)
      simp only [show (2 : Int) / 2 = 1 from rfl, show (2 : Int) % 2 = 0 from rfl] at KRo
      unfold Fp.ptr at KFi KRo
      simp only [e9] at KFi KRo
      have KFH := Lib.hid KFi; have KRH := Lib.hid KRo; have HR := Lib.hid hR
      clear KFi KRo hn9 hgp e9 d9 fr9 fn9 hR
      go_wp2_with fail
      refine (KFH.out).mono ?_
      rintro e w5 ⟨rfl, b5⟩
      unfold geomV
      have b6 : Below wr.heap.size wr (w5.alloc (.cells #[.int .i64 p, .int .i64 (bankG p), .int .i64 (imageG p), .int .i64 (logG p), .int .i64 (dataG p)] 28)) := b5.alloc b5.size _
      have CN := Lib.hid (Cells.new w5 28 #[.int .i64 p, .int .i64 (bankG p), .int .i64 (imageG p), .int .i64 (logG p), .int .i64 (dataG p)])
      have B6 := Lib.hid b6
      clear b5 b6 KFH
      go_upto_region 29 with fail
      obtain ⟨w6, hw6⟩ : ∃ w6, w5.alloc (.cells #[.int .i64 p, .int .i64 (bankG p), .int .i64 (imageG p), .int .i64 (logG p), .int .i64 (dataG p)] 28) = w6 := ⟨_, rfl⟩
      obtain ⟨nh, hnh⟩ : ∃ n, w5.heap.size = n := ⟨_, rfl⟩
      rw [hw6, hnh] at CN
      rw [hw6] at B6
      rw [hw6, hnh]
      clear hw6 hnh
      go_wp2_with fail
      refine (KRH.out _ B6.out).mono ?_
      rintro e w7 ⟨rfl, b7⟩
      have CN7 := Lib.hid (CN.out.below' b7)
      have HR7 := Lib.hid (HR.out.below (B6.out.trans (b7.mono B6.out.size)))
      clear b7 KRH CN B6
      have k0 := CN7.out.cell 0
      have k1 := CN7.out.cell 1
      have k2 := CN7.out.cell 2
      have k3 := CN7.out.cell 3
      have k4 := CN7.out.cell 4
      have g0 := HR7.out.g.cell 0
      have g1 := HR7.out.g.cell 1
      have g2 := HR7.out.g.cell 2
      have g3 := HR7.out.g.cell 3
      have g4 := HR7.out.g.cell 4
      have e5' := e5.out
      clear e5
      go_wp2
      go_ret
      exact ⟨rfl, HR7.out.b⟩
end Go.Proofs.Ytnjikgcigobcdaa
