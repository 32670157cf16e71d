import Derived.Test.YtnjikgcigobcdaaBkSw
namespace Go.Proofs.Ytnjikgcigobcdaa
open Wd Pm Go.Maps Go.ChangeShapes Go.WideShapes Go.RowKit Go.Sort
set_option linter.unusedVariables false

theorem kept_armed {σ : St} {I L : Int} {image log : List Int} (h : Kept σ I L image log) (a : Int) : Kept { σ with ar := a } I L image log := ⟨⟨h.c.hd, h.c.sn, h.c.dead⟩, h.n, h.i0, h.l0, h.il, h.ll, h.t, h.i, h.im, h.lg⟩
theorem one64 (l : List Int) : ∀ u ∈ l.map VU64, u.oneCell' = true := by
  intro u hu
  obtain ⟨x, _, rfl⟩ := List.mem_map.1 hu
  rfl
section
variable (p arm : Int) (A1 : Option Addr) (c1 : Nat) (image : List Int) (A2 : Option Addr) (c2 : Nat) (log : List Int) (A3 : Option Addr) (c3 : Nat) (more : List Int) (A5 : Option Addr) (c5 : Nat) (keep : List Bool) (w : World)
variable (r1 : RowB w A1 image) (u1 : ∀ v ∈ image, U64 v) (r2 : RowB w A2 log) (u2 : ∀ v ∈ log, U64 v) (r3 : RowB w A3 more) (u3 : ∀ v ∈ more, U64 v) (r5 : Row w w.heap.size A5 keep.length (keep.map Value.bool)) (m5 : keep.length ≤ maxLen)
include r1 u1 r2 u2 r3 u3 r5 m5
set_option maxRecDepth 100000 in
set_option maxHeartbeats 8000000 in
theorem whole_go (hg : good p) (ha : 1 ≤ arm) (ha2 : arm ≤ 9223372036854775807) (f1 : image.length ≤ 200) (f2 : log.length ≤ 200) (f3 : more.length ≤ 200) (f5 : keep.length ≤ 300) (ht1 : (image.length : Int) ≤ imageG p) (ht2 : (log.length : Int) ≤ logG p) :
    Calls Try.prog 4 #[.int .i64 p, .slice A1 image.length c1, .slice A2 log.length c2, .slice A3 more.length c3, .int .i64 arm, .slice A5 keep.length c5] w (TrueB w) := by
  have R1 := Lib.hid r1; have R2 := Lib.hid r2; have R3 := Lib.hid r3; have R5 := Lib.hid r5; have U1 := Lib.hid u1; have U2 := Lib.hid u2; have U3 := Lib.hid u3; have M5 := Lib.hid m5
  have F1 := Lib.hid f1; have F2 := Lib.hid f2; have F3 := Lib.hid f3; have HA2 := Lib.hid ha2; have HG := Lib.hid hg
  obtain ⟨hB, hI, hL, hsz⟩ := good_bd hg
  have GO := Lib.hid (⟨ht1, ht2⟩ : (image.length : Int) ≤ imageG p ∧ (log.length : Int) ≤ logG p)
  have HB := Lib.hid hB
  obtain ⟨n1, hn1⟩ : ∃ n, image.length = n := ⟨_, rfl⟩
  obtain ⟨n2, hn2⟩ : ∃ n, log.length = n := ⟨_, rfl⟩
  obtain ⟨n3, hn3⟩ : ∃ n, more.length = n := ⟨_, rfl⟩
  obtain ⟨n5, hn5⟩ : ∃ n, keep.length = n := ⟨_, rfl⟩
  have N1 := Lib.hid hn1; have N2 := Lib.hid hn2; have N3 := Lib.hid hn3; have N5 := Lib.hid hn5
  rw [hn1] at f1 ⊢
  rw [hn2] at f2 ⊢
  rw [hn3] at f3 ⊢
  rw [hn5] at f5 ⊢
  have d1 := Lib.hid (decide_eq_true f1); have d2 := Lib.hid (decide_eq_true f2); have d3 := Lib.hid (decide_eq_true f3)
  have q5 : decide ((n5 : Int) > 300) = false := by simp; omega
  have qa : decide (arm < 1) = false := by simp; omega
  clear r1 r2 r3 r5 u1 u2 u3 m5 f1 f2 f3 f5 ha ha2 hg hB hI hL hsz ht1 ht2 hn1 hn2 hn3 hn5
  go_enter Try.func4, Try.ntmps4
  go_wp2_with fail
  refine (awake_bank w).mono ?_
  rintro e w1 ⟨rfl, b1⟩
  have B1 := Lib.hid b1
  clear b1
  go_wp2_with fail
  refine (few_is _ _ _ _).mono ?_
  rintro e w' ⟨rfl, rfl⟩
  rw [d1.out]
  go_wp2_with fail
  refine (few_is _ _ _ _).mono ?_
  rintro e w' ⟨rfl, rfl⟩
  rw [d2.out]
  go_wp2_with fail
  refine (few_is _ _ _ _).mono ?_
  rintro e w' ⟨rfl, rfl⟩
  rw [d3.out]
  clear d1 d2 d3
  have KM := made_ok p HG.out A1 c1 image A2 c2 log w1 ((Row.below R1.out B1.out).more B1.out.size) U1.out (by have := F1.out; omega) ((Row.below R2.out B1.out).more B1.out.size) U2.out (by have := F2.out; omega)
  rw [N1.out, N2.out] at KM
  have KMH := Lib.hid KM
  clear KM
  go_wp2_with fail
  refine (KMH.out).mono ?_
  rintro e w2 ⟨f, rfl, b2, h2⟩
  obtain ⟨σ, e2, fr2, fnd⟩ := h2 GO.out
  rw [decide_eq_true GO.out]
  unfold Fp.ptr
  have B3 := Lib.hid ((B1.out.trans (b2.mono B1.out.size)).alloc (Nat.le_trans B1.out.size b2.size) (.cells (swArr p) 28)); have FR := Lib.hid (show Fresh w f from fun k hk => Nat.le_trans B1.out.size (fr2 k hk)); have V3 := Lib.hid (e2.alloc (.cells (swArr p) 28)); have FN := Lib.hid fnd
  have CN := Lib.hid (Cells.new w2 28 (swArr p))
  clear h2 b2 e2 fr2 fnd KMH B1
  go_upto_region 8 with fail
  obtain ⟨w3, hw3⟩ : ∃ w3, w2.alloc (.cells (swArr p) 28) = w3 := ⟨_, rfl⟩
  rw [hw3] at B3 V3 CN
  unfold swArr at hw3 CN
  rw [hw3]
  obtain ⟨ng, hng⟩ : ∃ n, w2.heap.size = n := ⟨_, rfl⟩
  rw [hng] at CN ⊢
  clear hw3 hng
  have KA := Lib.hid (arm_dev V3.out arm HA2.out)
  unfold Fp.ptr at KA
  go_wp2_with fail
  refine (KA.out).mono ?_
  rintro e w4 ⟨rfl, g4⟩
  obtain ⟨f4, e4, d4, fr4, b4, cn4, _⟩ := goes_step V3.out g4 FR.out B3.out CN.out CN.out
  have V4 := Lib.hid d4; have FR4 := Lib.hid fr4; have B4 := Lib.hid b4; have E4 := Lib.hid e4; have CN4 := Lib.hid cn4
  clear g4 d4 fr4 b4 e4 cn4 KA B3 V3 FR CN
  have hK := kept_armed FN.out.k (max arm 0)
  have KP := append_dev (P := p) (D := dataG p) V4.out hK.bank HB.out A3 c3 more (R3.out.o B4.out FR4.out) U3.out (by have := F3.out; omega) (by have := FN.out.ev; have := F3.out; show σ.ev + _ < _; omega)
  rw [N2.out, N3.out] at KP
  unfold Fp.ptr at KP
  rw [E4.out] at KP
  have KPH := Lib.hid KP; have HK := Lib.hid hK
  clear KP hK
  have k0 := CN4.out.cell 0
  have k1 := CN4.out.cell 1
  have k2 := CN4.out.cell 2
  have k3 := CN4.out.cell 3
  have k4 := CN4.out.cell 4
  go_wp2_with fail
  refine (KPH.out).mono ?_
  rintro e w5 ⟨rfl, g5⟩
  obtain ⟨f5, e5, d5, fr5, b5, cn5, _⟩ := goes_step V4.out g5 FR4.out B4.out CN4.out CN4.out
  have V5 := Lib.hid d5; have FR5 := Lib.hid fr5; have B5 := Lib.hid b5; have E5 := Lib.hid (e5.trans E4.out); have CN5 := Lib.hid cn5
  clear g5 d5 fr5 b5 e5 cn5 KPH B4 V4 FR4 E4 CN4 k0 k1 k2 k3 k4
  have KC := crash_dev V5.out w.heap.size (fun k hk => FR5.out k hk) B5.out.size A5 c5 keep (Row.below R5.out B5.out) M5.out
  rw [N5.out] at KC
  unfold Fp.ptr at KC
  rw [E5.out] at KC
  have KCH := Lib.hid KC
  clear KC
  go_wp2_with fail
  refine (KCH.out).mono ?_
  rintro e w6 ⟨rfl, ks, hks, g6⟩
  obtain ⟨f6, e6, d6, fr6, b6, cn6, _⟩ := goes_step V5.out g6 FR5.out B5.out CN5.out CN5.out
  have hcr := append_crash (l := more) HK.out (by show 0 ≤ max arm 0; omega) ks keep (by rw [N2.out]; exact hks)
  rw [N2.out] at hcr
  obtain ⟨er, her⟩ : ∃ er, (appR { σ with ar := max arm 0 } (imageG p) (logG p) n2 more).2 = er := ⟨_, rfl⟩
  rw [her] at hcr ⊢
  obtain ⟨lg, hkp, hor, hnew⟩ := hcr
  have KR := Lib.hid (read_dev (P := p) (D := dataG p) d6 hkp.bank HB.out)
  have B6 := Lib.hid b6; have E6 := Lib.hid (e6.trans E5.out); have CN6 := Lib.hid cn6; have HOR := Lib.hid hor; have HNEW := Lib.hid hnew
  obtain ⟨nl, hnl⟩ : ∃ n, lg.length = n := ⟨_, rfl⟩
  have NL := Lib.hid hnl
  have hnl2 : nl ≤ 400 := by
    have h2 := F2.out; have h3 := F3.out
    rw [← hnl]
    rcases hor with h | h <;> rw [h]
    · omega
    · rw [List.length_append]; omega
  clear hkp hor hnew her hks g6 d6 fr6 b6 e6 cn6 KCH B5 V5 FR5 E5 CN5 FN HK hnl
  unfold Fp.ptr at KR
  rw [E6.out] at KR
  have k0 := CN6.out.cell 0
  have k1 := CN6.out.cell 1
  have k2 := CN6.out.cell 2
  have k3 := CN6.out.cell 3
  have k4 := CN6.out.cell 4
  go_wp2_with fail
  refine (KR.out).mono ?_
  rintro e w7 ⟨A, c, B, cb, rfl, ra, rb, _, _, b7⟩
  have B7 := Lib.hid (B6.out.trans (b7.mono B6.out.size))
  rw [N1.out] at ra ⊢
  rw [NL.out] at rb ⊢
  have RA := Lib.hid ra; have RB := Lib.hid rb
  clear ra rb b7 KR k0 k1 k2 k3 k4 CN6 B6
  have RL := Lib.hid (Row.below R2.out B7.out); have RM := Lib.hid (Row.below R3.out B7.out); have RI := Lib.hid (Row.below R1.out B7.out)
  have s7 := B7.out.size
  have F2' := F2.out
  have F3' := F3.out
  rw [N2.out] at RL F2'
  rw [N3.out] at RM F3'
  rw [N1.out] at RI
  go_upto_region 12 with fail
  go_wp2_with (first
    | (at_builtin; refine wpList_append_row _ rfl (.const (.slice none 0 0)) (.tmp 73) 22 rfl w7.heap.size 49 (.int .u64 0) 8 Try.underlying22 infoU rfl (.slice none 0 0) 0 [] rfl (own_nil _ _ _) w.heap.size A2 n2 c2 (log.map VU64) rfl RL.out (one64 log) (by unfold maxLen; omega) (by omega) (Nat.le_refl _) ?_; intro v8 w8 hown8 hgr8 hat8; have b8 : Below w7.heap.size w7 w8 := below_of_grown hgr8; have B8 := Lib.hid b8; have O8 := Lib.hid hown8; clear hown8 hgr8 hat8 b8)
    | (at_builtin; refine wpList_append_row _ rfl (.tmp 74) (.tmp 75) 22 rfl w7.heap.size 49 (.int .u64 0) 8 Try.underlying22 infoU rfl v8 (0 + n2) ([] ++ log.map VU64) rfl O8.out w.heap.size A3 n3 c3 (more.map VU64) rfl (Row.below RM.out (B8.out.mono s7)) (one64 more) (by unfold maxLen; omega) (by omega) B8.out.size ?_; intro v9 w9 hown9 hgr9 hat9; obtain ⟨A9, c9, rfl, hr9⟩ := Row.of_own hown9; have R9 := Lib.hid hr9; have b9 : Below w7.heap.size w7 w9 := B8.out.grown hgr9 B8.out.size (own_base O8.out); have B9 := Lib.hid b9; clear hown9 hgr9 hat9 b9 hr9))
  have KS : ∀ (xs ys : List Int) (n m : Nat) (hn : xs.length = n) (hm : ys.length = m) (hle : n ≤ 1000) (X Y : Option Addr) (cx cy : Nat) (hx : Row w9 w9.heap.size X n (xs.map VU64)) (hy : Row w9 w9.heap.size Y m (ys.map VU64)) (b : Bool) (hb : decide (xs = ys) = b) (w' : World), Below w9.heap.size w9 w' →
      Calls Try.prog 12 #[.slice X n cx, .slice Y m cy] w' fun e w'' => e = .returned (.bool b) ∧ Below w9.heap.size w9 w'' := fun xs ys n m hn hm hle X Y cx cy hx hy b hb w' hw => by
    refine (same_words xs ys n m hn hm hle X Y cx cy w9.heap.size w' (Row.below hx hw) (Row.below hy hw)).mono ?_
    rintro e w'' hg
    obtain ⟨rfl, b''⟩ := hg.below
    exact ⟨by rw [hb], hw.trans (b''.mono hw.size)⟩
  have b9 := B9.out
  have hA9 := (Row.below RA.out b9).more b9.size
  have hB9 := (Row.below RB.out b9).more b9.size
  have hb9w : Below w.heap.size w7 w9 := b9.mono s7
  have hL9 := (Row.below RL.out hb9w).more (Nat.le_trans s7 b9.size)
  have hI9 := (Row.below RI.out hb9w).more (Nat.le_trans s7 b9.size)
  have hR9 : Row w9 w9.heap.size A9 (n2 + n3) ((log ++ more).map VU64) := by have := R9.out; rw [Nat.zero_add, List.nil_append] at this; rw [List.map_append]; exact this
  have hn9 : (log ++ more).length = n2 + n3 := by rw [List.length_append, N2.out, N3.out]
  have K1 := fun b hb => KS lg log nl n2 NL.out N2.out (by omega) B A2 cb c2 hB9 hL9 b hb
  have K2 := KS image image n1 n1 N1.out N1.out (by have := F1.out; have := N1.out; omega) A A1 c c1 hA9 hI9 true (decide_eq_true rfl)
  have K3 := fun b hb => KS lg (log ++ more) nl (n2 + n3) NL.out hn9 (by omega) B A9 cb c9 hB9 hR9 b hb
  have KH1 := Lib.hid K1; have KH2 := Lib.hid K2; have KH3 := Lib.hid K3
  have B79 := Lib.hid (B7.out.trans (hb9w))
  clear KS b9 hA9 hB9 hb9w hL9 hI9 hR9 hn9 K1 K2 K3
  by_cases hold : lg = log
  · have h1 := KH1.out true (decide_eq_true hold)
    have H1 := Lib.hid h1
    clear h1 hold
    by_cases h0 : er = 0
    · have h3 := KH3.out true (decide_eq_true (HNEW.out h0))
      have H3 := Lib.hid h3
      subst h0
      clear h3
      go_wp2_with fail
      refine (H1.out _ (Below.refl _ _)).mono ?_
      rintro e x0 ⟨rfl, bx0⟩
      go_wp2_with fail
      refine (KH2.out _ bx0).mono ?_
      rintro e x1 ⟨rfl, bx1⟩
      go_wp2_with fail
      refine (H3.out _ bx1).mono ?_
      rintro e x2 ⟨rfl, bx2⟩
      go_wp2
      go_ret
      exact ⟨rfl, B79.out.trans (bx2.mono (Nat.le_trans s7 B9.out.size))⟩
    · have e0 : (er != 0) = true := by simpa using h0
      go_wp2_with fail
      refine (H1.out _ (Below.refl _ _)).mono ?_
      rintro e x0 ⟨rfl, bx0⟩
      go_wp2_with fail
      refine (KH2.out _ bx0).mono ?_
      rintro e x1 ⟨rfl, bx1⟩
      go_wp2
      go_ret
      exact ⟨rfl, B79.out.trans (bx1.mono (Nat.le_trans s7 B9.out.size))⟩
  · have h1 := KH1.out false (decide_eq_false hold)
    have hnw : lg = log ++ more := by rcases HOR.out with h | h; exact absurd h hold; exact h
    have h3 := KH3.out true (decide_eq_true hnw)
    have H1 := Lib.hid h1; have H3 := Lib.hid h3
    clear h1 h3 hold hnw
    by_cases h0 : er = 0
    · subst h0
      go_wp2_with fail
      refine (H1.out _ (Below.refl _ _)).mono ?_
      rintro e x0 ⟨rfl, bx0⟩
      go_wp2_with fail
      refine (KH2.out _ bx0).mono ?_
      rintro e x1 ⟨rfl, bx1⟩
      go_wp2_with fail
      refine (H3.out _ bx1).mono ?_
      rintro e x2 ⟨rfl, bx2⟩
      go_wp2_with fail
      refine (H3.out _ bx2).mono ?_
      rintro e x3 ⟨rfl, bx3⟩
      go_wp2
      go_ret
      exact ⟨rfl, B79.out.trans (bx3.mono (Nat.le_trans s7 B9.out.size))⟩
    · have e0 : (er != 0) = true := by simpa using h0
      go_wp2_with fail
      refine (H1.out _ (Below.refl _ _)).mono ?_
      rintro e x0 ⟨rfl, bx0⟩
      go_wp2_with fail
      refine (KH2.out _ bx0).mono ?_
      rintro e x1 ⟨rfl, bx1⟩
      go_wp2_with fail
      refine (H3.out _ bx1).mono ?_
      rintro e x2 ⟨rfl, bx2⟩
      go_wp2
      go_ret
      exact ⟨rfl, B79.out.trans (bx2.mono (Nat.le_trans s7 B9.out.size))⟩
end
section
variable (p arm : Int) (A1 : Option Addr) (c1 : Nat) (image : List Int) (A2 : Option Addr) (c2 : Nat) (log : List Int) (A3 : Option Addr) (c3 : Nat) (more : List Int) (A5 : Option Addr) (c5 : Nat) (keep : List Bool) (w : World)
variable (r1 : RowB w A1 image) (u1 : ∀ v ∈ image, U64 v) (r2 : RowB w A2 log) (u2 : ∀ v ∈ log, U64 v) (r3 : RowB w A3 more) (u3 : ∀ v ∈ more, U64 v) (r5 : Row w w.heap.size A5 keep.length (keep.map Value.bool)) (m5 : keep.length ≤ maxLen)
include r1 u1 r2 u2 r3 u3 r5 m5
set_option maxRecDepth 100000 in
set_option maxHeartbeats 8000000 in
theorem whole_true (hp : (Lit.int .i64 p).wf = true) (ha : (Lit.int .i64 arm).wf = true) :
    Calls Try.prog 4 #[.int .i64 p, .slice A1 image.length c1, .slice A2 log.length c2, .slice A3 more.length c3, .int .i64 arm, .slice A5 keep.length c5] w (TrueB w) := by
  have ha2 : arm ≤ 9223372036854775807 := by
    have h : IntKind.i64.min ≤ arm ∧ arm ≤ IntKind.i64.max := by simpa [Lit.wf] using ha
    exact h.2
  by_cases hall : good p ∧ 1 ≤ arm ∧ image.length ≤ 200 ∧ log.length ≤ 200 ∧ more.length ≤ 200 ∧ keep.length ≤ 300 ∧ (image.length : Int) ≤ imageG p ∧ (log.length : Int) ≤ logG p
  · obtain ⟨hg, ha, f1, f2, f3, f5, t1, t2⟩ := hall
    exact whole_go p arm A1 c1 image A2 c2 log A3 c3 more A5 c5 keep w r1 u1 r2 u2 r3 u3 r5 m5 hg ha ha2 f1 f2 f3 f5 t1 t2
  have R1 := Lib.hid r1; have R2 := Lib.hid r2; have U1 := Lib.hid u1; have U2 := Lib.hid u2; have HALL := Lib.hid hall
  obtain ⟨n1, hn1⟩ : ∃ n, image.length = n := ⟨_, rfl⟩
  obtain ⟨n2, hn2⟩ : ∃ n, log.length = n := ⟨_, rfl⟩
  obtain ⟨n3, hn3⟩ : ∃ n, more.length = n := ⟨_, rfl⟩
  obtain ⟨n5, hn5⟩ : ∃ n, keep.length = n := ⟨_, rfl⟩
  have N1 := Lib.hid hn1; have N2 := Lib.hid hn2; have N3 := Lib.hid hn3; have N5 := Lib.hid hn5
  rw [hn1, hn2, hn3, hn5]
  clear r1 r2 r3 r5 u1 u2 u3 m5 hn1 hn2 hn3 hn5 hp ha ha2 hall
  go_enter Try.func4, Try.ntmps4
  go_wp2_with fail
  refine (awake_bank w).mono ?_
  rintro e w1 ⟨rfl, b1⟩
  have B1 := Lib.hid b1
  clear b1
  go_wp2_with fail
  refine (few_is _ _ _ _).mono ?_
  rintro e w' ⟨rfl, rfl⟩
  by_cases f_n1 : n1 ≤ 200
  rotate_left
  · rw [decide_eq_false f_n1]
    clear f_n1
    go_wp2
    go_ret
    exact ⟨rfl, B1.out⟩
  rw [decide_eq_true f_n1]
  go_wp2_with fail
  refine (few_is _ _ _ _).mono ?_
  rintro e w' ⟨rfl, rfl⟩
  by_cases f_n2 : n2 ≤ 200
  rotate_left
  · rw [decide_eq_false f_n2]
    clear f_n2
    go_wp2
    go_ret
    exact ⟨rfl, B1.out⟩
  rw [decide_eq_true f_n2]
  go_wp2_with fail
  refine (few_is _ _ _ _).mono ?_
  rintro e w' ⟨rfl, rfl⟩
  by_cases f_n3 : n3 ≤ 200
  rotate_left
  · rw [decide_eq_false f_n3]
    clear f_n3
    go_wp2
    go_ret
    exact ⟨rfl, B1.out⟩
  rw [decide_eq_true f_n3]
  by_cases f5 : (n5 : Int) > 300
  · have q5 : decide ((n5 : Int) > 300) = true := by simpa using f5
    go_wp2
    go_ret
    exact ⟨rfl, B1.out⟩
  have q5 : decide ((n5 : Int) > 300) = false := by simpa using f5
  by_cases hg : good p
  rotate_left
  · have KN : ∀ (v1 v2 : Value) (w : World), Calls Try.prog 8 #[.int .i64 p, v1, v2] w (MadeNo w) := fun v1 v2 w => by
      by_cases h : p < 64 ∨ 1048576 < p
      · exact made_low p h _ _ w
      · exact made_high p (by unfold good at hg; omega) _ _ w
    have KNH := Lib.hid KN
    clear KN hg
    go_wp2_with fail
    refine (KNH.out _ _ w1).mono ?_
    rintro e w2 ⟨⟨a0, a1, a2, a3, a4, rfl⟩, b2⟩
    have B2 := Lib.hid (B1.out.trans (b2.mono B1.out.size))
    clear b2 KNH
    go_wp2
    go_ret
    exact ⟨rfl, B2.out.alloc B2.out.size _⟩
  have KM := made_ok p hg A1 c1 image A2 c2 log w1 ((Row.below R1.out B1.out).more B1.out.size) U1.out (by have := N1.out; omega) ((Row.below R2.out B1.out).more B1.out.size) U2.out (by have := N2.out; omega)
  have HG := Lib.hid hg
  by_cases hfit : (image.length : Int) ≤ imageG p ∧ (log.length : Int) ≤ logG p
  · have ha : arm < 1 := by
      by_cases h : 1 ≤ arm
      · exact absurd ⟨HG.out, h, by have := N1.out; omega, by have := N2.out; omega, by have := N3.out; omega, by have := N5.out; omega, hfit.1, hfit.2⟩ HALL.out
      · omega
    have qa : decide (arm < 1) = true := by simpa using ha
    rw [N1.out, N2.out] at KM
    have KMH := Lib.hid KM; have FIT := Lib.hid (N1.out ▸ N2.out ▸ hfit)
    clear KM hfit hg ha
    go_wp2_with fail
    refine (KMH.out).mono ?_
    rintro e w2 ⟨f, rfl, b2, _⟩
    rw [N1.out, N2.out, decide_eq_true FIT.out]
    have B2 := Lib.hid (B1.out.trans (b2.mono B1.out.size))
    unfold Fp.ptr
    clear b2 KMH
    go_wp2
    go_ret
    exact ⟨rfl, B2.out.alloc B2.out.size _⟩
  · have NF := Lib.hid (decide_eq_false hfit)
    rw [N1.out, N2.out] at KM NF
    have KMH := Lib.hid KM
    clear KM hfit hg
    go_wp2_with fail
    refine (KMH.out).mono ?_
    rintro e w2 ⟨f, rfl, b2, _⟩
    rw [N1.out, N2.out, NF.out]
    have B2 := Lib.hid (B1.out.trans (b2.mono B1.out.size))
    unfold Fp.ptr
    clear b2 KMH
    go_wp2
    go_ret
    exact ⟨rfl, B2.out.alloc B2.out.size _⟩
end
end Go.Proofs.Ytnjikgcigobcdaa
