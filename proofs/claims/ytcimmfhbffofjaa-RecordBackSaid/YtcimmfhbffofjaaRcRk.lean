import Derived.Test.YtcimmfhbffofjaaWoBk
namespace Go.Proofs.Ytcimmfhbffofjaa
open Wd U Go.ChangeShapes Go.WideShapes Go.RowKit Go.Sort
set_option linter.unusedVariables false
namespace K

/-! a Reader, with one limb more: the blocks of V other than the Reader's own are as they were -/
structure RdSk (V W : World) (g : Nat) (xs : List Nat) (bad : Bool) (w : World) : Prop where
  kp : ∀ (b : Nat) (t : TypeId) (cs : Array Value), b ≠ g → Cells V b t cs → Cells w b t cs
  b : Below W.heap.size W w
  hg : W.heap.size ≤ g
  len : xs.length ≤ 1000
  small : Small xs
  nb : bad = true → xs = []
  v : ∃ v, Cells w g 81 #[v, .bool bad] ∧ RdRow w W.heap.size v xs
theorem RdSk.below {V W w w' : World} {g : Nat} {xs : List Nat} {bad : Bool} (h : RdSk V W g xs bad w) (hb : Below w.heap.size w w') : RdSk V W g xs bad w' := by
  obtain ⟨h0, h1, h2, h3, h4, hn, v, h5, h6⟩ := h
  exact ⟨fun b t cs x y => (h0 b t cs x y).below' hb, h1.trans (hb.mono h1.size), h2, h3, h4, hn, v, h5.below' hb, h6.below hb⟩
theorem rd_put {V W w : World} {g : Nat} {v v' : Value} {bad : Bool} {xs xs' : List Nat} (h : RdSk V W g xs bad w) (hv : Cells w g 81 #[v, .bool bad]) (hl : xs'.length ≤ 1000) (hs : Small xs') (hn : bad = true → xs' = []) (hr : RdRow w W.heap.size v' xs') {w' : World} (hb : Below W.heap.size W w') (hw : w' = w.setCell ⟨g, 0, none⟩ v') : RdSk V W g xs' bad w' := by
  subst hw
  refine ⟨fun b t cs x y => (h.kp b t cs x y).far (p := ⟨g, 0, none⟩) x _, hb, h.hg, hl, hs, hn, v', by simpa using hv.set 0 v', hr.keep fun q cs hc => ?_⟩
  exact Below.heap_setCell w _ _ q fun e => (hv.ne hc (by decide)) e.symm
theorem left_r {V W w : World} {g : Nat} {xs : List Nat} {bad : Bool} (h : RdSk V W g xs bad w) : Calls Try.prog 57 #[.pointer (some ⟨g, 0, none⟩)] w fun e w' => e = .returned (.int .i64 xs.length) ∧ w = w' := by
  obtain ⟨_, _, _, hl, _, _, v, hc, hr⟩ := h
  obtain ⟨A, c, rfl, _, _⟩ := hr.row
  have c0 : w.cell? ⟨g, 0, none⟩ = some (.slice A xs.length c) := hc.cell 0
  clear hc hr
  go_enter Try.func57, Try.ntmps57
  go_wp2
  go_ret
  exact ⟨rfl, rfl⟩
theorem bad_r {V W w : World} {g : Nat} {xs : List Nat} {bad : Bool} (h : RdSk V W g xs bad w) : Calls Try.prog 59 #[.pointer (some ⟨g, 0, none⟩)] w fun e w' => e = .returned (.bool bad) ∧ w = w' := by
  obtain ⟨_, _, _, hl, _, _, v, hc, _⟩ := h
  have c1 : w.cell? ⟨g, 1, none⟩ = some (.bool bad) := hc.cell 1
  clear hc
  go_enter Try.func59, Try.ntmps59
  go_wp2
  go_ret
  exact ⟨rfl, rfl⟩
def SpoiltR (V W : World) (g : Nat) (e : Ending) (w : World) : Prop := e = .returned (.tuple #[]) ∧ RdSk V W g [] true w
theorem spoil_r {V W w : World} {g : Nat} {xs : List Nat} {bad : Bool} (h : RdSk V W g xs bad w) : Calls Try.prog 58 #[.pointer (some ⟨g, 0, none⟩)] w (SpoiltR V W g) := by
  have H := Lib.hid h
  obtain ⟨_, hb, hg, _, _, _, v, hc, _⟩ := h
  have c0 : w.cell? ⟨g, 0, none⟩ = some v := hc.cell 0
  have c1 : w.cell? ⟨g, 1, none⟩ = some (.bool bad) := hc.cell 1
  have f0 := hc.free 0
  have f1 := hc.free 1
  have HC := Lib.hid hc
  clear hc hb
  go_enter Try.func58, Try.ntmps58
  go_wp2
  go_end0
  refine ⟨rfl, (fun b t cs x y => ((H.out.kp b t cs x y).far (p := ⟨g, 0, none⟩) x _).far (p := ⟨g, 1, none⟩) x _), ((H.out.b.setCell (p := ⟨g, 0, none⟩) hg _).setCell (p := ⟨g, 1, none⟩) hg _), hg, by simp, (fun x hx => by cases hx), (fun _ => rfl), .slice none 0 0, ?_, .inl ⟨rfl, rfl⟩⟩
  have h0 := (HC.out.set 0 (.slice none 0 0)).set 1 (.bool true)
  simpa using h0
def NumR (V W : World) (g : Nat) (xs : List Nat) (bad : Bool) (e : Ending) (w : World) : Prop := e = .returned (.int .i64 (numV xs)) ∧ RdSk V W g (numX xs) (numB xs bad) w
set_option maxHeartbeats 1000000 in
theorem num_r {V W w : World} {g : Nat} {xs : List Nat} {bad : Bool} (h : RdSk V W g xs bad w) : Calls Try.prog 45 #[.pointer (some ⟨g, 0, none⟩)] w (NumR V W g xs bad) := by
  have H := Lib.hid h
  cases xs with
  | nil =>
    clear h
    go_enter Try.func45, Try.ntmps45
    go_wp2_with (first
      | (go_at_call 57; refine (left_r H.out).mono ?_; rintro e w' ⟨rfl, rfl⟩)
      | (go_at_call 58; refine (spoil_r H.out).mono ?_; rintro e w2 ⟨rfl, h2⟩; have H2 := Lib.hid h2; clear h2))
    go_ret
    exact ⟨rfl, H2.out⟩
  | cons x t =>
    obtain ⟨_, hb, hg, hl, hs, hnb, v, hc, hrow⟩ := h
    rcases hrow with ⟨_, h0⟩ | ⟨q, off, c, cs, rfl, hcap, hB, hq, hx⟩
    · cases h0
    have HNB := Lib.hid hnb
    clear hnb
    have hx0 := hs x (by simp)
    have cx : w.cell? ⟨q, off + 0, none⟩ = some (.int .u64 (x : Int)) := by rw [hq.cell]; exact hx 0 x rfl
    rw [Nat.add_zero] at cx
    have cx' : w.cell? ⟨q, off, none⟩ = some (.int .u64 (x : Int)) := cx
    obtain ⟨n, hn⟩ : ∃ n, (x :: t).length = n + 1 := ⟨t.length, rfl⟩
    rw [hn] at hcap hc
    have c0 : w.cell? ⟨g, 0, none⟩ = some (.slice (some ⟨q, off, none⟩) (n + 1) c) := hc.cell 0
    have f0 := hc.free 0
    have htl : t.length = n := by simpa using hn
    have hn2 : n + 1 ≤ 1000 := by rw [← hn]; exact hl
    have e0 : (((n : Int) + 1) == 0) = false := by rw [beq_eq_false_iff_ne]; omega
    by_cases hx1 : x ≤ 4611686018427387904
    · have q1 : decide ((x : Int) > 4611686018427387904) = false := by simp; omega
      have hw : IntKind.i64.wrap (x : Int) = (x : Int) := by rw [IntKind.wrap_i64]; omega
      have hok : numOk (x :: t) = true := by simp [numOk, topN, hx1]
      have HOK := Lib.hid hok; have HN := Lib.hid hn; have HC := Lib.hid hc; have HQ := Lib.hid hq; have HX := Lib.hid hx; have HTL := Lib.hid htl; have HS := Lib.hid hs; have HL := Lib.hid hl; have HB := Lib.hid hb; have HCAP := Lib.hid hcap
      clear hok hn hc hq hx htl hs hl hb
      go_enter Try.func45, Try.ntmps45
      go_wp2_with (go_at_call 57; refine (left_r H.out).mono ?_; rintro e w' ⟨rfl, rfl⟩; rw [HN.out])
      all_goals
        go_ret
        have e1 : numV (x :: t) = x := by unfold numV; rw [HOK.out]; rfl
        have e2 : numX (x :: t) = t := by unfold numX; rw [HOK.out]; rfl
        have e3 : numB (x :: t) bad = bad := by unfold numB; rw [HOK.out]; rfl
        refine ⟨by rw [e1]; rfl, ?_⟩
        rw [e2, e3]
        exact rd_put H.out HC.out (by have := HTL.out; omega) (fun y hy => HS.out y (List.mem_cons_of_mem _ hy)) (fun e => by have := HNB.out e; cases this) (rd_drop (xs := x :: t) (k := 1) (m := n) HN.out HCAP.out hB HQ.out HX.out (by omega) (by first | exact .inl rfl | exact .inr ⟨by assumption, rfl⟩)) (HB.out.setCell (p := ⟨g, 0, none⟩) hg _) rfl
    · have q1 : decide ((x : Int) > 4611686018427387904) = true := by simp; omega
      have hok : numOk (x :: t) = false := decide_eq_false hx1
      have HOK := Lib.hid hok; have HN := Lib.hid hn
      clear hok hn hc hq hx htl hs hl hb
      go_enter Try.func45, Try.ntmps45
      go_wp2_with (first
        | (go_at_call 57; refine (left_r H.out).mono ?_; rintro e w' ⟨rfl, rfl⟩; rw [HN.out])
        | (go_at_call 58; refine (spoil_r H.out).mono ?_; rintro e w2 ⟨rfl, h2⟩; have H2 := Lib.hid h2; clear h2))
      go_ret
      have e1 : numV (x :: t) = 0 := by unfold numV; rw [HOK.out]; rfl
      have e2 : numX (x :: t) = [] := by unfold numX; rw [HOK.out]; rfl
      have e3 : numB (x :: t) bad = true := by unfold numB; rw [HOK.out]; rfl
      refine ⟨by rw [e1]; rfl, ?_⟩
      rw [e2, e3]
      exact H2.out
def TextR (V W : World) (g : Nat) (most : Int) (xs : List Nat) (bad : Bool) (e : Ending) (w : World) : Prop := e = .returned (.string (textV most xs)) ∧ RdSk V W g (textX most xs) (textB most xs bad) w
theorem text_no {V W w : World} {g : Nat} {most : Int} {xs : List Nat} {bad : Bool} (h : textOk most xs = false) (k : RdSk V W g [] true w) : TextR V W g most xs bad (.returned (.string ByteArray.empty)) w := by
  unfold TextR textV textX textB
  rw [h]
  exact ⟨rfl, k⟩
theorem text_yes {V W w : World} {g x k : Nat} {most : Int} {t : List Nat} {bad : Bool} (h : textOk most (x :: t) = true) (hk : need x = k) (st : RdSk V W g (t.drop k) bad w) : TextR V W g most (x :: t) bad (.returned (.string (strOf (bytesOf (t.take k) x)))) w := by
  subst hk
  unfold TextR textV textX textB
  rw [h]
  exact ⟨rfl, st⟩
set_option maxRecDepth 100000 in
set_option maxHeartbeats 4000000 in
theorem text_r {V W w : World} {g : Nat} {xs : List Nat} {bad : Bool} (h : RdSk V W g xs bad w) (most : Int) (m0 : -9223372036854775808 ≤ most) (m1 : most ≤ 9223372036854775807) (hle : xs.length ≤ 100 ∨ most ≤ 700) :
    Calls Try.prog 46 #[.pointer (some ⟨g, 0, none⟩), .int .i64 most] w (TextR V W g most xs bad) := by
  have H := Lib.hid h
  cases hok : numOk xs
  · have hno : textOk most xs = false := by
      cases xs with
      | nil => rfl
      | cons x t =>
        rw [textOk_cons, show decide (x ≤ topN) = false from hok]
        rfl
    have e1 : numV xs = 0 := by unfold numV; rw [hok]; rfl
    have e2 : numX xs = [] := by unfold numX; rw [hok]; rfl
    have e3 : numB xs bad = true := by unfold numB; rw [hok]; rfl
    have E1 := Lib.hid e1; have E2 := Lib.hid e2; have E3 := Lib.hid e3; have HNO := Lib.hid hno
    clear h hok e1 e2 e3 hno
    go_enter Try.func46, Try.ntmps46
    go_wp2_with fail
    refine (num_r H.out).mono ?_
    rintro e w1 ⟨rfl, h1⟩
    rw [E2.out, E3.out] at h1
    rw [E1.out]
    have H1 := Lib.hid h1
    clear h1
    go_wp2_with (first
      | (go_at_call 59; refine (bad_r H1.out).mono ?_; rintro e w' ⟨rfl, rfl⟩)
      | (go_at_call 58; refine (spoil_r H1.out).mono ?_; rintro e w2 ⟨rfl, h2⟩; have H2 := Lib.hid h2; clear h2))
    go_ret
    exact text_no HNO.out H2.out
  · cases xs with
    | nil => cases hok
    | cons x t =>
      obtain rfl : bad = false := by
        cases bad with
        | false => rfl
        | true => cases h.nb rfl
      have e1 : numV (x :: t) = x := by unfold numV; rw [hok]; rfl
      have e2 : numX (x :: t) = t := by unfold numX; rw [hok]; rfl
      have e3 : numB (x :: t) false = false := by unfold numB; rw [hok]; rfl
      have hx62 : x ≤ 4611686018427387904 := of_decide_eq_true hok
      have E1 := Lib.hid e1; have E2 := Lib.hid e2; have E3 := Lib.hid e3; have HOK := Lib.hid (show decide (x ≤ topN) = true from hok)
      have hlt : t.length + 1 ≤ 1000 := h.len
      have hle2 : t.length + 1 ≤ 100 ∨ most ≤ 700 := hle
      clear h hok e1 e2 e3 hle
      by_cases hm : (x : Int) > most
      · have q1 : decide ((x : Int) > most) = true := by simpa using hm
        have hno : textOk most (x :: t) = false := by rw [textOk_cons, show decide ((x : Int) ≤ most) = false by simp; omega]; simp
        have HNO := Lib.hid hno
        clear hm hno
        go_enter Try.func46, Try.ntmps46
        go_wp2_with fail
        refine (num_r H.out).mono ?_
        rintro e w1 ⟨rfl, h1⟩
        rw [E2.out, E3.out] at h1
        rw [E1.out]
        have H1 := Lib.hid h1
        clear h1
        go_wp2_with (first
          | (go_at_call 59; refine (bad_r H1.out).mono ?_; rintro e w' ⟨rfl, rfl⟩)
          | (go_at_call 58; refine (spoil_r H1.out).mono ?_; rintro e w2 ⟨rfl, h2⟩; have H2 := Lib.hid h2; clear h2))
        go_ret
        exact text_no HNO.out H2.out
      · have q1 : decide ((x : Int) > most) = false := by simpa using hm
        obtain ⟨k, hk⟩ : ∃ k, need x = k := ⟨_, rfl⟩
        have hkI : needI (x : Int) = (k : Int) := by rw [needI_nat, hk]
        have HK := Lib.hid hk; have HKI := Lib.hid hkI
        have hkb : k ≤ 576460752303423489 := by rw [← hk]; unfold need; omega
        have hkm : most ≤ 700 → k ≤ 100 := by intro h; rw [← hk]; unfold need; omega
        by_cases hkt : (k : Int) > (t.length : Int)
        · have q2 : decide ((k : Int) > (t.length : Int)) = true := by simpa using hkt
          have q3 : t.length < k := by omega
          have hno : textOk most (x :: t) = false := by rw [textOk_cons, hk, show decide (k ≤ t.length) = false by simp; omega]; simp
          have HNO := Lib.hid hno
          clear hm hno hkt hk hkI hkm hle2
          go_enter Try.func46, Try.ntmps46
          go_wp2_with fail
          refine (num_r H.out).mono ?_
          rintro e w1 ⟨rfl, h1⟩
          rw [E2.out, E3.out] at h1
          rw [E1.out]
          have H1 := Lib.hid h1
          clear h1
          go_wp2_with (first
            | (go_at_call 59; refine (bad_r H1.out).mono ?_; rintro e w' ⟨rfl, rfl⟩)
            | (go_at_call 37; refine (need_is (x : Int) (by omega) (by omega) _).mono ?_; rintro e w' ⟨rfl, rfl⟩; rw [HKI.out])
            | (go_at_call 57; refine (left_r H1.out).mono ?_; rintro e w' ⟨rfl, rfl⟩)
            | (go_at_call 58; refine (spoil_r H1.out).mono ?_; rintro e w2 ⟨rfl, h2⟩; have H2 := Lib.hid h2; clear h2))
          go_ret
          exact text_no HNO.out H2.out
        · have q2 : decide ((k : Int) > (t.length : Int)) = false := by simpa using hkt
          have hkt2 : k ≤ t.length := by omega
          have hk100 : k ≤ 100 := by rcases hle2 with h | h; exact (by omega); exact hkm h
          obtain ⟨b, hb⟩ : ∃ b, mayU (t.take k) (x : Int) = b := ⟨_, rfl⟩
          have hno : textOk most (x :: t) = b := by rw [textOk_cons, HOK.out, hk, show decide ((x : Int) ≤ most) = true by simp; omega, show decide (k ≤ t.length) = true by simp; omega, hb]; rfl
          have HNO := Lib.hid hno; have HMAY := Lib.hid hb
          clear hm hno hkt hk hkI hkm hle2 hb
          go_enter Try.func46, Try.ntmps46
          go_wp2_with fail
          refine (num_r H.out).mono ?_
          rintro e w1 ⟨rfl, h1⟩
          rw [E2.out, E3.out] at h1
          rw [E1.out]
          have H1 := Lib.hid h1
          obtain ⟨_, hb1, hg1, hl1, hs1, _, v1, hc1, hr1⟩ := h1
          have HB1 := Lib.hid hb1; have HS1 := Lib.hid hs1; have HC1 := Lib.hid hc1
          have c0 : w1.cell? ⟨g, 0, none⟩ = some v1 := hc1.cell 0
          have f0 := hc1.free 0
          clear hb1 hs1 hc1 hl1
          rcases hr1 with ⟨rfl, rfl⟩ | ⟨q, off, c, cs, rfl, hcap, hB, hh, hx⟩
          · obtain rfl : k = 0 := by simpa using hkt2
            obtain rfl : x = 0 := by have := HK.out; unfold need at this; omega
            have hbt : b = true := by rw [← HMAY.out]; decide
            subst hbt
            have hrow : Row w1.drew w1.drew.heap.size none 0 (([] : List Nat).map wd) := Row.nil
            have hU : Calls Try.prog 60 #[.slice none 0 0, .int .i64 0] w1.drew (Unpacked [] ((0 : Nat) : Int) true w1.drew) := wUnpack [] 0 ((0 : Nat) : Int) (by omega) (by omega) rfl (by intro y hy; cases hy) (by omega) true (by decide) none 0 _ hrow
            have HU := Lib.hid hU
            have hki := HKI.out
            have HKI0 := Lib.hid (show needI 0 = 0 from hki)
            clear hU hrow hki q2 hkt2 hkb hk100 q1 hlt hx62
            have q1 : decide ((0 : Int) > most) = false := by have := HNO.out; rw [textOk_cons] at this; simp at this; simp; omega
            go_upto_region 5 with (first
              | (go_at_call 59; refine (bad_r H1.out).mono ?_; rintro e w' ⟨rfl, rfl⟩)
              | (go_at_call 37; refine (need_is 0 (by omega) (by omega) _).mono ?_; rintro e w' ⟨rfl, rfl⟩; rw [HKI0.out])
              | (go_at_call 57; refine (left_r H1.out).mono ?_; rintro e w' ⟨rfl, rfl⟩; rw [show ((([] : List Nat).length : Nat) : Int) = 0 from rfl]))
            go_region_law (first
              | (go_simp; go_at_call 37; refine (need_is 0 (by omega) (by omega) _).mono ?_; rintro e w' ⟨rfl, rfl⟩; rw [HKI0.out])
              | (go_simp; go_at_call 60; refine HU.out.mono ?_; rintro e w2 ⟨A2, c2, k2, rfl, hk2, hr2, hb2⟩; have hb2' := undrew hb2; have HK2 := Lib.hid hk2; have HR2 := Lib.hid hr2; have HB2 := Lib.hid hb2'; have H2 := Lib.hid (H1.out.below hb2'); have hc2 := HC1.out.below' hb2'; have c02 : w2.cell? ⟨g, 0, none⟩ = some (.slice none 0 0) := hc2.cell 0; have f02 := hc2.free 0; have HC2 := Lib.hid hc2; clear hk2 hr2 hb2 hb2' hc2))
            all_goals
              obtain rfl : k2 = 0 := by have := HK2.out; simpa using this
              have hr2 : Row w2 w2.heap.size A2 0 ((bytesOf ([].take 0) 0).map bt) := HR2.out rfl
              have hcv : ∀ v', (convert 22 9 (.slice A2 0 c2)).run Try.prog (w2.setCell ⟨g, 0, none⟩ v').drew = .ok (.string (strOf (bytesOf ([].take 0) 0))) (w2.setCell ⟨g, 0, none⟩ v').drew := fun v' =>
                run_bytes_row _ A2 0 c2 w2.heap.size _ (bytesOf_len _ _) (row_store (w := w2) hr2 (fun _ _ _ h => absurd h (by omega)))
              have HCV := Lib.hid hcv
              clear hr2 hcv
              go_upto_region 9 with fail
              go_region_law (first
                | (go_simp; go_at_call 37; refine (need_is 0 (by omega) (by omega) _).mono ?_; rintro e w' ⟨rfl, rfl⟩; rw [HKI0.out]))
              all_goals
                have hst : RdSk V W g (([] : List Nat).drop 0) false (w2.setCell ⟨g, 0, none⟩ (.slice none 0 0)).drew := (rd_put H2.out HC2.out (by simp) (fun y hy => by cases hy) (fun h => by cases h) (.inl ⟨rfl, rfl⟩) (H2.out.b.setCell (p := ⟨g, 0, none⟩) hg1 (.slice none 0 0)) rfl).below (below_drewN (Below.refl _ _) 1)
                have HST := Lib.hid hst
                have hcv := HCV.out
                clear hst
                go_wp2
                go_ret
                exact text_yes HNO.out HK.out HST.out
          · obtain ⟨n, hn⟩ : ∃ n, t.length = n := ⟨_, rfl⟩
            rw [hn] at c0 hcap hkt2 q2
            have hrow := row_take (row_at hn hh hx) hkt2
            have hc1n := HC1.out
            rw [hn] at hc1n
            have HC1N := Lib.hid hc1n
            clear hc1n
            have HN := Lib.hid hn; have HH := Lib.hid hh; have HX := Lib.hid hx; have HROW := Lib.hid hrow; have HCAP := Lib.hid hcap
            have hkc : k ≤ c := by omega
            clear hn hh hx hrow
            go_upto_region 5 with (first
              | (go_at_call 59; refine (bad_r H1.out).mono ?_; rintro e w' ⟨rfl, rfl⟩)
              | (go_at_call 37; refine (need_is (x : Int) (by omega) (by omega) _).mono ?_; rintro e w' ⟨rfl, rfl⟩; rw [HKI.out])
              | (go_at_call 57; refine (left_r H1.out).mono ?_; rintro e w' ⟨rfl, rfl⟩; rw [HN.out]))
            have hU : Calls Try.prog 60 #[.slice (some ⟨q, off, none⟩) k c, .int .i64 (x : Int)] w1.drew (Unpacked (t.take k) x b w1.drew) := wUnpack (t.take k) k (x : Int) (by omega) (by omega) (by rw [List.length_take, HN.out]; omega) (fun y hy => HS1.out y (List.mem_of_mem_take hy)) hk100 b HMAY.out (some ⟨q, off, none⟩) c _ (by rw [List.map_take]; exact HROW.out)
            have HU := Lib.hid hU
            clear hU
            go_region_law (first
              | (go_simp; go_at_call 37; refine (need_is (x : Int) (by omega) (by omega) _).mono ?_; rintro e w' ⟨rfl, rfl⟩; rw [HKI.out])
              | (go_simp; go_at_call 60; refine HU.out.mono ?_; rintro e w2 ⟨A2, c2, k2, rfl, hk2, hr2, hb2⟩; have hb2' := undrew hb2; have HK2 := Lib.hid hk2; have HR2 := Lib.hid hr2; have HB2 := Lib.hid hb2'; have H2 := Lib.hid (H1.out.below hb2'); have hc2 := HC1N.out.below' hb2'; have c02 : w2.cell? ⟨g, 0, none⟩ = some (.slice (some ⟨q, off, none⟩) n c) := hc2.cell 0; have f02 := hc2.free 0; have HC2 := Lib.hid hc2; have HH2 := Lib.hid (HH.out.below' hb2'); clear hk2 hr2 hb2 hb2' hc2))
            all_goals
              cases b with
              | false =>
                go_wp2_with (go_at_call 58; refine (spoil_r H2.out).mono ?_; rintro e w3 ⟨rfl, h3⟩; have H3 := Lib.hid h3; clear h3)
                go_ret
                exact text_no HNO.out H3.out
              | true =>
                obtain rfl : k2 = x := by have := HK2.out; simpa using this
                have hr2 : Row w2 w2.heap.size A2 k2 ((bytesOf (t.take k) k2).map bt) := by have := HR2.out rfl; rw [Int.toNat_natCast] at this; exact this
                have hcv : ∀ v', (convert 22 9 (.slice A2 k2 c2)).run Try.prog (w2.setCell ⟨g, 0, none⟩ v').drew = .ok (.string (strOf (bytesOf (t.take k) k2))) (w2.setCell ⟨g, 0, none⟩ v').drew := fun v' =>
                  run_bytes_row _ A2 k2 c2 w2.heap.size _ (bytesOf_len _ _) (row_store (w := w2) hr2 (bytes_ne (w := w2) HC2.out ⟨_, _, _, rfl⟩ hr2))
                have HCV := Lib.hid hcv
                clear hr2 hcv
                go_upto_region 9 with fail
                go_region_law (first
                  | (go_simp; go_at_call 37; refine (need_is (k2 : Int) (by omega) (by omega) _).mono ?_; rintro e w' ⟨rfl, rfl⟩; rw [HKI.out]))
                all_goals
                  obtain ⟨v', hv'⟩ : ∃ v', Value.slice (if c = k then some (⟨q, off, none⟩ : Addr) else some ⟨q, off + k, none⟩) (n - k) (c - k) = v' := ⟨_, rfl⟩
                  rw [hv']
                  have hrd : RdRow w2 W.heap.size v' (t.drop k) := rd_drop (m := n - k) HN.out HCAP.out hB HH2.out HX.out (by omega) (by
                    rw [← hv']
                    by_cases hck : c = k
                    · right; rw [if_pos hck, hck, Nat.sub_self]; exact ⟨rfl, rfl⟩
                    · left; rw [if_neg hck])
                  have hst : RdSk V W g (t.drop k) false (w2.setCell ⟨g, 0, none⟩ v').drew := (rd_put H2.out HC2.out (by rw [List.length_drop]; omega) (fun y hy => HS1.out y (List.mem_of_mem_drop hy)) (fun h => by cases h) hrd (H2.out.b.setCell (p := ⟨g, 0, none⟩) hg1 v') rfl).below (below_drewN (Below.refl _ _) 1)
                  have HST := Lib.hid hst
                  have hcv := HCV.out
                  clear hrd hst hv'
                  go_wp2
                  go_ret
                  exact text_yes HNO.out HK.out HST.out
end K
theorem RdSt.keepy {W w : World} {g : Nat} {xs : List Nat} {bad : Bool} (h : RdSt W g xs bad w) : K.RdSk w W g xs bad w := ⟨fun _ _ _ _ h => h, h.b, h.hg, h.len, h.small, h.nb, h.v⟩
theorem K.RdSk.plain {V W w : World} {g : Nat} {xs : List Nat} {bad : Bool} (h : K.RdSk V W g xs bad w) : RdSt W g xs bad w := ⟨h.b, h.hg, h.len, h.small, h.nb, h.v⟩
def NumK (V W : World) (g : Nat) (xs : List Nat) (bad : Bool) (e : Ending) (w : World) : Prop := e = .returned (.int .i64 (numV xs)) ∧ RdSt W g (numX xs) (numB xs bad) w ∧ ∀ (b : Nat) (t : TypeId) (cs : Array Value), b ≠ g → Cells V b t cs → Cells w b t cs
theorem num_k {W w : World} {g : Nat} {xs : List Nat} {bad : Bool} (h : RdSt W g xs bad w) : Calls Try.prog 45 #[.pointer (some ⟨g, 0, none⟩)] w (NumK w W g xs bad) := by
  refine (K.num_r h.keepy).mono ?_
  rintro e w' ⟨rfl, h'⟩
  exact ⟨rfl, h'.plain, h'.kp⟩
def TextK (V W : World) (g : Nat) (most : Int) (xs : List Nat) (bad : Bool) (e : Ending) (w : World) : Prop := e = .returned (.string (textV most xs)) ∧ RdSt W g (textX most xs) (textB most xs bad) w ∧ ∀ (b : Nat) (t : TypeId) (cs : Array Value), b ≠ g → Cells V b t cs → Cells w b t cs
theorem text_k {W w : World} {g : Nat} {xs : List Nat} {bad : Bool} (h : RdSt W g xs bad w) (most : Int) (m0 : -9223372036854775808 ≤ most) (m1 : most ≤ 9223372036854775807) (hle : xs.length ≤ 100 ∨ most ≤ 700) :
    Calls Try.prog 46 #[.pointer (some ⟨g, 0, none⟩), .int .i64 most] w (TextK w W g most xs bad) := by
  refine (K.text_r h.keepy most m0 m1 hle).mono ?_
  rintro e w' ⟨rfl, h'⟩
  exact ⟨rfl, h'.plain, h'.kp⟩
end Go.Proofs.Ytcimmfhbffofjaa
