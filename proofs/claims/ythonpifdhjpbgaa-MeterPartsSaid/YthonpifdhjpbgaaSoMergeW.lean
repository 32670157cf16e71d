import Derived.Test.YthonpifdhjpbgaaSoLast
namespace So

/-- what a symmetric search has found: s -/
structure Found (rk : Nat → Int) (a m b mid lo hi s : Nat) (xs : List Nat) : Prop where
  los : lo ≤ s
  his : s ≤ hi
  low : s ≠ lo → ∀ x y, xs[s - 1]? = some x → xs[mid + m - s]? = some y → rk x ≤ rk y
  high : s ≠ hi → ∀ x y, xs[s]? = some x → xs[mid + m - 1 - s]? = some y → rk y < rk x
  lob : lo = a ∨ lo + b = mid + m
  hib : hi = m ∨ hi = mid
  a1 : a ≤ lo
  a2 : hi ≤ m
  a3 : hi ≤ mid
  a4 : mid + m ≤ lo + b
  a5 : mid < b
  a6 : b ≤ xs.length

structure Parts (rk : Nat → Int) (a s mid en b : Nat) (xs ys : List Nat) : Prop where
  shuf : Shuf a b xs ys
  p1 : Srt rk a s ys
  p2 : Srt rk s mid ys
  p3 : Srt rk mid en ys
  p4 : Srt rk en b ys
  cross : Cross rk a mid b ys

theorem Found.parts {rk : Nat → Int} {a m b mid lo hi s : Nat} {xs ys : List Nat} (h : Found rk a m b mid lo hi s xs) (hA : Srt rk a m xs) (hB : Srt rk m b xs) (k : Rot s m (mid + m - s) xs ys) :
    Parts rk a s mid (mid + m - s) b xs ys := by
  obtain ⟨h1, h2, h3, h4, h5, h6, h7, h8, h9, h10, h11, h12⟩ := h
  have e1 : mid + m - s - m = mid - s := by omega
  have one : ∀ q, s ≤ q → q < mid → ys[q]? = xs[m + (q - s)]? := by
    intro q q1 q2
    have := k.one (q - s) (by omega)
    rw [show s + (q - s) = q from by omega] at this
    exact this
  have two : ∀ q, mid ≤ q → q < mid + m - s → ys[q]? = xs[s + (q - mid)]? := by
    intro q q1 q2
    have := k.two (q - mid) (by omega)
    rw [show s + (mid + m - s - m) + (q - mid) = q from by omega] at this
    exact this
  have out : ∀ q, q < s ∨ mid + m - s ≤ q → ys[q]? = xs[q]? := k.out
  refine ⟨(k.shuf (by omega) (by omega)).mono (by omega) (by omega), ?_, ?_, ?_, ?_, ?_⟩
  · intro i j x y i1 i2 i3 hx hy
    rw [out i (by omega)] at hx
    rw [out j (by omega)] at hy
    exact hA i j x y i1 i2 (by omega) hx hy
  · intro i j x y i1 i2 i3 hx hy
    rw [one i i1 (by omega)] at hx
    rw [one j (by omega) i3] at hy
    exact hB _ _ x y (by omega) (by omega) (by omega) hx hy
  · intro i j x y i1 i2 i3 hx hy
    rw [two i i1 (by omega)] at hx
    rw [two j (by omega) i3] at hy
    exact hA _ _ x y (by omega) (by omega) (by omega) hx hy
  · intro i j x y i1 i2 i3 hx hy
    rw [out i (by omega)] at hx
    rw [out j (by omega)] at hy
    exact hB i j x y (by omega) i2 i3 hx hy
  · intro i j x y i1 i2 i3 i4 hx hy
    by_cases c1 : i < s
    · rw [out i (by omega)] at hx
      by_cases c2 : j < mid + m - s
      · rw [two j i3 c2] at hy
        exact hA _ _ x y i1 (by omega) (by omega) hx hy
      · rw [out j (by omega)] at hy
        have hs : s ≠ lo := by
          intro e
          rcases h5 with e5 | e5 <;> omega
        obtain ⟨u, hu⟩ : ∃ u, xs[s - 1]? = some u := ⟨_, List.getElem?_eq_getElem (by omega)⟩
        obtain ⟨v, hv⟩ : ∃ v, xs[mid + m - s]? = some v := ⟨_, List.getElem?_eq_getElem (by omega)⟩
        have g1 := hA i (s - 1) x u i1 (by omega) (by omega) hx hu
        have g2 := h3 hs u v hu hv
        have g3 := hB (mid + m - s) j v y (by omega) (by omega) i4 hv hy
        omega
    · rw [one i (by omega) i2] at hx
      by_cases c2 : j < mid + m - s
      · rw [two j i3 c2] at hy
        have hs : s ≠ hi := by
          intro e
          rcases h6 with e6 | e6 <;> omega
        obtain ⟨u, hu⟩ : ∃ u, xs[s]? = some u := ⟨_, List.getElem?_eq_getElem (by omega)⟩
        obtain ⟨v, hv⟩ : ∃ v, xs[mid + m - 1 - s]? = some v := ⟨_, List.getElem?_eq_getElem (by omega)⟩
        have g1 := hB (m + (i - s)) (mid + m - 1 - s) x v (by omega) (by omega) (by omega) hx hv
        have g2 := h4 hs u v hu hv
        have g3 := hA s (s + (j - mid)) u y (by omega) (by omega) (by omega) hu hy
        omega
      · rw [out j (by omega)] at hy
        exact hB _ j x y (by omega) (by omega) i4 hx hy

theorem Rot.still {s m e : Nat} (xs : List Nat) (h : s = m ∨ e = m) : Rot s m e xs xs := by
  refine ⟨.refl _, fun _ _ => rfl, fun k hk => ?_, fun k hk => ?_⟩
  · rcases h with h | h
    · rw [h]
    · omega
  · rcases h with h | h
    · omega
    · rw [h, Nat.sub_self, Nat.add_zero]
theorem Parts.left {rk : Nat → Int} {a s mid en b : Nat} {xs ys zs : List Nat} (h : Parts rk a s mid en b xs ys) (h1 : mid ≤ en) (k : Shuf a mid ys zs) (ks : Srt rk a mid zs) (hb : mid ≤ b) : Shuf a b xs zs ∧ Srt rk a mid zs ∧ Srt rk mid en zs ∧ Srt rk en b zs ∧ Cross rk a mid b zs :=
  ⟨h.shuf.trans (k.mono (Nat.le_refl _) hb), ks, h.p3.far k (by omega), h.p4.far k (by omega), h.cross.left k⟩
theorem Parts.leftStill {rk : Nat → Int} {a s mid en b : Nat} {xs ys : List Nat} (h : Parts rk a s mid en b xs ys) (hs : s ≤ a ∨ mid ≤ s) : Shuf a b xs ys ∧ Srt rk a mid ys ∧ Srt rk mid en ys ∧ Srt rk en b ys ∧ Cross rk a mid b ys := by
  refine ⟨h.shuf, ?_, h.p3, h.p4, h.cross⟩
  rcases hs with hs | hs
  · exact h.p2.mono hs (Nat.le_refl _)
  · exact h.p1.mono (Nat.le_refl _) hs
end So
namespace Go.Proofs.Ythonpifdhjpbgaa
open Wd So Go.ChangeShapes Go.WideShapes Go.RowKit
set_option linter.unusedVariables false

def FindM (mid m lo hi : Nat) (xs : List Nat) (W : World) (sv rv : Value) (w : World) : Prop :=
  ∃ s r n : Nat, lo ≤ s ∧ s ≤ r ∧ r ≤ hi ∧ sv = .int .i64 s ∧ rv = .int .i64 r ∧ (∀ t x y, lo ≤ t → t < s → xs[t]? = some x → xs[mid + m - 1 - t]? = some y → rk x ≤ rk y) ∧ (∀ t x y, r ≤ t → t < hi → xs[t]? = some x → xs[mid + m - 1 - t]? = some y → rk y < rk x) ∧ w = W.drewN n

theorem rotate_len (s m e g c L : Nat) (sv ev : Int) (xs : List Nat) (cmp : Value) (w : World) (hL : xs.length = L) (hs : sv = (s : Int)) (hv : ev = (e : Int)) (hsm : s < m) (hme : m < e) (he : e ≤ L) (hlen : L ≤ 1000) (hr : FRow w g xs) :
    Calls Try.prog 38 #[.slice (some ⟨g, 0, none⟩) L c, .int .i64 sv, .int .i64 m, .int .i64 ev, cmp] w (Rotated s m e g xs w) := by
  subst hL hs hv
  exact rotate_any s m e g c xs cmp w hsm hme he hlen hr

def SymSays (g c L f : Nat) : Prop := ∀ (a m b : Nat) (mv bv : Int) (xs : List Nat) (w : World), b - a ≤ f → mv = (m : Int) → bv = (b : Int) → a < m → m < b → b ≤ L → xs.length = L → Words xs → Srt rk a m xs → Srt rk m b xs → FRow w g xs →
    Calls Try.prog 36 #[.slice (some ⟨g, 0, none⟩) L c, .int .i64 a, .int .i64 mv, .int .i64 bv, .func (.func 28) #[] #[]] w (Sorted a b g xs w)

set_option maxRecDepth 100000 in
set_option maxHeartbeats 4000000 in
theorem merge_up (g c L f : Nat) (hlen : L ≤ 1000) (ih : SymSays g c L f) (a m b : Nat) (xs : List Nat) (w : World) (hf : b - a ≤ f + 1) (mid : Nat) (hm1 : mid = (a + b) / 2) (hmm : mid < m) (ham : a + 1 < m) (hmb : m + 1 < b) (hb : b ≤ L) (hL : xs.length = L) (hwd : Words xs) (hA : Srt rk a m xs) (hB : Srt rk m b xs) (hr : FRow w g xs) :
    Calls Try.prog 36 #[.slice (some ⟨g, 0, none⟩) L c, .int .i64 a, .int .i64 m, .int .i64 b, .func (.func 28) #[] #[]] w (Sorted a b g xs w) := by
  have HR := Lib.hid hr; have HW := Lib.hid hwd; have HA := Lib.hid hA; have HB := Lib.hid hB; have HL := Lib.hid hL; have IH := Lib.hid ih
  clear hr hwd hA hB hL ih
  have t1 : ((m : Int) - (a : Int) == 1) = false := by simp; omega
  have t2 : ((b : Int) - (m : Int) == 1) = false := by simp; omega
  have hm2 : ((a : Int) + (b : Int)) / 2 = (mid : Int) := by omega
  have HMID := Lib.hid hm1; clear hm1
  have q1 : a < mid := by have := HMID.out; omega
  have q2 : mid < b := by have := HMID.out; omega
  have q3 : 2 * mid ≤ a + b := by have := HMID.out; omega
  have q4 : a + b ≤ 2 * mid + 1 := by have := HMID.out; omega
  go_enter Try.func36, Try.ntmps36
  go_wp2
  go_loopw [20, 21] (fun s r wr => FindM mid m (mid + m - b) (mid) xs w s r wr) (fun s r _ => (intOf r).toNat - (intOf s).toNat)
  case atStart => exact ⟨mid + m - b, mid, 0, Nat.le_refl _, by omega, Nat.le_refl _, num_eq (by omega), rfl, fun t x y h1 h2 => by omega, fun t x y h1 h2 => by omega, rfl⟩
  case round =>
    obtain ⟨s, r, n, hs, hsr, hrh, rfl, rfl, hlo, hhi, rfl⟩ := hrel
    have HLO := Lib.hid hlo; have HHI := Lib.hid hhi
    clear hlo hhi
    have hLl : L = xs.length := HL.out.symm
    have HLL := Lib.hid hLl
    by_cases hlt : s < r
    · obtain ⟨h, hh1, hh2⟩ : ∃ h : Nat, h = (s + r) / 2 ∧ ((s : Int) + (r : Int)) / 2 = (h : Int) := ⟨(s + r) / 2, rfl, by omega⟩
      have b1 : s ≤ h := by omega
      have b2 : h < r := by omega
      obtain ⟨x, hx⟩ : ∃ x, xs[h]? = some x := ⟨_, List.getElem?_eq_getElem (by omega)⟩
      obtain ⟨y, hy⟩ : ∃ y, xs[mid + m - 1 - h]? = some y := ⟨_, List.getElem?_eq_getElem (by omega)⟩
      have hwx := HW.out.at hx
      have hwy := HW.out.at hy
      have cx := HR.out.cell hx
      have cy := HR.out.cell hy
      have hdec := cmpV_lt y x
      have HX := Lib.hid hx; have HY := Lib.hid hy
      have HH := Lib.hid hh1
      clear hx hy hh1 hLl
      have j1 : IntKind.i64.wrap ((mid : Int) + (m : Int) - 1 - (h : Int)) = (mid : Int) + (m : Int) - 1 - (h : Int) := IntWalk.i64_in _ (by omega)
      have j2 : ((mid : Int) + (m : Int) - 1 - (h : Int)).toNat = mid + m - 1 - h := by omega
      have j3 : (0 : Int) ≤ (h : Int) := by omega
      have j5 : (h : Int) < (L : Int) := by omega
      have j6 : (0 : Int) ≤ (mid : Int) + (m : Int) - 1 - (h : Int) := by omega
      have j7 : (mid : Int) + (m : Int) - 1 - (h : Int) < (L : Int) := by omega
      cases hc : lsB y x
      · rw [hc] at hdec
        have hle : rk x ≤ rk y := by unfold lsB at hc; have := of_decide_eq_false hc; omega
        have HLE := Lib.hid hle
        clear hc hle
        go_wp2
        go_quiet ((go_at_call 28; exact quiet_eq2 (compare_any y x hwy hwx _)))
        clear j1 j2
        go_wp2
        go_roundw
        case rel =>
          refine ⟨h + 1, r, _, by omega, by omega, hrh, by go_num, rfl, fun t u v h1 h2 hu hv => ?_, HHI.out, by first | exact drawn2 _ _ _ | rfl⟩
          have g1 := HA.out t h u x (by omega) (by omega) (by omega) hu HX.out
          have g2 := HB.out (mid + m - 1 - h) (mid + m - 1 - t) y v (by omega) (by omega) (by omega) HY.out hv
          have := HLE.out
          omega
        case measure => simp [intOf]; omega
      · rw [hc] at hdec
        have hle : rk y < rk x := by unfold lsB at hc; exact of_decide_eq_true hc
        have HLE := Lib.hid hle
        clear hc hle
        go_wp2
        go_quiet ((go_at_call 28; exact quiet_eq2 (compare_any y x hwy hwx _)))
        clear j1 j2
        go_wp2
        go_roundw
        case rel =>
          refine ⟨s, h, _, hs, b1, by omega, rfl, rfl, HLO.out, fun t u v h1 h2 hu hv => ?_, by first | exact drawn2 _ _ _ | rfl⟩
          have g1 := HA.out h t x u (by omega) (by omega) (by omega) HX.out hu
          have g2 := HB.out (mid + m - 1 - t) (mid + m - 1 - h) v y (by omega) (by omega) (by omega) hv HY.out
          have := HLE.out
          omega
        case measure => simp [intOf]; omega
    · obtain rfl : s = r := by omega
      have hf0 : So.Found rk a m b mid (mid + m - b) (mid) s xs := by
        refine ⟨hs, hrh, fun e x y hx hy => ?_, fun e x y hx hy => ?_, (.inr (by omega)), (.inr rfl), by omega, by omega, by omega, by omega, q2, by omega⟩
        · exact HLO.out (s - 1) x y (by omega) (by omega) hx (by rw [show mid + m - 1 - (s - 1) = mid + m - s from by omega]; exact hy)
        · exact HHI.out s x y (Nat.le_refl _) (by omega) hx hy
      have HF := Lib.hid hf0
      clear hf0 hLl
      by_cases hsm : s < mid
      · have hen : mid + m - s ≤ L := by omega
        go_wp2_with fail
        refine (rotate_len s m (mid + m - s) g c L _ _ xs _ _ HL.out rfl (by omega) (by omega) (by omega) hen hlen (HR.out.drewN n)).mono ?_
        rintro en w2 ⟨rfl, ys, hrt, hr2, hg2a⟩
        have hg2 := grown_trans (grown_drewN (World.grownBy.refl w (some g)) n) hg2a
        have PT := Lib.hid (HF.out.parts HA.out HB.out hrt)
        clear hg2a hrt hen
        have hyl : ys.length = L := by have := PT.out.shuf.len; have := HL.out; omega
        have HYL0 := Lib.hid hyl
        have HYW0 := Lib.hid (HW.out.perm PT.out.shuf.perm)
        clear hyl
        by_cases hla : a < s
        · go_wp2_with fail
          refine (IH.out a s mid _ _ ys _ (by omega) rfl rfl hla (by omega) (by omega) HYL0.out HYW0.out PT.out.p1 PT.out.p2 hr2).mono ?_
          rintro en w3 ⟨rfl, zs, kl, kls, hr3, hg3⟩
          obtain ⟨sh, sa, s3, s4, cr⟩ := PT.out.left (by omega) kl kls (by omega)
          have hg4 := grown_trans hg2 hg3
          have hzl : zs.length = L := by have := kl.len; have := HYL0.out; omega
          have HYL := Lib.hid hzl
          have HYW := Lib.hid (HYW0.out.perm kl.perm)
          have SH := Lib.hid sh; have SA := Lib.hid sa; have S3 := Lib.hid s3; have S4 := Lib.hid s4; have CR := Lib.hid cr
          clear sh sa s3 s4 cr hzl
          by_cases hrb : mid + m - s < b
          · have u1 := hrb
            go_wp2_with fail
            refine (IH.out mid (mid + m - s) b _ _ zs _ (by omega) (by omega) rfl (by omega) hrb hb HYL.out HYW.out S3.out S4.out hr3).mono ?_
            rintro en w9 ⟨rfl, vs, kv, ks, hr9, hg9⟩
            have hfin := (SA.out.far kv (.inl (Nat.le_refl _))).join ks (CR.out.right kv)
            have HFIN := Lib.hid hfin
            have HSH := Lib.hid (SH.out.trans (kv.mono (by omega) (Nat.le_refl _)))
            clear hfin
            go_wp2
            go_end0
            exact ⟨rfl, vs, HSH.out, HFIN.out, hr9, grown_trans hg4 hg9⟩
          · have u1 : mid + m - s = b := by omega
            have hfin := SA.out.join (S3.out.mono (Nat.le_refl _) (by omega)) CR.out
            have HFIN := Lib.hid hfin
            have u2 : b ≤ mid + m - s := by omega
            clear hfin u1
            go_wp2
            go_end0
            exact ⟨rfl, zs, SH.out, HFIN.out, hr3, hg4⟩
        · obtain ⟨sh, sa, s3, s4, cr⟩ := PT.out.leftStill (.inl (by omega))
          have HYL := HYL0
          have HYW := HYW0
          have SH := Lib.hid sh; have SA := Lib.hid sa; have S3 := Lib.hid s3; have S4 := Lib.hid s4; have CR := Lib.hid cr
          clear sh sa s3 s4 cr
          by_cases hrb : mid + m - s < b
          · exfalso; omega
          · have u1 : mid + m - s = b := by omega
            have hfin := SA.out.join (S3.out.mono (Nat.le_refl _) (by omega)) CR.out
            have HFIN := Lib.hid hfin
            have u2 : b ≤ mid + m - s := by omega
            clear hfin u1
            go_wp2
            go_end0
            exact ⟨rfl, ys, SH.out, HFIN.out, hr2, hg2⟩
      · obtain rfl : s = mid := by omega
        have PT := Lib.hid (HF.out.parts HA.out HB.out (Rot.still xs (.inr (by omega))))
        have hr2 : FRow (w.drewN n) g xs := HR.out.drewN n
        have hg2 := grown_drewN (World.grownBy.refl w (some g)) n
        have e1 : s + m - s = m := by omega
        obtain ⟨sh, sa, s3, s4, cr⟩ := PT.out.leftStill (.inr (Nat.le_refl _))
        rw [e1] at s3 s4
        have SH := Lib.hid sh; have SA := Lib.hid sa; have S3 := Lib.hid s3; have S4 := Lib.hid s4; have CR := Lib.hid cr
        clear sh sa s3 s4 cr e1
        go_wp2_with fail
        refine (IH.out s m b _ _ xs _ (by omega) (by omega) rfl hmm (by omega) hb HL.out HW.out S3.out S4.out hr2).mono ?_
        rintro en w9 ⟨rfl, vs, kv, ks, hr9, hg9⟩
        have hfin := (SA.out.far kv (.inl (Nat.le_refl _))).join ks (CR.out.right kv)
        have HFIN := Lib.hid hfin
        have HSH := Lib.hid (SH.out.trans (kv.mono (by omega) (Nat.le_refl _)))
        clear hfin
        go_wp2
        go_end0
        exact ⟨rfl, vs, HSH.out, HFIN.out, hr9, grown_trans hg2 hg9⟩

set_option maxRecDepth 100000 in
set_option maxHeartbeats 4000000 in
theorem merge_down (g c L f : Nat) (hlen : L ≤ 1000) (ih : SymSays g c L f) (a m b : Nat) (xs : List Nat) (w : World) (hf : b - a ≤ f + 1) (mid : Nat) (hm1 : mid = (a + b) / 2) (hmm : m ≤ mid) (ham : a + 1 < m) (hmb : m + 1 < b) (hb : b ≤ L) (hL : xs.length = L) (hwd : Words xs) (hA : Srt rk a m xs) (hB : Srt rk m b xs) (hr : FRow w g xs) :
    Calls Try.prog 36 #[.slice (some ⟨g, 0, none⟩) L c, .int .i64 a, .int .i64 m, .int .i64 b, .func (.func 28) #[] #[]] w (Sorted a b g xs w) := by
  have HR := Lib.hid hr; have HW := Lib.hid hwd; have HA := Lib.hid hA; have HB := Lib.hid hB; have HL := Lib.hid hL; have IH := Lib.hid ih
  clear hr hwd hA hB hL ih
  have t1 : ((m : Int) - (a : Int) == 1) = false := by simp; omega
  have t2 : ((b : Int) - (m : Int) == 1) = false := by simp; omega
  have hm2 : ((a : Int) + (b : Int)) / 2 = (mid : Int) := by omega
  have HMID := Lib.hid hm1; clear hm1
  have q1 : a < mid := by have := HMID.out; omega
  have q2 : mid < b := by have := HMID.out; omega
  have q3 : 2 * mid ≤ a + b := by have := HMID.out; omega
  have q4 : a + b ≤ 2 * mid + 1 := by have := HMID.out; omega
  go_enter Try.func36, Try.ntmps36
  go_wp2
  go_loopw [20, 21] (fun s r wr => FindM mid m (a) (m) xs w s r wr) (fun s r _ => (intOf r).toNat - (intOf s).toNat)
  case atStart => exact ⟨a, m, 0, Nat.le_refl _, by omega, Nat.le_refl _, num_eq (by omega), rfl, fun t x y h1 h2 => by omega, fun t x y h1 h2 => by omega, rfl⟩
  case round =>
    obtain ⟨s, r, n, hs, hsr, hrh, rfl, rfl, hlo, hhi, rfl⟩ := hrel
    have HLO := Lib.hid hlo; have HHI := Lib.hid hhi
    clear hlo hhi
    have hLl : L = xs.length := HL.out.symm
    have HLL := Lib.hid hLl
    by_cases hlt : s < r
    · obtain ⟨h, hh1, hh2⟩ : ∃ h : Nat, h = (s + r) / 2 ∧ ((s : Int) + (r : Int)) / 2 = (h : Int) := ⟨(s + r) / 2, rfl, by omega⟩
      have b1 : s ≤ h := by omega
      have b2 : h < r := by omega
      obtain ⟨x, hx⟩ : ∃ x, xs[h]? = some x := ⟨_, List.getElem?_eq_getElem (by omega)⟩
      obtain ⟨y, hy⟩ : ∃ y, xs[mid + m - 1 - h]? = some y := ⟨_, List.getElem?_eq_getElem (by omega)⟩
      have hwx := HW.out.at hx
      have hwy := HW.out.at hy
      have cx := HR.out.cell hx
      have cy := HR.out.cell hy
      have hdec := cmpV_lt y x
      have HX := Lib.hid hx; have HY := Lib.hid hy
      have HH := Lib.hid hh1
      clear hx hy hh1 hLl
      have j1 : IntKind.i64.wrap ((mid : Int) + (m : Int) - 1 - (h : Int)) = (mid : Int) + (m : Int) - 1 - (h : Int) := IntWalk.i64_in _ (by omega)
      have j2 : ((mid : Int) + (m : Int) - 1 - (h : Int)).toNat = mid + m - 1 - h := by omega
      have j3 : (0 : Int) ≤ (h : Int) := by omega
      have j5 : (h : Int) < (L : Int) := by omega
      have j6 : (0 : Int) ≤ (mid : Int) + (m : Int) - 1 - (h : Int) := by omega
      have j7 : (mid : Int) + (m : Int) - 1 - (h : Int) < (L : Int) := by omega
      cases hc : lsB y x
      · rw [hc] at hdec
        have hle : rk x ≤ rk y := by unfold lsB at hc; have := of_decide_eq_false hc; omega
        have HLE := Lib.hid hle
        clear hc hle
        go_wp2
        go_quiet ((go_at_call 28; exact quiet_eq2 (compare_any y x hwy hwx _)))
        clear j1 j2
        go_wp2
        go_roundw
        case rel =>
          refine ⟨h + 1, r, _, by omega, by omega, hrh, by go_num, rfl, fun t u v h1 h2 hu hv => ?_, HHI.out, by first | exact drawn2 _ _ _ | rfl⟩
          have g1 := HA.out t h u x (by omega) (by omega) (by omega) hu HX.out
          have g2 := HB.out (mid + m - 1 - h) (mid + m - 1 - t) y v (by omega) (by omega) (by omega) HY.out hv
          have := HLE.out
          omega
        case measure => simp [intOf]; omega
      · rw [hc] at hdec
        have hle : rk y < rk x := by unfold lsB at hc; exact of_decide_eq_true hc
        have HLE := Lib.hid hle
        clear hc hle
        go_wp2
        go_quiet ((go_at_call 28; exact quiet_eq2 (compare_any y x hwy hwx _)))
        clear j1 j2
        go_wp2
        go_roundw
        case rel =>
          refine ⟨s, h, _, hs, b1, by omega, rfl, rfl, HLO.out, fun t u v h1 h2 hu hv => ?_, by first | exact drawn2 _ _ _ | rfl⟩
          have g1 := HA.out h t x u (by omega) (by omega) (by omega) HX.out hu
          have g2 := HB.out (mid + m - 1 - t) (mid + m - 1 - h) v y (by omega) (by omega) (by omega) hv HY.out
          have := HLE.out
          omega
        case measure => simp [intOf]; omega
    · obtain rfl : s = r := by omega
      have hf0 : So.Found rk a m b mid (a) (m) s xs := by
        refine ⟨hs, hrh, fun e x y hx hy => ?_, fun e x y hx hy => ?_, (.inl rfl), (.inl rfl), by omega, by omega, by omega, by omega, q2, by omega⟩
        · exact HLO.out (s - 1) x y (by omega) (by omega) hx (by rw [show mid + m - 1 - (s - 1) = mid + m - s from by omega]; exact hy)
        · exact HHI.out s x y (Nat.le_refl _) (by omega) hx hy
      have HF := Lib.hid hf0
      clear hf0 hLl
      by_cases hsm : s < m
      · have hen : mid + m - s ≤ L := by omega
        go_wp2_with fail
        refine (rotate_len s m (mid + m - s) g c L _ _ xs _ _ HL.out rfl (by omega) (by omega) (by omega) hen hlen (HR.out.drewN n)).mono ?_
        rintro en w2 ⟨rfl, ys, hrt, hr2, hg2a⟩
        have hg2 := grown_trans (grown_drewN (World.grownBy.refl w (some g)) n) hg2a
        have PT := Lib.hid (HF.out.parts HA.out HB.out hrt)
        clear hg2a hrt hen
        have hyl : ys.length = L := by have := PT.out.shuf.len; have := HL.out; omega
        have HYL0 := Lib.hid hyl
        have HYW0 := Lib.hid (HW.out.perm PT.out.shuf.perm)
        clear hyl
        by_cases hla : a < s
        · go_wp2_with fail
          refine (IH.out a s mid _ _ ys _ (by omega) rfl rfl hla (by omega) (by omega) HYL0.out HYW0.out PT.out.p1 PT.out.p2 hr2).mono ?_
          rintro en w3 ⟨rfl, zs, kl, kls, hr3, hg3⟩
          obtain ⟨sh, sa, s3, s4, cr⟩ := PT.out.left (by omega) kl kls (by omega)
          have hg4 := grown_trans hg2 hg3
          have hzl : zs.length = L := by have := kl.len; have := HYL0.out; omega
          have HYL := Lib.hid hzl
          have HYW := Lib.hid (HYW0.out.perm kl.perm)
          have SH := Lib.hid sh; have SA := Lib.hid sa; have S3 := Lib.hid s3; have S4 := Lib.hid s4; have CR := Lib.hid cr
          clear sh sa s3 s4 cr hzl
          by_cases hrb : mid + m - s < b
          · have u1 := hrb
            go_wp2_with fail
            refine (IH.out mid (mid + m - s) b _ _ zs _ (by omega) (by omega) rfl (by omega) hrb hb HYL.out HYW.out S3.out S4.out hr3).mono ?_
            rintro en w9 ⟨rfl, vs, kv, ks, hr9, hg9⟩
            have hfin := (SA.out.far kv (.inl (Nat.le_refl _))).join ks (CR.out.right kv)
            have HFIN := Lib.hid hfin
            have HSH := Lib.hid (SH.out.trans (kv.mono (by omega) (Nat.le_refl _)))
            clear hfin
            go_wp2
            go_end0
            exact ⟨rfl, vs, HSH.out, HFIN.out, hr9, grown_trans hg4 hg9⟩
          · exfalso; omega
        · obtain ⟨sh, sa, s3, s4, cr⟩ := PT.out.leftStill (.inl (by omega))
          have HYL := HYL0
          have HYW := HYW0
          have SH := Lib.hid sh; have SA := Lib.hid sa; have S3 := Lib.hid s3; have S4 := Lib.hid s4; have CR := Lib.hid cr
          clear sh sa s3 s4 cr
          by_cases hrb : mid + m - s < b
          · have u1 := hrb
            go_wp2_with fail
            refine (IH.out mid (mid + m - s) b _ _ ys _ (by omega) (by omega) rfl (by omega) hrb hb HYL.out HYW.out S3.out S4.out hr2).mono ?_
            rintro en w9 ⟨rfl, vs, kv, ks, hr9, hg9⟩
            have hfin := (SA.out.far kv (.inl (Nat.le_refl _))).join ks (CR.out.right kv)
            have HFIN := Lib.hid hfin
            have HSH := Lib.hid (SH.out.trans (kv.mono (by omega) (Nat.le_refl _)))
            clear hfin
            go_wp2
            go_end0
            exact ⟨rfl, vs, HSH.out, HFIN.out, hr9, grown_trans hg2 hg9⟩
          · have u1 : mid + m - s = b := by omega
            have hfin := SA.out.join (S3.out.mono (Nat.le_refl _) (by omega)) CR.out
            have HFIN := Lib.hid hfin
            have u2 : b ≤ mid + m - s := by omega
            clear hfin u1
            go_wp2
            go_end0
            exact ⟨rfl, ys, SH.out, HFIN.out, hr2, hg2⟩
      · obtain rfl : s = m := by omega
        have PT := Lib.hid (HF.out.parts HA.out HB.out (Rot.still xs (.inl rfl)))
        have hr2 : FRow (w.drewN n) g xs := HR.out.drewN n
        have hg2 := grown_drewN (World.grownBy.refl w (some g)) n
        have e1 : mid + s - s = mid := by omega
        by_cases hlm : s < mid
        · go_wp2_with fail
          refine (IH.out a s mid _ _ xs _ (by omega) rfl rfl (by omega) hlm (by omega) HL.out HW.out PT.out.p1 PT.out.p2 hr2).mono ?_
          rintro en w3 ⟨rfl, zs, kl, kls, hr3, hg3⟩
          obtain ⟨sh, sa, s3, s4, cr⟩ := PT.out.left (by omega) kl kls (by omega)
          rw [e1] at s4
          have HFIN := Lib.hid (sa.join s4 cr)
          have SH := Lib.hid sh
          have hg4 := grown_trans hg2 hg3
          clear sh sa s3 s4 cr e1
          go_wp2
          go_end0
          exact ⟨rfl, zs, SH.out, HFIN.out, hr3, hg4⟩
        · obtain ⟨sh, sa, s3, s4, cr⟩ := PT.out.leftStill (.inr (by omega))
          rw [e1] at s4
          have HFIN := Lib.hid (sa.join s4 cr)
          have SH := Lib.hid sh
          clear sh sa s3 s4 cr e1
          go_wp2
          go_end0
          exact ⟨rfl, xs, SH.out, HFIN.out, hr2, hg2⟩
end Go.Proofs.Ythonpifdhjpbgaa
