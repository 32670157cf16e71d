import Derived.Test.YthonpifdhjpbgaaSoMergeW
import Derived.Laws.CopyOwn
namespace Go.Proofs.Ythonpifdhjpbgaa
open Wd So Go.ChangeShapes Go.WideShapes Go.RowKit
set_option linter.unusedVariables false

theorem sym_any (g c L : Nat) (hlen : L ≤ 1000) : ∀ f, SymSays g c L f := by
  intro f
  induction f with
  | zero => intro a m b mv bv xs w hf _ _ ham hmb; omega
  | succ f ih =>
    intro a m b mv bv xs w hf hm hbv ham hmb hb hL hwd hA hB hr
    subst hm hbv
    by_cases c1 : m = a + 1
    · subst c1
      subst hL
      exact mergeOne_any a b g c xs w hmb hb hlen hwd hB hr
    · by_cases c2 : b = m + 1
      · subst c2
        subst hL
        exact mergeLast_any a m g c xs w (by omega) hb hlen hwd hA hr
      · by_cases c3 : (a + b) / 2 < m
        · exact merge_up g c L f hlen ih a m b xs w hf ((a + b) / 2) rfl c3 (by omega) (by omega) hb hL hwd hA hB hr
        · exact merge_down g c L f hlen ih a m b xs w hf ((a + b) / 2) rfl (by omega) (by omega) (by omega) hb hL hwd hA hB hr

theorem ins_len (a b g c L : Nat) (xs : List Nat) (w : World) (hL : xs.length = L) (hab : a ≤ b) (hb : b ≤ L) (hlen : L ≤ 1000) (hwd : Words xs) (hr : FRow w g xs) :
    Calls Try.prog 35 #[.slice (some ⟨g, 0, none⟩) L c, .int .i64 a, .int .i64 b, .func (.func 28) #[] #[]] w (Sorted a b g xs w) := by
  subst hL; exact insertion_any a b g c xs w hab hb hlen hwd hr

def Blocks (n g : Nat) (xs : List Nat) (W : World) (av bv : Value) (w : World) : Prop :=
  ∃ (a b : Nat) (ys : List Nat), av = .int .i64 a ∧ bv = .int .i64 b ∧ b ≤ a + 20 ∧ a + 20 ≤ b ∧ a ≤ n ∧ (a = 0 ∨ a = 20 ∨ a = 40) ∧ Shuf 0 n xs ys ∧ (20 ≤ a → Srt rk 0 20 ys) ∧ (40 ≤ a → Srt rk 20 40 ys) ∧ FRow w g ys ∧ W.grownBy w (some g)
def Merges (n g : Nat) (xs : List Nat) (W : World) (sv : Value) (w : World) : Prop :=
  ∃ (s : Nat) (ys : List Nat), sv = .int .i64 s ∧ Shuf 0 n xs ys ∧ (s = 20 ∨ s = 40) ∧ (s = 20 → Srt rk 0 20 ys ∧ Srt rk 20 n ys ∨ Srt rk 0 n ys ∧ n ≤ 20) ∧ (s = 40 → Srt rk 0 n ys) ∧ FRow w g ys ∧ W.grownBy w (some g)
def Pairs (n g : Nat) (xs : List Nat) (W : World) (av bv : Value) (w : World) : Prop :=
  ∃ (a b : Nat) (ys : List Nat), av = .int .i64 a ∧ bv = .int .i64 b ∧ Shuf 0 n xs ys ∧ (a = 0 ∧ b = 40 ∧ Srt rk 0 20 ys ∧ Srt rk 20 n ys ∨ a = 40 ∧ b = 80 ∧ Srt rk 0 n ys ∧ n = 40) ∧ FRow w g ys ∧ W.grownBy w (some g)

set_option maxRecDepth 100000 in
set_option maxHeartbeats 2000000 in
theorem stable_any (g c n : Nat) (xs : List Nat) (w : World) (hL : xs.length = n) (hn : n ≤ 40) (hwd : Words xs) (hr : FRow w g xs) :
    Calls Try.prog 32 #[.slice (some ⟨g, 0, none⟩) n c, .int .i64 n, .func (.func 28) #[] #[]] w (Sorted 0 n g xs w) := by
  have HR := Lib.hid hr; have HW := Lib.hid hwd; have HL := Lib.hid hL
  clear hr hwd hL
  go_enter Try.func32, Try.ntmps32
  go_wp2
  go_loopw [7, 8] (fun a b wr => Blocks n g xs w a b wr) (fun a _ _ => n - (intOf a).toNat)
  case atStart => exact ⟨0, 20, xs, rfl, rfl, by omega, by omega, by omega, .inl rfl, Shuf.refl _ _ _, (fun h => by omega), (fun h => by omega), HR.out, World.grownBy.refl w _⟩
  case round =>
    obtain ⟨a, b, ys, rfl, rfl, hb1, hb2, han, hac, hsh, h20, h40, hr, hg⟩ := hrel
    have H20 := Lib.hid h20; have H40 := Lib.hid h40; have HSH := Lib.hid hsh; have HAC := Lib.hid hac
    have HYL := Lib.hid (hsh.len.trans HL.out)
    have HYW := Lib.hid (HW.out.perm hsh.perm)
    clear h20 h40 hsh hac
    by_cases hbn : b ≤ n
    · go_wp2_with fail
      refine (ins_len a b g c n ys _ HYL.out (by omega) hbn (by omega) HYW.out hr).mono ?_
      rintro en w2 ⟨rfl, zs, k, ks, hr2, hg2⟩
      have h20' : 20 ≤ b → Srt rk 0 20 zs := by
        intro _
        rcases HAC.out with e | e | e
        · subst e; exact ks.mono (Nat.le_refl _) hb2
        · exact (H20.out (by omega)).far k (.inl (by omega))
        · omega
      have h40' : 40 ≤ b → Srt rk 20 40 zs := by
        intro h
        rcases HAC.out with e | e | e
        · omega
        · subst e; exact ks.mono (Nat.le_refl _) hb2
        · omega
      have hbc : b = 0 ∨ b = 20 ∨ b = 40 := by rcases HAC.out with e | e | e <;> omega
      have HB20 := Lib.hid h20'; have HB40 := Lib.hid h40'; have HBC := Lib.hid hbc
      have HSH2 := Lib.hid (HSH.out.trans (k.mono (Nat.zero_le _) hbn))
      clear h20' h40' hbc
      go_wp2
      go_roundw
      case rel => exact ⟨b, b + 20, zs, rfl, by go_num, by omega, by omega, hbn, HBC.out, HSH2.out, HB20.out, HB40.out, hr2, grown_trans hg hg2⟩
      case measure => simp [intOf]; omega
    · go_wp2_with fail
      refine (ins_len a n g c n ys _ HYL.out han (Nat.le_refl _) (by omega) HYW.out hr).mono ?_
      rintro en w2 ⟨rfl, zs, k, ks, hr2, hg2⟩
      have hst : Srt rk 0 20 zs ∧ Srt rk 20 n zs ∨ Srt rk 0 n zs ∧ n ≤ 20 := by
        rcases HAC.out with e | e | e
        · subst e; exact .inr ⟨ks, by omega⟩
        · subst e; exact .inl ⟨(H20.out (Nat.le_refl _)).far k (.inl (Nat.le_refl _)), ks⟩
        · subst e
          refine .inl ⟨(H20.out (by omega)).far k (.inl (by omega)), ?_⟩
          have := (H40.out (Nat.le_refl _)).far k (.inl (Nat.le_refl _))
          exact this.mono (Nat.le_refl _) hn
      have HST := Lib.hid hst
      have HSH2 := Lib.hid (HSH.out.trans (k.mono (Nat.zero_le _) (Nat.le_refl _)))
      have hg3 := grown_trans hg hg2
      clear hst
      go_wp2
      go_loopw [6] (fun s wr => Merges n g xs w s wr) (fun s _ => 60 - (intOf s).toNat)
      case atStart => exact ⟨20, zs, rfl, HSH2.out, .inl rfl, (fun _ => HST.out), (fun h => by omega), hr2, hg3⟩
      case round =>
        clear hr2 hg3
        obtain ⟨s, us, rfl, hsu, hsc, hs20, hs40, hr2, hg3⟩ := hrel
        have HS20 := Lib.hid hs20; have HS40 := Lib.hid hs40; have HSU := Lib.hid hsu
        clear hs20 hs40 hsu
        rcases hsc with rfl | rfl
        · by_cases hsn : 20 < n
          · obtain ⟨p1, p2⟩ : Srt rk 0 20 us ∧ Srt rk 20 n us := by
              rcases HS20.out rfl with h | h
              · exact h
              · omega
            have P1 := Lib.hid p1; have P2 := Lib.hid p2
            clear p1 p2
            obtain ⟨wo, rfl⟩ : ∃ wo : World, wo = wr := ⟨_, rfl⟩
            go_wp2
            go_loopw [7, 8] (fun a b wr => Pairs n g xs w a b wr) (fun a _ _ => 80 - (intOf a).toNat)
            case atStart => exact ⟨0, 40, us, rfl, rfl, HSU.out, .inl ⟨rfl, rfl, P1.out, P2.out⟩, hr2, hg3⟩
            case round =>
              clear hr2 hg3
              obtain ⟨a2, b2, vs, rfl, rfl, hsv, hcase, hr2, hg3⟩ := hrel
              have HSV := Lib.hid hsv
              have HVL := Lib.hid (hsv.len.trans HL.out)
              have HVW := Lib.hid (HW.out.perm hsv.perm)
              clear hsv
              rcases hcase with ⟨rfl, rfl, v1, v2⟩ | ⟨rfl, rfl, v1, hn40⟩
              · have V1 := Lib.hid v1; have V2 := Lib.hid v2
                clear v1 v2
                by_cases hfull : 40 ≤ n
                · have hn40 : n = 40 := by omega
                  have HN := Lib.hid hn40
                  clear hn40
                  go_wp2_with fail
                  refine (sym_any g c n (by omega) 40 0 20 40 _ _ vs _ (by omega) rfl rfl (by omega) (by omega) hfull HVL.out HVW.out V1.out (V2.out.mono (Nat.le_refl _) hfull) hr2).mono ?_
                  rintro en w5 ⟨rfl, ts, k5, ks5, hr5, hg5⟩
                  have HT := Lib.hid (ks5.mono (Nat.le_refl 0) hn)
                  have HST5 := Lib.hid (HSV.out.trans (k5.mono (Nat.le_refl 0) hfull))
                  clear ks5
                  go_wp2
                  go_roundw
                  case rel => exact ⟨40, 80, ts, rfl, rfl, HST5.out, .inr ⟨rfl, rfl, HT.out, HN.out⟩, hr5, grown_trans hg3 hg5⟩
                  case measure => simp [intOf]
                · go_wp2_with fail
                  refine (sym_any g c n (by omega) 40 0 20 n _ _ vs _ (by omega) rfl rfl (by omega) hsn (by omega) HVL.out HVW.out V1.out V2.out hr2).mono ?_
                  rintro en w5 ⟨rfl, ts, k5, ks5, hr5, hg5⟩
                  have HT := Lib.hid ks5
                  have HST5 := Lib.hid (HSV.out.trans k5)
                  clear ks5
                  go_wp2
                  go_roundw
                  case rel => exact ⟨40, ts, rfl, HST5.out, .inr rfl, (fun h => by omega), (fun _ => HT.out), hr5, grown_trans hg3 hg5⟩
                  case measure => simp [intOf]
              · have V1 := Lib.hid v1
                have HN := Lib.hid hn40
                have hn1 : n ≤ 40 := by omega
                have hn2 : 40 ≤ n := by omega
                clear v1 hn40
                go_wp2
                go_roundw
                case rel => exact ⟨40, vs, rfl, HSV.out, .inr rfl, (fun h => by omega), (fun _ => V1.out), hr2, hg3⟩
                case measure => simp [intOf]
          · have hso : Srt rk 0 n us := by
              rcases HS20.out rfl with h | h
              · exact h.1.mono (Nat.le_refl _) (by omega)
              · exact h.1
            have HSO := Lib.hid hso
            clear hso
            go_wp2
            go_end0
            exact ⟨rfl, us, HSU.out, HSO.out, hr2, hg3⟩
        · go_wp2
          go_end0
          exact ⟨rfl, us, HSU.out, HS40.out (by first | rfl | trivial), hr2, hg3⟩

theorem stableFunc_any (g c n : Nat) (xs : List Nat) (w : World) (hL : xs.length = n) (hn : n ≤ 40) (hwd : Words xs) (hr : FRow w g xs) :
    Calls Try.prog 27 #[.slice (some ⟨g, 0, none⟩) n c, .func (.func 28) #[] #[]] w (Sorted 0 n g xs w) := by
  have HR := Lib.hid hr; have HW := Lib.hid hwd; have HL := Lib.hid hL
  clear hr hwd hL
  go_enter Try.func27, Try.ntmps27
  go_wp2_with fail
  refine (stable_any g c n xs _ HL.out hn HW.out HR.out).mono ?_
  rintro en w2 ⟨rfl, ys, k, ks, hr2, hg2⟩
  have KS := Lib.hid ks
  clear ks
  go_wp2
  go_end0
  exact ⟨rfl, ys, k, KS.out, hr2, hg2⟩
end Go.Proofs.Ythonpifdhjpbgaa
