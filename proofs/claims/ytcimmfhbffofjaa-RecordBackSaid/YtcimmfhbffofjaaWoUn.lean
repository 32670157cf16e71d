import Derived.Test.YtcimmfhbffofjaaWoOne
namespace Go.Proofs.Ytcimmfhbffofjaa
open Wd U Go.ChangeShapes Go.WideShapes Go.RowKit Go.Sort
set_option linter.unusedVariables false

set_option maxHeartbeats 2000000 in
theorem wUnpack_good (l : List Nat) (L N : Nat) (hL : l.length = L) (hl : Small l) (hle : L ≤ 100) (hN : need N = L) (b : Bool) (hb : decide (pk (bytesOf l N) = l) = b) (A : Option Addr) (c : Nat) (w : World) (hr : Row w w.heap.size A L (l.map wd)) :
    Calls Try.prog 60 #[.slice A L c, .int .i64 (N : Int)] w (Unpacked l N b w) := by
  have hN2 : N ≤ 800 := by unfold need at hN; omega
  have hmk := fun W => make_row (P := Try.prog) 22 5 (.int .u8 0) 1 Try.underlying22 infoU8 rfl N (by omega) (by omega) W
  have hnI : needI (N : Int) = (L : Int) := by rw [needI_nat, hN]
  have HNI := Lib.hid hnI
  have HL := Lib.hid hL; have HS := Lib.hid hl; have HR := Lib.hid hr; have HN := Lib.hid hN; have HBB := Lib.hid hb; have HMK := Lib.hid hmk
  have n0 : (0 : Int) ≤ (N : Int) := by omega
  clear hL hl hr hN hb hmk hnI
  go_enter Try.func60, Try.ntmps60
  go_upto_region 1 with fail
  go_cut [18] from 10 to 17 (fun x wx => x = .bool false ∧ wx = w)
  case first =>
    go_wp2_with (go_at_call 37; refine (need_is (N : Int) (by omega) (by omega) _).mono ?_; rintro e w1 ⟨rfl, rfl⟩; rw [HNI.out])
    go_meet
    exact ⟨rfl, rfl⟩
  case rest =>
  obtain ⟨rfl, rfl⟩ := hcut
  have hmk := HMK.out
  go_wp2
  clear hmk
  go_loopw [23] (fun i wr => LayRel l N wc.heap.size wc i wr) (fun i _ => N - (intOf i).toNat)
  case atStart =>
    refine ⟨0, Nat.zero_le _, rfl, ?_, (Below.refl _ _).alloc (Nat.le_refl _) _⟩
    have := Cells.new wc 5 (Array.replicate N (Value.int .u8 0))
    unfold BRow
    rw [show bytesOf l 0 = [] from rfl, List.nil_append, Nat.sub_zero, List.map_replicate, List.toArray_replicate]
    exact this
  case round =>
    obtain ⟨k, hk, rfl, hbr, hbl⟩ := hrel
    have HBR := Lib.hid hbr; have HBL := Lib.hid hbl
    clear hbr
    by_cases hlt : k < N
    · have hkL : k / 8 < L := by have := HN.out; unfold need at this; omega
      obtain ⟨b1, o1, v, hA, _, hv, cv⟩ := (HR.out.below hbl).get (k := k / 8) hkL
      have hvs := HS.out.at hv
      have hst := lay_step hlt hv
      obtain ⟨d, hd⟩ : ∃ d : Nat, d = k / 8 := ⟨k / 8, rfl⟩
      obtain ⟨r, hr⟩ : ∃ r : Nat, r = k % 8 := ⟨k % 8, rfl⟩
      rw [← hd] at cv hkL
      rw [← hr] at hst
      have hr8 : r < 8 := by omega
      obtain ⟨y, hy⟩ : ∃ y, y = v / 256 ^ r := ⟨_, rfl⟩
      have hsh : (v : Int) / 2 ^ (r * 8) = (y : Int) := by
        have e : ((2 : Int) ^ (r * 8)) = ((256 ^ r : Nat) : Int) := by rw [← pow_two]; simp
        rw [e, hy]
        exact (Int.natCast_ediv v (256 ^ r)).symm
      obtain ⟨z, hz⟩ : ∃ z, z = y % 256 := ⟨_, rfl⟩
      have hw8 : IntKind.u8.wrap (y : Int) = (z : Int) := by
        rw [hz]
        simp [IntKind.wrap, IntKind.bits, IntKind.signed]
      have hbl2 : (bytesOf l k ++ List.replicate (N - k) 0).length = N := by rw [List.length_append, bytesOf_len, List.length_replicate]; omega
      obtain ⟨o, ho⟩ : ∃ o, (bytesOf l k ++ List.replicate (N - k) 0)[k]? = some o := ⟨_, List.getElem?_eq_getElem (by omega)⟩
      have oz : wr.cell? ⟨wc.heap.size, k, none⟩ = some (bt o) := by rw [Cells.cell HBR.out, List.getElem?_toArray, List.getElem?_map, ho]; rfl
      have fz := Cells.free HBR.out k
      rw [← hy, ← hz] at hst
      have HST := Lib.hid hst; have HD := Lib.hid hd; have HRR := Lib.hid hr
      have d1 : (d : Int) < (L : Int) := by omega
      unfold wd at cv
      unfold bt at oz
      clear hv hst hd hr hbl2 ho hbl hy hz
      subst hA
      go_wp2_with (go_at_call 55; refine (place_is k d r (by omega) HD.out HRR.out _).mono ?_; rintro e w1 ⟨rfl, rfl⟩)
      go_roundw
      case rel =>
        refine ⟨k + 1, by omega, by go_num, ?_, HBL.out.setCell (Nat.le_refl _) _⟩
        rw [← HST.out]
        have := BRow.set HBR.out k z
        exact this
      case measure => simp [intOf]; omega
    · obtain rfl : k = N := by omega
      have hbr := HBR.out
      rw [Nat.sub_self, List.replicate_zero, List.append_nil] at hbr
      have hrow := hbr.row (B := wr.heap.size) (bytesOf_len l k) (Cells.lt hbr)
      have HROW := Lib.hid hrow; have HBR2 := Lib.hid hbr
      have HRr := Lib.hid ((HR.out.below hbl).more hbl.size)
      clear hbr hrow hbl
      go_wp2_with fail
      refine (wPack (bytesOf l k) k (bytesOf_len l k) (bytesOf_bytes l k) _ _ _ (by omega) HROW.out).mono ?_
      rintro e w5 ⟨A5, c5, rfl, hrow5, hb5⟩
      have hpl : (pk (bytesOf l k)).length = L := by rw [pk_len, bytesOf_len]; exact HN.out
      rw [hpl] at hrow5 ⊢
      have HR5 := Lib.hid ((HRr.out.below hb5).more hb5.size)
      have HW5 := Lib.hid hrow5
      have HB5 := Lib.hid (HBL.out.trans (hb5.mono HBL.out.size))
      have HBR5 := Lib.hid (Cells.below' HBR2.out hb5)
      have HPL := Lib.hid hpl
      clear hb5 hrow5 hpl
      go_wp2_with fail
      refine (equal_any (pk (bytesOf l k)) l L L HPL.out HL.out (by omega) _ _ _ _ w5.heap.size _ HW5.out HR5.out).mono ?_
      rintro e w6 ⟨rfl, hgr⟩
      rw [HBB.out]
      have hb6 : Below w5.heap.size w5 w6 := by obtain ⟨q, os, rfl⟩ := hgr; exact below_grow' _ _ _
      have HB6 := Lib.hid (HB5.out.trans (hb6.mono HB5.out.size))
      have hbr6 : BRow w6 wc.heap.size (bytesOf l k) := Cells.below' HBR5.out hb6
      have HBR6 := Lib.hid hbr6
      clear hgr hb6 hbr6
      cases b
      · go_wp2
        go_ret2
        exact ⟨none, 0, 0, rfl, rfl, (fun h => by cases h), HB6.out⟩
      · go_wp2
        go_ret2
        refine ⟨_, _, k, rfl, by simp, fun _ => ?_, HB6.out⟩
        rw [Int.toNat_natCast]
        exact HBR6.out.row (bytesOf_len l k) (Cells.lt HBR6.out)

theorem wUnpack_bad (L : Nat) (hL : L ≤ 1000) (A : Option Addr) (c : Nat) (n : Int) (h0 : -9223372036854775808 ≤ n) (h1 : n ≤ 9223372036854775807) (w : World) (h : n < 0 ∨ 0 ≤ n ∧ needI n ≠ L) :
    Calls Try.prog 60 #[.slice A L c, .int .i64 n] w (noU w) := by
  rcases h with h | ⟨h2, h3⟩
  · go_enter Try.func60, Try.ntmps60
    go_wp2
    go_ret2
    exact ⟨rfl, rfl⟩
  · obtain ⟨m, hm⟩ : ∃ m, needI n = m := ⟨_, rfl⟩
    have HM := Lib.hid hm
    have hq : (m != (L : Int)) = true := by rw [bne_iff_ne, ← hm]; exact h3
    have hm0 : 0 ≤ m ∧ m ≤ 9223372036854775807 := by rw [← hm]; unfold needI; split <;> omega
    clear h3 hm
    go_enter Try.func60, Try.ntmps60
    go_wp2_with (go_at_call 37; refine (need_is n (by omega) (by omega) _).mono ?_; rintro e w1 ⟨rfl, rfl⟩; rw [HM.out])
    go_ret2
    exact ⟨rfl, rfl⟩
/-- the project's Unpack, whatever is asked -/
theorem wUnpack (l : List Nat) (L : Nat) (n : Int) (h0 : -9223372036854775808 ≤ n) (h1 : n ≤ 9223372036854775807) (hL : l.length = L) (hl : Small l) (hle : L ≤ 100) (b : Bool) (hb : mayU l n = b) (A : Option Addr) (c : Nat) (w : World) (hr : Row w w.heap.size A L (l.map wd)) :
    Calls Try.prog 60 #[.slice A L c, .int .i64 n] w (Unpacked l n b w) := by
  by_cases h : 0 ≤ n ∧ need n.toNat = L
  · obtain ⟨N, rfl⟩ : ∃ N : Nat, n = (N : Int) := ⟨n.toNat, by omega⟩
    rw [Int.toNat_natCast] at h
    have hb' : decide (pk (bytesOf l N) = l) = b := by
      rw [← hb]
      unfold mayU
      rw [Int.toNat_natCast, hL]
      simp [h.1, h.2]
    exact wUnpack_good l L N hL hl hle h.2 b hb' A c w hr
  · have hb' : b = false := by
      rw [← hb]
      unfold mayU
      rw [hL, Bool.and_eq_false_iff, Bool.and_eq_false_iff]
      left
      by_cases h1 : 0 ≤ n
      · right; exact decide_eq_false (fun h2 => h ⟨h1, h2⟩)
      · left; exact decide_eq_false h1
    subst hb'
    refine (wUnpack_bad L (by omega) A c n h0 h1 w ?_).mono ?_
    · by_cases h1 : n < 0
      · exact .inl h1
      · refine .inr ⟨by omega, fun h2 => h ⟨by omega, ?_⟩⟩
        have e : n = ((n.toNat : Nat) : Int) := by omega
        rw [e, needI_nat] at h2
        omega
    · rintro e w' ⟨rfl, rfl⟩
      exact ⟨none, 0, 0, rfl, rfl, (fun h => by cases h), Below.refl _ _⟩
end Go.Proofs.Ytcimmfhbffofjaa
