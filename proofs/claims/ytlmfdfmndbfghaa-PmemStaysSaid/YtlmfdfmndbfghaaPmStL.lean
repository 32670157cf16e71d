import Derived.Test.YtlmfdfmndbfghaaPmTz
namespace Go.Proofs.Ytlmfdfmndbfghaa
open Wd Pm Go.Maps Go.RowKit
set_option linter.unusedVariables false

def SRel (w : World) (p q : Nat) (o : Option (Int × Int)) (l : List Deed) (base : Nat) (idx : Value) (wr : World) : Prop := ∃ j : Nat, j ≤ l.length ∧ idx = .int .i64 j ∧ SSt w p q o (base + j) wr
/-- both devices, new -/
theorem sst_new {w w3 w4 : World} {f : Fp} {q : Nat} (b3 : Below w.heap.size w w3) (d3 : Dev w3 f (.fresh 512)) (fr : Fresh w f) (b4 : Below w3.heap.size w3 w4) (rd : RDev w4 w.heap.size q (.fresh 512)) : SSt w f.p q none 0 w4 :=
  ⟨f, _, _, rfl, d3.below b4, fr, b3.trans (b4.mono b3.size), ⟨rfl, rfl, rfl, by show (0 : Int) ≤ _; omega, fun _ _ e => by cases e⟩, rd, ⟨rfl, rfl, rfl, by show (0 : Int) ≤ _; omega, by show 0 ≤ _; omega⟩⟩
set_option maxRecDepth 100000 in
set_option maxHeartbeats 4000000 in
theorem stays_true (A1 : Option Addr) (c1 : Nat) (l1 : List Deed) (i : Int) (hiw : (Lit.int .i64 i).wf = true) (v : Int) (hv : U64 v) (A2 : Option Addr) (c2 : Nat) (l2 : List Deed) (A3 : Option Addr) (c3 : Nat) (keep : List Bool) (w : World)
    (r1 : Deeds w w.heap.size A1 l1) (m1 : l1.length ≤ maxLen) (r2 : Deeds w w.heap.size A2 l2) (m2 : l2.length ≤ maxLen) (r3 : Row w w.heap.size A3 keep.length (keep.map Value.bool)) (m3 : keep.length ≤ maxLen) :
    Calls Try.prog 4 #[.slice A1 l1.length c1, .int .i64 i, .int .u64 v, .slice A2 l2.length c2, .slice A3 keep.length c3] w (TrueB w) := by
  have R1 := Lib.hid r1
  have R2 := Lib.hid r2
  have R3 := Lib.hid r3
  have M1 := Lib.hid m1
  have M2 := Lib.hid m2
  have M3 := Lib.hid m3
  clear r1 r2 r3 m1 m2 m3
  by_cases f1 : fewB l1 = true
  · have F1 := Lib.hid f1
    have L1 : l1.length ≤ 60 := by unfold fewB at f1; simp at f1; exact f1.2
    clear f1
    by_cases f2 : fewB l2 = true
    · have F2 := Lib.hid f2
      have L2 : l2.length ≤ 60 := by unfold fewB at f2; simp at f2; exact f2.2
      clear f2
      by_cases hi0 : i < 0
      · have q1 : decide (i < 0) = true := by simpa using hi0
        clear hi0 L1 L2
        go_enter Try.func4, Try.ntmps4
        go_wp2_with fail
        refine (awake_true w).mono ?_
        rintro e w1 ⟨rfl, b1⟩
        go_wp2_with fail
        refine (few_any (R1.out.at_world b1) M1.out).mono ?_
        rintro e w2 ⟨rfl, b2⟩
        simp only [F1.out]
        have b12 := b1.trans (b2.mono b1.size)
        go_wp2_with fail
        refine (few_any (R2.out.at_world b12) M2.out).mono ?_
        rintro e w3 ⟨rfl, b3⟩
        simp only [F2.out]
        have B := Lib.hid (b12.trans (b3.mono b12.size))
        clear b1 b2 b12 b3
        go_wp2
        go_ret
        exact ⟨rfl, B.out⟩
      · have q1 : decide (i < 0) = false := by simpa using hi0
        by_cases hi1 : i < 512
        · have q2 : decide (i ≥ 512) = false := by simp; omega
          have hi2 : 0 ≤ i := by omega
          have HI := Lib.hid (⟨hi2, hi1⟩ : 0 ≤ i ∧ i < 512)
          have HV := Lib.hid hv
          clear hi0 hv
          go_enter Try.func4, Try.ntmps4
          go_wp2_with fail
          refine (awake_true w).mono ?_
          rintro e w1 ⟨rfl, b1⟩
          go_wp2_with fail
          refine (few_any (R1.out.at_world b1) M1.out).mono ?_
          rintro e w2 ⟨rfl, b2⟩
          simp only [F1.out]
          have b12 := b1.trans (b2.mono b1.size)
          go_wp2_with fail
          refine (few_any (R2.out.at_world b12) M2.out).mono ?_
          rintro e w3 ⟨rfl, b3⟩
          simp only [F2.out]
          have b13 := b12.trans (b3.mono b12.size)
          go_wp2_with fail
          refine (new_arm w w3 b13 0).mono ?_
          rintro e w4 ⟨g, rfl, f, rfl, d4, fr4, b4⟩
          go_wp2_with fail
          refine (rnew_dev 512 w4 w.heap.size b4.size).mono ?_
          rintro e w5 ⟨rfl, rd5, b5⟩
          rw [show clampN 512 = 512 from by decide] at rd5
          obtain ⟨q, hq⟩ : ∃ q, w4.heap.size = q := ⟨_, rfl⟩
          rw [hq] at rd5 ⊢
          have hs := sst_new b4 d4 fr4 (by rw [← hq] at *; exact b5) rd5
          have HS := Lib.hid hs
          clear hs rd5 b5 d4 fr4 b4 b13 b12 b1 b2 b3 hq
          go_wp2
          go_loopw [41] (fun idx wr => SRel w f.p q none l1 0 idx wr) (fun idx _ => l1.length - (intOf idx).toNat)
          case atStart => exact ⟨0, Nat.zero_le _, rfl, HS.out⟩
          case round =>
            obtain ⟨j, hj, rfl, hA⟩ := hrel
            have hbw := hA.is_below
            by_cases hlt : j < l1.length
            · obtain ⟨d, hd⟩ : ∃ d, l1[j]? = some d := ⟨_, List.getElem?_eq_getElem hlt⟩
              have hD := R1.out.below hbw
              obtain ⟨b, off, rfl, hbB, hx⟩ := hD.at_ (by omega)
              have ok := hD.ok d (List.mem_of_getElem? hd)
              have x0 : wr.cell? ⟨b, off + j * 4, none⟩ = some (.int .i64 d.kind) := hx j d hd 0 _ rfl
              have x1 : wr.cell? ⟨b, off + j * 4 + 1, none⟩ = some (.int .i64 d.i) := hx j d hd 1 _ rfl
              have x2 : wr.cell? ⟨b, off + j * 4 + 2, none⟩ = some (.int .u64 d.v) := hx j d hd 2 _ rfl
              have x3 : wr.cell? ⟨b, off + j * 4 + 3, none⟩ = some (.slice d.A d.keep.length d.cp) := hx j d hd 3 _ rfl
              have HDV := Lib.hid ok.v
              have HA := Lib.hid (hA.alloc (.cells #[.int .i64 d.kind, .int .i64 d.i, .int .u64 d.v, .slice d.A d.keep.length d.cp] 32))
              clear hx hD hd ok hA hbw
              by_cases k4 : d.kind < 4
              · have kq : decide (d.kind < 4) = true := by simpa using k4
                have HK := Lib.hid k4
                clear k4
                go_wp2_with (go_at_call 14; refine (stay_do HA.out (by omega) d HDV.out HK.out (fun _ _ _ e => by cases e)).mono ?_; rintro e w6 ⟨⟨bb, rfl⟩, hG, hkeep⟩; clear hkeep)
                go_roundw
                case rel => exact ⟨j + 1, by omega, by go_num, hG⟩
                case measure => simp [intOf]; omega
              · have kq : decide (d.kind < 4) = false := by simpa using k4
                clear k4
                go_wp2
                go_roundw
                case rel => exact ⟨j + 1, by omega, by go_num, HA.out.up (by omega)⟩
                case measure => simp [intOf]; omega
            · obtain rfl : j = l1.length := by omega
              have HA := Lib.hid hA
              clear hA hbw HS
              go_wp2_with (first
                | (go_at_call 12; refine (mid_store (by omega) HI.out HA.out HV.out).mono ?_; rintro e w6 ⟨rfl, h6⟩)
                | (go_at_call 25; refine (mid_flush (by omega) HI.out h6).mono ?_; rintro e w7 ⟨rfl, h7⟩)
                | (go_at_call 26; refine (mid_fence (by omega) h7).mono ?_; rintro e w8 ⟨rfl, h8⟩; have H8 := Lib.hid h8; clear h6 h7 h8))
              go_loopw [72] (fun idx wr => SRel w f.p q (some (i, v)) l2 100 idx wr) (fun idx _ => l2.length - (intOf idx).toNat)
              case atStart => exact ⟨0, Nat.zero_le _, rfl, H8.out.up (by omega)⟩
              case round =>
                obtain ⟨j, hj, rfl, hA⟩ := hrel
                have hbw := hA.is_below
                by_cases hlt : j < l2.length
                · obtain ⟨d, hd⟩ : ∃ d, l2[j]? = some d := ⟨_, List.getElem?_eq_getElem hlt⟩
                  have hD := R2.out.below hbw
                  obtain ⟨b, off, rfl, hbB, hx⟩ := hD.at_ (by omega)
                  have ok := hD.ok d (List.mem_of_getElem? hd)
                  have x0 : wr.cell? ⟨b, off + j * 4, none⟩ = some (.int .i64 d.kind) := hx j d hd 0 _ rfl
                  have x1 : wr.cell? ⟨b, off + j * 4 + 1, none⟩ = some (.int .i64 d.i) := hx j d hd 1 _ rfl
                  have x2 : wr.cell? ⟨b, off + j * 4 + 2, none⟩ = some (.int .u64 d.v) := hx j d hd 2 _ rfl
                  have x3 : wr.cell? ⟨b, off + j * 4 + 3, none⟩ = some (.slice d.A d.keep.length d.cp) := hx j d hd 3 _ rfl
                  have HDV := Lib.hid ok.v
                  have HA := Lib.hid (hA.alloc (.cells #[.int .i64 d.kind, .int .i64 d.i, .int .u64 d.v, .slice d.A d.keep.length d.cp] 32))
                  clear hx hD hd ok hA hbw
                  by_cases k4 : d.kind < 4
                  · have kq : decide (d.kind ≥ 4) = false := by simp; omega
                    have HK := Lib.hid k4
                    clear k4
                    by_cases k0 : d.kind ≤ 0
                    · have kq0 : decide (d.kind ≤ 0) = true := by simpa using k0
                      by_cases kx : d.i = i
                      · have kqx : (d.i == i) = true := by simpa using kx
                        clear k0 kx
                        go_wp2
                        go_roundw
                        case rel => exact ⟨j + 1, by omega, by go_num, HA.out.up (by omega)⟩
                        case measure => simp [intOf]; omega
                      · have kqx : (d.i == i) = false := by simpa using kx
                        have HX := Lib.hid kx
                        clear k0 kx
                        go_wp2_with (go_at_call 14; refine (stay_do HA.out (by omega) d HDV.out HK.out (fun _ _ _ e => by injection e with e; injection e with e1 e2; rw [← e1]; exact HX.out)).mono ?_; rintro e w6 ⟨⟨bb, rfl⟩, hG, hkeep⟩; clear hkeep)
                        go_roundw
                        case rel => exact ⟨j + 1, by omega, by go_num, hG⟩
                        case measure => simp [intOf]; omega
                    · have kq0 : decide (d.kind ≤ 0) = false := by simpa using k0
                      have HX := Lib.hid k0
                      clear k0
                      go_wp2_with (go_at_call 14; refine (stay_do HA.out (by omega) d HDV.out HK.out (fun h => absurd h HX.out)).mono ?_; rintro e w6 ⟨⟨bb, rfl⟩, hG, hkeep⟩; clear hkeep)
                      go_roundw
                      case rel => exact ⟨j + 1, by omega, by go_num, hG⟩
                      case measure => simp [intOf]; omega
                  · have kq : decide (d.kind ≥ 4) = true := by simp; omega
                    clear k4
                    go_wp2
                    go_roundw
                    case rel => exact ⟨j + 1, by omega, by go_num, HA.out.up (by omega)⟩
                    case measure => simp [intOf]; omega
                · obtain rfl : j = l2.length := by omega
                  have HA := Lib.hid hA
                  have HB := Lib.hid hbw
                  have qv : (v == v) = true := by simp
                  clear hA hbw H8
                  go_wp2_with (first
                    | (go_at_call 13; refine (end_crash HA.out A3 c3 keep (R3.out.below HB.out) M3.out).mono ?_; rintro e w6 ⟨rfl, f6, σ6, h6⟩; have H6 := Lib.hid h6; clear h6)
                    | (go_at_call 15; refine (end_load H6.out HI.out).mono ?_; rintro e w' ⟨rfl, rfl⟩)
                    | (go_at_call 17; refine (end_stays H6.out HI.out).mono ?_; rintro e w' ⟨rfl, rfl⟩)
                    | (go_at_call 20; refine (end_dirty H6.out).mono ?_; rintro e w7 ⟨⟨A7, c7, rfl⟩, b7⟩; have B7 := Lib.hid b7; clear b7))
                  go_ret
                  exact ⟨rfl, B7.out⟩
        · have q2 : decide (i ≥ 512) = true := by simp; omega
          clear hi0 hi1 L1 L2
          go_enter Try.func4, Try.ntmps4
          go_wp2_with fail
          refine (awake_true w).mono ?_
          rintro e w1 ⟨rfl, b1⟩
          go_wp2_with fail
          refine (few_any (R1.out.at_world b1) M1.out).mono ?_
          rintro e w2 ⟨rfl, b2⟩
          simp only [F1.out]
          have b12 := b1.trans (b2.mono b1.size)
          go_wp2_with fail
          refine (few_any (R2.out.at_world b12) M2.out).mono ?_
          rintro e w3 ⟨rfl, b3⟩
          simp only [F2.out]
          have B := Lib.hid (b12.trans (b3.mono b12.size))
          clear b1 b2 b12 b3
          go_wp2
          go_ret
          exact ⟨rfl, B.out⟩
    · have F2 := Lib.hid (show fewB l2 = false by simpa using f2)
      clear f2 L1
      go_enter Try.func4, Try.ntmps4
      go_wp2_with fail
      refine (awake_true w).mono ?_
      rintro e w1 ⟨rfl, b1⟩
      go_wp2_with fail
      refine (few_any (R1.out.at_world b1) M1.out).mono ?_
      rintro e w2 ⟨rfl, b2⟩
      simp only [F1.out]
      have b12 := b1.trans (b2.mono b1.size)
      go_wp2_with fail
      refine (few_any (R2.out.at_world b12) M2.out).mono ?_
      rintro e w3 ⟨rfl, b3⟩
      simp only [F2.out]
      have B := Lib.hid (b12.trans (b3.mono b12.size))
      clear b1 b2 b12 b3
      go_wp2
      go_ret
      exact ⟨rfl, B.out⟩
  · have F1 := Lib.hid (show fewB l1 = false by simpa using f1)
    clear f1
    go_enter Try.func4, Try.ntmps4
    go_wp2_with fail
    refine (awake_true w).mono ?_
    rintro e w1 ⟨rfl, b1⟩
    go_wp2_with fail
    refine (few_any (R1.out.at_world b1) M1.out).mono ?_
    rintro e w2 ⟨rfl, b2⟩
    simp only [F1.out]
    have B := Lib.hid (b1.trans (b2.mono b1.size))
    clear b1 b2
    go_wp2
    go_ret
    exact ⟨rfl, B.out⟩
end Go.Proofs.Ytlmfdfmndbfghaa
