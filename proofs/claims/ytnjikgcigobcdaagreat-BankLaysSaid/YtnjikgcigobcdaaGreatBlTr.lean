import Derived.Test.YtnjikgcigobcdaaGreatBlLw
import Derived.Deep.LoopGhost
namespace Go.Proofs.YtnjikgcigobcdaaGreat
open Wd Pm Go.Maps Go.RowKit Go.Sort
set_option linter.unusedVariables false

def LysEnd (w : World) (p q : Nat) (σ : St) (ρ : RSt) (L : Nat) (idx : Value) (wr : World) : Prop := ∃ j : Nat, j ≤ L ∧ idx = .int .i64 j ∧ J w p q σ ρ wr
set_option maxRecDepth 100000 in
set_option maxHeartbeats 16000000 in
theorem lays_go (n at_ arm : Int) (harm : arm ≤ 9223372036854775807) (A : Option Addr) (c : Nat) (l : List Deed) (A3 : Option Addr) (c3 : Nat) (ws : List Int) (w : World) (r1 : Deeds w w.heap.size A l) (m1 : l.length ≤ maxLen) (r3 : RowB w A3 ws) (u3 : ∀ v ∈ ws, U64 v)
    (f1 : fewB l = true) (f3 : ws.length ≤ 200) (hn : n ≤ 4096) (h0 : 0 ≤ at_) (h1 : at_ ≤ 5000) :
    Calls Tryz.prog 3 #[.int .i64 n, .slice A l.length c, .int .i64 at_, .slice A3 ws.length c3, .int .i64 arm] w (TrueB w) := by
  have R1 := Lib.hid r1; have M1 := Lib.hid m1; have R3 := Lib.hid r3; have U3 := Lib.hid u3; have FEW := Lib.hid f1; have F3 := Lib.hid f3; have ARM := Lib.hid harm
  have L1 : l.length ≤ 60 := by unfold fewB at f1; simp at f1; exact f1.2
  obtain ⟨L, hL⟩ : ∃ L, ws.length = L := ⟨_, rfl⟩
  have HL := Lib.hid hL
  rw [hL] at f3 ⊢
  have dL := Lib.hid (decide_eq_true f3)
  have q1 : decide (n > 4096) = false := by simp; omega
  have q2 : decide (at_ < 0) = false := by simp; omega
  have q3 : decide (at_ > 5000) = false := by simp; omega
  clear r1 m1 r3 u3 f1 hL harm
  go_enter Tryz.func3, Tryz.ntmps3
  go_wp2_with fail
  refine (awake_bank w).mono ?_
  rintro e w1 ⟨rfl, b1⟩
  go_wp2_with fail
  refine (few_any (deeds_at R1.out b1) M1.out).mono ?_
  rintro e w2 ⟨rfl, b2⟩
  rw [FEW.out]
  have b12 := b1.trans (b2.mono b1.size)
  clear b1 b2 FEW
  go_wp2_with fail
  refine (few_is _ _ _ _).mono ?_
  rintro e w' ⟨rfl, rfl⟩
  rw [dL.out]
  clear dL
  go_wp2_with fail
  refine (new_dev n w2).mono ?_
  rintro e w3 ⟨f, rfl, d3, fr3, b3⟩
  unfold Fp.ptr
  go_wp2_with fail
  refine (rnew_dev n w3 w.heap.size (b12.trans (b3.mono b12.size)).size).mono ?_
  rintro e w4 ⟨rfl, rd4, b4⟩
  obtain ⟨q, hq⟩ : ∃ q, w3.heap.size = q := ⟨_, rfl⟩
  rw [hq] at rd4 ⊢
  have hs := dst_new (b12.trans (b3.mono b12.size)) d3 (fun k hk => Nat.le_trans b12.size (fr3 k hk)) (by rw [← hq] at *; exact b4) rd4
  obtain ⟨p, hpp⟩ : ∃ p, f.p = p := ⟨_, rfl⟩
  rw [hpp] at hs ⊢
  have HS := Lib.hid hs
  clear hs rd4 b4 d3 fr3 b3 b12 hq hpp q1 q2 q3
  go_wp2
  go_loopw [44] (fun idx wr => LysRel w p q l.length idx wr) (fun idx _ => l.length - (intOf idx).toNat)
  case atStart => exact ⟨0, Nat.zero_le _, rfl, HS.out⟩
  case round =>
    obtain ⟨j, hj, rfl, hA⟩ := hrel
    have hbw := hA.is_below
    by_cases hlt : j < l.length
    · obtain ⟨d, hd⟩ : ∃ d, l[j]? = some d := ⟨_, List.getElem?_eq_getElem hlt⟩
      have hD := R1.out.below hbw
      obtain ⟨b, off, rfl, hbB, hx⟩ := hD.at_ (by omega)
      have ok := hD.ok d (List.mem_of_getElem? hd)
      have x0 : wr.cell? ⟨b, off + j * 4, none⟩ = some (.int .i64 d.kind) := hx j d hd 0 _ rfl
      have x1 : wr.cell? ⟨b, off + j * 4 + 1, none⟩ = some (.int .i64 d.i) := hx j d hd 1 _ rfl
      have x2 : wr.cell? ⟨b, off + j * 4 + 2, none⟩ = some (.int .u64 d.v) := hx j d hd 2 _ rfl
      have x3 : wr.cell? ⟨b, off + j * 4 + 3, none⟩ = some (.slice d.A d.keep.length d.cp) := hx j d hd 3 _ rfl
      have HOK := Lib.hid ok
      have HB := Lib.hid hbw
      have HA := Lib.hid (hA.alloc (.cells (deedC d) 34))
      clear hx hD hd ok hA hbw
      have i0 : (0 : Int) ≤ (j : Int) := by omega
      have i1 : (j : Int) < (l.length : Int) := by omega
      by_cases k6 : d.kind = 6
      · have kq : (d.kind != 6) = false := by simpa using k6
        clear k6
        go_wp2
        go_roundw
        case rel => exact ⟨j + 1, by omega, by go_num, HA.out.up (by omega)⟩
        case measure => simp [intOf]; omega
      · have kq : (d.kind != 6) = true := by simpa using k6
        clear k6
        go_wp2_with (go_at_call 9; refine (d_do HA.out (by omega) d (HOK.out.below ((Below.refl _ _).alloc HB.out.size _))).mono ?_; rintro e w5 ⟨rfl, h5, k5⟩; have H5 := Lib.hid h5; clear h5 k5)
        go_roundw
        case rel => exact ⟨j + 1, by omega, by go_num, H5.out⟩
        case measure => simp [intOf]; omega
    · obtain ⟨f, σ, ρ, e, dv, fr, bw, sm, hev, hll, rd⟩ := hA
      have hJ : J w p q σ ρ wr := ⟨f, e, dv, fr, bw, rd⟩
      have HJ := Lib.hid hJ
      have SM := Lib.hid (same_arm sm arm)
      have HE := Lib.hid (⟨hev, hll⟩ : σ.ev ≤ j ∧ ρ.l.length ≤ j)
      have EV := Lib.hid (show ρ.ev ≤ 1000 by have := sm.ev; omega)
      have HB0 := Lib.hid bw
      clear hJ e dv fr bw sm hev hll rd hbw HS
      go_wp2_with fail
      refine (j_arm HJ.out arm ARM.out).mono ?_
      rintro e w5 ⟨rfl, j5⟩
      have J5 := Lib.hid j5
      clear j5 HJ
      go_wp2_with fail
      refine (j_rarm J5.out arm ARM.out).mono ?_
      rintro e w6 ⟨rfl, j6⟩
      have J6 := Lib.hid j6
      clear j6 J5
      have hrun := run_same (both_lay at_ ws) SM.out
      have hlen : (runR (layR at_ ws) { ρ with ar := max arm 0 }).1.l.length ≤ 1000 := by
        have hsm : ∀ o ∈ layR at_ ws, LittleR o := fun o ho => by
          unfold layR at ho
          split at ho
          · cases ho
          · simp only [List.mem_append, List.mem_singleton] at ho
            rcases ho with h | h | rfl
            · exact storesR_little _ _ o h
            · exact flushR_little _ _ o h
            · exact little_fence
        have hl2 : (layR at_ ws).length ≤ 2 * ws.length + 3 := by
          unfold layR
          split
          · simp
          · rw [List.length_append, List.length_append, storesR_len, flushR_len]
            have := linesN_le at_ ws.length
            simp; omega
        have h2 := (runR_little (layR at_ ws) { ρ with ar := max arm 0 } hsm).2
        have h3 := HE.out.2; have h4 := F3.out
        have h5 : ({ ρ with ar := max arm 0 } : RSt).l.length = ρ.l.length := rfl
        omega
      have KP := fun (ρx : RSt) (wx : World) (h : J w p q { σ with ar := max arm 0 } ρx wx) => j_lay A3 c3 ws R3.out U3.out F3.out at_ h0 h1 (by have := HE.out.1; show σ.ev ≤ 1000; omega) h
      have KQ := fun (σx : St) (wx : World) (h : J w p q σx { ρ with ar := max arm 0 } wx) => j_rlay (ρ0 := { ρ with ar := max arm 0 }) A3 c3 ws R3.out U3.out F3.out at_ h0 h1 EV.out (by have := HE.out.2; show ρ.l.length ≤ 1000; omega) h
      rw [← hrun.1] at KQ
      have SM1 := hrun.2
      obtain ⟨er, her⟩ : ∃ er, (runS (layA at_ ws) { σ with ar := max arm 0 }).2 = er := ⟨_, rfl⟩
      obtain ⟨σ1, hσ1⟩ : ∃ x, (runS (layA at_ ws) { σ with ar := max arm 0 }).1 = x := ⟨_, rfl⟩
      obtain ⟨ρ1, hρ1⟩ : ∃ x, (runR (layR at_ ws) { ρ with ar := max arm 0 }).1 = x := ⟨_, rfl⟩
      rw [her, HL.out, hσ1] at KP
      rw [her, HL.out, hρ1] at KQ
      rw [hσ1, hρ1] at SM1
      rw [hρ1] at hlen
      have SAME := Lib.hid SM1
      have KPH := Lib.hid KP; have KQH := Lib.hid KQ
      have KDD := Lib.hid (fun (wx : World) (h : J w p q σ1 ρ1 wx) => j_dead h)
      have KLD := Lib.hid (fun (wx : World) (h : J w p q σ1 ρ1 wx) => j_cell h SM1)
      have KDY := Lib.hid (fun (wx : World) (h : J w p q σ1 ρ1 wx) => j_dirty h SM1)
      have KRY := Lib.hid (fun (wx : World) (h : J w p q σ1 ρ1 wx) => j_rdirty h)
      have LD : (dirtyR ρ1.l).length ≤ 1000 := by have := dirtyR_le ρ1.l; omega
      have LDH := Lib.hid LD
      obtain ⟨dd, hdd⟩ : ∃ dd, σ1.dead = dd := ⟨_, rfl⟩
      rw [hdd] at KDD KLD
      obtain ⟨nd, hnd⟩ : ∃ nd, (dirtyR ρ1.l).length = nd := ⟨_, rfl⟩
      rw [hnd] at KDY KRY
      have ND := Lib.hid hnd
      have KSI : ∀ (wx : World) (X : Option Addr) (cx : Nat) (Y : Option Addr) (cy : Nat), IRowT wx X (dirtyR ρ1.l) → IRowT wx Y (dirtyR ρ1.l) → Calls Tryz.prog 15 #[.slice X nd cx, .slice Y nd cy] wx fun e w' => e = .returned (.bool true) ∧ Below wx.heap.size wx w' := fun wx X cx Y cy hx hy => by
        have h := t_same (c := cx) (d := cy) LDH.out (Below.refl wx.heap.size wx) hx hy
        rw [ND.out] at h
        refine h.mono ?_
        rintro e w' ⟨he, hb, _⟩
        exact ⟨he, hb⟩
      have KSIH := Lib.hid KSI
      clear KSI
      clear hrun hlen KP KQ SM1 her hσ1 hρ1 LD hdd hnd EV HE SM HB0
      have j0 : J w p q { σ with ar := max arm 0 } { ρ with ar := max arm 0 } w6.drew := J6.out.below (below_drewN (Below.refl _ _) 1)
      have J0 := Lib.hid j0
      clear j0
      go_upto_region 14 with fail
      go_cut [87] from 62 to 88 (fun cc wx => cc = .bool false ∧ J w p q σ1 ρ1 wx)
      case first =>
        go_region_with (first
          | (go_at_call 12; first
              | (refine (KPH.out _ _ jR).mono ?_; rintro e' wP ⟨rfl, jP⟩; have kd := KLD.out _ jP; have jF := jP)
              | (refine (KPH.out _ _ J0.out).mono ?_; rintro e' wP ⟨rfl, jP⟩))
          | (go_at_call 13; first
              | (refine (KQH.out _ _ jP).mono ?_; rintro e' wR ⟨rfl, jR⟩; have kd := KLD.out _ jR; have jF := jR)
              | (refine (KQH.out _ _ J0.out).mono ?_; rintro e' wR ⟨rfl, jR⟩))
          | (go_at_call 14; refine (KDD.out _ jF).mono ?_; rintro e' wD ⟨rfl, rfl⟩)
          | (go_at_call 16; first
              | (refine (KDY.out _ jZ).mono ?_; rintro e' wY ⟨AY, cY, rfl, rY, bY⟩; have jG := jZ.below bY; have rZG := rZ.below bY; have rYG := rY)
              | (refine (KDY.out _ jF).mono ?_; rintro e' wY ⟨AY, cY, rfl, rY, bY⟩; have jY := jF.below bY))
          | (go_at_call 17; first
              | (refine (KRY.out _ jY).mono ?_; rintro e' wZ ⟨AZ, cZ, rfl, rZ, bZ⟩; have jG := jY.below bZ; have rYG := rY.below bZ; have rZG := rZ)
              | (refine (KRY.out _ jF).mono ?_; rintro e' wZ ⟨AZ, cZ, rfl, rZ, bZ⟩; have jZ := jF.below bZ))
          | (go_at_call 15; refine (KSIH.out _ _ _ _ _ rYG rZG).mono ?_; rintro e' wS ⟨rfl, bS⟩; have jS := jG.below bS))
        all_goals
          have JS := Lib.hid jS
          clear jS
          go_wp2
          go_meet
          exact ⟨rfl, JS.out⟩
      case rest =>
      obtain ⟨rfl, hJ⟩ := hcut
      have HJ := Lib.hid hJ
      clear hJ KPH KQH KDD KLD KDY KRY KSIH J0 J6 LDH ND
      go_wp2
      go_loopw [90] (fun idx wr => LysEnd w p q σ1 ρ1 L idx wr) (fun idx _ => L - (intOf idx).toNat)
      case atStart => exact ⟨0, Nat.zero_le _, rfl, HJ.out⟩
      case round =>
        obtain ⟨i, hi, rfl, hJ⟩ := hrel
        have HJ2 := Lib.hid hJ
        clear hJ
        by_cases hlt2 : i < L
        · have i1 : (i : Int) < (L : Int) := by omega
          have i0 : (0 : Int) ≤ (i : Int) := by omega
          have q1 : IntKind.i64.wrap (at_ + (i : Int)) = at_ + (i : Int) := wrapI (by omega) (by omega)
          have KS1 := j_stays HJ2.out (at_ + i)
          have KS2 := j_rstays HJ2.out SAME.out (at_ + i)
          obtain ⟨sv, hsv⟩ : ∃ sv, σ1.stays (at_ + i) = sv := ⟨_, rfl⟩
          rw [hsv] at KS1 KS2
          have KH1 := Lib.hid KS1; have KH2 := Lib.hid KS2
          clear KS1 KS2 hsv
          go_wp2_with fail
          refine (KH1.out).mono ?_
          rintro e w7 ⟨rfl, rfl⟩
          go_wp2_with fail
          refine (KH2.out).mono ?_
          rintro e w8 ⟨rfl, b8⟩
          have HJ3 := Lib.hid (HJ2.out.below b8)
          clear b8 KH1 KH2
          go_wp2
          go_roundw
          case rel => exact ⟨i + 1, by omega, by go_num, HJ3.out⟩
          case measure => simp [intOf]; omega
        · go_wp2
          go_ret
          exact ⟨rfl, HJ2.out.b⟩
end Go.Proofs.YtnjikgcigobcdaaGreat
