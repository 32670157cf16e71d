import Derived.Test.YtlmfdfmndbfghaaPmArm
namespace Go.Proofs.Ytlmfdfmndbfghaa
open Wd Pm Go.Maps Go.RowKit
set_option linter.unusedVariables false

theorem ArmDev.alloc {w wr : World} {p : Value} {n : Int} {j : Nat} (h : ArmDev w p n j wr) (o : Obj) : ArmDev w p n j (wr.alloc o) := by
  obtain ⟨f, σ, e, d, fr, b, a⟩ := h
  exact ⟨f, σ, e, d.alloc o, fr, b.alloc b.size _, a⟩

def MadeArm (w : World) (n : Int) (e : Ending) (w' : World) : Prop := ∃ g : Nat, e = .returned (.pointer (some ⟨g, 0, none⟩)) ∧ ∃ f σ, f.ptr = .pointer (some ⟨g, 0, none⟩) ∧ Dev w' f σ ∧ Fresh w f ∧ Below w.heap.size w w' ∧ σ = .fresh 512
theorem new_arm (w w0 : World) (hb : Below w.heap.size w w0) (n : Int) : Calls Try.prog 9 #[.int .i64 512] w0 fun e w' => ∃ g : Nat, e = .returned (.pointer (some ⟨g, 0, none⟩)) ∧ ∃ f : Fp, f.p = g ∧ Dev w' f (.fresh 512) ∧ Fresh w f ∧ Below w.heap.size w w' := by
  refine (new_dev 512 w0).mono ?_
  rintro e w' ⟨f, rfl, d, n0, b⟩
  rw [show clampN 512 = 512 from by decide] at d
  exact ⟨f.p, rfl, f, rfl, d, fun k hk => Nat.le_trans hb.size (n0 k hk), hb.trans (b.mono hb.size)⟩
def ArmMade (w : World) (n : Int) (e : Ending) (w' : World) : Prop := ∃ g : Nat, e = .returned (.pointer (some ⟨g, 0, none⟩)) ∧ ∃ f : Fp, f.p = g ∧ Dev w' f (.fresh 512) ∧ Fresh w f ∧ Below w.heap.size w w'
def ArmEnd (w : World) (p : Value) (e : Ending) (w' : World) : Prop := e = .returned (.tuple #[]) ∧ ∃ f σ, f.ptr = p ∧ Dev w' f σ ∧ Fresh w f ∧ Below w.heap.size w w' ∧ σ.n = 512 ∧ σ.ev ≤ 50 ∧ σ.dead = false ∧ σ.ar = 0
theorem arm_end {w wr : World} {p : Value} {n : Int} {j : Nat} (h : ArmDev w p n j wr) (hn : 1 ≤ n) (hn' : n ≤ 40) : Calls Try.prog 13 #[p, .slice none 0 0] wr (ArmEnd w p) := by
  obtain ⟨f, σ, rfl, d, fr, b, a⟩ := h
  refine (crash_dev d w.heap.size fr b.size none 0 [] Row.nil (by decide)).mono ?_
  rintro e w' ⟨rfl, l, hl, g⟩
  obtain ⟨f', e', d', n', b'⟩ := g.fresh fr b
  refine ⟨rfl, f', _, e', d', n', b', a.size, ?_, rfl, rfl⟩
  show σ.ev ≤ 50
  by_cases h1 : (j : Int) < n
  · have := (a.before h1).2.2; omega
  · have := (a.behind (by omega)).2; omega

theorem Deeds.at_world {w w1 : World} {A : Option Addr} {l : List Deed} (h : Deeds w w.heap.size A l) (b1 : Below w.heap.size w w1) : Deeds w1 w1.heap.size A l := by
  have h1 := h.below b1
  exact ⟨fun hp => by obtain ⟨b, off, e, hB, hx⟩ := h1.at_ hp; exact ⟨b, off, e, Nat.lt_of_lt_of_le hB b1.size, hx⟩, fun d hd => by have := h1.ok d hd; exact ⟨this.kind, this.i, this.v, this.row.more b1.size, this.le⟩⟩
set_option maxRecDepth 100000 in
set_option maxHeartbeats 2000000 in
theorem armed_true (n : Int) (hn : (Lit.int .i64 n).wf = true) (A : Option Addr) (c : Nat) (l : List Deed) (w : World) (h : Deeds w w.heap.size A l) (hm : l.length ≤ maxLen) : Calls Try.prog 6 #[.int .i64 n, .slice A l.length c] w (TrueB w) := by
  have hm2 := hm
  unfold maxLen at hm2
  by_cases hq : fewB l = true ∧ 1 ≤ n ∧ n ≤ 40
  · obtain ⟨hf, n1, n2⟩ := hq
    have HF := Lib.hid hf
    have hl60 : l.length ≤ 60 := by unfold fewB at hf; simp at hf; exact hf.2
    have q1 : decide (n < 1) = false := by simp; omega
    have q2 : decide (n > 40) = false := by simp; omega
    clear hf
    go_enter Try.func6, Try.ntmps6
    go_wp2_with fail
    refine (awake_true w).mono ?_
    rintro e w1 ⟨rfl, b1⟩
    go_wp2_with fail
    refine (few_any (h.at_world b1) hm).mono ?_
    rintro e w2 ⟨rfl, b2⟩
    simp only [HF.out]
    have b12 := b1.trans (b2.mono b1.size)
    go_wp2_with fail
    refine (new_arm w w2 b12 n).mono ?_
    rintro e w3 ⟨g, rfl, f, rfl, d3, fr3, b3⟩
    go_wp2_with fail
    refine (arm_dev d3 n (by omega)).mono ?_
    rintro e w4 ⟨rfl, g4⟩
    obtain ⟨f4, e4, d4, fr4, b4⟩ := g4.fresh fr3 b3
    have hA4 : ArmDev w (.pointer (some ⟨f.p, 0, none⟩)) n 0 w4 := ⟨f4, _, e4, d4, fr4, b4, ⟨rfl, fun _ => ⟨rfl, by show max n 0 = _; omega, rfl⟩, fun h => by omega⟩⟩
    have HA4 := Lib.hid hA4
    clear hA4 e4 d4 fr4 b4 d3 fr3 b3 b12 b1 b2
    go_wp2
    go_loopw [6, 30] (fun k i wr => ArmRel w w4 (.pointer (some ⟨f.p, 0, none⟩)) n l k i wr) (fun _ i _ => l.length - (intOf i).toNat)
    case atStart => exact ⟨0, Nat.zero_le _, rfl, rfl, HA4.out⟩
    case round =>
      obtain ⟨j, hj, rfl, rfl, hA⟩ := hrel
      have hbw : Below w.heap.size w wr := by obtain ⟨_, _, _, _, _, b, _⟩ := hA; exact b
      by_cases hlt : j < l.length
      · obtain ⟨d, hd⟩ : ∃ d, l[j]? = some d := ⟨_, List.getElem?_eq_getElem hlt⟩
        have hD := h.below hbw
        obtain ⟨b, off, rfl, hbB, hx⟩ := hD.at_ (by omega)
        have ok := hD.ok d (List.mem_of_getElem? hd)
        have x0 : wr.cell? ⟨b, off + j * 4, none⟩ = some (.int .i64 d.kind) := hx j d hd 0 _ rfl
        have x1 : wr.cell? ⟨b, off + j * 4 + 1, none⟩ = some (.int .i64 d.i) := hx j d hd 1 _ rfl
        have x2 : wr.cell? ⟨b, off + j * 4 + 2, none⟩ = some (.int .u64 d.v) := hx j d hd 2 _ rfl
        have x3 : wr.cell? ⟨b, off + j * 4 + 3, none⟩ = some (.slice d.A d.keep.length d.cp) := hx j d hd 3 _ rfl
        have hv := ok.v
        have hband := i64_and63 d.i
        have hi : 0 ≤ d.i % 64 ∧ d.i % 64 < 64 := by omega
        have HA := Lib.hid (hA.alloc (.cells #[.int .i64 d.kind, .int .i64 d.i, .int .u64 d.v, .slice d.A d.keep.length d.cp] 32))
        have HI := Lib.hid hi
        have HV := Lib.hid hv
        clear hx hD hd ok hA hbw hi hv
        obtain ⟨er, her⟩ : ∃ er, armErr n j = er := ⟨_, rfl⟩
        by_cases hb1 : (j : Int) + 1 < n
        · obtain rfl : er = 0 := by rw [← her]; unfold armErr; rw [if_pos hb1]
          have p1 : decide ((j : Int) + 1 < n) = true := by simpa using hb1
          have p2 : decide ((j : Int) + 1 ≥ n) = false := by simp; omega
          have p3 : ((j : Int) + 1 != min ((j : Int) + 1) (n - 1)) = false := by simp; omega
          have HE := Lib.hid her
          have P2 := Lib.hid (show decide (n ≤ ((j + 1 : Nat) : Int)) = false by simp; omega)
          have P4 := Lib.hid (show (j : Int) + 1 = if ((j + 1 : Nat) : Int) < n then ((j + 1 : Nat) : Int) else n - 1 by rw [if_pos (by omega)]; omega)
          clear her hb1
          by_cases k1 : d.kind = 1
          · have kq : (d.kind == 1) = true := by simpa using k1
            clear k1
            go_wp2_with (first
              | (go_at_call 25; refine (arm_flush HA.out n1 n2 HE.out _ HI.out).mono ?_; rintro e w5 ⟨rfl, h5⟩)
              | (go_at_call 26; refine (arm_fence HA.out n1 n2 HE.out).mono ?_; rintro e w5 ⟨rfl, h5⟩)
              | (go_at_call 12; refine (arm_store HA.out n1 n2 HE.out _ _ HI.out HV.out).mono ?_; rintro e w5 ⟨rfl, h5⟩)
              | (go_at_call 22; refine (arm_dead h5 false P2.out).mono ?_; rintro e w' ⟨rfl, rfl⟩)
              | (go_at_call 24; refine (arm_events h5 ((j : Int) + 1) P4.out).mono ?_; rintro e w' ⟨rfl, rfl⟩))
            go_roundw
            case rel => exact ⟨j + 1, by omega, by go_num, by go_num, h5⟩
            case measure => simp [intOf]; omega
          · have kq : (d.kind == 1) = false := by simpa using k1
            clear k1
            by_cases k2 : d.kind = 2
            · have kq2 : (d.kind == 2) = true := by simpa using k2
              clear k2
              go_wp2_with (first
                | (go_at_call 25; refine (arm_flush HA.out n1 n2 HE.out _ HI.out).mono ?_; rintro e w5 ⟨rfl, h5⟩)
                | (go_at_call 26; refine (arm_fence HA.out n1 n2 HE.out).mono ?_; rintro e w5 ⟨rfl, h5⟩)
                | (go_at_call 12; refine (arm_store HA.out n1 n2 HE.out _ _ HI.out HV.out).mono ?_; rintro e w5 ⟨rfl, h5⟩)
                | (go_at_call 22; refine (arm_dead h5 false P2.out).mono ?_; rintro e w' ⟨rfl, rfl⟩)
                | (go_at_call 24; refine (arm_events h5 ((j : Int) + 1) P4.out).mono ?_; rintro e w' ⟨rfl, rfl⟩))
              go_roundw
              case rel => exact ⟨j + 1, by omega, by go_num, by go_num, h5⟩
              case measure => simp [intOf]; omega
            · have kq2 : (d.kind == 2) = false := by simpa using k2
              clear k2
              go_wp2_with (first
                | (go_at_call 25; refine (arm_flush HA.out n1 n2 HE.out _ HI.out).mono ?_; rintro e w5 ⟨rfl, h5⟩)
                | (go_at_call 26; refine (arm_fence HA.out n1 n2 HE.out).mono ?_; rintro e w5 ⟨rfl, h5⟩)
                | (go_at_call 12; refine (arm_store HA.out n1 n2 HE.out _ _ HI.out HV.out).mono ?_; rintro e w5 ⟨rfl, h5⟩)
                | (go_at_call 22; refine (arm_dead h5 false P2.out).mono ?_; rintro e w' ⟨rfl, rfl⟩)
                | (go_at_call 24; refine (arm_events h5 ((j : Int) + 1) P4.out).mono ?_; rintro e w' ⟨rfl, rfl⟩))
              go_roundw
              case rel => exact ⟨j + 1, by omega, by go_num, by go_num, h5⟩
              case measure => simp [intOf]; omega
        · obtain rfl : er = 5 := by rw [← her]; unfold armErr; rw [if_neg hb1]
          have p1 : decide ((j : Int) + 1 < n) = false := by simpa using hb1
          have p2 : decide ((j : Int) + 1 ≥ n) = true := by simp; omega
          have p3 : (n - 1 != min ((j : Int) + 1) (n - 1)) = false := by simp; omega
          have HE := Lib.hid her
          have P2 := Lib.hid (show decide (n ≤ ((j + 1 : Nat) : Int)) = true by simp; omega)
          have P4 := Lib.hid (show n - 1 = if ((j + 1 : Nat) : Int) < n then ((j + 1 : Nat) : Int) else n - 1 by rw [if_neg (by omega)])
          clear her hb1
          by_cases k1 : d.kind = 1
          · have kq : (d.kind == 1) = true := by simpa using k1
            clear k1
            go_wp2_with (first
              | (go_at_call 25; refine (arm_flush HA.out n1 n2 HE.out _ HI.out).mono ?_; rintro e w5 ⟨rfl, h5⟩)
              | (go_at_call 26; refine (arm_fence HA.out n1 n2 HE.out).mono ?_; rintro e w5 ⟨rfl, h5⟩)
              | (go_at_call 12; refine (arm_store HA.out n1 n2 HE.out _ _ HI.out HV.out).mono ?_; rintro e w5 ⟨rfl, h5⟩)
              | (go_at_call 22; refine (arm_dead h5 true P2.out).mono ?_; rintro e w' ⟨rfl, rfl⟩)
              | (go_at_call 24; refine (arm_events h5 (n - 1) P4.out).mono ?_; rintro e w' ⟨rfl, rfl⟩))
            go_roundw
            case rel => exact ⟨j + 1, by omega, by go_num, by go_num, h5⟩
            case measure => simp [intOf]; omega
          · have kq : (d.kind == 1) = false := by simpa using k1
            clear k1
            by_cases k2 : d.kind = 2
            · have kq2 : (d.kind == 2) = true := by simpa using k2
              clear k2
              go_wp2_with (first
                | (go_at_call 25; refine (arm_flush HA.out n1 n2 HE.out _ HI.out).mono ?_; rintro e w5 ⟨rfl, h5⟩)
                | (go_at_call 26; refine (arm_fence HA.out n1 n2 HE.out).mono ?_; rintro e w5 ⟨rfl, h5⟩)
                | (go_at_call 12; refine (arm_store HA.out n1 n2 HE.out _ _ HI.out HV.out).mono ?_; rintro e w5 ⟨rfl, h5⟩)
                | (go_at_call 22; refine (arm_dead h5 true P2.out).mono ?_; rintro e w' ⟨rfl, rfl⟩)
                | (go_at_call 24; refine (arm_events h5 (n - 1) P4.out).mono ?_; rintro e w' ⟨rfl, rfl⟩))
              go_roundw
              case rel => exact ⟨j + 1, by omega, by go_num, by go_num, h5⟩
              case measure => simp [intOf]; omega
            · have kq2 : (d.kind == 2) = false := by simpa using k2
              clear k2
              go_wp2_with (first
                | (go_at_call 25; refine (arm_flush HA.out n1 n2 HE.out _ HI.out).mono ?_; rintro e w5 ⟨rfl, h5⟩)
                | (go_at_call 26; refine (arm_fence HA.out n1 n2 HE.out).mono ?_; rintro e w5 ⟨rfl, h5⟩)
                | (go_at_call 12; refine (arm_store HA.out n1 n2 HE.out _ _ HI.out HV.out).mono ?_; rintro e w5 ⟨rfl, h5⟩)
                | (go_at_call 22; refine (arm_dead h5 true P2.out).mono ?_; rintro e w' ⟨rfl, rfl⟩)
                | (go_at_call 24; refine (arm_events h5 (n - 1) P4.out).mono ?_; rintro e w' ⟨rfl, rfl⟩))
              go_roundw
              case rel => exact ⟨j + 1, by omega, by go_num, by go_num, h5⟩
              case measure => simp [intOf]; omega
      · obtain rfl : j = l.length := by omega
        have HA := Lib.hid hA
        clear hA hbw
        go_wp2_with fail
        refine (arm_end HA.out n1 n2).mono ?_
        rintro e w6 ⟨rfl, f6, σ6, e6, d6, fr6, b6, s1, s2, s3, s4⟩
        have c7 := dead_dev d6
        rw [e6, s3] at c7
        go_wp2_with fail
        refine c7.mono ?_
        rintro e w' ⟨rfl, rfl⟩
        have c8 := store_dev d6 (by omega) 0 1 (by unfold U64; decide)
        have e8 : σ6.tried (hasW σ6.n 0) (·.hold 0 1) = ((σ6.drained.hold 0 1).counted, 0) := by
          rw [show hasW σ6.n 0 = true from hasW_iff.2 (by rw [s1]; decide)]
          exact aw_step (by rw [s3]; exact ref0) (by rw [s4]; decide)
        rw [e8, e6] at c8
        clear c7 e8
        go_wp2_with fail
        refine c8.mono ?_
        rintro e w8 ⟨rfl, g8⟩
        obtain ⟨f8, _, _, _, b8⟩ := g8.fresh fr6 b6
        have B8 := Lib.hid b8
        clear b8 g8 e6 s1 s2 s3 s4
        go_wp2
        go_ret
        exact ⟨rfl, B8.out⟩
  · clear hm2
    by_cases hf : fewB l = true
    · have HF := Lib.hid hf
      by_cases n1 : n < 1
      · have q1 : decide (n < 1) = true := by simpa using n1
        clear hq hf n1
        go_enter Try.func6, Try.ntmps6
        go_wp2_with fail
        refine (awake_true w).mono ?_
        rintro e w1 ⟨rfl, b1⟩
        go_wp2_with fail
        refine (few_any (h.at_world b1) hm).mono ?_
        rintro e w2 ⟨rfl, b2⟩
        simp only [HF.out]
        have B := Lib.hid (b1.trans (b2.mono b1.size))
        clear b1 b2
        go_wp2
        go_ret
        exact ⟨rfl, B.out⟩
      · have q1 : decide (n < 1) = false := by simpa using n1
        have q2 : decide (n > 40) = true := by
          have : ¬ (1 ≤ n ∧ n ≤ 40) := fun h => hq ⟨hf, h⟩
          simp; omega
        clear hq hf n1
        go_enter Try.func6, Try.ntmps6
        go_wp2_with fail
        refine (awake_true w).mono ?_
        rintro e w1 ⟨rfl, b1⟩
        go_wp2_with fail
        refine (few_any (h.at_world b1) hm).mono ?_
        rintro e w2 ⟨rfl, b2⟩
        simp only [HF.out]
        have B := Lib.hid (b1.trans (b2.mono b1.size))
        clear b1 b2
        go_wp2
        go_ret
        exact ⟨rfl, B.out⟩
    · have HF := Lib.hid (show fewB l = false by simpa using hf)
      clear hq hf
      go_enter Try.func6, Try.ntmps6
      go_wp2_with fail
      refine (awake_true w).mono ?_
      rintro e w1 ⟨rfl, b1⟩
      go_wp2_with fail
      refine (few_any (h.at_world b1) hm).mono ?_
      rintro e w2 ⟨rfl, b2⟩
      simp only [HF.out]
      have B := Lib.hid (b1.trans (b2.mono b1.size))
      clear b1 b2
      go_wp2
      go_ret
      exact ⟨rfl, B.out⟩
end Go.Proofs.Ytlmfdfmndbfghaa
