import Derived.Test.YtcmgngjafnpnoaaFdAw
import Derived.Test.YtcmgngjafnpnoaaFdX
import Derived.Test.YtcmgngjafnpnoaaFdIx
import Derived.Deep.DeepCutAuto
import Derived.Deep.CutBlock
/-! The law FdDoes. -/
namespace Go.Proofs.Ytcmgngjafnpnoaa
open Wd Go.RowKit Go.ChangeShapes Go.WideShapes Go.Sort
set_option linter.unusedVariables false
set_option maxRecDepth 100000
theorem do_w {k : Nat} (h : k < 1000) : wrap64 ((k : Int) + 1) = (k : Int) + 1 := by unfold wrap64; omega
theorem do_w2 {k : Nat} (h : k < 1000) : IntKind.i64.wrap ((k : Int) + 1) = (k : Int) + 1 := by rw [IntKind.wrap_i64]; omega
theorem do_t {a : Nat} (h : a < 16) : Int.tmod (a : Int) 16 = (a : Int) := by
  rw [Int.tmod_eq_emod_of_nonneg (by omega)]; omega
theorem do_w3 {a : Nat} (h : a < 16) : IntKind.i64.wrap (a : Int) = (a : Int) := by rw [IntKind.wrap_i64]; omega
theorem do_w4 {a : Nat} (h : a < 16) : wrap64 (a : Int) = (a : Int) := by unfold wrap64; omega
theorem do_m7 {a : Nat} (h : a < 16) : (a : Int) % 16 = (a : Int) := by omega
theorem do_m4 (a : Nat) : max (a : Int) 0 = (a : Int) := by omega
theorem do_m9 (a : Nat) : ¬ (a : Int) < 0 := by omega
theorem do_e (N : Nat) : ((N : Int) == 16) = decide (N = 16) := by
  by_cases h : N = 16
  · rw [h]; rfl
  · rw [decide_eq_false h, beq_eq_false_iff_ne]; omega
theorem dec_lt {a b : Nat} (h : a < b) : decide ((a : Int) < (b : Int)) = true := decide_eq_true (Int.ofNat_lt.2 h)
abbrev XT : TypeId := 28
def DoSt (F : FdFace) (w1 : World) (g q : Nat) (T : List Opn) (wr : World) : Prop := GoodT T ∧ F.st wr g T ∧ Cells wr q XT (ocells T).toArray ∧ Below w1.heap.size w1 wr
def DoRel (F : FdFace) (w1 : World) (g q n : Nat) (i : Value) (wr : World) : Prop := ∃ (k : Nat) (T : List Opn), k ≤ n ∧ i = .int .i64 k ∧ DoSt F w1 g q T wr
def FrRel (T : List Opn) (w : World) (f : Value) (wr : World) : Prop := ∃ k : Nat, f = .int .i64 k ∧ FreeUp T k ∧ wr = w
def AlRel (F : FdFace) (w1 : World) (g q : Nat) (T : List Opn) (A : Option Addr) (ino : Int) (nv uv i : Value) (wr : World) : Prop := ∃ k : Nat, k ≤ 16 ∧ i = .int .i64 k ∧ nv = .int .i64 ((allT (T.take k)).length : Nat) ∧ uv = .int .i64 (usersT (T.take k) ino : Nat) ∧ DoSt F w1 g q T wr ∧ OpRow wr A (allT T)
theorem info28 : (Try.prog.info? 28).map (·.size) = some 48 := by kernel_rfl
set_option maxHeartbeats 64000000 in
theorem fdDoes_law (F : FdFace) {w : World} {A : Option Addr} {c : Nat} {l : List Fdd} (hl : DdRow w A l) (hok : ∀ d ∈ l, i64R d.fd) (ino : Int) : Calls Try.prog 3 #[.slice A l.length c, .int .i64 ino] w (TrueB w) := by
  have hfol : Try.prog.follows .mixedOrders = true := by kernel_rfl
  have KA := Lib.hid (fdAwake F w)
  have HL := Lib.hid hl; have HOK := Lib.hid hok
  clear hl hok
  go_enter Try.func3, Try.ntmps3
  go_wp2_with fail
  refine (KA.out).mono ?_
  rintro e w1 ⟨rfl, hb1⟩
  have B1 := Lib.hid hb1
  have KN := Lib.hid (F.new w1)
  clear hb1 KA
  by_cases h30 : 60 < l.length
  · have q1 : decide (60 < l.length) = true := decide_eq_true h30
    have q2 : decide ((l.length : Int) > 60) = true := decide_eq_true (by omega)
    clear h30
    go_wp2
    go_ret
    exact ⟨rfl, B1.out⟩
  have q1 : decide (60 < l.length) = false := decide_eq_false h30
  have q2 : decide ((l.length : Int) > 60) = false := decide_eq_false (by omega)
  have H30 := Lib.hid h30
  clear h30
  go_wp2_with fail
  refine (KN.out).mono ?_
  rintro e w2 ⟨g, rfl, st2, hb2, hg⟩
  have B2 := Lib.hid hb2
  have hgl := F.lt st2
  obtain ⟨w3, hw3⟩ : ∃ w3, w2.alloc (.cells (ocells noneT).toArray XT) = w3 := ⟨_, rfl⟩
  have hb3 : Below w2.heap.size w2 w3 := by rw [← hw3]; exact below_of_grown (World.grownBy_alloc w2 _ none)
  have hc3 : Cells w3 w2.heap.size XT (ocells noneT).toArray := by rw [← hw3]; exact Cells.new _ _ _
  have D3 := Lib.hid (show DoSt F w1 g w2.heap.size noneT w3 from ⟨GoodT.none, FdFace.below st2 hb3, hc3, hb2.trans (hb3.mono hb2.size)⟩)
  have hgq : g ≠ w2.heap.size := by omega
  have hq1 : w1.heap.size ≤ w2.heap.size := hb2.size
  clear hb2 st2 KN hb3 hc3
  unfold fptr
  go_wp2
  have hlit : w2.alloc (.cells #[.int .i64 0, .int .i64 0, .int .i64 0, .int .i64 0, .int .i64 0, .int .i64 0, .int .i64 0, .int .i64 0, .int .i64 0, .int .i64 0, .int .i64 0, .int .i64 0, .int .i64 0, .int .i64 0, .int .i64 0, .int .i64 0, .int .i64 0, .int .i64 0, .int .i64 0, .int .i64 0, .int .i64 0, .int .i64 0, .int .i64 0, .int .i64 0, .int .i64 0, .int .i64 0, .int .i64 0, .int .i64 0, .int .i64 0, .int .i64 0, .int .i64 0, .int .i64 0, .int .i64 0, .int .i64 0, .int .i64 0, .int .i64 0, .int .i64 0, .int .i64 0, .int .i64 0, .int .i64 0, .int .i64 0, .int .i64 0, .int .i64 0, .int .i64 0, .int .i64 0, .int .i64 0, .int .i64 0, .int .i64 0] 28) = w3 := hw3
  rw [hlit]
  clear hlit hw3
  obtain ⟨n, hn⟩ : ∃ n, l.length = n := ⟨_, rfl⟩
  have HN := Lib.hid hn
  rw [hn] at H30 q1 q2 ⊢
  clear hn
  obtain ⟨q, hqq⟩ : ∃ q, w2.heap.size = q := ⟨_, rfl⟩
  rw [hqq] at D3 hgq hq1 ⊢
  clear hqq hgl
  go_loopw [32] (fun i wr => DoRel F w1 g q n i wr) (fun i _ => n - (intOf i).toNat)
  case atStart => exact ⟨0, noneT, Nat.zero_le _, rfl, D3.out⟩
  case round =>
    obtain ⟨k, T, hk, rfl, gd, st, hx, hb⟩ := hrel
    by_cases hlt : k < n
    · have hlt2 : (k : Int) < (n : Int) := Int.ofNat_lt.2 hlt
      have qw := do_w (k := k) (by have := H30.out; omega)
      have qw2 := do_w2 (k := k) (by have := H30.out; omega)
      obtain ⟨d, hd⟩ : ∃ d, l[k]? = some d := ⟨_, List.getElem?_eq_getElem (by rw [HN.out]; exact hlt)⟩
      obtain ⟨b, off, rfl, hbl, x0, x1, x2, x3, x4⟩ := ddrow_cells ((HL.out.below B1.out).below (hb.mono (Nat.le_refl _))) hd
      have hfd := HOK.out d (List.mem_of_getElem? hd)
      obtain ⟨dk, df, di, do_, dfl⟩ := d
      dsimp only at x0 x1 x2 x3 x4 hfd
      obtain ⟨w4, hw4⟩ : ∃ w4, wr.alloc (.cells #[.int .i64 dk, .int .i64 df, .int .i64 di, .int .i64 do_, .int .i64 dfl] 30) = w4 := ⟨_, rfl⟩
      have hb4 : Below wr.heap.size wr w4 := by rw [← hw4]; exact below_of_grown (World.grownBy_alloc wr _ none)
      have hc4 : Cells w4 wr.heap.size 30 #[.int .i64 dk, .int .i64 df, .int .i64 di, .int .i64 do_, .int .i64 dfl] := by rw [← hw4]; exact Cells.new _ _ _
      have D4 := Lib.hid (show DoSt F w1 g q T w4 from ⟨gd, FdFace.below st hb4, hx.below' hb4, hb.trans (hb4.mono hb.size)⟩)
      have C4 := Lib.hid hc4
      have hgp : wr.heap.size ≠ g := by have := F.lt st; omega
      have hqp : wr.heap.size ≠ q := by have := hx.lt; omega
      have HLT := Lib.hid hlt; have HFD := Lib.hid hfd
      clear hb4 hc4 gd st hx hb hd hbl hk hlt hfd
      go_upto_region 10 with fail
      try rw [hw4]
      clear hw4 x0 x1 x2 x3 x4
      obtain ⟨p, hp⟩ : ∃ p, wr.heap.size = p := ⟨_, rfl⟩
      rw [hp] at C4 hgp hqp ⊢
      clear hp
      obtain ⟨fr, hfr0⟩ : ∃ f, freeT T = f := ⟨_, rfl⟩
      have HFR0 := Lib.hid hfr0
      clear hfr0
      go_upto_block 2 with fail
      go_cut [9] from 36 to 46 (fun v wx => v = .int .i64 (fr : Nat) ∧ wx = w4)
      case first => as_aux_lemma =>
        go_wp2_with fail
        go_loopw [9] (fun f wr => FrRel T w4 f wr) (fun f _ => 16 - (intOf f).toNat)
        case atStart => exact ⟨0, rfl, FreeUp.zero T, rfl⟩
        case round =>
          obtain ⟨f, rfl, hf, rfl⟩ := hrel
          have qf := do_w (k := f) (by have := hf.1; omega)
          have qf2 := do_w2 (k := f) (by have := hf.1; omega)
          obtain ⟨gd, st, hx, hb⟩ := D4.out
          have hlen := gd.1
          by_cases hf16 : f < 16
          · have r1 : decide (f < 16) = true := decide_eq_true hf16
            have r1b : decide ((f : Int) < 16) = true := decide_eq_true (by omega)
            have r1c : (f : Int) < 16 := by omega
            obtain ⟨o, ho⟩ : ∃ o, T[f]? = some o := ⟨_, List.getElem?_eq_getElem (by omega)⟩
            obtain ⟨y0, _, _⟩ := x_cells hx ho
            by_cases hz : o.ino = 0
            · have hfr := hf.at_ ho hz
              rw [hz] at y0
              have HFR := Lib.hid hfr
              clear hf hf16 ho hz gd st hx hb hlen hfr
              go_wp2
              go_meet
              exact ⟨by rw [← HFR0.out, HFR.out], rfl⟩
            · have r2 : (o.ino != 0) = true := by simpa using hz
              have HST := Lib.hid (hf.step ho hlen hz)
              obtain ⟨z, hzz⟩ : ∃ z, o.ino = z := ⟨_, rfl⟩
              rw [hzz] at y0 r2
              have HF16 := Lib.hid hf16
              clear hf hf16 ho hz gd st hx hb hlen hzz
              go_wp2
              go_roundw
              case rel => exact ⟨f + 1, by go_num, HST.out, rfl⟩
              case measure => simp [intOf]; have := HF16.out; omega
          · have r1 : decide (f < 16) = false := decide_eq_false hf16
            have r1b : decide ((f : Int) < 16) = false := decide_eq_false (by omega)
            obtain rfl : f = 16 := by have := hf.1; omega
            have hfr := hf.full hlen
            have HFR := Lib.hid hfr
            clear hf hf16 gd st hx hb hlen hfr
            go_wp2
            go_meet
            exact ⟨by rw [← HFR0.out, HFR.out], rfl⟩
      case rest =>
      obtain ⟨rfl, rfl⟩ := hcut
      have K1 := Lib.hid (F.next D4.out.2.1 D4.out.1)
      obtain ⟨B, hB⟩ : ∃ B, nextB T = B := ⟨_, rfl⟩
      obtain ⟨V, hV⟩ : ∃ V, nextV T = V := ⟨_, rfl⟩
      rw [hB, hV] at K1
      have HBB := Lib.hid hB; have HVV := Lib.hid hV
      clear hB hV
      unfold fptr RetIB at K1
      go_wp2_with fail
      refine (K1.out).mono ?_
      rintro e w5 ⟨rfl, hb5⟩
      have D5 := Lib.hid (show DoSt F w1 g q T w5 from ⟨D4.out.1, FdFace.below D4.out.2.1 hb5, D4.out.2.2.1.below' hb5, D4.out.2.2.2.trans (hb5.mono D4.out.2.2.2.size)⟩)
      have C5 := Lib.hid (C4.out.below' hb5)
      clear hb5 K1
      go_upto_region 14 with fail
      go_cut [71] from 52 to 71 (fun v wx => v = .bool false ∧ wx = w5)
      case first => as_aux_lemma =>
        have hBf : B = decide (fr < 16) := by rw [← HBB.out, ← HFR0.out]; rfl
        have hVf : V = if fr < 16 then fr else 0 := by rw [← HVV.out, ← HFR0.out]; rfl
        by_cases hf16 : fr < 16
        · rw [decide_eq_true hf16] at hBf
          rw [if_pos hf16] at hVf
          subst hBf hVf
          have r1 : decide (V < 16) = true := decide_eq_true hf16
          have r1b : decide ((V : Int) < 16) = true := decide_eq_true (by omega)
          have r2 : ((V : Int) != (V : Int)) = false := by simp
          clear hf16
          go_wp2
          go_meet
          exact ⟨rfl, rfl⟩
        · rw [decide_eq_false hf16] at hBf
          rw [if_neg hf16] at hVf
          subst hBf hVf
          have r1 : decide (fr < 16) = false := decide_eq_false hf16
          have r1b : decide ((fr : Int) < 16) = false := decide_eq_false (by omega)
          clear hf16
          go_wp2
          go_meet
          exact ⟨rfl, rfl⟩
      case rest =>
      obtain ⟨rfl, hcw0⟩ := hcut
      have hcw := hcw0.symm
      subst hcw
      obtain ⟨I, hI⟩ : ∃ I, isT T df = I := ⟨_, rfl⟩
      have HI := Lib.hid hI
      clear hI
      have c0 : w5.cell? ⟨p, 0, none⟩ = some (.int .i64 dk) := C5.out.cell 0
      have c1 : w5.cell? ⟨p, 1, none⟩ = some (.int .i64 df) := C5.out.cell 1
      have c2 : w5.cell? ⟨p, 2, none⟩ = some (.int .i64 di) := C5.out.cell 2
      have c3 : w5.cell? ⟨p, 3, none⟩ = some (.int .i64 do_) := C5.out.cell 3
      have c4 : w5.cell? ⟨p, 4, none⟩ = some (.int .i64 dfl) := C5.out.cell 4
      go_upto_region 16 with fail
      go_cut [12] from 72 to 89 (fun v wx => v = .bool I ∧ wx = w5)
      case first => as_aux_lemma =>
        by_cases h0 : 0 ≤ df
        · by_cases h1 : df < 16
          · obtain ⟨a, rfl⟩ : ∃ a : Nat, df = (a : Int) := ⟨df.toNat, (Int.toNat_of_nonneg h0).symm⟩
            have ha : a < 16 := Int.ofNat_lt.1 h1
            obtain ⟨gd, st, hx, hb⟩ := D5.out
            obtain ⟨o, ho⟩ : ∃ o, T[a]? = some o := ⟨_, List.getElem?_eq_getElem (by rw [gd.1]; exact ha)⟩
            have hIo := isT_at h0 h1 (by rw [Int.toNat_natCast]; exact ho)
            rw [HI.out] at hIo
            obtain ⟨y0, _, _⟩ := x_cells hx ho
            have m1 : decide ((a : Int) ≥ 0) = true := decide_eq_true h0
            have m1b : decide (0 ≤ (a : Int)) = true := decide_eq_true h0
            have m2 : decide ((a : Int) < 16) = true := decide_eq_true h1
            have m2b : decide (a < 16) = true := decide_eq_true ha
            have m3 : (if (a : Int) < 0 then (0 : Int) else (a : Int)) = (a : Int) := if_neg (do_m9 a)
            have m4 : max (a : Int) 0 = (a : Int) := do_m4 a
            have m5 := do_t ha
            have m6 := do_w3 ha
            have m7 : (a : Int) % 16 = (a : Int) := do_m7 ha
            have m8 := do_w4 ha
            have m9 : ¬ (a : Int) < 0 := do_m9 a
            have m10 : (o.ino != 0) = I := by rw [hIo]; by_cases hz : o.ino = 0 <;> simp [hz]
            obtain ⟨z, hz⟩ : ∃ z, o.ino = z := ⟨_, rfl⟩
            rw [hz] at y0 m10
            clear gd st hx hb ho hIo hz
            go_wp2
            go_meet
            exact ⟨rfl, rfl⟩
          · have hIo : I = false := by rw [← HI.out]; exact isT_out (fun h => h1 h.2)
            subst hIo
            have m1 : decide (df ≥ 0) = true := decide_eq_true h0
            have m1b : decide (0 ≤ df) = true := decide_eq_true h0
            have m2 : decide (df < 16) = false := decide_eq_false h1
            clear h0 h1
            go_wp2
            go_meet
            exact ⟨rfl, rfl⟩
        · have hIo : I = false := by rw [← HI.out]; exact isT_out (fun h => h0 h.1)
          subst hIo
          have m1 : decide (df ≥ 0) = false := decide_eq_false h0
          have m1b : decide (0 ≤ df) = false := decide_eq_false h0
          clear h0
          go_wp2
          go_meet
          exact ⟨rfl, rfl⟩
      case rest =>
      obtain ⟨rfl, hcw0⟩ := hcut
      have hcw := hcw0.symm
      subst hcw
      have HA := Lib.hid (fun (x y : Opn) (w : World) => neO_any x y w)
      go_upto_block 4 with fail
      go_cut [13, 14, 15, 16, 17, 18] from 92 to 190 (fun _ _ _ _ _ _ wx => ∃ T', DoSt F w1 g q T' wx)
      case first => as_aux_lemma =>
        obtain ⟨gd, st, hx, hb⟩ := D5.out
        have hlen := gd.1
        by_cases k1 : dk = 1
        · have s1 : (dk == 1) = true := by rw [k1]; rfl
          have KC := F.close st gd df HFD.out
          cases I with
          | true => as_aux_lemma =>
            obtain ⟨a, o, rfl, ha, ho, hnz, hgt, hcl⟩ := isT_true hlen HI.out
            rw [HI.out, hgt, hcl] at KC
            unfold fptr RetOB at KC
            have KCH := Lib.hid KC
            have HX := Lib.hid hx; have HB := Lib.hid hb; have HO := Lib.hid ho; have GD := Lib.hid gd
            obtain ⟨oi, oo, ofl⟩ := o
            unfold Opn.val at KCH
            dsimp only at KCH
            clear KC gd st hx hb ho hgt hcl hlen k1
            go_wp2_with fail
            refine (KCH.out).mono ?_
            rintro e w6 ⟨rfl, st6, s6⟩
            obtain ⟨w7, hw7⟩ : ∃ w7, w6.alloc (.cells #[.int .i64 oi, .int .i64 oo, .int .i64 ofl] 27) = w7 := ⟨_, rfl⟩
            have hb7 : Below w6.heap.size w6 w7 := by rw [← hw7]; exact below_of_grown (World.grownBy_alloc w6 _ none)
            have hc7 : Cells w7 w6.heap.size 27 #[.int .i64 oi, .int .i64 oo, .int .i64 ofl] := by rw [← hw7]; exact Cells.new _ _ _
            have X7 := (s6.cells HX.out hgq.symm).below' hb7
            have P7 := (s6.cells C5.out hgp).below' hb7
            have B7 := (Sd.below HB.out HB.out.size s6 hg).trans (hb7.mono (Sd.below HB.out HB.out.size s6 hg).size)
            have S7 := FdFace.below st6 hb7
            obtain ⟨y0, y1, y2⟩ := x_cells X7 HO.out
            have g0 := cell_grown (a := ⟨w6.heap.size, 0, none⟩) hc7.lt (show w7.cell? ⟨w6.heap.size, 0, none⟩ = some (.int .i64 oi) from hc7.cell 0)
            have g1 := cell_grown (a := ⟨w6.heap.size, 1, none⟩) hc7.lt (show w7.cell? ⟨w6.heap.size, 1, none⟩ = some (.int .i64 oo) from hc7.cell 1)
            have g2 := cell_grown (a := ⟨w6.heap.size, 2, none⟩) hc7.lt (show w7.cell? ⟨w6.heap.size, 2, none⟩ = some (.int .i64 ofl) from hc7.cell 2)
            have g3 := cell_grown (a := ⟨p, 1, none⟩) P7.lt (show w7.cell? ⟨p, 1, none⟩ = some (.int .i64 (a : Int)) from P7.cell 1)
            have g4 := cell_grown (a := ⟨q, a * 3, none⟩) X7.lt y0
            have g5 := cell_grown (a := ⟨q, a * 3 + 1, none⟩) X7.lt y1
            have g6 := cell_grown (a := ⟨q, a * 3 + 2, none⟩) X7.lt y2
            have hE := fun w => HA.out ⟨oi, oo, ofl⟩ ⟨oi, oo, ofl⟩ w
            rw [opnEq_self] at hE
            unfold Opn.val at hE
            dsimp only at hE
            have a1 : (0 : Int) ≤ (a : Int) := Int.natCast_nonneg a
            have a2 : (a : Int) < 16 := Int.ofNat_lt.2 ha
            have a3 : (a : Int).toNat = a := Int.toNat_natCast a
            have HX7 := Lib.hid X7; have HP7 := Lib.hid P7; have HB7 := Lib.hid B7; have HS7 := Lib.hid S7; have HA3 := Lib.hid ha
            clear KCH hb7 hc7 X7 P7 B7 S7 y0 y1 y2 st6 s6 c0 c1 c2 c3 c4 ha
            go_upto_region 26 with fail
            try rw [hw7]
            clear hw7
            refine wp_region_quiet_grown hfol (by kernel_rfl) ?_
            repeat (go_big_quiet_step (fail))
            refine wpQuiet_nil ?_
            intro _ hw'
            obtain ⟨⟨nr, osr⟩, hw''⟩ := hw'
            subst hw''
            have b8 := below_grow' w7 nr osr
            obtain ⟨w8, hw8⟩ : ∃ w8, grow (w7.drewN nr) osr = w8 := ⟨_, rfl⟩
            rw [hw8] at b8 ⊢
            have X8 := HX7.out.below' b8
            have e0 : w8.cell? ⟨p, 1, none⟩ = some (.int .i64 (a : Int)) := (HP7.out.below' b8).cell 1
            obtain ⟨y0, y1, y2⟩ := x_cells X8 HO.out
            have z0 := X8.free (a * 3); have z1 := X8.free (a * 3 + 1); have z2 := X8.free (a * 3 + 2)
            have hst := x_set X8 (i := a) (by rw [GD.out.1]; exact HA3.out) Opn.zero
            have XS := Lib.hid hst
            have SS := Lib.hid (FdFace.set_ (FdFace.set_ (FdFace.set_ (FdFace.below HS7.out b8) hgq (i := a * 3) (.int .i64 0)) hgq (i := a * 3 + 1) (.int .i64 0)) hgq (i := a * 3 + 2) (.int .i64 0))
            have BS := Lib.hid ((((HB7.out.trans (b8.mono HB7.out.size)).setCell (p := ⟨q, a * 3, none⟩) hq1 (.int .i64 0)).setCell (p := ⟨q, a * 3 + 1, none⟩) hq1 (.int .i64 0)).setCell (p := ⟨q, a * 3 + 2, none⟩) hq1 (.int .i64 0))
            clear hw8 b8 X8 hst g0 g1 g2 g3 g4 g5 g6 hE
            go_wp2
            go_meet
            exact ⟨_, GD.out.set a (.inl rfl), SS.out, XS.out, BS.out⟩
          | false => as_aux_lemma =>
            obtain ⟨hgt, hcl⟩ := isT_false HI.out
            rw [HI.out, hgt, hcl] at KC
            unfold fptr RetOB at KC
            have KCH := Lib.hid KC
            have HX := Lib.hid hx; have HB := Lib.hid hb; have GD := Lib.hid gd
            unfold Opn.val Opn.zero at KCH
            dsimp only at KCH
            clear KC gd st hx hb hgt hcl hlen k1
            go_wp2_with fail
            refine (KCH.out).mono ?_
            rintro e w6 ⟨rfl, st6, s6⟩
            have hX6 := Lib.hid (s6.cells HX.out hgq.symm)
            have hB6 := Lib.hid (Sd.below HB.out HB.out.size s6 hg)
            have hS6 := Lib.hid st6
            clear KCH st6 s6 c0 c1 c2 c3 c4
            go_upto_region 26 with fail
            obtain ⟨w7, hw7⟩ : ∃ w7, w6.alloc (.cells #[.int .i64 0, .int .i64 0, .int .i64 0] 27) = w7 := ⟨_, rfl⟩
            try rw [hw7]
            have hb7 : Below w6.heap.size w6 w7 := by rw [← hw7]; exact below_of_grown (World.grownBy_alloc w6 _ none)
            have hc7 : Cells w7 w6.heap.size 27 #[.int .i64 0, .int .i64 0, .int .i64 0] := by rw [← hw7]; exact Cells.new _ _ _
            have HX7 := Lib.hid (hX6.out.below' hb7)
            have HB7 := Lib.hid (hB6.out.trans (hb7.mono hB6.out.size))
            have HS7 := Lib.hid (FdFace.below hS6.out hb7)
            have g0 := cell_grown (a := ⟨w6.heap.size, 0, none⟩) hc7.lt (show w7.cell? ⟨w6.heap.size, 0, none⟩ = some (.int .i64 0) from hc7.cell 0)
            have g1 := cell_grown (a := ⟨w6.heap.size, 1, none⟩) hc7.lt (show w7.cell? ⟨w6.heap.size, 1, none⟩ = some (.int .i64 0) from hc7.cell 1)
            have g2 := cell_grown (a := ⟨w6.heap.size, 2, none⟩) hc7.lt (show w7.cell? ⟨w6.heap.size, 2, none⟩ = some (.int .i64 0) from hc7.cell 2)
            have hE := fun w => HA.out Opn.zero Opn.zero w
            rw [opnEq_self] at hE
            unfold Opn.val Opn.zero at hE
            dsimp only at hE
            clear hw7 hb7 hc7
            refine wp_region_quiet_grown hfol (by kernel_rfl) ?_
            repeat (go_big_quiet_step (fail))
            refine wpQuiet_nil ?_
            intro _ hw'
            obtain ⟨⟨nr, osr⟩, hw''⟩ := hw'
            subst hw''
            have b8 := below_grow' w7 nr osr
            obtain ⟨w8, hw8⟩ : ∃ w8, grow (w7.drewN nr) osr = w8 := ⟨_, rfl⟩
            rw [hw8] at b8 ⊢
            have XS := Lib.hid (HX7.out.below' b8)
            have SS := Lib.hid (FdFace.below HS7.out b8)
            have BS := Lib.hid (HB7.out.trans (b8.mono HB7.out.size))
            clear hw8 b8 g0 g1 g2 hE
            go_wp2
            go_meet
            exact ⟨_, GD.out, SS.out, XS.out, BS.out⟩
        · have s1 : (dk == 1) = false := by rw [beq_eq_false_iff_ne]; exact k1
          by_cases k2 : dk = 2
          · have s2 : (dk == 2) = true := by rw [k2]; rfl
            clear k2
            by_cases hd1 : 1 ≤ di
            · cases I with
              | true => as_aux_lemma =>
                obtain ⟨a, o, rfl, ha, ho, hnz, _, _⟩ := isT_true hlen HI.out
                obtain ⟨hsb, hst⟩ := setT_true HI.out (o := ⟨di, do_, dfl⟩) hd1
                have KS := F.set st gd (a : Int) ⟨di, do_, dfl⟩ HFD.out
                rw [hsb, hst] at KS
                have HO := Lib.hid ho; have HA3 := Lib.hid ha
                have a1 : (0 : Int) ≤ (a : Int) := Int.natCast_nonneg a
                have a2 : (a : Int) < 16 := Int.ofNat_lt.2 ha
                have a3 : (a : Int).toNat = a := Int.toNat_natCast a
                have d1 : decide (di ≥ 1) = true := decide_eq_true hd1
                have d1b : decide (1 ≤ di) = true := decide_eq_true hd1
                have HD1 := Lib.hid hd1
                unfold fptr Opn.val at KS
                dsimp only at KS
                have KSH := Lib.hid KS
                have HX := Lib.hid hx; have HB := Lib.hid hb; have GD := Lib.hid gd
                clear KS gd st hx hb hlen ho hsb hst hd1 ha
                go_wp2_with fail
                refine (KSH.out).mono ?_
                rintro e w6 ⟨rfl, st6, s6⟩
                clear KSH
                have X6 := s6.cells HX.out hgq.symm
                have P6 := s6.cells C5.out hgp
                have e0 : w6.cell? ⟨p, 0, none⟩ = some (.int .i64 dk) := P6.cell 0
                have e1 : w6.cell? ⟨p, 1, none⟩ = some (.int .i64 (a : Int)) := P6.cell 1
                have e2 : w6.cell? ⟨p, 2, none⟩ = some (.int .i64 di) := P6.cell 2
                have e3 : w6.cell? ⟨p, 3, none⟩ = some (.int .i64 do_) := P6.cell 3
                have e4 : w6.cell? ⟨p, 4, none⟩ = some (.int .i64 dfl) := P6.cell 4
                obtain ⟨y0, y1, y2⟩ := x_cells X6 HO.out
                have z0 := X6.free (a * 3); have z1 := X6.free (a * 3 + 1); have z2 := X6.free (a * 3 + 2)
                have XS := Lib.hid (x_set X6 (i := a) (by rw [GD.out.1]; exact HA3.out) ⟨di, do_, dfl⟩)
                have SS := Lib.hid (FdFace.set_ (FdFace.set_ (FdFace.set_ st6 hgq (i := a * 3) (.int .i64 di)) hgq (i := a * 3 + 1) (.int .i64 do_)) hgq (i := a * 3 + 2) (.int .i64 dfl))
                have B6 := Sd.below HB.out HB.out.size s6 hg
                have BS := Lib.hid (((B6.setCell (p := ⟨q, a * 3, none⟩) hq1 (.int .i64 di)).setCell (p := ⟨q, a * 3 + 1, none⟩) hq1 (.int .i64 do_)).setCell (p := ⟨q, a * 3 + 2, none⟩) hq1 (.int .i64 dfl))
                clear X6 P6 st6 s6 B6 c0 c1 c2 c3 c4
                go_wp2
                go_meet
                exact ⟨_, GD.out.set a (.inr HD1.out), SS.out, XS.out, BS.out⟩
              | false => as_aux_lemma =>
                obtain ⟨hsb, hst⟩ := setT_false (T := T) (fd := df) (o := ⟨di, do_, dfl⟩) (.inl HI.out)
                have KS := F.set st gd df ⟨di, do_, dfl⟩ HFD.out
                rw [hsb, hst] at KS
                have d1 : decide (di ≥ 1) = true := decide_eq_true hd1
                have d1b : decide (1 ≤ di) = true := decide_eq_true hd1
                have HD1 := Lib.hid hd1
                unfold fptr Opn.val at KS
                dsimp only at KS
                have KSH := Lib.hid KS
                have HX := Lib.hid hx; have HB := Lib.hid hb; have GD := Lib.hid gd
                clear KS gd st hx hb hlen hsb hst hd1
                go_wp2_with fail
                refine (KSH.out).mono ?_
                rintro e w6 ⟨rfl, st6, s6⟩
                clear KSH
                have X6 := Lib.hid (s6.cells HX.out hgq.symm)
                have P6 := s6.cells C5.out hgp
                have e0 : w6.cell? ⟨p, 0, none⟩ = some (.int .i64 dk) := P6.cell 0
                have e1 : w6.cell? ⟨p, 1, none⟩ = some (.int .i64 df) := P6.cell 1
                have e2 : w6.cell? ⟨p, 2, none⟩ = some (.int .i64 di) := P6.cell 2
                have e3 : w6.cell? ⟨p, 3, none⟩ = some (.int .i64 do_) := P6.cell 3
                have e4 : w6.cell? ⟨p, 4, none⟩ = some (.int .i64 dfl) := P6.cell 4
                have S6 := Lib.hid st6
                have B6 := Lib.hid (Sd.below HB.out HB.out.size s6 hg)
                clear P6 st6 s6 c0 c1 c2 c3 c4
                go_wp2
                go_meet
                exact ⟨_, GD.out, S6.out, X6.out, B6.out⟩
            · cases I with
              | true => as_aux_lemma =>
                obtain ⟨hsb, hst⟩ := setT_false (T := T) (fd := df) (o := ⟨di, do_, dfl⟩) (.inr hd1)
                have KS := F.set st gd df ⟨di, do_, dfl⟩ HFD.out
                rw [hsb, hst] at KS
                have d1 : decide (di ≥ 1) = false := decide_eq_false hd1
                have d1b : decide (1 ≤ di) = false := decide_eq_false hd1
                unfold fptr Opn.val at KS
                dsimp only at KS
                have KSH := Lib.hid KS
                have HX := Lib.hid hx; have HB := Lib.hid hb; have GD := Lib.hid gd
                clear KS gd st hx hb hlen hsb hst hd1
                go_wp2_with fail
                refine (KSH.out).mono ?_
                rintro e w6 ⟨rfl, st6, s6⟩
                clear KSH
                have X6 := Lib.hid (s6.cells HX.out hgq.symm)
                have P6 := s6.cells C5.out hgp
                have e0 : w6.cell? ⟨p, 0, none⟩ = some (.int .i64 dk) := P6.cell 0
                have e1 : w6.cell? ⟨p, 1, none⟩ = some (.int .i64 df) := P6.cell 1
                have e2 : w6.cell? ⟨p, 2, none⟩ = some (.int .i64 di) := P6.cell 2
                have e3 : w6.cell? ⟨p, 3, none⟩ = some (.int .i64 do_) := P6.cell 3
                have e4 : w6.cell? ⟨p, 4, none⟩ = some (.int .i64 dfl) := P6.cell 4
                have S6 := Lib.hid st6
                have B6 := Lib.hid (Sd.below HB.out HB.out.size s6 hg)
                clear P6 st6 s6 c0 c1 c2 c3 c4
                go_wp2
                go_meet
                exact ⟨_, GD.out, S6.out, X6.out, B6.out⟩
              | false => as_aux_lemma =>
                obtain ⟨hsb, hst⟩ := setT_false (T := T) (fd := df) (o := ⟨di, do_, dfl⟩) (.inr hd1)
                have KS := F.set st gd df ⟨di, do_, dfl⟩ HFD.out
                rw [hsb, hst] at KS
                have d1 : decide (di ≥ 1) = false := decide_eq_false hd1
                have d1b : decide (1 ≤ di) = false := decide_eq_false hd1
                unfold fptr Opn.val at KS
                dsimp only at KS
                have KSH := Lib.hid KS
                have HX := Lib.hid hx; have HB := Lib.hid hb; have GD := Lib.hid gd
                clear KS gd st hx hb hlen hsb hst hd1
                go_wp2_with fail
                refine (KSH.out).mono ?_
                rintro e w6 ⟨rfl, st6, s6⟩
                clear KSH
                have X6 := Lib.hid (s6.cells HX.out hgq.symm)
                have P6 := s6.cells C5.out hgp
                have e0 : w6.cell? ⟨p, 0, none⟩ = some (.int .i64 dk) := P6.cell 0
                have e1 : w6.cell? ⟨p, 1, none⟩ = some (.int .i64 df) := P6.cell 1
                have e2 : w6.cell? ⟨p, 2, none⟩ = some (.int .i64 di) := P6.cell 2
                have e3 : w6.cell? ⟨p, 3, none⟩ = some (.int .i64 do_) := P6.cell 3
                have e4 : w6.cell? ⟨p, 4, none⟩ = some (.int .i64 dfl) := P6.cell 4
                have S6 := Lib.hid st6
                have B6 := Lib.hid (Sd.below HB.out HB.out.size s6 hg)
                clear P6 st6 s6 c0 c1 c2 c3 c4
                go_wp2
                go_meet
                exact ⟨_, GD.out, S6.out, X6.out, B6.out⟩
          · have s2 : (dk == 2) = false := by rw [beq_eq_false_iff_ne]; exact k2
            by_cases hf16 : fr < 16
            · by_cases hd1 : 1 ≤ di
              · obtain ⟨hob, hov, hot⟩ := openT_true (T := T) (o := ⟨di, do_, dfl⟩) (by rw [HFR0.out]; exact hf16) hd1
                have KS := F.open_ st gd ⟨di, do_, dfl⟩
                rw [hob, hov, hot, HFR0.out] at KS
                obtain ⟨o, ho⟩ : ∃ o, T[fr]? = some o := ⟨_, List.getElem?_eq_getElem (by rw [hlen]; exact hf16)⟩
                have HO := Lib.hid ho; have HA3 := Lib.hid hf16
                have f1 : decide (fr < 16) = true := decide_eq_true hf16
                have f1b : decide ((fr : Int) < 16) = true := decide_eq_true (Int.ofNat_lt.2 hf16)
                have f2 : (0 : Int) ≤ (fr : Int) := Int.natCast_nonneg fr
                have f3 : (fr : Int) < 16 := Int.ofNat_lt.2 hf16
                have f4 : ((fr : Int) != (fr : Int)) = false := by simp
                have d1 : decide (di ≥ 1) = true := decide_eq_true hd1
                have d1b : decide (1 ≤ di) = true := decide_eq_true hd1
                have HD1 := Lib.hid hd1
                unfold fptr Opn.val at KS
                unfold RetIB at KS
                dsimp only at KS
                have KSH := Lib.hid KS
                have HX := Lib.hid hx; have HB := Lib.hid hb; have GD := Lib.hid gd
                clear KS gd st hx hb hlen ho hob hov hot hd1 hf16
                go_wp2_with fail
                refine (KSH.out).mono ?_
                rintro e w6 ⟨rfl, st6, s6⟩
                clear KSH
                have X6 := s6.cells HX.out hgq.symm
                have P6 := s6.cells C5.out hgp
                have e0 : w6.cell? ⟨p, 0, none⟩ = some (.int .i64 dk) := P6.cell 0
                have e1 : w6.cell? ⟨p, 1, none⟩ = some (.int .i64 df) := P6.cell 1
                have e2 : w6.cell? ⟨p, 2, none⟩ = some (.int .i64 di) := P6.cell 2
                have e3 : w6.cell? ⟨p, 3, none⟩ = some (.int .i64 do_) := P6.cell 3
                have e4 : w6.cell? ⟨p, 4, none⟩ = some (.int .i64 dfl) := P6.cell 4
                obtain ⟨y0, y1, y2⟩ := x_cells X6 HO.out
                have z0 := X6.free (fr * 3); have z1 := X6.free (fr * 3 + 1); have z2 := X6.free (fr * 3 + 2)
                have XS := Lib.hid (x_set X6 (i := fr) (by rw [GD.out.1]; exact HA3.out) ⟨di, do_, dfl⟩)
                have SS := Lib.hid (FdFace.set_ (FdFace.set_ (FdFace.set_ st6 hgq (i := fr * 3) (.int .i64 di)) hgq (i := fr * 3 + 1) (.int .i64 do_)) hgq (i := fr * 3 + 2) (.int .i64 dfl))
                have B6 := Sd.below HB.out HB.out.size s6 hg
                have BS := Lib.hid (((B6.setCell (p := ⟨q, fr * 3, none⟩) hq1 (.int .i64 di)).setCell (p := ⟨q, fr * 3 + 1, none⟩) hq1 (.int .i64 do_)).setCell (p := ⟨q, fr * 3 + 2, none⟩) hq1 (.int .i64 dfl))
                clear X6 P6 st6 s6 B6 c0 c1 c2 c3 c4
                go_wp2
                go_meet
                exact ⟨_, GD.out.set fr (.inr HD1.out), SS.out, XS.out, BS.out⟩
              · obtain ⟨hob, hov, hot⟩ := openT_false (T := T) (o := ⟨di, do_, dfl⟩) (.inr hd1)
                have KS := F.open_ st gd ⟨di, do_, dfl⟩
                rw [hob, hov, hot] at KS
                have f1 : decide (fr < 16) = true := decide_eq_true hf16
                have f1b : decide ((fr : Int) < 16) = true := decide_eq_true (Int.ofNat_lt.2 hf16)
                have d1 : decide (di ≥ 1) = false := decide_eq_false hd1
                have d1b : decide (1 ≤ di) = false := decide_eq_false hd1
                unfold fptr Opn.val at KS
                unfold RetIB at KS
                dsimp only at KS
                have KSH := Lib.hid KS
                have HX := Lib.hid hx; have HB := Lib.hid hb; have GD := Lib.hid gd
                clear KS gd st hx hb hlen hob hov hot hd1 hf16
                go_wp2_with fail
                refine (KSH.out).mono ?_
                rintro e w6 ⟨rfl, st6, s6⟩
                clear KSH
                have X6 := Lib.hid (s6.cells HX.out hgq.symm)
                have P6 := s6.cells C5.out hgp
                have e0 : w6.cell? ⟨p, 0, none⟩ = some (.int .i64 dk) := P6.cell 0
                have e1 : w6.cell? ⟨p, 1, none⟩ = some (.int .i64 df) := P6.cell 1
                have e2 : w6.cell? ⟨p, 2, none⟩ = some (.int .i64 di) := P6.cell 2
                have e3 : w6.cell? ⟨p, 3, none⟩ = some (.int .i64 do_) := P6.cell 3
                have e4 : w6.cell? ⟨p, 4, none⟩ = some (.int .i64 dfl) := P6.cell 4
                have S6 := Lib.hid st6
                have B6 := Lib.hid (Sd.below HB.out HB.out.size s6 hg)
                clear P6 st6 s6 c0 c1 c2 c3 c4
                go_wp2
                go_meet
                exact ⟨_, GD.out, S6.out, X6.out, B6.out⟩
            · obtain ⟨hob, hov, hot⟩ := openT_false (T := T) (o := ⟨di, do_, dfl⟩) (.inl (by rw [HFR0.out]; exact hf16))
              have KS := F.open_ st gd ⟨di, do_, dfl⟩
              rw [hob, hov, hot] at KS
              have f1 : decide (fr < 16) = false := decide_eq_false hf16
              have f1b : decide ((fr : Int) < 16) = false := decide_eq_false (fun h => hf16 (Int.ofNat_lt.1 h))
              unfold fptr Opn.val at KS
              unfold RetIB at KS
              dsimp only at KS
              have KSH := Lib.hid KS
              have HX := Lib.hid hx; have HB := Lib.hid hb; have GD := Lib.hid gd
              clear KS gd st hx hb hlen hob hov hot hf16
              go_wp2_with fail
              refine (KSH.out).mono ?_
              rintro e w6 ⟨rfl, st6, s6⟩
              clear KSH
              have X6 := Lib.hid (s6.cells HX.out hgq.symm)
              have P6 := s6.cells C5.out hgp
              have e0 : w6.cell? ⟨p, 0, none⟩ = some (.int .i64 dk) := P6.cell 0
              have e1 : w6.cell? ⟨p, 1, none⟩ = some (.int .i64 df) := P6.cell 1
              have e2 : w6.cell? ⟨p, 2, none⟩ = some (.int .i64 di) := P6.cell 2
              have e3 : w6.cell? ⟨p, 3, none⟩ = some (.int .i64 do_) := P6.cell 3
              have e4 : w6.cell? ⟨p, 4, none⟩ = some (.int .i64 dfl) := P6.cell 4
              have S6 := Lib.hid st6
              have B6 := Lib.hid (Sd.below HB.out HB.out.size s6 hg)
              clear P6 st6 s6 c0 c1 c2 c3 c4
              go_wp2
              go_meet
              exact ⟨_, GD.out, S6.out, X6.out, B6.out⟩
      case rest =>
      obtain ⟨T', D6⟩ := hcut
      clear D5 C5 HI HBB HVV HFR0 HA
      obtain ⟨gd, st, hx, hb⟩ := D6
      have D6 := Lib.hid (show DoSt F w1 g q T' wc from ⟨gd, st, hx, hb⟩)
      have hlen := gd.1
      have KL := Lib.hid (F.all st gd)
      unfold fptr at KL
      clear gd st hx hb
      go_wp2_with fail
      refine (KL.out).mono ?_
      rintro e v1 ⟨A7, c7, rfl, hrow7, hb7⟩
      have R7 := Lib.hid hrow7
      have D7 := Lib.hid (show DoSt F w1 g q T' v1 from ⟨D6.out.1, FdFace.below D6.out.2.1 hb7, D6.out.2.2.1.below' hb7, D6.out.2.2.2.trans (hb7.mono D6.out.2.2.2.size)⟩)
      have hx7 := D7.out.2.2.1
      clear hrow7 hb7 KL
      go_wp2_with (refine wpList_load_row rfl _ _ rfl q rfl XT (ocells T').toArray (0, 0) _ hx7 Try.underlying28 rfl (by rw [info28]; simp [ocells_len, hlen]) ?_)
      clear hx7
      have HEN := Lib.hid (fun (a : Opn) (w : World) => neO_any a a w)
      obtain ⟨M, hM⟩ : ∃ M, (allT T').length = M := ⟨_, rfl⟩
      have HM := Lib.hid hM
      rw [hM]
      clear hM
      go_loopw [19, 20, 194] (fun nv uv i wr => AlRel F w1 g q T' A7 ino nv uv i wr) (fun _ _ i _ => 16 - (intOf i).toNat)
      case atStart => exact ⟨0, by omega, rfl, rfl, rfl, D7.out, R7.out⟩
      case round =>
        obtain ⟨j, hj, rfl, rfl, rfl, D8, hrow⟩ := hrel
        obtain ⟨gd, st, hx, hb⟩ := D8
        have qj := do_w (k := j) (Nat.lt_of_le_of_lt hj (by decide))
        have qj2 := do_w2 (k := j) (Nat.lt_of_le_of_lt hj (by decide))
        by_cases hj16 : j < 16
        · have r1 : decide (j < 16) = true := decide_eq_true hj16
          have r1b : decide ((j : Int) < 16) = true := decide_eq_true (Int.ofNat_lt.2 hj16)
          have r1c : (j : Int) < 16 := Int.ofNat_lt.2 hj16
          have r1d : (0 : Int) ≤ (j : Int) := Int.natCast_nonneg j
          have r1e : (j : Int).toNat = j := Int.toNat_natCast j
          obtain ⟨o, ho⟩ : ∃ o, T'[j]? = some o := ⟨_, List.getElem?_eq_getElem (by rw [hlen]; exact hj16)⟩
          have hext := idx_at ho hj16
          unfold Opn.val at hext
          have hal := all_take ho
          have hus := users_take ho ino
          obtain ⟨oi, oo, ofl⟩ := o
          dsimp only at hext hal hus
          obtain ⟨w8, hw8⟩ : ∃ w8, wr.alloc (.cells #[.int .i64 oi, .int .i64 oo, .int .i64 ofl] 27) = w8 := ⟨_, rfl⟩
          have hb8 : Below wr.heap.size wr w8 := by rw [← hw8]; exact below_of_grown (World.grownBy_alloc wr _ none)
          have hc8 : Cells w8 wr.heap.size 27 #[.int .i64 oi, .int .i64 oo, .int .i64 ofl] := by rw [← hw8]; exact Cells.new _ _ _
          have D9 := Lib.hid (show DoSt F w1 g q T' w8 from ⟨gd, FdFace.below st hb8, hx.below' hb8, hb.trans (hb8.mono hb.size)⟩)
          have R9 := Lib.hid (hrow.below hb8)
          have C9 := Lib.hid hc8
          have b0 : w8.cell? ⟨wr.heap.size, 0, none⟩ = some (.int .i64 oi) := hc8.cell 0
          have b1 : w8.cell? ⟨wr.heap.size, 1, none⟩ = some (.int .i64 oo) := hc8.cell 1
          have b2 : w8.cell? ⟨wr.heap.size, 2, none⟩ = some (.int .i64 ofl) := hc8.cell 2
          have HO := Lib.hid ho; have HJ16 := Lib.hid hj16; have HAL := Lib.hid hal; have HUS := Lib.hid hus
          clear gd st hx hb hb8 hc8 hrow ho hj hal hus hj16
          go_upto_region 41 with fail
          try rw [hw8]
          clear hw8
          by_cases hz : oi = 0
          · have r2 : (oi == 0) = true := by rw [hz]; rfl
            have HZ := Lib.hid hz
            clear hz
            go_wp2
            go_roundw
            case rel => exact ⟨j + 1, HJ16.out, by go_num, by rw [HAL.out, if_neg (fun h => h HZ.out), List.append_nil], by rw [HUS.out, if_neg (fun h => h.1 HZ.out), Nat.add_zero], D9.out, R9.out⟩
            case measure => simp [intOf]; have := HJ16.out; omega
          · have r2 : (oi == 0) = false := by rw [beq_eq_false_iff_ne]; exact hz
            have hat := all_at HO.out hz
            have HZ := Lib.hid hz
            obtain ⟨N, hN⟩ : ∃ N, (allT (T'.take j)).length = N := ⟨_, rfl⟩
            obtain ⟨U, hU⟩ : ∃ U, usersT (T'.take j) ino = U := ⟨_, rfl⟩
            rw [hN] at hat
            have hNM : N < M := by rw [← HM.out]; exact (List.getElem?_eq_some_iff.1 hat).1
            have hNj : N ≤ 16 := by
              rw [← hN]
              have h1 : (allT (T'.take j)).length ≤ (T'.take j).length := List.length_filter_le _ _
              rw [List.length_take] at h1; omega
            have hUj : U ≤ 16 := by
              rw [← hU]
              have h0 : usersT (T'.take j) ino ≤ (allT (T'.take j)).length := List.countP_le_length
              omega
            obtain ⟨bb, off7, rfl, hbb, x0, x1, x2⟩ := opens_cells R9.out hat
            dsimp only at x0 x1 x2
            have g0 := cell_grown (a := ⟨wr.heap.size, 0, none⟩) C9.out.lt b0
            have g1 := cell_grown (a := ⟨wr.heap.size, 1, none⟩) C9.out.lt b1
            have g2 := cell_grown (a := ⟨wr.heap.size, 2, none⟩) C9.out.lt b2
            have g3 := cell_grown (a := ⟨bb, off7 + N * 3, none⟩) hbb x0
            have g4 := cell_grown (a := ⟨bb, off7 + N * 3 + 1, none⟩) hbb x1
            have g5 := cell_grown (a := ⟨bb, off7 + N * 3 + 2, none⟩) hbb x2
            have hE := fun w => HEN.out ⟨oi, oo, ofl⟩ w
            rw [opnEq_self] at hE
            unfold Opn.val at hE
            dsimp only at hE
            have n1 : decide ((N : Int) ≥ (M : Int)) = false := decide_eq_false (fun h => absurd (Int.ofNat_le.1 h) (Nat.not_le.2 hNM))
            have n1b : decide ((M : Int) ≤ (N : Int)) = false := decide_eq_false (fun h => absurd (Int.ofNat_le.1 h) (Nat.not_le.2 hNM))
            have n2 : (N : Int) < (M : Int) := Int.ofNat_lt.2 hNM
            have n3 : (0 : Int) ≤ (N : Int) := Int.natCast_nonneg N
            have n4 : (N : Int).toNat = N := Int.toNat_natCast N
            have n5 : N < 1000000 := Nat.lt_of_le_of_lt hNj (by decide)
            have n7 : U < 1000000 := Nat.lt_of_le_of_lt hUj (by decide)
            have HNN := Lib.hid hN; have HUU := Lib.hid hU
            rw [hN, hU] 
            have n2b : decide (N < M) = true := decide_eq_true hNM
            have n2c : ¬ M ≤ N := Nat.not_le.2 hNM
            clear hz hat hNj hUj hbb x0 x1 x2 hN hU
            go_upto_region 42 with fail
            clear b0 b1 b2
            refine wp_region_quiet_grown hfol (by kernel_rfl) ?_
            repeat (go_big_quiet_step (fail))
            refine wpQuiet_nil ?_
            intro _ hw'
            obtain ⟨⟨nr, osr⟩, hw''⟩ := hw'
            subst hw''
            have b10 := below_grow' w8 nr osr
            obtain ⟨w10, hw10⟩ : ∃ w10, grow (w8.drewN nr) osr = w10 := ⟨_, rfl⟩
            rw [hw10] at b10 ⊢
            have D10 := Lib.hid (show DoSt F w1 g q T' w10 from ⟨D9.out.1, FdFace.below D9.out.2.1 b10, D9.out.2.2.1.below' b10, D9.out.2.2.2.trans (b10.mono D9.out.2.2.2.size)⟩)
            have R10 := Lib.hid (R9.out.below b10)
            have b0 : w10.cell? ⟨wr.heap.size, 0, none⟩ = some (.int .i64 oi) := (C9.out.below' b10).cell 0
            clear hw10 b10 g0 g1 g2 g3 g4 g5 hE n1 n1b n2 n2b n2c n3 n4 hNM
            by_cases hi : oi = ino
            · have r3 : (oi == ino) = true := by rw [hi]; simp
              have HII := Lib.hid hi
              clear hi
              go_wp2
              go_roundw
              case rel => exact ⟨j + 1, HJ16.out, by go_num, by rw [HAL.out, if_pos HZ.out, List.length_append, HNN.out]; simp, by rw [HUS.out, if_pos ⟨HZ.out, HII.out⟩, HUU.out]; simp, D10.out, R10.out⟩
              case measure => simp [intOf]; have := HJ16.out; omega
            · have r3 : (oi == ino) = false := by rw [beq_eq_false_iff_ne]; exact hi
              have HII := Lib.hid hi
              clear hi
              go_wp2
              go_roundw
              case rel => exact ⟨j + 1, HJ16.out, by go_num, by rw [HAL.out, if_pos HZ.out, List.length_append, HNN.out]; simp, by rw [HUS.out, if_neg (fun h => HII.out h.2), HUU.out, Nat.add_zero], D10.out, R10.out⟩
              case measure => simp [intOf]; have := HJ16.out; omega
        · have hj2 : j = 16 := Nat.le_antisymm hj (Nat.not_lt.1 hj16)
          subst hj2
          have ht : T'.take 16 = T' := List.take_of_length_le (by rw [hlen]; exact Nat.le_refl _)
          rw [ht]
          have hbl : Below w1.heap.size w1 wr := hb
          have KLN := F.len st gd
          have KFU := Lib.hid (fun wx (h : F.st wx g T') => F.full h gd)
          have KUS := Lib.hid (fun wx (h : F.st wx g T') => F.users h gd ino)
          have haf := all_full hlen
          have hN := HM.out
          obtain ⟨U, hU⟩ : ∃ U, usersT T' ino = U := ⟨_, rfl⟩
          obtain ⟨Bn, hBn⟩ : ∃ b, nextB T' = b := ⟨_, rfl⟩
          rw [hN] at haf KLN ⊢
          rw [hU] at KUS ⊢
          rw [hBn] at haf KFU
          have HS := Lib.hid st; have HX := Lib.hid hx; have HB := Lib.hid hbl; have GD := Lib.hid gd; have KLH := Lib.hid KLN
          unfold fptr at KLH KFU KUS
          have n1 : ((M : Int) != (M : Int)) = false := by simp
          have n2 : ((M : Int) == 16) = !Bn := by rw [← haf]; exact do_e M
          have n3 : (!Bn != !Bn) = false := by simp
          have n4 : ((U : Int) != (U : Int)) = false := by simp
          obtain ⟨FB, hFB⟩ : ∃ b, (!Bn) = b := ⟨_, rfl⟩
          rw [hFB] at KFU n2 n3
          clear st gd hx hb hbl KLN hrow ht hN hU hBn haf hj hj16 hFB
          go_wp2_with fail
          refine (KLH.out).mono ?_
          rintro e v2 ⟨rfl, hb2⟩
          have S2 := FdFace.below HS.out hb2
          have KF2 := Lib.hid (KFU.out _ S2)
          have HS2 := Lib.hid S2; have HX2 := Lib.hid (HX.out.below' hb2); have HB2' := Lib.hid (HB.out.trans (hb2.mono HB.out.size))
          clear S2 hb2 KLH KFU
          go_wp2_with fail
          refine (KF2.out).mono ?_
          rintro e v3 ⟨rfl, hb3⟩
          have S3 := FdFace.below HS2.out hb3
          have KU3 := Lib.hid (KUS.out _ S3)
          have HS3 := Lib.hid S3; have HX3 := Lib.hid (HX2.out.below' hb3); have HB3' := Lib.hid (HB2'.out.trans (hb3.mono HB2'.out.size))
          clear S3 hb3 KF2 KUS
          by_cases hi0 : ino = 0
          · have i1 : (ino != 0) = false := by rw [hi0]; rfl
            clear hi0
            go_wp2
            go_roundw
            case rel => exact ⟨k + 1, T', HLT.out, by go_num, GD.out, HS3.out, HX3.out, HB3'.out⟩
            case measure => simp [intOf]; have := HLT.out; omega
          · have i1 : (ino != 0) = true := by simpa using hi0
            clear hi0
            go_wp2_with fail
            refine (KU3.out).mono ?_
            rintro e v4 ⟨rfl, hb4⟩
            have S4 := FdFace.below HS3.out hb4
            have HS4 := Lib.hid S4; have HX4 := Lib.hid (HX3.out.below' hb4); have HB4 := Lib.hid (HB3'.out.trans (hb4.mono HB3'.out.size))
            clear S4 hb4 KU3
            go_wp2
            go_roundw
            case rel => exact ⟨k + 1, T', HLT.out, by go_num, GD.out, HS4.out, HX4.out, HB4.out⟩
            case measure => simp [intOf]; have := HLT.out; omega
    · have hkn : k = n := Nat.le_antisymm hk (Nat.not_lt.1 hlt)
      subst hkn
      have hlt2 : ¬ (k : Int) < (k : Int) := Int.lt_irrefl _
      have HB := Lib.hid hb
      clear hb hx st gd hlt hk
      go_wp2
      go_ret
      exact ⟨rfl, B1.out.trans (HB.out.mono B1.out.size)⟩
end Go.Proofs.Ytcmgngjafnpnoaa
