import Derived.Test.YtjhchddmbbibpaaDoorPaAll
import Derived.Test.YtjhchddmbbibpaaDoorPtNew
import Derived.Test.YtjhchddmbbibpaaDoorPtSame
import Derived.Test.YtjhchddmbbibpaaDoorPaDeed
import Derived.Deep.RegionHeld3
import Derived.Deep.DeepCutAuto
namespace Go.Proofs.YtjhchddmbbibpaaDoor
open Wd Pa Go.ChangeShapes Go.WideShapes Go.RowKit Go.Sort
set_option linter.unusedVariables false
theorem pgb_gives {w0 w : World} {f : Pp} {n : Nat} {U : Nat → Bool} (h : PgB w0 w f n U) (i : Int) (u : Bool) (hu : U i.toNat = u) : Calls Tryd.prog 12 #[.pointer (some ⟨f.g, 0, none⟩), .int .i64 i] w fun e w' => e = .returned (.bool u) ∧ PgB w0 w' f n (if u then put U i.toNat false else U) ∧ w.grownBy w' (some f.h) := by
  cases u with
  | true => rw [if_pos rfl]; exact pgb_give_yes h i hu
  | false => rw [if_neg (by simp)]; exact pgb_give_no h i hu
/-- both, side by side -/
structure Both (w0 w : World) (f : Pp) (g N : Nat) (U : Nat → Bool) : Prop where
  p : PgB w0 w f N U
  t : TkB w0 w g N U
theorem Both.below {w0 w w' : World} {f : Pp} {g N : Nat} {U : Nat → Bool} (h : Both w0 w f g N U) (hb : Below w.heap.size w w') : Both w0 w' f g N U := ⟨h.p.below hb, h.t.below hb⟩
def DoesRel (w : World) (f : Pp) (g N : Nat) (i : Value) (n : Nat) (wr : World) : Prop := ∃ (k : Nat) (V : Nat → Bool), k ≤ n ∧ i = .int .i64 k ∧ Both w wr f g N V
def DeedAt (w : World) (m : Nat) (d : Int × Int) : Prop := Cells w m 30 #[.int .i64 d.1, .int .i64 d.2]
/-- what the last test of a round reads -/
structure Sees (W : World) (f : Pp) (g N m L c2 : Nat) (A2 : Option Addr) (i : Int) : Prop where
  d : ∃ k, Cells W m 30 #[.int .i64 k, .int .i64 i]
  t : Cells W g 36 #[.int .i64 N, .slice A2 L c2]
theorem Sees.mk' {W w' : World} {f : Pp} {g N m L c2 : Nat} {A2 : Option Addr} {i : Int} (h : Sees W f g N m L c2 A2 i) (hb : Below W.heap.size W w') :
    Below W.heap.size W w' ∧ w'.cell? ⟨m, 1, none⟩ = some (.int .i64 i) ∧ w'.cell? ⟨g, 0, none⟩ = some (.int .i64 N) ∧ w'.cell? ⟨g, 1, none⟩ = some (.slice A2 L c2) := by
  obtain ⟨⟨k, d⟩, t⟩ := h
  have d2 := d.below' hb; have t2 := t.below' hb
  exact ⟨hb, by rw [d2.cell]; rfl, by rw [t2.cell]; rfl, by rw [t2.cell]; rfl⟩
section
variable {w0 W w1 : World} {f : Pp} {g N : Nat} {U : Nat → Bool}
theorem b_has (h : Both w0 W f g N U) (hb : Below W.heap.size W w1) (i : Int) (u : Bool) (hu : U i.toNat = u) : Calls Tryd.prog 14 #[.pointer (some ⟨f.g, 0, none⟩), .int .i64 i] w1 fun e w' => e = .returned (.bool u) ∧ Below W.heap.size W w' := by
  refine (pgb_has (h.below hb).p i u hu).mono ?_
  rintro e w' ⟨rfl, _, b⟩
  exact ⟨rfl, hb.trans (b.mono hb.size)⟩
theorem b_thas (h : Both w0 W f g N U) (hb : Below W.heap.size W w1) (i : Int) (u : Bool) (hu : U i.toNat = u) : Calls Tryd.prog 15 #[.pointer (some ⟨g, 0, none⟩), .int .i64 i] w1 fun e w' => e = .returned (.bool u) ∧ Below W.heap.size W w' := by
  refine (tkb_has (h.below hb).t i).mono ?_
  rintro e w' ⟨rfl, rfl⟩
  exact ⟨by rw [hu], hb⟩
theorem b_free (h : Both w0 W f g N U) (hb : Below W.heap.size W w1) (c : Nat) (hc : (upto U N).length + c = N) : Calls Tryd.prog 16 #[.pointer (some ⟨f.g, 0, none⟩)] w1 fun e w' => e = .returned (.int .i64 c) ∧ Below W.heap.size W w' := by
  refine (pgb_free (h.below hb).p c hc).mono ?_
  rintro e w' ⟨rfl, _, b⟩
  exact ⟨rfl, hb.trans (b.mono hb.size)⟩
theorem b_used (h : Both w0 W f g N U) (hb : Below W.heap.size W w1) (L : Nat) (hL : (upto U N).length = L) : Calls Tryd.prog 18 #[.pointer (some ⟨f.g, 0, none⟩)] w1 fun e w' => ∃ A c, e = .returned (.slice A L c) ∧ Row w' w'.heap.size A L ((upto U N).map iv) ∧ Below W.heap.size W w' := by
  refine (pgb_used (h.below hb).p L hL).mono ?_
  rintro e w' ⟨A, c, rfl, ho, _, b⟩
  obtain ⟨A', c', e, r⟩ := Row.of_own ho
  injection e with e1 e2 e3
  subst e1
  exact ⟨A, c, rfl, r, hb.trans (b.mono hb.size)⟩
theorem b_same {L c1 c2 : Nat} {A A2 : Option Addr} (hL : (upto U N).length = L) (h3 : L ≤ 300) (hb : Below W.heap.size W w1) (r : Row w1 w1.heap.size A L ((upto U N).map iv)) (hr : Row W W.heap.size A2 L ((upto U N).map iv)) :
    Calls Tryd.prog 17 #[.slice A L c1, .slice A2 L c2] w1 fun e w' => e = .returned (.bool true) ∧ Below W.heap.size W w' := by
  refine (same_is (upto U N) L hL (by omega) A A2 c1 c2 _ w1 r ((hr.below hb).more hb.size)).mono ?_
  rintro e w' ⟨d, rfl, rfl⟩
  exact ⟨rfl, below_drewN hb d⟩
/-- the document's list, as it lies there -/
theorem Both.list (h : Both w0 W f g N U) (L : Nat) (hL : (upto U N).length = L) : ∃ A2 c2, Cells W g 36 #[.int .i64 N, .slice A2 L c2] ∧ Row W W.heap.size A2 L ((upto U N).map iv) := by
  obtain ⟨v, t⟩ := h.t.t
  obtain ⟨A, c, rfl, r⟩ := t.r.row
  rw [hL] at r
  have := t.c
  rw [hL] at this
  exact ⟨A, c, this, r⟩
end
/-- a deed's block stays -/
theorem deed_p {w0 w w' : World} {f : Pp} {n m : Nat} {U : Nat → Bool} {cs : Array Value} (h : Cells w m 30 cs) (p : PgB w0 w f n U) (hg : w.grownBy w' (some f.h)) : Cells w' m 30 cs := by
  obtain ⟨⟨ws, q⟩, _⟩ := p
  exact h.grown hg (fun e => h.ne q.words (by decide) (Option.some.inj e))
theorem deed_t {w0 w w' : World} {g n m : Nat} {U : Nat → Bool} {cs : Array Value} (h : Cells w m 30 cs) (t : TkB w0 w g n U) (hg : w.grownBy w' (some g)) : Cells w' m 30 cs := by
  obtain ⟨⟨v, q⟩, _⟩ := t
  exact h.grown hg (fun e => h.ne q.c (by decide) (Option.some.inj e))
section
variable {w : World} {A A2 : Option Addr} {c cd : Nat} {l : List Int} {ds : List (Int × Int)}
set_option maxRecDepth 100000 in
set_option maxHeartbeats 2000000 in
theorem does_any (hT : Tb w) (hB : 0 < w.heap.size) (n : Int) (hr : Row w w.heap.size A l.length (l.map (Value.int .i64))) (hd : Deeds w w.heap.size A2 ds) :
    Calls Tryd.prog 3 #[.int .i64 n, .slice A l.length c, .slice A2 ds.length cd] w (TrueB w) := by
  have KA := Lib.hid (awake_true hT hB)
  by_cases h2 : 300 < n
  · clear hT hr hd
    go_enter Tryd.func3, Tryd.ntmps3
    go_wp2_with (go_at_call 7; refine KA.out.mono ?_; rintro e w1 ⟨rfl, b1⟩)
    go_ret
    exact ⟨rfl, b1⟩
  · by_cases h3 : 60 < l.length
    · clear hT hr hd
      go_enter Tryd.func3, Tryd.ntmps3
      go_wp2_with (go_at_call 7; refine KA.out.mono ?_; rintro e w1 ⟨rfl, b1⟩)
      go_ret
      exact ⟨rfl, b1⟩
    · by_cases h4 : 60 < ds.length
      · clear hT hr hd
        go_enter Tryd.func3, Tryd.ntmps3
        go_wp2_with (go_at_call 7; refine KA.out.mono ?_; rintro e w1 ⟨rfl, b1⟩)
        go_ret
        exact ⟨rfl, b1⟩
      · obtain ⟨N, hN⟩ : ∃ N, N = many n := ⟨_, rfl⟩
        have hN3 : N ≤ 300 := by rw [hN]; unfold many; omega
        obtain ⟨U, hU⟩ : ∃ U, usedOf N l = U := ⟨_, rfl⟩
        have KN := Lib.hid (fun w1 (b1 : Below w.heap.size w w1) => pgb_new (c := c) hT hB b1 hN ((hr.below b1).more b1.size) (by omega))
        have KX := Lib.hid (fun w1 (b1 : Below w.heap.size w w1) => tkb_new (c := c) b1 hN ((hr.below b1).more b1.size) (by omega))
        rw [hU] at KN KX
        have HD := Lib.hid hd
        have hds : ds.length ≤ 60 := by omega
        clear hT hr hU hN hd
        go_enter Tryd.func3, Tryd.ntmps3
        go_wp2_with (first
          | (go_at_call 7; refine KA.out.mono ?_; rintro e w1 ⟨rfl, b1⟩; have B1 := Lib.hid b1; clear b1)
          | (go_at_call 8; refine (KN.out _ B1.out).mono ?_; rintro e w2 ⟨f, rfl, p2, b2⟩; have P2 := Lib.hid p2; clear p2 b2; rw [show f.ptr = .pointer (some ⟨f.g, 0, none⟩) from rfl])
          | (go_at_call 9; refine (KX.out _ P2.out.b).mono ?_; rintro e w3 ⟨g, rfl, t3, b3⟩; have T3 := Lib.hid t3; have P3 := Lib.hid (P2.out.below b3); clear t3 b3))
        have hfp : f.ptr = .pointer (some ⟨f.g, 0, none⟩) := rfl
        have B3 := Lib.hid (Both.mk P3.out T3.out)
        clear KA KN KX B1 P2 P3 T3
        go_loopw [38] (fun i_ wr => DoesRel w f g N i_ ds.length wr) (fun i_ _ => ds.length - (intOf i_).toNat)
        case atStart => exact ⟨0, U, Nat.zero_le _, rfl, B3.out⟩
        case round =>
          obtain ⟨k, V, hk, rfl, hBo⟩ := hrel
          by_cases hlt : k < ds.length
          · obtain ⟨⟨dk, di⟩, hdk⟩ : ∃ d, ds[k]? = some d := ⟨_, List.getElem?_eq_getElem hlt⟩
            have hD := HD.out.below hBo.p.b
            obtain ⟨b, off, rfl, hbB, hx⟩ := hD.at_ (by omega)
            have x0 : wr.cell? ⟨b, off + k * 2, none⟩ = some (.int .i64 dk) := hx k _ hdk 0 _ rfl
            have x1 : wr.cell? ⟨b, off + k * 2 + 1, none⟩ = some (.int .i64 di) := hx k _ hdk 1 _ rfl
            have hlt2 : (k : Int) < (ds.length : Int) := Int.ofNat_lt.2 hlt
            have BO := Lib.hid hBo
            clear hx hD hdk hBo
            go_upto_if 44 with fail
            have B4 := Lib.hid (BO.out.below ((Below.refl wr.heap.size wr).alloc (Nat.le_refl _) (.cells #[.int .i64 dk, .int .i64 di] 30)))
            have C4 := Lib.hid (Cells.new wr 30 #[.int .i64 dk, .int .i64 di])
            obtain ⟨w4, hw4⟩ : ∃ w4, wr.alloc (.cells #[.int .i64 dk, .int .i64 di] 30) = w4 := ⟨_, rfl⟩
            obtain ⟨m, hm⟩ : ∃ m, wr.heap.size = m := ⟨_, rfl⟩
            rw [hw4] at B4 C4 ⊢
            rw [hm] at C4 ⊢
            clear hw4 hm BO x0 x1 hbB
            go_cut [11, 12, 13, 14, 15] from 44 to 71 (fun t a b c d wx => t = .bool true ∧ ∃ V, Both w wx f g N V ∧ Cells wx m 30 #[.int .i64 dk, .int .i64 di])
            case first =>
              by_cases hk0 : dk = 0
              · have t1 : (dk == 0) = true := by simpa using hk0
                clear hk0
                by_cases hall : ∀ q, 1 ≤ q → q ≤ N → V q = true
                · have KT := Lib.hid (pgb_take_none B4.out.p hall)
                  rw [hfp] at KT
                  have HALL := Lib.hid hall
                  clear hall
                  go_wp2_with fail
                  refine KT.out.mono ?_
                  rintro e w5 ⟨rfl, p5, g5⟩
                  have P5 := Lib.hid p5
                  have T5 := Lib.hid (B4.out.t.pages B4.out.p g5)
                  have C5 := Lib.hid (deed_p C4.out B4.out.p g5)
                  have KX := Lib.hid (tkb_take_none T5.out HALL.out)
                  clear KT p5 g5 B4 C4
                  go_wp2_with (go_at_call 11; refine KX.out.mono ?_; rintro e w6 ⟨rfl, rfl⟩)
                  go_meet
                  exact ⟨rfl, V, ⟨P5.out, T5.out⟩, C5.out⟩
                · have hex : ∃ q, 1 ≤ q ∧ q ≤ N ∧ V q = false := by
                    apply Classical.byContradiction
                    intro hc
                    refine hall fun q a b => ?_
                    cases hq : V q with
                    | true => rfl
                    | false => exact absurd ⟨q, a, b, hq⟩ hc
                  have KT := Lib.hid (pgb_take_some B4.out.p hex)
                  rw [hfp] at KT
                  clear hall hex
                  go_wp2_with fail
                  refine KT.out.mono ?_
                  rintro e w5 ⟨r, r1, r2, r3, r4, rfl, p5, g5⟩
                  have P5 := Lib.hid p5
                  have T5 := Lib.hid (B4.out.t.pages B4.out.p g5)
                  have C5 := Lib.hid (deed_p C4.out B4.out.p g5)
                  have KX := Lib.hid (tkb_take_some T5.out r r1 r2 r3 r4)
                  clear KT p5 g5 B4 C4 r3 r4
                  go_wp2_with (go_at_call 11; refine KX.out.mono ?_; rintro e w6 ⟨rfl, t6, g6⟩; have T6 := Lib.hid t6; have P6 := Lib.hid (P5.out.taken T5.out g6); have C6 := Lib.hid (deed_t C5.out T5.out g6); clear t6 g6)
                  go_meet
                  exact ⟨rfl, _, ⟨P6.out, T6.out⟩, C6.out⟩
              · have t1 : (dk == 0) = false := by simpa using hk0
                clear hk0
                obtain ⟨u, hu⟩ : ∃ u, V di.toNat = u := ⟨_, rfl⟩
                have HU := Lib.hid hu
                have e1 : (u == u) = true := beq_self_eq_true u
                clear hu
                go_upto_region 14 with fail
                have b0 : Below w4.heap.size w4 w4.drew := below_drewN (Below.refl _ _) 1
                have B5 := Lib.hid (B4.out.below b0)
                have C5 := Lib.hid (C4.out.below' b0)
                have c5 : w4.drew.cell? ⟨m, 1, none⟩ = some (.int .i64 di) := by rw [C5.out.cell]; rfl
                clear b0
                go_region_held3 (fun w' => w'.cell? ⟨m, 1, none⟩ = some (.int .i64 di))
                  (first | exact c5 | exact c6.out | exact c7.out)
                  (first
                    | (go_at_call 12; (with_reducible refine (pgb_gives B5.out.p di u HU.out).mono ?_); rintro e w6 ⟨rfl, p6, g6⟩; have P6 := Lib.hid p6; have T6 := Lib.hid (B5.out.t.pages B5.out.p g6); have C6 := Lib.hid (deed_p C5.out B5.out.p g6); have c6 := Lib.hid (show w6.cell? ⟨m, 1, none⟩ = some (.int .i64 di) by rw [C6.out.cell]; rfl); clear p6 g6)
                    | (go_at_call 13; (with_reducible refine (tkb_give T6.out di u HU.out).mono ?_); rintro e w7 ⟨rfl, t7, g7⟩; have T7 := Lib.hid t7; have P7 := Lib.hid (P6.out.taken T6.out g7); have C7 := Lib.hid (deed_t C6.out T6.out g7); have c7 := Lib.hid (show w7.cell? ⟨m, 1, none⟩ = some (.int .i64 di) by rw [C7.out.cell]; rfl); clear t7 g7))
                all_goals
                  go_wp2_with fail
                  go_meet
                  exact ⟨rfl, _, ⟨P7.out, T7.out⟩, C7.out⟩
            case rest =>
            obtain ⟨rfl, V2, bo, cm⟩ := hcut
            have BO := Lib.hid bo
            clear bo B4 C4
            obtain ⟨u, hu⟩ : ∃ u, V2 di.toNat = u := ⟨_, rfl⟩
            have HU := Lib.hid hu
            obtain ⟨L, cc, hL, hc, hs⟩ := len_free V2 N
            have HL := Lib.hid hL; have HC := Lib.hid hc
            obtain ⟨A9, c9, ct, hrow⟩ := BO.out.list L hL
            have HS := Lib.hid (Sees.mk (f := f) ⟨dk, cm⟩ ct)
            have HR := Lib.hid hrow
            have h300 : L ≤ 300 := by omega
            have e1 : (u != u) = false := by simp
            have e3 : IntKind.i64.wrap ((N : Int) - (L : Int)) = (cc : Int) := by rw [IntWalk.i64_in _ (by omega)]; omega
            have e5 : wrap64 ((N : Int) - (L : Int)) = (cc : Int) := by unfold wrap64; omega
            have e4 : ((cc : Int) != (cc : Int)) = false := by simp
            clear hu hL hc ct hrow cm
            obtain ⟨w6, rfl⟩ : ∃ w6 : World, w6 = wc := ⟨_, rfl⟩
            go_upto_region 15 with fail
            have hb0 : Below w6.heap.size w6 w6.drew := below_drewN (Below.refl _ _) 1
            first
              | go_region_held3 (fun w' => Below w6.heap.size w6 w' ∧ w'.cell? ⟨m, 1, none⟩ = some (.int .i64 di) ∧ w'.cell? ⟨g, 0, none⟩ = some (.int .i64 N) ∧ w'.cell? ⟨g, 1, none⟩ = some (.slice A9 L c9))
                (first
                  | exact HS.out.mk' hb0
                  | exact HS.out.mk' kS
                  | exact HS.out.mk' kU
                  | exact HS.out.mk' kF
                  | exact HS.out.mk' kT
                  | exact HS.out.mk' kH)
                (first
                  | (go_at_call 14; (with_reducible refine (b_has BO.out hb0 di u HU.out).mono ?_); rintro e wH ⟨rfl, kH⟩)
                  | (go_at_call 15; (with_reducible refine (b_thas BO.out kH di u HU.out).mono ?_); rintro e wT ⟨rfl, kT⟩)
                  | (go_at_call 16; (with_reducible refine (b_free BO.out kT cc HC.out).mono ?_); rintro e wF ⟨rfl, kF⟩)
                  | (go_at_call 18; (with_reducible refine (b_used BO.out kF L HL.out).mono ?_); rintro e wU ⟨AU, cU, rfl, rU, kU⟩)
                  | (go_at_call 17; (with_reducible refine (b_same HL.out h300 kU rU HR.out).mono ?_); rintro e wS ⟨rfl, kS⟩))
              | fail
            all_goals
              have BS := Lib.hid (BO.out.below kS)
              clear kS
              go_wp2_with fail
              go_roundw
            case rel => exact ⟨k + 1, V2, by omega, by go_num, BS.out⟩
            case measure => simp [intOf]; omega
          · obtain rfl : k = ds.length := by omega
            have BO := Lib.hid hBo
            clear hBo
            go_wp2
            go_ret
            exact ⟨rfl, BO.out.p.b⟩
end
end Go.Proofs.YtjhchddmbbibpaaDoor
