import Derived.Test.YtlmfdfmndbfghaaPmOn
import Derived.Test.YtlmfdfmndbfghaaPmArmL
import Derived.Deep.CutRange
import Derived.Deep.RegionHeld3
namespace Go.Proofs.Ytlmfdfmndbfghaa
open Wd Pm Go.Maps Go.RowKit
set_option linter.unusedVariables false

theorem map_inj {xs ys : List Int} (h : xs.map (Value.int .u64) = ys.map (Value.int .u64)) : xs = ys := by
  induction xs generalizing ys with
  | nil => cases ys with | nil => rfl | cons y ys => cases h
  | cons x xs ih =>
    cases ys with
    | nil => cases h
    | cons y ys =>
      simp only [List.map_cons] at h
      injection h with h1 h2
      injection h1 with _ h1
      rw [h1, ih h2]
theorem own_len {w : World} {base : Nat} {e : TypeId} {A : Option Addr} {n c m : Nat} {xs : List Value} (h : w.ownsRow base e 1 (.slice A n c) m xs) : n = m := by
  rcases h.2 with ⟨e1, z⟩ | ⟨g, cap, cur, e1, _⟩
  · injection e1 with _ e1 _; omega
  · injection e1
theorem OnlySt.form {w wr : World} {p nn m : Nat} {i : Int} {extra : List Int} {sv : Value} (h : OnlySt w p nn i m extra sv wr) : ∃ A n c, sv = .slice A n c := by
  obtain ⟨seen, f, σ, h1, h2, h3, h4, h5, h6⟩ := h
  obtain ⟨A, c, e, _⟩ := Row.of_own h5
  exact ⟨A, _, c, e⟩
theorem OnlySt.bsize {w wr : World} {p nn m : Nat} {i : Int} {extra : List Int} {sv : Value} (h : OnlySt w p nn i m extra sv wr) : w.heap.size ≤ wr.heap.size := by
  obtain ⟨_, _, _, _, _, _, b, _⟩ := h
  exact b.size
theorem OnlySt.size {w wr : World} {p nn m : Nat} {i : Int} {extra : List Int} {A : Option Addr} {n c : Nat} (h : OnlySt w p nn i m extra (.slice A n c) wr) : n ≤ m := by
  obtain ⟨seen, f, σ, h1, h2, h3, h4, h5, h6, h7, _⟩ := h
  obtain ⟨A', c', e, _⟩ := Row.of_own h5
  injection e with _ e _
  omega
theorem any_snoc {seen : List Int} {s x : Int} {k : Nat} (h : seen[k]? = some x) : (seen.take (k + 1)).any (fun y => s == y) = ((seen.take k).any (fun y => s == y) || (s == x)) := by
  rw [take_snoc' h, List.any_append]; simp
/-- one more was seen -/
theorem only_app {w wr w5 : World} {p nn m : Nat} {i v : Int} {sv sv' : Value} {seen : List Int} (h : OnlySt w p nn i m [v] sv wr) (hs : wr.ownsRow w.heap.size 29 1 sv seen.length (seen.map (Value.int .u64))) (hv : U64 v)
    (own : w5.ownsRow w.heap.size 29 1 sv' (seen.length + 1) (seen.map (Value.int .u64) ++ [.int .u64 v])) (hg : (wr.alloc (.cells #[.int .u64 v] 29)).grownBy w5 sv.ownBlock) (hat : sv'.ownBlock = sv.ownBlock ∨ sv'.ownBlock = some (wr.alloc (.cells #[.int .u64 v] 29)).heap.size) :
    OnlySt w p nn i (m + 1) [] sv' w5 := by
  obtain ⟨seen', f, σ, h1, d, fr, b, own', hq, hl, hu, c⟩ := h
  have he : seen' = seen := by
    have e1 : seen'.length = seen.length := by
      have a := own'.1; have b := hs.1
      rcases own'.2 with ⟨rfl, z⟩ | ⟨g, cap, cur, rfl, _⟩
      · rcases hs.2 with ⟨_, z2⟩ | ⟨g2, cap2, cur2, e, _⟩
        · rw [z, z2]
        · cases e
      · rcases hs.2 with ⟨e, _⟩ | ⟨g2, cap2, cur2, e, _⟩
        · cases e
        · injection e
    have e2 : seen'.map (Value.int .u64) = seen.map (Value.int .u64) := by
      rcases own'.2 with ⟨rfl, z⟩ | ⟨g, cap, cur, rfl, _, hh, _, _, _, ht⟩
      · have z1 := List.eq_nil_of_length_eq_zero z
        have z2 : seen = [] := List.eq_nil_of_length_eq_zero (by omega)
        rw [z1, z2]
      · rcases hs.2 with ⟨e, _⟩ | ⟨g2, cap2, cur2, e, _, hh2, _, _, _, ht2⟩
        · cases e
        · injection e with e3 e4 e5
          injection e3 with e3
          injection e3 with e3
          subst e3
          rw [hh2] at hh
          injection hh with hh
          injection hh with hh
          rw [← ht, ← ht2, hh, e1]
    exact map_inj e2
  subst he
  have d' := d.alloc (.cells #[.int .u64 v] 29)
  have hsz : (wr.alloc (.cells #[.int .u64 v] 29)).heap.size = wr.heap.size + 1 := by simp
  have hlt := d.lt
  refine ⟨seen' ++ [v], f, σ, h1, d'.keep fun k hk => hg.block k (by have := d'.lt; simp [Fp.blocks] at hk; omega) (fun e => hq k e.symm hk), fr, ?_, ?_, ?_, ?_, ?_, ?_⟩
  · exact (b.alloc b.size _).grown hg (by simp; have := b.size; omega) (own_base own')
  · rw [List.length_append, List.map_append]; exact own
  · intro q e hm
    rcases hat with e1 | e1
    · exact hq q (e1 ▸ e) hm
    · rw [e1, hsz] at e
      have := Option.some.inj e
      simp [Fp.blocks] at hm
      omega
  · simp; omega
  · intro c' hc
    rcases List.mem_append.1 hc with h | h
    · exact hu c' h
    · simp at h; subst h; exact hv
  · rw [List.append_nil]; exact c.next

def OnlyRel (w : World) (p nn : Nat) (i : Int) (l : List Deed) (sv idx : Value) (wr : World) : Prop := ∃ j : Nat, j ≤ l.length ∧ idx = .int .i64 j ∧ OnlySt w p nn i (2 * j + 1) [] sv wr

set_option maxRecDepth 100000 in
set_option maxHeartbeats 4000000 in
theorem only_true (n : Int) (hn : (Lit.int .i64 n).wf = true) (A : Option Addr) (c : Nat) (l : List Deed) (i : Int) (hi : (Lit.int .i64 i).wf = true) (w : World) (h : Deeds w w.heap.size A l) (hm : l.length ≤ maxLen) : Calls Try.prog 5 #[.int .i64 n, .slice A l.length c, .int .i64 i] w (TrueB w) := by
  have hm2 := hm
  unfold maxLen at hm2
  by_cases hq : fewB l = true ∧ n ≤ 1000
  · obtain ⟨hf, n1⟩ := hq
    have HF := Lib.hid hf
    have hl60 : l.length ≤ 60 := by unfold fewB at hf; simp at hf; exact hf.2
    have q1 : decide (n > 1000) = false := by simp; omega
    have hcl : clampN n ≤ 33554432 := by unfold clampN; omega
    clear hf n1
    go_enter Try.func5, Try.ntmps5
    go_wp2_with fail
    refine (awake_true w).mono ?_
    rintro e w1 ⟨rfl, b1⟩
    go_wp2_with fail
    refine (few_any (h.at_world b1) hm).mono ?_
    rintro e w2 ⟨rfl, b2⟩
    simp only [HF.out]
    have b12 := b1.trans (b2.mono b1.size)
    go_wp2_with fail
    refine (new_dev n w2).mono ?_
    rintro e w3 ⟨f, rfl, d3, n3, b3⟩
    have hp : f.ptr = .pointer (some ⟨f.p, 0, none⟩) := rfl
    rw [hp]
    have hs0 : OnlySt w f.p (clampN n) i 1 [] (.slice (some ⟨w3.heap.size, 0, none⟩) 1 1) (w3.alloc (.cells #[.int .u64 0] 29)) := by
      have b13 := b12.trans (b3.mono b12.size)
      refine ⟨[0], f, _, rfl, d3.alloc _, fun k hk => Nat.le_trans b12.size (n3 k hk), b13.alloc b13.size _, ?_, ?_, by simp, ?_, ⟨rfl, rfl, rfl, by show (0 : Int) ≤ _; omega, seen_fresh _ _⟩⟩
      · exact ⟨rfl, .inr ⟨w3.heap.size, 1, #[.int .u64 0], rfl, b13.size, Cells.new w3 _ _, Nat.le_refl _, by decide, rfl, rfl⟩⟩
      · intro q e
        have : w3.heap.size = q := by simpa [Value.ownBlock] using e
        subst this
        exact d3.out (Nat.le_refl _)
      · intro c hc; simp at hc; subst hc; unfold U64; decide
    have HS0 := Lib.hid hs0
    clear hs0 d3 n3 b3 b12 b1 b2 hp
    go_wp2
    go_loopw [8, 31] (fun sv idx wr => OnlyRel w f.p (clampN n) i l sv idx wr) (fun _ idx _ => l.length - (intOf idx).toNat)
    case atStart => exact ⟨0, Nat.zero_le _, rfl, HS0.out⟩
    case round =>
      obtain ⟨j, hj, rfl, hA⟩ := hrel
      have hbw : Below w.heap.size w wr := by obtain ⟨_, _, _, _, _, _, b, _⟩ := hA; exact b
      by_cases hlt : j < l.length
      · obtain ⟨d, hd⟩ : ∃ d, l[j]? = some d := ⟨_, List.getElem?_eq_getElem hlt⟩
        have hD := h.below hbw
        obtain ⟨b, off, rfl, hbB, hx⟩ := hD.at_ (by omega)
        have ok := hD.ok d (List.mem_of_getElem? hd)
        have x0 : wr.cell? ⟨b, off + j * 4, none⟩ = some (.int .i64 d.kind) := hx j d hd 0 _ rfl
        have x1 : wr.cell? ⟨b, off + j * 4 + 1, none⟩ = some (.int .i64 d.i) := hx j d hd 1 _ rfl
        have x2 : wr.cell? ⟨b, off + j * 4 + 2, none⟩ = some (.int .u64 d.v) := hx j d hd 2 _ rfl
        have x3 : wr.cell? ⟨b, off + j * 4 + 3, none⟩ = some (.slice d.A d.keep.length d.cp) := hx j d hd 3 _ rfl
        have hv := ok.v
        have HA := Lib.hid (hA.alloc (.cells #[.int .i64 d.kind, .int .i64 d.i, .int .u64 d.v, .slice d.A d.keep.length d.cp] 32))
        have hbs := hbw.size
        have HOK := Lib.hid (ok.below (w' := wr.alloc (.cells #[.int .i64 d.kind, .int .i64 d.i, .int .u64 d.v, .slice d.A d.keep.length d.cp] 32)) ((Below.refl _ _).alloc hbs _))
        have HV := Lib.hid hv
        have k0 := Cells.new wr 32 #[.int .i64 d.kind, .int .i64 d.i, .int .u64 d.v, .slice d.A d.keep.length d.cp]
        have KB := Lib.hid k0
        clear hx hD hd ok hA hv k0
        by_cases k4 : d.kind = 4
        · have kq : (d.kind == 4) = true := by simpa using k4
          clear k4
          go_wp2
          go_roundw
          case rel =>
            obtain ⟨seen, f', σ, h1, h2, h3, h4, h5, h6, h7, h8, h9⟩ := HA.out
            exact ⟨j + 1, by omega, by go_num, seen, f', σ, h1, h2, h3, h4, h5, h6, by omega, h8, ⟨h9.n, h9.ar, h9.dead, by have := h9.ev; omega, h9.seen⟩⟩
          case measure => simp [intOf]; omega
        · have kq : (d.kind == 4) = false := by simpa using k4
          by_cases ks : d.kind ≤ 0
          · have q2 : decide (d.kind ≤ 0) = true := by simpa using ks
            clear k4 ks
            obtain ⟨wo, rfl⟩ : ∃ wo : World, wo = wr := ⟨_, rfl⟩
            obtain ⟨Asv, nsv, csv, rfl⟩ := HA.out.form
            have hmj : 2 * j + 1 ≤ 1000 := by omega
            by_cases hw : hasW (clampN n) d.i = true
            · by_cases hxi : d.i = i
              · have qi : (d.i == i) = true := by simpa using hxi
                have hcs := only_store HA.out hmj d.i d.v HV.out 0 (if_pos hw)
                rw [if_pos ⟨hw, hxi⟩] at hcs
                have HCS := Lib.hid hcs
                clear hcs
                clear hw hxi
                go_wp2_with (first
                  | (go_at_call 12; refine HCS.out.mono ?_; rintro e w5 ⟨rfl, hG, hkeep⟩; have K5 := hkeep _ _ KB.out; have m1 : w5.cell? ⟨wo.heap.size, 1, none⟩ = some (.int .i64 d.i) := K5.cell 1; have m2 : w5.cell? ⟨wo.heap.size, 2, none⟩ = some (.int .u64 d.v) := K5.cell 2; obtain ⟨_, _, seen0, own0, hls0, _⟩ := only_stays hG; have HG := Lib.hid hG; have HO0 := Lib.hid own0; have hn0 : nsv = seen0.length := own_len own0; subst hn0; have hb5 := hG.bsize; clear hG own0 hkeep K5)
                  | (at_builtin; refine wpList_append_row _ rfl (.tmp 59) (.tmp 62) 52 rfl w.heap.size 29 (.int .u64 0) 8 Try.underlying52 infoU rfl _ _ _ rfl (HO0.out.alloc _) _ (some ⟨w5.heap.size, 0, none⟩) 1 1 [.int .u64 d.v] rfl (Row.one _ _ _) (by simp [Value.oneCell']) (by unfold maxLen; omega) (by omega) (by simp; omega) ?_; intro v6 w6 hown6 hgr6 hat6; have HS6 := Lib.hid (only_app HG.out HO0.out HV.out hown6 hgr6 hat6); clear hown6 hgr6 hat6; obtain ⟨Asv6, nsv6, csv6, rfl⟩ := HS6.out.form))
                obtain ⟨s, hcall, seen, own, hls, hmem⟩ := only_stays HS6.out
                rw [List.append_nil] at hmem
                have hform := Row.of_own own
                obtain ⟨Ae, ce, ee, -⟩ := hform
                injection ee with e1 e2 e3
                subst e1 e2 e3
                have hcl2 := hcall _ rfl
                have HO := Lib.hid own
                have HC := Lib.hid hcl2
                have HM := Lib.hid hmem
                clear hcall own hcl2 hmem
                go_wp2
                go_loop [11, 71] (fun is idx => ∃ k : Nat, k ≤ seen.length ∧ idx = .int .i64 k ∧ is = .bool ((seen.take k).any (fun y => s == y))) (fun _ idx => seen.length - (intOf idx).toNat)
                case atStart => exact ⟨0, Nat.zero_le _, rfl, rfl⟩
                case round =>
                  obtain ⟨k, hk, rfl, rfl⟩ := hrel
                  by_cases hkl : k < seen.length
                  · obtain ⟨x, hxk⟩ : ∃ x, seen[k]? = some x := ⟨_, List.getElem?_eq_getElem hkl⟩
                    obtain ⟨g, cap, e, hgb, hc1, hc2, hgl⟩ := own_open HO.out (by omega)
                    injection e with e4 e5 e6
                    subst e4 e6
                    have cy := (own_cell HO.out (k := k) (u := .int .u64 x) (by rw [List.getElem?_map, hxk]; rfl)).1
                    have HX := Lib.hid hxk
                    clear hxk
                    cases hb : (seen.take k).any (fun y => s == y)
                    · have HB := Lib.hid hb
                      clear hb
                      go_wp2_with (go_at_call 17; refine HC.out.mono ?_; rintro e w' ⟨rfl, rfl⟩)
                      go_round
                      case rel => exact ⟨k + 1, by omega, by go_num, by rw [any_snoc HX.out, HB.out, Bool.false_or]⟩
                      case measure => simp [intOf]; omega
                    · have HB := Lib.hid hb
                      clear hb
                      go_wp2
                      go_round
                      case rel => exact ⟨k + 1, by omega, by go_num, by rw [any_snoc HX.out, HB.out, Bool.true_or]⟩
                      case measure => simp [intOf]; omega
                  · obtain rfl : k = seen.length := by omega
                    have hany : (seen.take seen.length).any (fun y => s == y) = true := by
                      rw [List.take_of_length_le (Nat.le_refl _), List.any_eq_true]
                      exact ⟨s, HM.out, by simp⟩
                    rw [hany]
                    clear hany
                    go_wp2
                    go_roundw
                    case rel => exact ⟨j + 1, by omega, by go_num, OnlySt.up HS6.out (by omega)⟩
                    case measure => simp [intOf]; omega
              · have qi : (d.i == i) = false := by simpa using hxi
                have hcs := only_store HA.out hmj d.i d.v HV.out 0 (if_pos hw)
                rw [if_neg (fun h => hxi h.2)] at hcs
                have HCS := Lib.hid hcs
                clear hcs
                clear hw hxi
                go_wp2_with (go_at_call 12; refine HCS.out.mono ?_; rintro e w5 ⟨rfl, hG, hkeep⟩; have K5 := hkeep _ _ KB.out; have m1 : w5.cell? ⟨wo.heap.size, 1, none⟩ = some (.int .i64 d.i) := K5.cell 1; have m2 : w5.cell? ⟨wo.heap.size, 2, none⟩ = some (.int .u64 d.v) := K5.cell 2; have HS6 := Lib.hid hG; clear hG hkeep K5)
                obtain ⟨s, hcall, seen, own, hls, hmem⟩ := only_stays HS6.out
                rw [List.append_nil] at hmem
                have hform := Row.of_own own
                obtain ⟨Ae, ce, ee, -⟩ := hform
                injection ee with e1 e2 e3
                subst e1 e2 e3
                have hcl2 := hcall _ rfl
                have HO := Lib.hid own
                have HC := Lib.hid hcl2
                have HM := Lib.hid hmem
                clear hcall own hcl2 hmem
                go_wp2
                go_loop [11, 71] (fun is idx => ∃ k : Nat, k ≤ seen.length ∧ idx = .int .i64 k ∧ is = .bool ((seen.take k).any (fun y => s == y))) (fun _ idx => seen.length - (intOf idx).toNat)
                case atStart => exact ⟨0, Nat.zero_le _, rfl, rfl⟩
                case round =>
                  obtain ⟨k, hk, rfl, rfl⟩ := hrel
                  by_cases hkl : k < seen.length
                  · obtain ⟨x, hxk⟩ : ∃ x, seen[k]? = some x := ⟨_, List.getElem?_eq_getElem hkl⟩
                    obtain ⟨g, cap, e, hgb, hc1, hc2, hgl⟩ := own_open HO.out (by omega)
                    injection e with e4 e5 e6
                    subst e4 e6
                    have cy := (own_cell HO.out (k := k) (u := .int .u64 x) (by rw [List.getElem?_map, hxk]; rfl)).1
                    have HX := Lib.hid hxk
                    clear hxk
                    cases hb : (seen.take k).any (fun y => s == y)
                    · have HB := Lib.hid hb
                      clear hb
                      go_wp2_with (go_at_call 17; refine HC.out.mono ?_; rintro e w' ⟨rfl, rfl⟩)
                      go_round
                      case rel => exact ⟨k + 1, by omega, by go_num, by rw [any_snoc HX.out, HB.out, Bool.false_or]⟩
                      case measure => simp [intOf]; omega
                    · have HB := Lib.hid hb
                      clear hb
                      go_wp2
                      go_round
                      case rel => exact ⟨k + 1, by omega, by go_num, by rw [any_snoc HX.out, HB.out, Bool.true_or]⟩
                      case measure => simp [intOf]; omega
                  · obtain rfl : k = seen.length := by omega
                    have hany : (seen.take seen.length).any (fun y => s == y) = true := by
                      rw [List.take_of_length_le (Nat.le_refl _), List.any_eq_true]
                      exact ⟨s, HM.out, by simp⟩
                    rw [hany]
                    clear hany
                    go_wp2
                    go_roundw
                    case rel => exact ⟨j + 1, by omega, by go_num, OnlySt.up HS6.out (by omega)⟩
                    case measure => simp [intOf]; omega
            · have hcs := only_store HA.out hmj d.i d.v HV.out 90 (if_neg hw)
              rw [if_neg (fun h => hw h.1)] at hcs
              have HCS := Lib.hid hcs
              clear hcs hw
              go_wp2_with (go_at_call 12; refine HCS.out.mono ?_; rintro e w5 ⟨rfl, hG, hkeep⟩; have K5 := hkeep _ _ KB.out; have m1 : w5.cell? ⟨wo.heap.size, 1, none⟩ = some (.int .i64 d.i) := K5.cell 1; have m2 : w5.cell? ⟨wo.heap.size, 2, none⟩ = some (.int .u64 d.v) := K5.cell 2; have HS6 := Lib.hid hG; clear hG hkeep K5)
              obtain ⟨s, hcall, seen, own, hls, hmem⟩ := only_stays HS6.out
              rw [List.append_nil] at hmem
              have hform := Row.of_own own
              obtain ⟨Ae, ce, ee, -⟩ := hform
              injection ee with e1 e2 e3
              subst e1 e2 e3
              have hcl2 := hcall _ rfl
              have HO := Lib.hid own
              have HC := Lib.hid hcl2
              have HM := Lib.hid hmem
              clear hcall own hcl2 hmem
              go_wp2
              go_loop [11, 71] (fun is idx => ∃ k : Nat, k ≤ seen.length ∧ idx = .int .i64 k ∧ is = .bool ((seen.take k).any (fun y => s == y))) (fun _ idx => seen.length - (intOf idx).toNat)
              case atStart => exact ⟨0, Nat.zero_le _, rfl, rfl⟩
              case round =>
                obtain ⟨k, hk, rfl, rfl⟩ := hrel
                by_cases hkl : k < seen.length
                · obtain ⟨x, hxk⟩ : ∃ x, seen[k]? = some x := ⟨_, List.getElem?_eq_getElem hkl⟩
                  obtain ⟨g, cap, e, hgb, hc1, hc2, hgl⟩ := own_open HO.out (by omega)
                  injection e with e4 e5 e6
                  subst e4 e6
                  have cy := (own_cell HO.out (k := k) (u := .int .u64 x) (by rw [List.getElem?_map, hxk]; rfl)).1
                  have HX := Lib.hid hxk
                  clear hxk
                  cases hb : (seen.take k).any (fun y => s == y)
                  · have HB := Lib.hid hb
                    clear hb
                    go_wp2_with (go_at_call 17; refine HC.out.mono ?_; rintro e w' ⟨rfl, rfl⟩)
                    go_round
                    case rel => exact ⟨k + 1, by omega, by go_num, by rw [any_snoc HX.out, HB.out, Bool.false_or]⟩
                    case measure => simp [intOf]; omega
                  · have HB := Lib.hid hb
                    clear hb
                    go_wp2
                    go_round
                    case rel => exact ⟨k + 1, by omega, by go_num, by rw [any_snoc HX.out, HB.out, Bool.true_or]⟩
                    case measure => simp [intOf]; omega
                · obtain rfl : k = seen.length := by omega
                  have hany : (seen.take seen.length).any (fun y => s == y) = true := by
                    rw [List.take_of_length_le (Nat.le_refl _), List.any_eq_true]
                    exact ⟨s, HM.out, by simp⟩
                  rw [hany]
                  clear hany
                  go_wp2
                  go_roundw
                  case rel => exact ⟨j + 1, by omega, by go_num, OnlySt.up HS6.out (by omega)⟩
                  case measure => simp [intOf]; omega
          · have q2 : decide (d.kind ≤ 0) = false := by simpa using ks
            by_cases kl : d.kind > 5
            · have q3 : decide (d.kind > 5) = true := by simpa using kl
              clear k4 ks kl
              obtain ⟨wo, rfl⟩ : ∃ wo : World, wo = wr := ⟨_, rfl⟩
              obtain ⟨Asv, nsv, csv, rfl⟩ := HA.out.form
              have hmj : 2 * j + 1 ≤ 1000 := by omega
              by_cases hw : hasW (clampN n) d.i = true
              · by_cases hxi : d.i = i
                · have qi : (d.i == i) = true := by simpa using hxi
                  have hcs := only_store HA.out hmj d.i d.v HV.out 0 (if_pos hw)
                  rw [if_pos ⟨hw, hxi⟩] at hcs
                  have HCS := Lib.hid hcs
                  clear hcs
                  clear hw hxi
                  go_wp2_with (first
                    | (go_at_call 12; refine HCS.out.mono ?_; rintro e w5 ⟨rfl, hG, hkeep⟩; have K5 := hkeep _ _ KB.out; have m1 : w5.cell? ⟨wo.heap.size, 1, none⟩ = some (.int .i64 d.i) := K5.cell 1; have m2 : w5.cell? ⟨wo.heap.size, 2, none⟩ = some (.int .u64 d.v) := K5.cell 2; obtain ⟨_, _, seen0, own0, hls0, _⟩ := only_stays hG; have HG := Lib.hid hG; have HO0 := Lib.hid own0; have hn0 : nsv = seen0.length := own_len own0; subst hn0; have hb5 := hG.bsize; clear hG own0 hkeep K5)
                    | (at_builtin; refine wpList_append_row _ rfl (.tmp 59) (.tmp 62) 52 rfl w.heap.size 29 (.int .u64 0) 8 Try.underlying52 infoU rfl _ _ _ rfl (HO0.out.alloc _) _ (some ⟨w5.heap.size, 0, none⟩) 1 1 [.int .u64 d.v] rfl (Row.one _ _ _) (by simp [Value.oneCell']) (by unfold maxLen; omega) (by omega) (by simp; omega) ?_; intro v6 w6 hown6 hgr6 hat6; have HS6 := Lib.hid (only_app HG.out HO0.out HV.out hown6 hgr6 hat6); clear hown6 hgr6 hat6; obtain ⟨Asv6, nsv6, csv6, rfl⟩ := HS6.out.form))
                  obtain ⟨s, hcall, seen, own, hls, hmem⟩ := only_stays HS6.out
                  rw [List.append_nil] at hmem
                  have hform := Row.of_own own
                  obtain ⟨Ae, ce, ee, -⟩ := hform
                  injection ee with e1 e2 e3
                  subst e1 e2 e3
                  have hcl2 := hcall _ rfl
                  have HO := Lib.hid own
                  have HC := Lib.hid hcl2
                  have HM := Lib.hid hmem
                  clear hcall own hcl2 hmem
                  go_wp2
                  go_loop [11, 71] (fun is idx => ∃ k : Nat, k ≤ seen.length ∧ idx = .int .i64 k ∧ is = .bool ((seen.take k).any (fun y => s == y))) (fun _ idx => seen.length - (intOf idx).toNat)
                  case atStart => exact ⟨0, Nat.zero_le _, rfl, rfl⟩
                  case round =>
                    obtain ⟨k, hk, rfl, rfl⟩ := hrel
                    by_cases hkl : k < seen.length
                    · obtain ⟨x, hxk⟩ : ∃ x, seen[k]? = some x := ⟨_, List.getElem?_eq_getElem hkl⟩
                      obtain ⟨g, cap, e, hgb, hc1, hc2, hgl⟩ := own_open HO.out (by omega)
                      injection e with e4 e5 e6
                      subst e4 e6
                      have cy := (own_cell HO.out (k := k) (u := .int .u64 x) (by rw [List.getElem?_map, hxk]; rfl)).1
                      have HX := Lib.hid hxk
                      clear hxk
                      cases hb : (seen.take k).any (fun y => s == y)
                      · have HB := Lib.hid hb
                        clear hb
                        go_wp2_with (go_at_call 17; refine HC.out.mono ?_; rintro e w' ⟨rfl, rfl⟩)
                        go_round
                        case rel => exact ⟨k + 1, by omega, by go_num, by rw [any_snoc HX.out, HB.out, Bool.false_or]⟩
                        case measure => simp [intOf]; omega
                      · have HB := Lib.hid hb
                        clear hb
                        go_wp2
                        go_round
                        case rel => exact ⟨k + 1, by omega, by go_num, by rw [any_snoc HX.out, HB.out, Bool.true_or]⟩
                        case measure => simp [intOf]; omega
                    · obtain rfl : k = seen.length := by omega
                      have hany : (seen.take seen.length).any (fun y => s == y) = true := by
                        rw [List.take_of_length_le (Nat.le_refl _), List.any_eq_true]
                        exact ⟨s, HM.out, by simp⟩
                      rw [hany]
                      clear hany
                      go_wp2
                      go_roundw
                      case rel => exact ⟨j + 1, by omega, by go_num, OnlySt.up HS6.out (by omega)⟩
                      case measure => simp [intOf]; omega
                · have qi : (d.i == i) = false := by simpa using hxi
                  have hcs := only_store HA.out hmj d.i d.v HV.out 0 (if_pos hw)
                  rw [if_neg (fun h => hxi h.2)] at hcs
                  have HCS := Lib.hid hcs
                  clear hcs
                  clear hw hxi
                  go_wp2_with (go_at_call 12; refine HCS.out.mono ?_; rintro e w5 ⟨rfl, hG, hkeep⟩; have K5 := hkeep _ _ KB.out; have m1 : w5.cell? ⟨wo.heap.size, 1, none⟩ = some (.int .i64 d.i) := K5.cell 1; have m2 : w5.cell? ⟨wo.heap.size, 2, none⟩ = some (.int .u64 d.v) := K5.cell 2; have HS6 := Lib.hid hG; clear hG hkeep K5)
                  obtain ⟨s, hcall, seen, own, hls, hmem⟩ := only_stays HS6.out
                  rw [List.append_nil] at hmem
                  have hform := Row.of_own own
                  obtain ⟨Ae, ce, ee, -⟩ := hform
                  injection ee with e1 e2 e3
                  subst e1 e2 e3
                  have hcl2 := hcall _ rfl
                  have HO := Lib.hid own
                  have HC := Lib.hid hcl2
                  have HM := Lib.hid hmem
                  clear hcall own hcl2 hmem
                  go_wp2
                  go_loop [11, 71] (fun is idx => ∃ k : Nat, k ≤ seen.length ∧ idx = .int .i64 k ∧ is = .bool ((seen.take k).any (fun y => s == y))) (fun _ idx => seen.length - (intOf idx).toNat)
                  case atStart => exact ⟨0, Nat.zero_le _, rfl, rfl⟩
                  case round =>
                    obtain ⟨k, hk, rfl, rfl⟩ := hrel
                    by_cases hkl : k < seen.length
                    · obtain ⟨x, hxk⟩ : ∃ x, seen[k]? = some x := ⟨_, List.getElem?_eq_getElem hkl⟩
                      obtain ⟨g, cap, e, hgb, hc1, hc2, hgl⟩ := own_open HO.out (by omega)
                      injection e with e4 e5 e6
                      subst e4 e6
                      have cy := (own_cell HO.out (k := k) (u := .int .u64 x) (by rw [List.getElem?_map, hxk]; rfl)).1
                      have HX := Lib.hid hxk
                      clear hxk
                      cases hb : (seen.take k).any (fun y => s == y)
                      · have HB := Lib.hid hb
                        clear hb
                        go_wp2_with (go_at_call 17; refine HC.out.mono ?_; rintro e w' ⟨rfl, rfl⟩)
                        go_round
                        case rel => exact ⟨k + 1, by omega, by go_num, by rw [any_snoc HX.out, HB.out, Bool.false_or]⟩
                        case measure => simp [intOf]; omega
                      · have HB := Lib.hid hb
                        clear hb
                        go_wp2
                        go_round
                        case rel => exact ⟨k + 1, by omega, by go_num, by rw [any_snoc HX.out, HB.out, Bool.true_or]⟩
                        case measure => simp [intOf]; omega
                    · obtain rfl : k = seen.length := by omega
                      have hany : (seen.take seen.length).any (fun y => s == y) = true := by
                        rw [List.take_of_length_le (Nat.le_refl _), List.any_eq_true]
                        exact ⟨s, HM.out, by simp⟩
                      rw [hany]
                      clear hany
                      go_wp2
                      go_roundw
                      case rel => exact ⟨j + 1, by omega, by go_num, OnlySt.up HS6.out (by omega)⟩
                      case measure => simp [intOf]; omega
              · have hcs := only_store HA.out hmj d.i d.v HV.out 90 (if_neg hw)
                rw [if_neg (fun h => hw h.1)] at hcs
                have HCS := Lib.hid hcs
                clear hcs hw
                go_wp2_with (go_at_call 12; refine HCS.out.mono ?_; rintro e w5 ⟨rfl, hG, hkeep⟩; have K5 := hkeep _ _ KB.out; have m1 : w5.cell? ⟨wo.heap.size, 1, none⟩ = some (.int .i64 d.i) := K5.cell 1; have m2 : w5.cell? ⟨wo.heap.size, 2, none⟩ = some (.int .u64 d.v) := K5.cell 2; have HS6 := Lib.hid hG; clear hG hkeep K5)
                obtain ⟨s, hcall, seen, own, hls, hmem⟩ := only_stays HS6.out
                rw [List.append_nil] at hmem
                have hform := Row.of_own own
                obtain ⟨Ae, ce, ee, -⟩ := hform
                injection ee with e1 e2 e3
                subst e1 e2 e3
                have hcl2 := hcall _ rfl
                have HO := Lib.hid own
                have HC := Lib.hid hcl2
                have HM := Lib.hid hmem
                clear hcall own hcl2 hmem
                go_wp2
                go_loop [11, 71] (fun is idx => ∃ k : Nat, k ≤ seen.length ∧ idx = .int .i64 k ∧ is = .bool ((seen.take k).any (fun y => s == y))) (fun _ idx => seen.length - (intOf idx).toNat)
                case atStart => exact ⟨0, Nat.zero_le _, rfl, rfl⟩
                case round =>
                  obtain ⟨k, hk, rfl, rfl⟩ := hrel
                  by_cases hkl : k < seen.length
                  · obtain ⟨x, hxk⟩ : ∃ x, seen[k]? = some x := ⟨_, List.getElem?_eq_getElem hkl⟩
                    obtain ⟨g, cap, e, hgb, hc1, hc2, hgl⟩ := own_open HO.out (by omega)
                    injection e with e4 e5 e6
                    subst e4 e6
                    have cy := (own_cell HO.out (k := k) (u := .int .u64 x) (by rw [List.getElem?_map, hxk]; rfl)).1
                    have HX := Lib.hid hxk
                    clear hxk
                    cases hb : (seen.take k).any (fun y => s == y)
                    · have HB := Lib.hid hb
                      clear hb
                      go_wp2_with (go_at_call 17; refine HC.out.mono ?_; rintro e w' ⟨rfl, rfl⟩)
                      go_round
                      case rel => exact ⟨k + 1, by omega, by go_num, by rw [any_snoc HX.out, HB.out, Bool.false_or]⟩
                      case measure => simp [intOf]; omega
                    · have HB := Lib.hid hb
                      clear hb
                      go_wp2
                      go_round
                      case rel => exact ⟨k + 1, by omega, by go_num, by rw [any_snoc HX.out, HB.out, Bool.true_or]⟩
                      case measure => simp [intOf]; omega
                  · obtain rfl : k = seen.length := by omega
                    have hany : (seen.take seen.length).any (fun y => s == y) = true := by
                      rw [List.take_of_length_le (Nat.le_refl _), List.any_eq_true]
                      exact ⟨s, HM.out, by simp⟩
                    rw [hany]
                    clear hany
                    go_wp2
                    go_roundw
                    case rel => exact ⟨j + 1, by omega, by go_num, OnlySt.up HS6.out (by omega)⟩
                    case measure => simp [intOf]; omega
            · have q3 : decide (d.kind > 5) = false := by simpa using kl
              have HKD := Lib.hid (⟨by omega, by omega, k4⟩ : 0 < d.kind ∧ d.kind ≤ 5 ∧ d.kind ≠ 4)
              clear k4 ks kl
              obtain ⟨wo, rfl⟩ : ∃ wo : World, wo = wr := ⟨_, rfl⟩
              obtain ⟨Asv, nsv, csv, rfl⟩ := HA.out.form
              have HAd := Lib.hid (show OnlySt w f.p (clampN n) i (2 * j + 1) [] (.slice Asv nsv csv) (wo.alloc (.cells #[.int .i64 d.kind, .int .i64 d.i, .int .u64 d.v, .slice d.A d.keep.length d.cp] 32)).drew from HA.out.below (below_drewN (Below.refl _ _) 1))
              have HOKd := Lib.hid (show d.Ok (wo.alloc (.cells #[.int .i64 d.kind, .int .i64 d.i, .int .u64 d.v, .slice d.A d.keep.length d.cp] 32)).drew w.heap.size from HOK.out.below (below_drewN (Below.refl _ _) 1))
              have KD : Cells (wo.alloc (.cells #[.int .i64 d.kind, .int .i64 d.i, .int .u64 d.v, .slice d.A d.keep.length d.cp] 32)).drew wo.heap.size 32 #[.int .i64 d.kind, .int .i64 d.i, .int .u64 d.v, .slice d.A d.keep.length d.cp] := KB.out
              have hBW : w.heap.size ≤ (wo.alloc (.cells #[.int .i64 d.kind, .int .i64 d.i, .int .u64 d.v, .slice d.A d.keep.length d.cp] 32)).drew.heap.size := by simp; omega
              have HKd := Lib.hid KD
              have HBW := Lib.hid hBW
              have kb0 : (wo.alloc (.cells #[.int .i64 d.kind, .int .i64 d.i, .int .u64 d.v, .slice d.A d.keep.length d.cp] 32)).drew.cell? ⟨wo.heap.size, 0, none⟩ = some (.int .i64 d.kind) := KD.cell 0
              have kb1 : (wo.alloc (.cells #[.int .i64 d.kind, .int .i64 d.i, .int .u64 d.v, .slice d.A d.keep.length d.cp] 32)).drew.cell? ⟨wo.heap.size, 1, none⟩ = some (.int .i64 d.i) := KD.cell 1
              have kb2 : (wo.alloc (.cells #[.int .i64 d.kind, .int .i64 d.i, .int .u64 d.v, .slice d.A d.keep.length d.cp] 32)).drew.cell? ⟨wo.heap.size, 2, none⟩ = some (.int .u64 d.v) := KD.cell 2
              have kb3 : (wo.alloc (.cells #[.int .i64 d.kind, .int .i64 d.i, .int .u64 d.v, .slice d.A d.keep.length d.cp] 32)).drew.cell? ⟨wo.heap.size, 3, none⟩ = some (.slice d.A d.keep.length d.cp) := KD.cell 3
              have hmj : 2 * j + 1 ≤ 1000 := by omega
              have hcl0 : (0 : Int) ≤ (clampN n : Nat) ∧ ((clampN n : Nat) : Int) ≤ 33554432 := by omega
              have HC0 := Lib.hid hcl0
              clear KD hBW hcl0
              go_wp2
              go_region_held3 (fun w' => w'.cell? ⟨wo.heap.size, 0, none⟩ = some (.int .i64 d.kind) ∧ w'.cell? ⟨wo.heap.size, 1, none⟩ = some (.int .i64 d.i) ∧ w'.cell? ⟨wo.heap.size, 2, none⟩ = some (.int .u64 d.v) ∧ w'.cell? ⟨wo.heap.size, 3, none⟩ = some (.slice d.A d.keep.length d.cp))
                (first | exact ⟨kb0, kb1, kb2, kb3⟩ | exact ⟨m0, m1, m2, m3⟩ | exact ⟨p0, p1, p2, p3⟩)
                (first
                  | (go_at_call 10; (with_reducible refine (new_keep n HBW.out HKd.out).mono ?_); rintro e w5 ⟨q5, rfl, hq5, b5, r5, K5⟩; have m0 : w5.cell? ⟨wo.heap.size, 0, none⟩ = some (.int .i64 d.kind) := K5.cell 0; have m1 : w5.cell? ⟨wo.heap.size, 1, none⟩ = some (.int .i64 d.i) := K5.cell 1; have m2 : w5.cell? ⟨wo.heap.size, 2, none⟩ = some (.int .u64 d.v) := K5.cell 2; have m3 : w5.cell? ⟨wo.heap.size, 3, none⟩ = some (.slice d.A d.keep.length d.cp) := K5.cell 3)
                  | (go_at_call 14; (with_reducible refine (only_do (HAd.out.below b5) hmj r5 HC0.out hq5 d (HOKd.out.below (b5.mono HBW.out)) HKD.out).mono ?_); rintro e w6 ⟨⟨bb, rfl⟩, hG, hkeep⟩; have K6 := hkeep _ _ K5; have p0 : w6.cell? ⟨wo.heap.size, 0, none⟩ = some (.int .i64 d.kind) := K6.cell 0; have p1 : w6.cell? ⟨wo.heap.size, 1, none⟩ = some (.int .i64 d.i) := K6.cell 1; have p2 : w6.cell? ⟨wo.heap.size, 2, none⟩ = some (.int .u64 d.v) := K6.cell 2; have p3 : w6.cell? ⟨wo.heap.size, 3, none⟩ = some (.slice d.A d.keep.length d.cp) := K6.cell 3))
              have HS6 := Lib.hid hG
              clear hG hkeep K6 K5 b5 r5 hq5 p0 p1 p2 p3 m0 m1 m2 m3 kb0 kb1 kb2 kb3 x0 x1 x2 x3
              obtain ⟨s, hcall, seen, own, hls, hmem⟩ := only_stays HS6.out
              rw [List.append_nil] at hmem
              have hform := Row.of_own own
              obtain ⟨Ae, ce, ee, -⟩ := hform
              injection ee with e1 e2 e3
              subst e1 e2 e3
              have hcl2 := hcall _ rfl
              have HO := Lib.hid own
              have HC := Lib.hid hcl2
              have HM := Lib.hid hmem
              clear hcall own hcl2 hmem
              go_wp2
              go_loop [11, 71] (fun is idx => ∃ k : Nat, k ≤ seen.length ∧ idx = .int .i64 k ∧ is = .bool ((seen.take k).any (fun y => s == y))) (fun _ idx => seen.length - (intOf idx).toNat)
              case atStart => exact ⟨0, Nat.zero_le _, rfl, rfl⟩
              case round =>
                obtain ⟨k, hk, rfl, rfl⟩ := hrel
                by_cases hkl : k < seen.length
                · obtain ⟨x, hxk⟩ : ∃ x, seen[k]? = some x := ⟨_, List.getElem?_eq_getElem hkl⟩
                  obtain ⟨g, cap, e, hgb, hc1, hc2, hgl⟩ := own_open HO.out (by omega)
                  injection e with e4 e5 e6
                  subst e4 e6
                  have cy := (own_cell HO.out (k := k) (u := .int .u64 x) (by rw [List.getElem?_map, hxk]; rfl)).1
                  have HX := Lib.hid hxk
                  clear hxk
                  cases hb : (seen.take k).any (fun y => s == y)
                  · have HB := Lib.hid hb
                    clear hb
                    go_wp2_with (go_at_call 17; refine HC.out.mono ?_; rintro e w' ⟨rfl, rfl⟩)
                    go_round
                    case rel => exact ⟨k + 1, by omega, by go_num, by rw [any_snoc HX.out, HB.out, Bool.false_or]⟩
                    case measure => simp [intOf]; omega
                  · have HB := Lib.hid hb
                    clear hb
                    go_wp2
                    go_round
                    case rel => exact ⟨k + 1, by omega, by go_num, by rw [any_snoc HX.out, HB.out, Bool.true_or]⟩
                    case measure => simp [intOf]; omega
                · obtain rfl : k = seen.length := by omega
                  have hany : (seen.take seen.length).any (fun y => s == y) = true := by
                    rw [List.take_of_length_le (Nat.le_refl _), List.any_eq_true]
                    exact ⟨s, HM.out, by simp⟩
                  rw [hany]
                  clear hany
                  go_wp2
                  go_roundw
                  case rel => exact ⟨j + 1, by omega, by go_num, OnlySt.up HS6.out (by omega)⟩
                  case measure => simp [intOf]; omega
      · obtain rfl : j = l.length := by omega
        have HB := Lib.hid hbw
        clear hA hbw
        go_wp2_with (first
          | (go_at_call 15; refine (load_nil _).mono ?_; rintro e w' ⟨rfl, rfl⟩)
          | (go_at_call 13; refine (crash_nil _).mono ?_; rintro e w' ⟨rfl, rfl⟩)
          | (go_at_call 27; refine (arm_nil _ _).mono ?_; rintro e w' ⟨rfl, rfl⟩)
          | (go_at_call 12; refine (store_nil _ _ _).mono ?_; rintro e w7 ⟨rfl, b7⟩; have H7 := Lib.hid b7; clear b7)
          | (go_at_call 25; refine (flush_nil _).mono ?_; rintro e w8 ⟨rfl, b8⟩; have H8 := Lib.hid b8; clear b8)
          | (go_at_call 26; refine (fence_nil _).mono ?_; rintro e w' ⟨rfl, rfl⟩)
          | (go_at_call 28; refine (evict_nil _).mono ?_; rintro e w' ⟨rfl, rfl⟩)
          | (go_at_call 22; refine (dead_nil _).mono ?_; rintro e w' ⟨rfl, rfl⟩)
          | (go_at_call 23; refine (words_nil _).mono ?_; rintro e w' ⟨rfl, rfl⟩)
          | (go_at_call 24; refine (events_nil _).mono ?_; rintro e w' ⟨rfl, rfl⟩)
          | (go_at_call 20; refine (dirty_nil _).mono ?_; rintro e w' ⟨rfl, rfl⟩)
          | (go_at_call 17; refine (stays_nil _ _).mono ?_; rintro e w' ⟨rfl, rfl⟩)
          | (go_at_call 11; refine (copy_nil _).mono ?_; rintro e w' ⟨rfl, rfl⟩))
        go_ret
        exact ⟨rfl, (HB.out.trans (H7.out.mono HB.out.size)).trans (H8.out.mono (Nat.le_trans HB.out.size H7.out.size))⟩
  · clear hm2
    by_cases hf : fewB l = true
    · have HF := Lib.hid hf
      have q1 : decide (n > 1000) = true := by
        have : ¬ n ≤ 1000 := fun h => hq ⟨hf, h⟩
        simp; omega
      clear hq hf
      go_enter Try.func5, Try.ntmps5
      go_wp2_with fail
      refine (awake_true w).mono ?_
      rintro e w1 ⟨rfl, b1⟩
      go_wp2_with fail
      refine (few_any (h.at_world b1) hm).mono ?_
      rintro e w2 ⟨rfl, b2⟩
      simp only [HF.out]
      have B := Lib.hid (b1.trans (b2.mono b1.size))
      clear b1 b2
      go_wp2
      go_ret
      exact ⟨rfl, B.out⟩
    · have HF := Lib.hid (show fewB l = false by simpa using hf)
      clear hq hf
      go_enter Try.func5, Try.ntmps5
      go_wp2_with fail
      refine (awake_true w).mono ?_
      rintro e w1 ⟨rfl, b1⟩
      go_wp2_with fail
      refine (few_any (h.at_world b1) hm).mono ?_
      rintro e w2 ⟨rfl, b2⟩
      simp only [HF.out]
      have B := Lib.hid (b1.trans (b2.mono b1.size))
      clear b1 b2
      go_wp2
      go_ret
      exact ⟨rfl, B.out⟩
end Go.Proofs.Ytlmfdfmndbfghaa
