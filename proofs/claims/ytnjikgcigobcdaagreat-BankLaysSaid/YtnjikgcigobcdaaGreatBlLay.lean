import Derived.Test.YtnjikgcigobcdaaGreatBlRun
import Derived.Test.YtnjikgcigobcdaaGreatBkLay
namespace Go.Proofs.YtnjikgcigobcdaaGreat
open Wd Pm Go.Maps Go.RowKit
set_option linter.unusedVariables false

def RAt (w : World) (B q : Nat) (ρ : RSt) (os : List ActR) (wr : World) : Prop := ∃ ρ', runR os ρ = (ρ', 0) ∧ RGoes w B q ρ' wr
theorem row_rturn {w w' : World} {B : Nat} {A : Option Addr} {n : Nat} {xs : List Value} (h : Row w B A n xs) (hB : B ≤ w.heap.size) (t : RTurn w w' B) : Row w' B A n xs :=
  h.keep fun b o hb => by
    have := t.low b (by omega) hb
    simp only [World.cell?, this]
theorem RGoes.comp {w w1 w2 : World} {B q : Nat} {ρ1 ρ2 : RSt} (h : RGoes w B q ρ1 w1) (k : RGoes w1 B q ρ2 w2) : RGoes w B q ρ2 w2 := ⟨k.1, h.2.trans k.2⟩
theorem ract_step {w wr : World} {B q : Nat} {ρ : RSt} {all pre rest : List ActR} {o : ActR} {F : FuncId} {args : Array Value} (hall : all = pre ++ o :: rest) (hsm : ∀ o ∈ pre, LittleR o) (hev : ρ.ev + pre.length < 4611686018427387904) (hfew : ρ.l.length + pre.length < 1000000) (h : RAt w B q ρ pre wr)
    (hcall : ∀ ρ1, RDev wr B q ρ1 → ρ1.ev < 4611686018427387904 → ρ1.l.length < 1000000 → Calls Tryz.prog F args wr (RGave wr B q (o ρ1))) :
    Calls Tryz.prog F args wr fun e w' => ∃ er : Int, e = .returned (.int .i64 er) ∧ ((er = 0 ∧ RAt w B q ρ (pre ++ [o]) w') ∨ (er ≠ 0 ∧ (runR all ρ).2 = er ∧ RGoes w B q (runR all ρ).1 w')) := by
  obtain ⟨ρ1, hr, hg⟩ := h
  have hl := runR_little pre ρ hsm
  rw [hr] at hl
  simp only at hl
  refine (hcall ρ1 hg.1 (by omega) (by omega)).mono ?_
  rintro e w2 ⟨rfl, hg2⟩
  have hG := hg.comp hg2
  refine ⟨(o ρ1).2, rfl, ?_⟩
  by_cases h0 : (o ρ1).2 = 0
  · exact .inl ⟨h0, (o ρ1).1, by rw [runR_snoc hr]; exact Prod.ext rfl h0, hG⟩
  · have e : runR all ρ = o ρ1 := by
      rw [hall, runR_append, hr, if_pos rfl]
      show (if (o ρ1).2 = 0 then runR rest (o ρ1).1 else o ρ1) = _
      rw [if_neg h0]
    rw [e]
    exact .inr ⟨h0, rfl, hG⟩
def RLoop1 (w : World) (B q : Nat) (ρ : RSt) (at_ : Int) (l : List Int) (L : Nat) (i : Value) (wr : World) : Prop := ∃ j : Nat, j ≤ L ∧ i = .int .i64 j ∧ RAt w B q ρ ((storesR at_ l).take j) wr
def RLoop2 (w : World) (B q : Nat) (ρ : RSt) (at_ : Int) (l : List Int) (M : Nat) (i : Value) (wr : World) : Prop := ∃ j : Nat, j ≤ M ∧ i = .int .i64 (at_ / 8 + j) ∧ RAt w B q ρ (storesR at_ l ++ (flushR (at_ / 8) M).take j) wr
set_option maxRecDepth 100000 in
set_option maxHeartbeats 4000000 in
theorem rlay_dev {w : World} {B q : Nat} {ρ : RSt} (h : RDev w B q ρ) (hB : B ≤ w.heap.size) (at_ : Int) (A : Option Addr) (c : Nat) (l : List Int) (hev : ρ.ev + (2 * l.length + 3) < 4611686018427387904) (hfew : ρ.l.length + (2 * l.length + 3) < 1000000) (h0 : 0 ≤ at_) (h1 : at_ ≤ 900000000) (hu : ∀ v ∈ l, U64 v) (hr : Row w B A l.length (l.map VU64)) :
    Calls Tryz.prog 13 #[.pointer (some ⟨q, 0, none⟩), .int .i64 at_, .slice A l.length c] w (RGave w B q (runR (layR at_ l) ρ)) := by
  obtain ⟨L, hL⟩ : ∃ L, l.length = L := ⟨_, rfl⟩
  have HL := Lib.hid hL; have HR := Lib.hid hr; have HU := Lib.hid hu; have HBB := Lib.hid hB
  have H0 : RAt w B q ρ ((storesR at_ l).take 0) w := ⟨ρ, by simp [runR], h, RTurn.refl _ _⟩
  have H0 := Lib.hid H0
  have HEV := Lib.hid hev; have HFEW := Lib.hid hfew
  rw [hL] at hfew ⊢
  have hLb : L ≤ 1000000 := by omega
  clear h hr hu hev hfew hL hB
  go_enter Tryz.func13, Tryz.ntmps13
  go_wp2
  go_loopw [14] (fun i wr => RLoop1 w B q ρ at_ l L i wr) (fun i _ => L - (intOf i).toNat)
  case atStart => exact ⟨0, Nat.zero_le _, rfl, H0.out⟩
  case round =>
    obtain ⟨j, hj, rfl, hA⟩ := hrel
    have HA := Lib.hid hA
    have hrow := row_rturn HR.out HBB.out (let ⟨_, _, g⟩ := hA; g.2)
    rw [HL.out] at hrow
    clear hA
    by_cases hlt : j < L
    · have i1 : (j : Int) < (L : Int) := by omega
      have i0 : (0 : Int) ≤ (j : Int) := by omega
      obtain ⟨b1, o1, x, rfl, _, gx, cx⟩ := hrow.get hlt
      unfold VU64 at cx
      have q1 : IntKind.i64.wrap (at_ + (j : Int)) = at_ + (j : Int) := wrapI (by omega) (by omega)
      have hs := storesR_at l at_ j x gx
      have KS := ract_step (all := layR at_ l) (pre := (storesR at_ l).take j) (o := rStore (at_ + j) x) (rest := (storesR at_ l).drop (j + 1) ++ (flushR (at_ / 8) (linesN at_ l.length) ++ [rFence])) (F := 32) (args := #[.pointer (some ⟨q, 0, none⟩), .int .i64 (at_ + j), .int .u64 x])
        (by
          unfold layR
          rw [if_neg (by intro e; rw [e] at gx; cases gx)]
          conv => lhs; rw [← List.take_append_drop j (storesR at_ l)]
          rw [drop_at hs]; simp)
        (fun o ho => storesR_little l at_ o (List.mem_of_mem_take ho)) (by rw [List.length_take]; have := HEV.out; have := HL.out; omega) (by rw [List.length_take]; have := HFEW.out; have := HL.out; omega) HA.out
        (fun ρ1 d he hf => rstore_gen d he hf (at_ + j) x (HU.out x (List.mem_of_getElem? gx)))
      have et : (storesR at_ l).take j ++ [rStore (at_ + j) x] = (storesR at_ l).take (j + 1) := by rw [List.take_add_one, hs, Option.toList_some]
      rw [et] at KS
      have KSH := Lib.hid KS
      clear KS et hs gx hrow
      go_wp2_with fail
      refine (KSH.out).mono ?_
      rintro e w2 ⟨er, rfl, hor⟩
      by_cases he : er = 0
      · subst he
        have hn : RAt w B q ρ ((storesR at_ l).take (j + 1)) w2 := by rcases hor with h | h; exact h.2; exact absurd rfl h.1
        have HN := Lib.hid hn
        clear hor hn KSH cx
        go_wp2
        go_roundw
        case rel => exact ⟨j + 1, by omega, by go_num, HN.out⟩
        case measure => simp [intOf]; omega
      · have hn : (runR (layR at_ l) ρ).2 = er ∧ RGoes w B q (runR (layR at_ l) ρ).1 w2 := by rcases hor with h | h; exact absurd h.1 he; exact h.2
        have HN := Lib.hid hn
        have hb : (er != 0) = true := by simpa using he
        clear hor hn KSH cx he
        go_wp2
        go_ret
        exact ⟨by rw [HN.out.1]; rfl, HN.out.2⟩
    · obtain rfl : j = L := by omega
      have et : (storesR at_ l).take j = storesR at_ l := by rw [← HL.out, ← storesR_len l at_, List.take_length]
      rw [et] at HA
      clear et hrow
      by_cases hz : j = 0
      · have hnil : l = [] := List.eq_nil_of_length_eq_zero (HL.out.trans hz)
        have HNIL := Lib.hid hnil
        subst hz
        clear hnil
        go_wp2
        go_ret
        have ha := HA.out
        rw [HNIL.out] at ha ⊢
        obtain ⟨ρ', hr, hg⟩ := ha
        have e : (ρ, (0 : Int)) = (ρ', 0) := hr
        obtain rfl := (Prod.mk.inj e).1
        exact ⟨rfl, hg⟩
      · have hdec : ((j : Int) == 0) = false := by simp; omega
        have q2 : IntKind.i64.wrap (at_ + (j : Int)) = at_ + (j : Int) := wrapI (by omega) (by omega)
        have q3 : IntKind.i64.wrap (at_ + (j : Int) - 1) = at_ + (j : Int) - 1 := wrapI (by omega) (by omega)
        have q4 : at_.tdiv 8 = at_ / 8 := Int.tdiv_eq_ediv_of_nonneg h0
        have q5 : (at_ + (j : Int) - 1).tdiv 8 = (at_ + (j : Int) - 1) / 8 := Int.tdiv_eq_ediv_of_nonneg (by omega)
        have q6 : IntKind.i64.wrap (at_ / 8) = at_ / 8 := wrapI (by omega) (by omega)
        have q7 : IntKind.i64.wrap ((at_ + (j : Int) - 1) / 8) = (at_ + (j : Int) - 1) / 8 := wrapI (by omega) (by omega)
        have hnil : l ≠ [] := fun e => hz (by rw [← HL.out, e]; rfl)
        have HNIL := Lib.hid hnil
        obtain ⟨M, hM⟩ : ∃ M, linesN at_ l.length = M := ⟨_, rfl⟩
        have hM2 : (M : Int) = (at_ + (j : Int) - 1) / 8 - at_ / 8 + 1 := by rw [← hM, HL.out]; unfold linesN; omega
        have hM3 : M ≤ j + 2 := by rw [← hM, HL.out]; exact linesN_le _ _
        have HM := Lib.hid hM
        have H2 : RAt w B q ρ (storesR at_ l ++ (flushR (at_ / 8) M).take 0) wr := by simpa using HA.out
        have H2 := Lib.hid H2
        clear HA hM hnil
        go_wp2
        go_loopw [10] (fun i wr => RLoop2 w B q ρ at_ l M i wr) (fun i _ => (at_ / 8 + M - intOf i).toNat)
        case atStart => exact ⟨0, Nat.zero_le _, by simp, H2.out⟩
        case round =>
          obtain ⟨k, hk, rfl, hA⟩ := hrel
          have HA := Lib.hid hA
          clear hA
          by_cases hlk : k < M
          · have i1 : decide (at_ / 8 + (k : Int) ≤ (at_ + (j : Int) - 1) / 8) = true := by simp; omega
            have hs := flushR_at M (at_ / 8) k hlk
            have KS := ract_step (all := layR at_ l) (pre := storesR at_ l ++ (flushR (at_ / 8) M).take k) (o := rFlush (at_ / 8 + k)) (rest := (flushR (at_ / 8) M).drop (k + 1) ++ [rFence]) (F := 24) (args := #[.pointer (some ⟨q, 0, none⟩), .int .i64 (at_ / 8 + k)])
              (by
                unfold layR
                rw [if_neg HNIL.out, HM.out]
                have hd := List.take_append_drop k (flushR (at_ / 8) M)
                rw [drop_at hs] at hd
                have e5 : flushR (at_ / 8) M ++ [rFence] = (flushR (at_ / 8) M).take k ++ (rFlush (at_ / 8 + k) :: ((flushR (at_ / 8) M).drop (k + 1) ++ [rFence])) := by
                  rw [← List.cons_append, ← List.append_assoc, hd]
                rw [e5, List.append_assoc])
              (fun o ho => by
                rcases List.mem_append.1 ho with h | h
                · exact storesR_little l at_ o h
                · exact flushR_little _ _ o (List.mem_of_mem_take h))
              (by rw [List.length_append, storesR_len, List.length_take, flushR_len]; have := HEV.out; have := HL.out; omega) (by rw [List.length_append, storesR_len, List.length_take, flushR_len]; have := HFEW.out; have := HL.out; omega) HA.out
              (fun ρ1 d he hf => rflush_gen d he (at_ / 8 + k))
            have et : storesR at_ l ++ (flushR (at_ / 8) M).take k ++ [rFlush (at_ / 8 + k)] = storesR at_ l ++ (flushR (at_ / 8) M).take (k + 1) := by rw [List.take_add_one, hs, Option.toList_some, List.append_assoc]
            rw [et] at KS
            have KSH := Lib.hid KS
            have q8 : IntKind.i64.wrap (at_ / 8 + (k : Int) + 1) = at_ / 8 + (k : Int) + 1 := wrapI (by omega) (by omega)
            clear KS et hs
            go_wp2_with fail
            refine (KSH.out).mono ?_
            rintro e w2 ⟨er, rfl, hor⟩
            by_cases he : er = 0
            · subst he
              have hn : RAt w B q ρ (storesR at_ l ++ (flushR (at_ / 8) M).take (k + 1)) w2 := by rcases hor with h | h; exact h.2; exact absurd rfl h.1
              have HN := Lib.hid hn
              clear hor hn KSH
              go_wp2
              go_roundw
              case rel => exact ⟨k + 1, by omega, by push_cast; go_num, HN.out⟩
              case measure => simp [intOf]; omega
            · have hn : (runR (layR at_ l) ρ).2 = er ∧ RGoes w B q (runR (layR at_ l) ρ).1 w2 := by rcases hor with h | h; exact absurd h.1 he; exact h.2
              have HN := Lib.hid hn
              have hb : (er != 0) = true := by simpa using he
              clear hor hn KSH he
              go_wp2
              go_ret
              exact ⟨by rw [HN.out.1]; rfl, HN.out.2⟩
          · obtain rfl : k = M := by omega
            have i1 : decide (at_ / 8 + (k : Int) ≤ (at_ + (j : Int) - 1) / 8) = false := by simp; omega
            have ef : (flushR (at_ / 8) k).take k = flushR (at_ / 8) k := List.take_of_length_le (by rw [flushR_len]; exact Nat.le_refl _)
            rw [ef] at HA
            have KS := ract_step (all := layR at_ l) (pre := storesR at_ l ++ flushR (at_ / 8) k) (o := rFence) (rest := []) (F := 26) (args := #[.pointer (some ⟨q, 0, none⟩)])
              (by unfold layR; rw [if_neg HNIL.out, HM.out, List.append_assoc])
              (fun o ho => by
                rcases List.mem_append.1 ho with h | h
                · exact storesR_little l at_ o h
                · exact flushR_little _ _ o h)
              (by rw [List.length_append, storesR_len, flushR_len]; have := HEV.out; have := HL.out; omega) (by rw [List.length_append, storesR_len, flushR_len]; have := HFEW.out; have := HL.out; omega) HA.out
              (fun ρ1 d he hf => rfence_gen d he)
            have el : storesR at_ l ++ flushR (at_ / 8) k ++ [rFence] = layR at_ l := by unfold layR; rw [if_neg HNIL.out, HM.out, List.append_assoc]
            rw [el] at KS
            have KSH := Lib.hid KS
            clear KS el ef
            go_wp2_with fail
            refine (KSH.out).mono ?_
            rintro e w2 ⟨er, rfl, hor⟩
            have hn : (runR (layR at_ l) ρ).2 = er ∧ RGoes w B q (runR (layR at_ l) ρ).1 w2 := by
              rcases hor with ⟨rfl, ρ', hr, hg⟩ | h
              · rw [hr]; exact ⟨rfl, hg⟩
              · exact h.2
            have HN := Lib.hid hn
            clear hor hn KSH
            go_wp2
            go_ret
            exact ⟨by rw [HN.out.1]; rfl, HN.out.2⟩
end Go.Proofs.YtnjikgcigobcdaaGreat
