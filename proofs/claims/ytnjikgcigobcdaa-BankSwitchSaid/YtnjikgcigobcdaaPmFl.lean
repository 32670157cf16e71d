import Derived.Test.YtnjikgcigobcdaaPmDirt
import Derived.StillTailTactics
namespace Go.Proofs.Ytnjikgcigobcdaa
open Wd Pm Go.Maps Go.RowKit
set_option linter.unusedVariables false

/-! what a flush makes of a device -/
def sendL (σ : St) (l : List Int) : IFn := fun x => if x ∈ l then σ.hd x else σ.sn x
def St.send (σ : St) (line : Int) : St := { σ with sn := sendL σ (dirtyL σ.hd (line * 8) 8) }
theorem sendL_snoc (σ : St) (l : List Int) (y c : Int) (h : σ.hd y = some c) : sendL σ (l ++ [y]) = put (sendL σ l) y c := by
  funext x
  unfold sendL put
  by_cases e : x = y
  · subst e; simp [h]
  · simp [e]
theorem in_send {σ : St} (g : Good σ) (l : List Int) : ∀ x c, sendL σ l x = some c → 0 ≤ x ∧ x < σ.n ∧ U64 c := by
  intro x c h
  unfold sendL at h
  split at h
  · exact g.hd x c h
  · exact g.sn x c h
theorem take_snoc' {α : Type} {l : List α} {k : Nat} {y : α} (h : l[k]? = some y) : l.take (k + 1) = l.take k ++ [y] := by
  rw [List.take_add_one, h]; rfl

def SendRel (w1 : World) (f : Fp) (σ : St) (l : List Int) (i : Value) (wr : World) : Prop := ∃ k : Nat, k ≤ l.length ∧ i = .int .i64 k ∧ Dev wr f { σ with sn := sendL σ (l.take k) } ∧ w1.grownBy wr (some f.bn)

set_option maxRecDepth 100000 in
theorem flush1_dev {w : World} {f : Fp} {σ : St} (h : Dev w f σ) (a b : Nat) (line : Int) (hl : 0 ≤ line ∧ line ≤ 4194304) (ka : Cells w a 26 #[f.ptr]) (kb : Cells w b 3 #[.int .i64 line]) (na : a ∉ f.blocks) (nb : b ∉ f.blocks) :
    Calls Try.prog 72 #[.pointer (some ⟨a, 0, none⟩), .pointer (some ⟨b, 0, none⟩)] w fun e w' => e = .returned (.tuple #[]) ∧ Goes w f (σ.send line) w' := by
  have hp : f.ptr = .pointer (some ⟨f.p, 0, none⟩) := rfl
  rw [hp] at ka
  have ca : w.cell? ⟨a, 0, none⟩ = some (.pointer (some ⟨f.p, 0, none⟩)) := ka.cell 0
  have cb : w.cell? ⟨b, 0, none⟩ = some (.int .i64 line) := kb.cell 0
  unfold St.send
  have hlen := dirtyL_le σ.hd (line * 8) 8
  have hmem : ∀ x, x ∈ dirtyL σ.hd (line * 8) 8 → (σ.hd x).isSome = true := fun x hx => (mem_dirtyL.1 hx).2.2
  have HM := Lib.hid hmem
  have hna : a ≠ f.bn := fun e => na (e ▸ memN f)
  clear hmem hp
  have hdi := dirtyIn_dev h line hl
  revert hlen HM hdi
  generalize dirtyL σ.hd (line * 8) 8 = l
  intro hlen HM hdi
  go_enter Try.func72, Try.ntmps72
  go_wp2_with fail
  refine hdi.mono ?_
  clear hdi
  rintro e w1 ⟨v, rfl, hown, hb⟩
  obtain ⟨A, cp, rfl, -⟩ := Row.of_own hown
  have h1 := h.below hb
  have HO := Lib.hid hown
  have HB := Lib.hid hb
  have KA := Lib.hid (ka.below' hb)
  have hge := h.lt
  clear hown ka kb ca cb
  have hbs := hb.size
  clear hb
  go_wp2
  go_loopw [8] (fun i wr => SendRel w1 f σ l i wr) (fun i _ => l.length - (intOf i).toNat)
  case atStart =>
    refine ⟨0, Nat.zero_le _, rfl, ?_, World.grownBy.refl w1 _⟩
    have e : sendL σ (l.take 0) = σ.sn := by funext x; simp [sendL]
    rw [e]
    exact h1
  case round =>
    obtain ⟨k, hk, rfl, hd, hg⟩ := hrel
    by_cases hlt : k < l.length
    · obtain ⟨y, hy⟩ : ∃ y, l[k]? = some y := ⟨_, List.getElem?_eq_getElem hlt⟩
      have hown' := HO.out.kept hg (.inr fun e => by have := own_base HO.out _ e; omega)
      obtain ⟨g, cap, e, hgb, hc1, hc2, hgl⟩ := own_open hown' (by omega)
      injection e with e1 e2 e3
      subst e1 e3
      have cy := (own_cell hown' (k := k) (u := .int .i64 y) (by rw [List.getElem?_map, hy]; rfl)).1
      obtain ⟨c, hc⟩ := Option.isSome_iff_exists.1 (HM.out y (List.mem_of_getElem? hy))
      obtain ⟨y0, yn, yc⟩ := h1.good.hd y c hc
      have nle := h.good.nle
      have hw := wf_i (x := y) (by omega) (by omega)
      have ca : wr.cell? ⟨a, 0, none⟩ = some (.pointer (some ⟨f.p, 0, none⟩)) := (KA.out.grown hg (by simpa using hna)).cell 0
      have r1 := hd.reads.c1
      have r2 := hd.reads.c2
      have hlook : (Instr.lookup 71 (.map (some f.bh)) (.int .i64 y) false).run Try.prog wr.drew = .ok (.int .u64 c) wr.drew := by
        have := Mp.look (t := 71) (w := wr.drew) (hd.drewN 1).2.2.1 keyedInt Try.underlying71 Try.underlying49 Try.underlying3 (zeroU _) y hw
        rw [this]
        simp [hc]
      have HY := Lib.hid hy
      have HC := Lib.hid hc
      have HD := Lib.hid hd
      have HG := Lib.hid hg
      clear hy hc hd hg hown'
      go_wp2
      refine wp_region_still_tail 11 (by kernel_rfl) (by kernel_rfl) ?_
      simp only [List.take_succ_cons, List.take_zero, List.drop_succ_cons, List.drop_zero]
      repeat still_step
      try refine wpStill_nil ?_
      change wpList _ _ _ _ _ wr.drew
      go_wp2_with (at_mapUpdate; refine wp_store _ rfl _ _ _ 71 rfl keyedInt Try.underlying71 Try.underlying49 Try.underlying3 rfl (HD.out.drewN 1).2.2.2.1 (by show σ.n < maxLen; unfold maxLen; omega) _ _ rfl rfl hw yc ?_; intro w2 hM hT)
      go_roundw
      case rel =>
        refine ⟨k + 1, by omega, by go_num, ?_, ?_⟩
        · rw [take_snoc' HY.out, sendL_snoc _ _ _ _ HC.out]
          exact (HD.out.drewN 1).turnN hT hM (in_put (in_send h1.good _) ⟨y0, yn⟩ yc)
        · exact grown_trans (grown_drewN HG.out 1) hT.grown
      case measure => simp [intOf]; omega
    · obtain rfl : k = l.length := by omega
      have HD := Lib.hid hd
      have HG := Lib.hid hg
      clear hd hg
      go_wp2
      go_end0
      have hd := HD.out
      rw [List.take_of_length_le (Nat.le_refl _)] at hd
      exact ⟨rfl, Goes.mk' hd ((Turn.ofBelow HB.out).trans (Turn.grown HG.out (memN f)) (fun x hx => .inl hx))⟩
end Go.Proofs.Ytnjikgcigobcdaa
