import Derived.Test.YtnjikgcigobcdaaGreatMA
import Derived.Test.YtnjikgcigobcdaaGreatMB

namespace Wd
open Go Go.RowKit
/-- a law's end: it answers true, and nothing that was there has turned -/
def TrueB (w : World) (e : Ending) (w' : World) : Prop := e = .returned (.bool true) ∧ Below w.heap.size w w'
end Wd

namespace Go.Proofs.YtnjikgcigobcdaaGreat
open Wd Pm Go.Maps Go.RowKit
set_option linter.unusedVariables false

/-! chapter 4's example -/
theorem keys_nil {F : IFn} {l : List Int} (h : KeysOf F l) : keptL l [] = [] := by cases l <;> rfl
def aw0 : St := .fresh 64
theorem aw_step {σ : St} {b : Bool} {go : St → St} (h1 : refErr σ.dead b = 0) (h2 : σ.ar ≠ 1) : σ.tried b go = ((go σ.drained).counted, 0) := by
  unfold St.tried; rw [if_pos h1, if_neg h2]
def aw1 : St := ((St.fresh 64).drained.hold 3 7).counted
def aw2 : St := (aw1.drained.send 0).counted
def aw3 : St := (aw2.drained.persist).counted
def aw4 : St := (aw3.drained.hold 4 8).counted
theorem ref0 : refErr false true = 0 := by unfold refErr; rfl
theorem t1 : (St.fresh 64).tried (hasW (St.fresh 64).n 3) (·.hold 3 7) = (aw1, 0) := by
  rw [show hasW (St.fresh 64).n 3 = true from hasW_iff.2 (by decide)]
  exact aw_step ref0 (by decide)
theorem t2 : aw1.tried (hasL aw1.n 0) (·.send 0) = (aw2, 0) := by
  rw [show hasL aw1.n 0 = true from hasL_iff.2 (by decide)]
  exact aw_step ref0 (by decide)
theorem t3 : aw2.tried true St.persist = (aw3, 0) := aw_step ref0 (by decide)
theorem t4 : aw3.tried (hasW aw3.n 4) (·.hold 4 8) = (aw4, 0) := by
  rw [show hasW aw3.n 4 = true from hasW_iff.2 (by decide)]
  exact aw_step ref0 (by decide)
theorem s3 (l : List Int) (h : KeysOf aw4.hd l) : (aw4.crash l []).stays 3 = 7 := by
  unfold St.stays
  rw [show hasW (aw4.crash l []).n 3 = true from hasW_iff.2 (show (0 : Int) ≤ 3 ∧ (3 : Int) < ((64 : Nat) : Int) by decide), if_pos rfl]
  unfold St.crash
  rw [keys_nil h, evSt_nil]
  decide
theorem s4 (l : List Int) (h : KeysOf aw4.hd l) : (aw4.crash l []).stays 4 = 0 := by
  unfold St.stays
  rw [show hasW (aw4.crash l []).n 4 = true from hasW_iff.2 (show (0 : Int) ≤ 4 ∧ (4 : Int) < ((64 : Nat) : Int) by decide), if_pos rfl]
  unfold St.crash
  rw [keys_nil h, evSt_nil]
  decide

/-- from a world in which the device lies in new blocks to one where it lies in new blocks -/
def Fresh (w : World) (f : Fp) : Prop := ∀ k ∈ f.blocks, w.heap.size ≤ k
theorem Goes.fresh {w w1 w2 : World} {f : Fp} {σ : St} (g : Goes w1 f σ w2) (h : Fresh w f) (b : Below w.heap.size w w1) : ∃ f', f'.ptr = f.ptr ∧ Dev w2 f' σ ∧ Fresh w f' ∧ Below w.heap.size w w2 := by
  obtain ⟨f', d, e, n, t⟩ := g
  refine ⟨f', by unfold Fp.ptr; rw [e], d, fun k hk => ?_, ?_⟩
  · rcases n k hk with h1 | h1
    · exact h k h1
    · exact Nat.le_trans b.size h1
  · exact b.trans (t.below (.inr b.size) h)
end Go.Proofs.YtnjikgcigobcdaaGreat

namespace Go.Proofs.YtnjikgcigobcdaaGreat
open Wd Pm Go.Maps Go.RowKit
set_option linter.unusedVariables false

theorem own_turn {w w' : World} {base n : Nat} {e : TypeId} {v : Value} {xs : List Value} {S : List Nat} (h : w.ownsRow base e 1 v n xs) (t : Turn w w' S) (hS : ∀ q, v.ownBlock = some q → q ∉ S) : w'.ownsRow base e 1 v n xs := by
  refine ⟨h.1, ?_⟩
  rcases h.2 with ⟨rfl, h0⟩ | ⟨g, cap, cur, rfl, hb, hh, h1, h2, hs, ht⟩
  · exact .inl ⟨rfl, h0⟩
  · exact .inr ⟨g, cap, cur, rfl, hb, (t.block g (lt_of_block hh) (hS g rfl)).trans hh, h1, h2, hs, ht⟩

/-! what an eviction makes of a device -/
def delL (F : IFn) (ks : List Int) : IFn := fun x => if x ∈ ks then none else F x
theorem delL_nil (F : IFn) : delL F [] = F := by funext x; simp [delL]
theorem delL_snoc (F : IFn) (ks : List Int) (y : Int) : (fun x => if x = y then none else delL F ks x) = delL F (ks ++ [y]) := by
  funext x
  unfold delL
  by_cases e : x = y
  · subst e; simp
  · simp [e]
theorem in_delL {F : IFn} {n : Nat} (h : ∀ x c, F x = some c → 0 ≤ x ∧ x < n ∧ U64 c) (ks : List Int) : ∀ x c, delL F ks x = some c → 0 ≤ x ∧ x < n ∧ U64 c := by
  intro x c hc
  unfold delL at hc
  split at hc
  · cases hc
  · exact h x c hc
def St.drop (σ : St) (ks : List Int) : St := { σ with st := evSt σ ks, hd := delL σ.hd ks, sn := delL σ.sn ks }
@[irreducible] def St.evict (σ : St) (line : Int) : St × Bool := if refErr σ.dead (hasL σ.n line) = 0 then (σ.drop (dirtyL σ.hd (line * 8) 8), decide (0 < (dirtyL σ.hd (line * 8) 8).length)) else (σ, false)
theorem dirtyL_nodup (F : IFn) (lo : Int) (m : Nat) : (dirtyL F lo m).Pairwise (· < ·) := by
  unfold dirtyL
  refine List.Pairwise.filter _ (List.pairwise_map.2 ?_)
  exact List.pairwise_lt_range.imp fun h => by omega

def EvRel (w1 : World) (f : Fp) (σ : St) (l : List Int) (i : Value) (wr : World) : Prop := ∃ k : Nat, k ≤ l.length ∧ i = .int .i64 k ∧ Dev wr f (σ.drop (l.take k)) ∧ Turn w1 wr f.blocks

set_option maxRecDepth 100000 in
set_option maxHeartbeats 1000000 in
theorem evict_yes {w : World} {f : Fp} {σ : St} (h : Dev w f σ) (line : Int) (he : refErr σ.dead (hasL σ.n line) = 0) : Calls Tryz.prog 27 #[f.ptr, .int .i64 line] w fun e w' =>
    e = .returned (.bool (decide (0 < (dirtyL σ.hd (line * 8) 8).length))) ∧ Goes w f (σ.drop (dirtyL σ.hd (line * 8) 8)) w' := by
  have hp : f.ptr = .pointer (some ⟨f.p, 0, none⟩) := rfl
  have nle := h.good.nle
  have g0 := h.good
  have hi := hasL_iff.1 (refErr_ok he).2
  have hq : (refErr σ.dead (hasL σ.n line) != 0) = false := by simpa using he
  have hdi := dirtyIn_dev h line (by omega)
  rw [hp] at hdi
  have hlen := dirtyL_le σ.hd (line * 8) 8
  have hmem : ∀ x, x ∈ dirtyL σ.hd (line * 8) 8 → (σ.hd x).isSome = true := fun x hx => (mem_dirtyL.1 hx).2.2
  have hnd := dirtyL_nodup σ.hd (line * 8) 8
  have HM := Lib.hid hmem
  have HND := Lib.hid hnd
  have hge := h.lt
  have hne := h.ne
  rw [hp]
  clear hmem hp hnd he
  revert hlen HM HND hdi
  generalize dirtyL σ.hd (line * 8) 8 = l
  intro hdi hlen HM HND
  go_enter Tryz.func27, Tryz.ntmps27
  go_wp2_with (first
    | (go_at_call 55; refine (hasLine_dev h _).mono ?_; rintro e w' ⟨rfl, rfl⟩)
    | (go_at_call 54; refine (refusal_dev h _).mono ?_; rintro e w' ⟨rfl, rfl⟩)
    | (go_at_call 58; refine hdi.mono ?_; rintro e w1 ⟨v, rfl, hown, hb⟩; obtain ⟨A, cp, rfl, -⟩ := Row.of_own hown))
  have h1 := h.below hb
  have HO := Lib.hid hown
  have HB := Lib.hid hb
  have hbs := hb.size
  clear hown hb hdi
  go_loopw [19] (fun i wr => EvRel w1 f σ l i wr) (fun i _ => l.length - (intOf i).toNat)
  case atStart =>
    refine ⟨0, Nat.zero_le _, rfl, ?_, Turn.refl _ _⟩
    have e : σ.drop (l.take 0) = σ := by unfold St.drop; rw [List.take_zero, evSt_nil, delL_nil, delL_nil]
    rw [e]
    exact h1
  case round =>
    obtain ⟨k, hk, rfl, hd, ht⟩ := hrel
    by_cases hlt : k < l.length
    · obtain ⟨y, hy⟩ : ∃ y, l[k]? = some y := ⟨_, List.getElem?_eq_getElem hlt⟩
      have hown' := own_turn HO.out ht (fun q hq => by have := own_base HO.out q hq; simp [Fp.blocks]; omega)
      obtain ⟨g, cap, e, hgb, hc1, hc2, hgl⟩ := own_open hown' (by omega)
      injection e with e1 e2 e3
      subst e1 e3
      have cy := (own_cell hown' (k := k) (u := .int .i64 y) (by rw [List.getElem?_map, hy]; rfl)).1
      obtain ⟨c, hc⟩ := Option.isSome_iff_exists.1 (HM.out y (List.mem_of_getElem? hy))
      obtain ⟨y0, yn, yc⟩ := g0.hd y c hc
      have hny : y ∉ l.take k := by
        intro hm
        obtain ⟨j, hj, e⟩ := List.mem_take_iff_getElem.1 hm
        have hyk : l[k]'hlt = y := (List.getElem?_eq_some_iff.1 hy).2
        have := List.pairwise_iff_getElem.1 HND.out j k (by omega) hlt (by omega)
        rw [e, hyk] at this
        omega
      obtain ⟨j, rfl⟩ := Int.eq_ofNat_of_zero_le y0
      have hj : j < σ.n := by omega
      have hw := wf_i (x := (j : Int)) (by omega) (by omega)
      have hc' : (σ.drop (l.take k)).hd (j : Int) = some c := by show delL σ.hd (l.take k) j = some c; unfold delL; rw [if_neg hny]; exact hc
      have r0 : wr.cell? ⟨f.p, 0, none⟩ = some (.slice (some ⟨f.bs, 0, none⟩) σ.n f.c) := hd.reads.c0
      have r1 := hd.reads.c1
      have cw := hd.word j hj
      have zw := hd.2.1.free j
      have hlook : (Instr.lookup 55 (.map (some f.bh)) (.int .i64 (j : Int)) false).run Tryz.prog wr.drew = .ok (.int .u64 c) wr.drew := by
        have := Mp.look (t := 55) (w := wr.drew) (hd.drewN 1).2.2.1 keyedInt Tryz.underlying55 Tryz.underlying31 Tryz.underlying3 (zeroU _) (j : Int) hw
        rw [this, hc']
        rfl
      have hd2 := (hd.drewN 1).setW j hj c yc
      have k1 : (wr.drew.setCell ⟨f.bs, j, none⟩ (.int .u64 c)).cell? ⟨f.p, 1, none⟩ = some (.map (some f.bh)) := hd2.reads.c1
      have e1 : (fun x => if x = (j : Int) then c else evSt σ (l.take k) x) = evSt σ (l.take (k + 1)) := by rw [take_snoc' hy]; exact evSt_snoc σ _ _ _ hc
      have e2 : (fun x => if x = (j : Int) then none else delL σ.hd (l.take k) x) = delL σ.hd (l.take (k + 1)) := by rw [take_snoc' hy]; exact delL_snoc _ _ _
      have e3 : (fun x => if x = (j : Int) then none else delL σ.sn (l.take k) x) = delL σ.sn (l.take (k + 1)) := by rw [take_snoc' hy]; exact delL_snoc _ _ _
      have hd2' : Dev (wr.drew.setCell ⟨f.bs, j, none⟩ (.int .u64 c)) f { σ with st := evSt σ (l.take (k + 1)), hd := delL σ.hd (l.take k), sn := delL σ.sn (l.take k) } := by rw [← e1]; exact hd2
      have T2 : Turn w1 (wr.drew.setCell ⟨f.bs, j, none⟩ (.int .u64 c)) f.blocks := (ht.trans (⟨rfl, rfl, rfl, Nat.le_refl _, fun _ _ _ => rfl⟩ : Turn wr wr.drew []) (fun x hx => by cases hx)).trans (Turn.set _ (p := ⟨f.bs, j, none⟩) (memS f) _) (fun x hx => .inl hx)
      have HD2 := Lib.hid hd2'
      have HT2 := Lib.hid T2
      have E2 := Lib.hid e2
      have E3 := Lib.hid e3
      clear hy hc hc' hd hd2 hd2' ht hown' e1 e2 e3 hny T2
      go_wp2
      refine wp_region_still_tail 12 (by kernel_rfl) (by kernel_rfl) ?_
      simp only [List.take_succ_cons, List.take_zero, List.drop_succ_cons, List.drop_zero]
      repeat still_step
      try refine wpStill_nil ?_
      go_wp2_with (first
        | (at_delete; refine wp_drop _ rfl _ _ 55 rfl keyedInt Tryz.underlying55 Tryz.underlying3 rfl HD2.out.2.2.1 _ rfl hw ?_; intro w3 hM3 hT3; have HD3 := Lib.hid (HD2.out.turnH hT3 (hM3.congr (fun x => congrFun E2.out x)) (in_delL g0.hd _)); have c32 := HD3.out.reads.c2)
        | (at_delete; refine wp_drop _ rfl _ _ 55 rfl keyedInt Tryz.underlying55 Tryz.underlying3 rfl HD3.out.2.2.2.1 _ rfl hw ?_; intro w4 hM4 hT4))
      go_roundw
      case rel =>
        refine ⟨k + 1, by omega, by go_num, HD3.out.turnN hT4 (hM4.congr (fun x => congrFun E3.out x)) (in_delL g0.sn _), ?_⟩
        exact (HT2.out.trans (Turn.grown hT3.grown (memH f)) (fun x hx => .inl hx)).trans (Turn.grown hT4.grown (memN f)) (fun x hx => .inl hx)
      case measure => simp [intOf]; omega
    · obtain rfl : k = l.length := by omega
      have HD := Lib.hid hd
      have HT := Lib.hid ht
      clear hd ht
      go_wp2
      go_ret
      have hd := HD.out
      rw [List.take_of_length_le (Nat.le_refl _)] at hd
      refine ⟨?_, Goes.mk' hd ((Turn.ofBelow HB.out).trans HT.out (fun x hx => .inl hx))⟩
      simp
theorem evict_dev {w : World} {f : Fp} {σ : St} (h : Dev w f σ) (line : Int) : Calls Tryz.prog 27 #[f.ptr, .int .i64 line] w fun e w' => e = .returned (.bool (σ.evict line).2) ∧ Goes w f (σ.evict line).1 w' := by
  unfold St.evict
  by_cases he : refErr σ.dead (hasL σ.n line) = 0
  · rw [if_pos he]
    exact evict_yes h line he
  · rw [if_neg he]
    have hp : f.ptr = .pointer (some ⟨f.p, 0, none⟩) := rfl
    have hq := refErr_no he
    rw [hp]
    clear he hp
    go_enter Tryz.func27, Tryz.ntmps27
    go_wp2_with (first
      | (go_at_call 55; refine (hasLine_dev h _).mono ?_; rintro e w' ⟨rfl, rfl⟩)
      | (go_at_call 54; refine (refusal_dev h _).mono ?_; rintro e w' ⟨rfl, rfl⟩))
    go_ret
    exact ⟨rfl, Goes.refl h⟩
end Go.Proofs.YtnjikgcigobcdaaGreat

namespace Go.Proofs.YtnjikgcigobcdaaGreat
open Wd Pm Go.Maps Go.RowKit
set_option linter.unusedVariables false

/-! a read -/
def St.loadErr (σ : St) (i : Int) : Int := refErr σ.dead (hasW σ.n i)
@[irreducible] def St.loadVal (σ : St) (i : Int) : Int := if refErr σ.dead (hasW σ.n i) = 0 then (σ.hd i).getD (σ.st i) else 0
theorem load_dev {w : World} {f : Fp} {σ : St} (h : Dev w f σ) (i : Int) : Calls Tryz.prog 66 #[f.ptr, .int .i64 i] w fun e w' => e = .returned (.tuple #[.int .u64 (σ.loadVal i), .int .i64 (refErr σ.dead (hasW σ.n i))]) ∧ w = w' := by
  have hp : f.ptr = .pointer (some ⟨f.p, 0, none⟩) := rfl
  have nle := h.good.nle
  unfold St.loadVal
  rw [hp]
  by_cases he : refErr σ.dead (hasW σ.n i) = 0
  · rw [if_pos he]
    obtain ⟨h0, h1⟩ := hasW_iff.1 (refErr_ok he).2
    obtain ⟨k, rfl⟩ := Int.eq_ofNat_of_zero_le h0
    have hk : k < σ.n := by omega
    have hw := wf_i (x := (k : Int)) (by omega) (by omega)
    have hq : (refErr σ.dead (hasW σ.n k) != 0) = false := by simpa using he
    have c0 := h.reads.c0
    have c1 := h.reads.c1
    have cw := h.word k hk
    have HE := Lib.hid he
    clear he hp
    cases hc : σ.hd (k : Int) with
    | none =>
      have HC := Lib.hid hc
      clear hc
      go_enter Tryz.func66, Tryz.ntmps66
      go_wp2_with (first
        | (go_at_call 40; refine (hasWord_dev h _).mono ?_; rintro e w' ⟨rfl, rfl⟩)
        | (go_at_call 54; refine (refusal_dev h _).mono ?_; rintro e w' ⟨rfl, rfl⟩)
        | (at_lookup; refine wp_look_not _ rfl _ _ 55 rfl keyedInt Tryz.underlying55 Tryz.underlying31 Tryz.underlying3 (zeroU _) rfl h.2.2.1 _ rfl hw HC.out ?_))
      go_ret2
      exact ⟨by rw [HE.out]; rfl, rfl⟩
    | some c =>
      have HC := Lib.hid hc
      clear hc
      go_enter Tryz.func66, Tryz.ntmps66
      go_wp2_with (first
        | (go_at_call 40; refine (hasWord_dev h _).mono ?_; rintro e w' ⟨rfl, rfl⟩)
        | (go_at_call 54; refine (refusal_dev h _).mono ?_; rintro e w' ⟨rfl, rfl⟩)
        | (at_lookup; refine wp_look_yes _ rfl _ _ 55 rfl keyedInt Tryz.underlying55 Tryz.underlying31 Tryz.underlying3 (zeroU _) rfl h.2.2.1 _ rfl hw c HC.out ?_))
      go_ret2
      exact ⟨by rw [HE.out]; rfl, rfl⟩
  · rw [if_neg he]
    have hq := refErr_no he
    clear he hp
    go_enter Tryz.func66, Tryz.ntmps66
    go_wp2_with (first
      | (go_at_call 40; refine (hasWord_dev h _).mono ?_; rintro e w' ⟨rfl, rfl⟩)
      | (go_at_call 54; refine (refusal_dev h _).mono ?_; rintro e w' ⟨rfl, rfl⟩))
    go_ret2
    exact ⟨rfl, rfl⟩
end Go.Proofs.YtnjikgcigobcdaaGreat
