import Derived.Test.YtnjikgcigobcdaaGreatBkPure
import Derived.Test.YtnjikgcigobcdaaGreatBkTurn
import Derived.Test.YtnjikgcigobcdaaGreatMC
import Derived.Deep.RegionHeld3
import Derived.StillTailTactics
namespace Go.Proofs.YtnjikgcigobcdaaGreat
open Wd Pm Go.Maps Go.RowKit
set_option linter.unusedVariables false
set_option linter.unusedSectionVars false

theorem wrapI {x : Int} (h0 : -1000000000000 ≤ x) (h1 : x ≤ 1000000000000) : IntKind.i64.wrap x = x := by rw [IntKind.wrap_i64]; omega
def VU64 (c : Int) : Value := .int .u64 c
/-- words that lie outside of a device -/
def RowO (w : World) (f : Fp) (A : Option Addr) (l : List Int) : Prop := Row w w.heap.size A l.length (l.map VU64) ∧ ∀ b o m, A = some ⟨b, o, m⟩ → 0 < l.length → b ∉ f.blocks
theorem RowO.turn {w w' : World} {f : Fp} {A : Option Addr} {l : List Int} (h : RowO w f A l) (t : Turn w w' f.blocks) : Row w' w'.heap.size A l.length (l.map VU64) := by
  obtain ⟨⟨h1, h2⟩, h3⟩ := h
  refine ⟨h1, fun hp => ?_⟩
  obtain ⟨b, o, rfl, hb, hc⟩ := h2 hp
  refine ⟨b, o, rfl, Nat.lt_of_lt_of_le hb t.size, fun j hj => ?_⟩
  have hk := t.block b hb (h3 b o _ rfl hp)
  rw [← hc j hj]
  simp only [World.cell?, hk]
theorem cells_turn {w w' : World} {f : Fp} {g : Nat} {T : TypeId} {cs : Array Value} (h : Cells w g T cs) (hn : g ∉ f.blocks) (t : Turn w w' f.blocks) : Cells w' g T cs := (t.block g h.lt hn).trans h

set_option maxRecDepth 100000 in
set_option maxHeartbeats 1000000 in
theorem lay1_dev {w : World} {f : Fp} {σ : St} (h : Dev w f σ) (hev : σ.ev < 4611686018427387904) (n3 n4 n5 : Nat) (at_ v : Int) (A : Option Addr) (n c : Nat) (l : List Int) (hn : l.length = n) (j : Nat) (hv : l[j]? = some v) (hu : U64 v) (h0 : 0 ≤ at_) (h1 : at_ ≤ 1000000000) (hl : n ≤ 1000000000)
    (c3 : Cells w n3 27 #[f.ptr]) (c4 : Cells w n4 3 #[.int .i64 at_]) (c5 : Cells w n5 23 #[.slice A n c]) (hr : Row w w.heap.size A n (l.map VU64)) :
    Calls Tryz.prog 37 #[.int .i64 j, .pointer (some ⟨n3, 0, none⟩), .pointer (some ⟨n4, 0, none⟩), .pointer (some ⟨n5, 0, none⟩)] w fun e w' => e = .returned (.int .i64 (aStore (at_ + j) v σ).2) ∧ Goes w f (aStore (at_ + j) v σ).1 w' := by
  have hj : j < n := by rw [← hn]; exact (List.getElem?_eq_some_iff.1 hv).1
  obtain ⟨b1, o1, x, rfl, _, gx, cx⟩ := hr.get hj
  have ex : x = v := Option.some.inj (gx.symm.trans hv)
  subst ex
  have k3 : w.cell? ⟨n3, 0, none⟩ = some (.pointer (some ⟨f.p, 0, none⟩)) := c3.cell 0
  have k4 : w.cell? ⟨n4, 0, none⟩ = some (.int .i64 at_) := c4.cell 0
  have k5 : w.cell? ⟨n5, 0, none⟩ = some (.slice (some ⟨b1, o1, none⟩) n c) := c5.cell 0
  unfold VU64 at cx
  have i1 : (j : Int) < (n : Int) := by omega
  have i0 : (0 : Int) ≤ (j : Int) := by omega
  have H := Lib.hid h; have HU := Lib.hid hu; have HE := Lib.hid hev
  clear h hu gx hv hr c3 c4 c5 hn hev
  go_enter Tryz.func37, Tryz.ntmps37
  go_wp2
  go_still_tail 8, (by kernel_rfl)
  change wpList _ _ _ _ _ w.drew
  rw [wrapI (x := at_ + (j : Int)) (by omega) (by omega)]
  go_wp2_with fail
  refine (store_dev (H.out.drewN 1) HE.out (at_ + j) x HU.out).mono ?_
  rintro e w2 ⟨rfl, hg⟩
  have HG := Lib.hid hg
  clear hg
  go_wp2
  go_ret
  exact ⟨rfl, HG.out.from (below_drewN (Below.refl _ _) 1)⟩

/-! a phase: what is done one by one -/
def At (W : World) (f : Fp) (σ : St) (os : List Act) (w' : World) : Prop := ∃ σ', runS os σ = (σ', 0) ∧ Goes W f σ' w'
def Off (W : World) (f : Fp) (σ : St) (os : List Act) (er : Int) (w' : World) : Prop := ∃ σ', runS os σ = (σ', er) ∧ Goes W f σ' w'
theorem goes_comp {W w1 w2 : World} {f f1 : Fp} {σ2 : St} (hp : f1.p = f.p) (hb : ∀ k ∈ f1.blocks, k ∈ f.blocks ∨ W.heap.size ≤ k) (ht : Turn W w1 f.blocks) (hg : Goes w1 f1 σ2 w2) : Goes W f σ2 w2 := by
  obtain ⟨f2, d2, e2, n2, t2⟩ := hg
  refine ⟨f2, d2, e2.trans hp, fun k hk => ?_, ht.trans t2 hb⟩
  rcases n2 k hk with h | h
  · exact hb k h
  · exact .inr (Nat.le_trans ht.size h)
theorem ptr_eq {f f1 : Fp} (hp : f1.p = f.p) : f1.ptr = f.ptr := by unfold Fp.ptr; rw [hp]
theorem act_step {W w' : World} {f : Fp} {σ : St} {all pre rest : List Act} {o : Act} {F : FuncId} {args : Array Value} (hall : all = pre ++ o :: rest) (hsm : ∀ o ∈ pre, Small1 o) (hev : σ.ev + pre.length < 4611686018427387904) (h : At W f σ pre w')
    (hcall : ∀ f1 σ1, f1.p = f.p → Dev w' f1 σ1 → σ1.ev < 4611686018427387904 → Turn W w' f.blocks → Calls Tryz.prog F args w' fun e w2 => e = .returned (.int .i64 (o σ1).2) ∧ Goes w' f1 (o σ1).1 w2) :
    Calls Tryz.prog F args w' (Ends (At W f σ (pre ++ [o])) (Off W f σ all)) := by
  obtain ⟨σ1, hr, f1, d1, hp, hb, ht⟩ := h
  have he : σ1.ev < 4611686018427387904 := by have := runS_ev pre σ hsm; rw [hr] at this; simp only at this; omega
  refine (hcall f1 σ1 hp d1 he ht).mono ?_
  rintro e w2 ⟨rfl, hg⟩
  have hG := goes_comp hp hb ht hg
  refine ⟨(o σ1).2, rfl, ?_⟩
  by_cases h0 : (o σ1).2 = 0
  · refine .inl ⟨h0, (o σ1).1, ?_, hG⟩
    rw [runS_snoc hr]
    exact Prod.ext rfl h0
  · refine .inr ⟨h0, (o σ1).1, ?_, hG⟩
    rw [hall, runS_append, hr, if_pos rfl]
    show (if (o σ1).2 = 0 then runS rest (o σ1).1 else o σ1) = _
    rw [if_neg h0]

/-! what Lay does: three steps -/
def PV (n : Nat) : Value := .pointer (some ⟨n, 0, none⟩)
structure LayIn (w : World) (f : Fp) (B n0 g1 g2 : Nat) (at_ : Int) (A : Option Addr) (c : Nat) (l : List Int) : Prop where
  fb : ∀ k ∈ f.blocks, k < B
  h0 : B ≤ n0
  h1 : B ≤ g1
  h2 : B ≤ g2
  c0 : Cells w n0 27 #[f.ptr]
  c1 : Cells w (n0 + 1) 3 #[.int .i64 at_]
  c2 : Cells w (n0 + 2) 23 #[.slice A l.length c]
  row : RowO w f A l
  e1 : Each w g1 0 ((l.length : Int) - 1) (.func (.func 37) #[] #[PV n0, PV (n0 + 1), PV (n0 + 2)])
  e2 : Each w g2 (at_ / 8) ((at_ + l.length - 1) / 8) (.func (.func 23) #[f.ptr] #[])
theorem Each.turn {w w' : World} {f : Fp} {n B : Nat} {a b : Int} {fv : Value} (h : Each w n a b fv) (hb : ∀ k ∈ f.blocks, k < B) (hn : B ≤ n) (t : Turn w w' f.blocks) : Each w' n a b fv :=
  ⟨cells_turn h.a (fun hm => by have := hb _ hm; omega) t, cells_turn h.b (fun hm => by have := hb _ hm; omega) t, cells_turn h.f (fun hm => by have := hb _ hm; omega) t⟩
theorem At.turn {W w' : World} {f : Fp} {σ : St} {os : List Act} (h : At W f σ os w') : Turn W w' f.blocks := by
  obtain ⟨_, _, _, _, _, _, t⟩ := h
  exact t
section
variable {w : World} {f : Fp} {σ : St} {B n0 g1 g2 : Nat} {at_ : Int} {A : Option Addr} {c : Nat} {l : List Int}
variable (hev : σ.ev + (2 * l.length + 3) < 4611686018427387904) (h0 : 0 ≤ at_) (h1 : at_ ≤ 900000000) (hl : l ≠ []) (hn : l.length ≤ 10000000) (hu : ∀ v ∈ l, U64 v) (hi : LayIn w f B n0 g1 g2 at_ A c l)
include hev h0 h1 hl hn hu hi
theorem lay_stores {w' : World} (h : At w f σ [] w') : Calls Tryz.prog 67 #[PV g1, PV (g1 + 1), PV (g1 + 2)] w' (Ends (At w f σ (storesA at_ l)) (Off w f σ (layA at_ l))) := by
  have key := each_any 0 ((l.length : Int) - 1) (by omega) (by omega) g1 37 #[] #[PV n0, PV (n0 + 1), PV (n0 + 2)] (fun i wr => At w f σ ((storesA at_ l).take i.toNat) wr) (Off w f σ (layA at_ l)) w' (by simpa using h)
    (fun j wr hj => hi.e1.turn hi.fb hi.h1 hj.turn) (fun args w => by simp [go_sem])
    (fun j wr hj1 hj2 hA => by
      obtain ⟨k, rfl⟩ : ∃ k : Nat, j = (k : Int) := ⟨j.toNat, by omega⟩
      have hk : k < l.length := by omega
      obtain ⟨v, hv⟩ : ∃ v, l[k]? = some v := ⟨_, List.getElem?_eq_getElem hk⟩
      have ho := storesA_at l at_ k v hv
      rw [Int.toNat_natCast] at hA
      have e : ((k : Int) + 1).toNat = k + 1 := by omega
      rw [e, List.take_add_one, ho, Option.toList_some]
      refine act_step (all := layA at_ l) (pre := (storesA at_ l).take k) (rest := (storesA at_ l).drop (k + 1) ++ (flushA (at_ / 8) (linesN at_ l.length) ++ [aFence])) ?_ (fun o ho => storesA_small l at_ o (List.mem_of_mem_take ho)) ?_ hA ?_
      · unfold layA
        rw [if_neg hl]
        conv => lhs; rw [← List.take_append_drop k (storesA at_ l)]
        have hd : (storesA at_ l).drop k = aStore (at_ + k) v :: (storesA at_ l).drop (k + 1) := by
          have hlt : k < (storesA at_ l).length := by rw [storesA_len]; exact hk
          rw [List.drop_eq_getElem_cons hlt]
          congr 1
          rw [List.getElem?_eq_getElem hlt] at ho
          exact Option.some.inj ho
        rw [hd]
        simp
      · rw [List.length_take]; omega
      · intro f1 σ1 hp d1 he ht
        have hf : f1.ptr = f.ptr := ptr_eq hp
        exact lay1_dev d1 he n0 (n0 + 1) (n0 + 2) at_ v A l.length c l rfl k hv (hu v (List.mem_of_getElem? hv)) h0 (by omega) (by omega)
          (hf ▸ cells_turn hi.c0 (fun hm => by have := hi.fb _ hm; have := hi.h0; omega) ht) (cells_turn hi.c1 (fun hm => by have := hi.fb _ hm; have := hi.h0; omega) ht) (cells_turn hi.c2 (fun hm => by have := hi.fb _ hm; have := hi.h0; omega) ht) (hi.row.turn ht))
  have em : (max (0 : Int) ((l.length : Int) - 1 + 1)).toNat = l.length := by omega
  have et : (storesA at_ l).take l.length = storesA at_ l := by rw [← storesA_len l at_, List.take_length]
  simp only [em, et] at key
  exact key
theorem lay_flushes {w' : World} (h : At w f σ (storesA at_ l) w') : Calls Tryz.prog 67 #[PV g2, PV (g2 + 1), PV (g2 + 2)] w' (Ends (At w f σ (storesA at_ l ++ flushA (at_ / 8) (linesN at_ l.length))) (Off w f σ (layA at_ l))) := by
  have hpos : 0 < l.length := List.length_pos_iff.2 hl
  have key := each_any (at_ / 8) ((at_ + l.length - 1) / 8) (by omega) (by omega) g2 23 #[f.ptr] #[] (fun i wr => At w f σ (storesA at_ l ++ (flushA (at_ / 8) (linesN at_ l.length)).take (i - at_ / 8).toNat) wr) (Off w f σ (layA at_ l)) w' (by simpa using h)
    (fun j wr hj => hi.e2.turn hi.fb hi.h2 hj.turn) (fun args w => by simp [go_sem])
    (fun j wr hj1 hj2 hA => by
      obtain ⟨k, rfl⟩ : ∃ k : Nat, j = at_ / 8 + (k : Int) := ⟨(j - at_ / 8).toNat, by omega⟩
      have hk : k < linesN at_ l.length := by unfold linesN; omega
      have ho := flushA_at (linesN at_ l.length) (at_ / 8) k hk
      have e0 : (at_ / 8 + (k : Int) - at_ / 8).toNat = k := by omega
      have e1 : (at_ / 8 + (k : Int) + 1 - at_ / 8).toNat = k + 1 := by omega
      simp only [e0] at hA
      simp only [e1]
      rw [List.take_add_one, ho, Option.toList_some, ← List.append_assoc]
      have hln := linesN_le at_ l.length
      refine act_step (all := layA at_ l) (pre := storesA at_ l ++ (flushA (at_ / 8) (linesN at_ l.length)).take k) (rest := (flushA (at_ / 8) (linesN at_ l.length)).drop (k + 1) ++ [aFence]) ?_ (fun o ho => ?_) ?_ hA ?_
      · unfold layA
        rw [if_neg hl]
        have hd : (flushA (at_ / 8) (linesN at_ l.length)).drop k = aFlush (at_ / 8 + k) :: (flushA (at_ / 8) (linesN at_ l.length)).drop (k + 1) := by
          have hlt : k < (flushA (at_ / 8) (linesN at_ l.length)).length := by rw [flushA_len]; exact hk
          rw [List.drop_eq_getElem_cons hlt]
          congr 1
          rw [List.getElem?_eq_getElem hlt] at ho
          exact Option.some.inj ho
        have hs := List.take_append_drop k (flushA (at_ / 8) (linesN at_ l.length))
        rw [hd] at hs
        have e5 : flushA (at_ / 8) (linesN at_ l.length) ++ [aFence] = (flushA (at_ / 8) (linesN at_ l.length)).take k ++ (aFlush (at_ / 8 + k) :: ((flushA (at_ / 8) (linesN at_ l.length)).drop (k + 1) ++ [aFence])) := by
          rw [← List.cons_append, ← List.append_assoc, hs]
        rw [e5, List.append_assoc]
      · rcases List.mem_append.1 ho with h | h
        · exact storesA_small l at_ o h
        · exact flushA_small _ _ o (List.mem_of_mem_take h)
      · rw [List.length_append, storesA_len, List.length_take, flushA_len]; omega
      · intro f1 σ1 hp d1 he ht
        have hf : f1.ptr = f.ptr := ptr_eq hp
        have := flush_dev d1 he (at_ / 8 + k)
        rw [hf] at this
        exact this)
  have em : (max (at_ / 8) ((at_ + l.length - 1) / 8 + 1) - at_ / 8).toNat = linesN at_ l.length := by unfold linesN; omega
  have et : (flushA (at_ / 8) (linesN at_ l.length)).take (linesN at_ l.length) = flushA (at_ / 8) (linesN at_ l.length) := by
    conv => lhs; rw [← flushA_len (linesN at_ l.length) (at_ / 8)]
    rw [flushA_len, List.take_of_length_le (by rw [flushA_len]; exact Nat.le_refl _)]
  simp only [em, et] at key
  exact key
theorem lay_fence {w' : World} (h : At w f σ (storesA at_ l ++ flushA (at_ / 8) (linesN at_ l.length)) w') : Calls Tryz.prog 25 #[f.ptr] w' (Ends (At w f σ (layA at_ l)) (Off w f σ (layA at_ l))) := by
  have hln := linesN_le at_ l.length
  have e : layA at_ l = (storesA at_ l ++ flushA (at_ / 8) (linesN at_ l.length)) ++ [aFence] := by unfold layA; rw [if_neg hl, List.append_assoc]
  have key := act_step (all := layA at_ l) (pre := storesA at_ l ++ flushA (at_ / 8) (linesN at_ l.length)) (o := aFence) (rest := []) (F := 25) (args := #[f.ptr]) e (fun o ho => by
      rcases List.mem_append.1 ho with h | h
      · exact storesA_small l at_ o h
      · exact flushA_small _ _ o h) (by rw [List.length_append, storesA_len, flushA_len]; omega) h (fun f1 σ1 hp d1 he ht => by
        have := fence_dev d1 he
        rw [ptr_eq hp] at this
        exact this)
  rw [← e] at key
  exact key
def LayF (j : Nat) : FuncId := if j < 2 then 67 else 25
def LayP (f : Fp) (j : Nat) : Array Value := if j < 2 then #[] else #[f.ptr]
def LayC (g1 g2 j : Nat) : Array Value := if j = 0 then #[PV g1, PV (g1 + 1), PV (g1 + 2)] else if j = 1 then #[PV g2, PV (g2 + 1), PV (g2 + 2)] else #[]
theorem lay_turn (h : Dev w f σ) (R : Option Addr) (rc : Nat) (hR : Row w w.heap.size R 3 [EachV g1, EachV g2, .func (.func 25) #[f.ptr] #[]]) (hRB : ∀ b o m, R = some ⟨b, o, m⟩ → B ≤ b) :
    Calls Tryz.prog 35 #[.slice R 3 rc] w fun e w' => e = .returned (.int .i64 (runS (layA at_ l) σ).2) ∧ Goes w f (runS (layA at_ l) σ).1 w' := by
  have key := inTurn_any 3 (by omega) LayF (LayP f) (LayC g1 g2) R rc
    (fun j wr => At w f σ (if j = 0 then [] else if j = 1 then storesA at_ l else if j = 2 then storesA at_ l ++ flushA (at_ / 8) (linesN at_ l.length) else layA at_ l) wr) (Off w f σ (layA at_ l)) w ⟨σ, rfl, Goes.refl h⟩
    (fun j wr hj => by
      have ht := hj.turn
      obtain ⟨b, o, rfl, hb, hc⟩ := hR.2 (by omega)
      refine ⟨rfl, fun _ => ⟨b, o, rfl, Nat.lt_of_lt_of_le hb ht.size, fun i hi' => ?_⟩⟩
      have hk := ht.block b hb (fun hm => by have := hi.fb _ hm; have := hRB b o _ rfl; omega)
      have e : wr.cell? ⟨b, o + i, none⟩ = w.cell? ⟨b, o + i, none⟩ := by simp only [World.cell?, hk]
      rw [e]
      exact hc i hi')
    (fun j hj => by
      unfold LayF
      split
      · exact fun args w => by simp [go_sem]
      · exact fun args w => by simp [go_sem])
    (fun j wr hj hA => by
      match j, hj with
      | 0, _ => exact lay_stores hev h0 h1 hl hn hu hi hA
      | 1, _ => exact lay_flushes hev h0 h1 hl hn hu hi hA
      | 2, _ => exact lay_fence hev h0 h1 hl hn hu hi hA)
  refine key.mono ?_
  rintro e w2 ⟨er, rfl, ⟨rfl, σ', hr, hg⟩ | ⟨hne, σ', hr, hg⟩⟩
  · simp only [show ¬ (3 : Nat) = 0 by decide, show ¬ (3 : Nat) = 1 by decide, show ¬ (3 : Nat) = 2 by decide, if_false] at hr
    rw [hr]
    exact ⟨rfl, hg⟩
  · rw [hr]
    exact ⟨rfl, hg⟩
end
end Go.Proofs.YtnjikgcigobcdaaGreat
