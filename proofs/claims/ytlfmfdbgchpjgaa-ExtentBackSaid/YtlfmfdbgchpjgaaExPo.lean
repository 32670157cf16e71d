import Derived.Test.YtlfmfdbgchpjgaaExRef
namespace Go.Proofs.Ytlfmfdbgchpjgaa
open Wd Ex Go.RowKit Go.ChangeShapes Go.WideShapes Go.Sort
set_option linter.unusedVariables false
set_option maxRecDepth 100000

def PoRel (l : List Ext) (b : Bool) (i P : Int) (w : World) (v : Value) (wr : World) : Prop := ∃ k : Nat, k ≤ l.length ∧ v = .int .i64 k ∧ (if b = true then pg (l.drop k) i else 0) = P ∧ ∃ q os, wr = grow (w.drewN q) os
theorem grown_b {w wr : World} (h : ∃ q os, wr = grow (w.drewN q) os) : Below w.heap.size w wr := by
  obtain ⟨q, os, rfl⟩ := h
  exact below_grow' w q os
section
variable {w : World} {lo hi : Nat} {A : Option Addr} {c : Nat} {l : List Ext}
set_option maxHeartbeats 8000000 in
theorem xPageOf (h : Exs w lo hi A l) (hh : hi ≤ w.heap.size) (hs : Small l) (hm : l.length ≤ 1000) (i : Int) : Calls Try.prog 10 #[.slice A l.length c, .int .i64 i] w (Grows (.int .i64 (pageE l i)) w) := by
  have KR := Lib.hid (fun (w1 : World) (b1 : Below w.heap.size w w1) => xRefRight (c := c) (h.below (b1.mono hh)) (Nat.le_trans hh b1.size) hs (by omega))
  obtain ⟨P, hP⟩ : ∃ P, pageE l i = P := ⟨_, rfl⟩
  obtain ⟨b, hb⟩ : ∃ b, rightB l = b := ⟨_, rfl⟩
  have hst : (if b = true then pg (l.drop 0) i else 0) = P := by rw [← hP, ← hb]; rfl
  rw [hP]
  rw [hb] at KR
  have hf : b = true → ∀ e ∈ l, Fits e := fun h1 => (rightB_iff.1 (by rw [hb, h1])).fits
  have H := Lib.hid h; have HST := Lib.hid hst; have HF := Lib.hid hf
  clear h hs hP hb hst hf
  go_enter Try.func10, Try.ntmps10
  go_wp2
  go_loopw [9] (fun v wr => PoRel l b i P w v wr) (fun v _ => l.length - (intOf v).toNat)
  case atStart => exact ⟨0, Nat.zero_le _, rfl, HST.out, grow_none w⟩
  case round =>
    obtain ⟨k, hk, rfl, hp, hg⟩ := hrel
    have HG := Lib.hid hg; have HB := Lib.hid (grown_b hg); have HP := Lib.hid hp
    clear hg hp
    by_cases hlt : k < l.length
    · obtain ⟨e, he⟩ : ∃ e, l[k]? = some e := ⟨_, List.getElem?_eq_getElem hlt⟩
      have hlt2 : (k : Int) < (l.length : Int) := Int.ofNat_lt.2 hlt
      obtain ⟨bl, off, rfl, _, hbB, x0, x1, x2⟩ := exs_cells (H.out.below (HB.out.mono hh)) he
      have HE := Lib.hid he
      have C1 := Lib.hid (Cells.new wr 29 (xc e))
      have G1 := Lib.hid (grow_alloc HG.out (.cells (xc e) 29))
      have hp := HP.out
      rw [drop_at he, pg] at hp
      have HP2 := Lib.hid hp
      clear he hp
      go_wp2_with fail
      refine (KR.out _ (grown_b G1.out)).mono ?_
      rintro e1 w2 ⟨rfl, hw2⟩
      have G2 := Lib.hid (grow_trans G1.out hw2)
      have C2 := Lib.hid (C1.out.below' (grown_b hw2))
      have c0 : w2.cell? ⟨wr.heap.size, 0, none⟩ = some (.int .i64 e.f) := C2.out.cell 0
      have c1 : w2.cell? ⟨wr.heap.size, 1, none⟩ = some (.int .i64 e.n) := C2.out.cell 1
      have c2 : w2.cell? ⟨wr.heap.size, 2, none⟩ = some (.int .i64 e.p) := C2.out.cell 2
      clear hw2 x0 x1 x2
      cases b
      · go_wp2
        go_roundw
        case rel => exact ⟨k + 1, by omega, by go_num, HP2.out, G2.out⟩
        case measure => simp [intOf]; omega
      · have fe := HF.out rfl e (List.mem_of_getElem? HE.out)
        have f1 := fe.f; have f2 := fe.fn; have f3 := fe.p; have f4 := fe.pn; have f5 := fe.n
        have q1 : wrap64 (e.f + e.n) = e.f + e.n := by unfold wrap64; omega
        have hp := HP2.out
        rw [if_pos rfl] at hp
        by_cases d1 : e.f ≤ i
        · by_cases d2 : i < e.f + e.n
          · rw [if_pos ⟨d1, d2⟩] at hp
            have q2 : wrap64 (e.p + i) = e.p + i := by unfold wrap64; omega
            have q3 : wrap64 (e.p + i - e.f) = e.p + i - e.f := by unfold wrap64; omega
            have HP3 := Lib.hid hp; have Q3 := Lib.hid q3
            clear fe f1 f2 f3 f4 f5 hp q3
            go_wp2
            go_ret
            refine ⟨?_, G2.out⟩
            rw [← HP3.out]
            show Ending.returned (.int .i64 (wrap64 (e.p + i - e.f))) = _
            rw [Q3.out, show e.p + (i - e.f) = e.p + i - e.f by omega]
          · rw [if_neg (by omega)] at hp
            have HP3 := Lib.hid hp
            clear fe f1 f2 f3 f4 f5 hp
            go_wp2
            go_roundw
            case rel => exact ⟨k + 1, by omega, by go_num, by rw [if_pos rfl]; exact HP3.out, G2.out⟩
            case measure => simp [intOf]; omega
        · rw [if_neg (by omega)] at hp
          have HP3 := Lib.hid hp
          clear fe f1 f2 f3 f4 f5 hp q1
          go_wp2
          go_roundw
          case rel => exact ⟨k + 1, by omega, by go_num, by rw [if_pos rfl]; exact HP3.out, G2.out⟩
          case measure => simp [intOf]; omega
    · obtain rfl : k = l.length := by omega
      have hp := HP.out
      rw [List.drop_length] at hp
      have hz : P = 0 := by rw [← hp]; cases b <;> rfl
      subst hz
      clear hp
      go_wp2
      go_ret
      exact ⟨rfl, HG.out⟩
end

/-! struct == struct -/
def extEq (a b : Ext) : Bool := decide (a.f = b.f) && (decide (a.n = b.n) && decide (a.p = b.p))
theorem eqX_cons {P : Program} {f : Field} {fs : List Field} {d : Nat} {w : World} {xs ys : Array Value} {u v : Value} {b B : Bool} (hn : (f.name != "_") = true) (hx : ∀ w, (part f.type xs f.offset).run P w = .ok u w) (hy : ∀ w, (part f.type ys f.offset).run P w = .ok v w)
    (he : (Op.equalIn d f.type u v).run P w = .ok b w) (hr : (Op.eqFields d xs ys fs).run P w = .ok B w) : (Op.eqFields d xs ys (f :: fs)).run P w = .ok (b && B) w := by
  have hn' : f.name ≠ "_" := by simpa using hn
  unfold Op.eqFields
  rw [if_pos hn']
  simp only [Sem.run_bind, hx, hy, he, Result.andThen_ok, Sem.run_ite]
  cases b with
  | true => simp [hr]
  | false => simp [Sem.run_pure]
theorem eqX_in (a b : Ext) (w : World) : (Op.equalIn 10000 29 a.val b.val).run Try.prog w = .ok (extEq a b) w := by
  have hu : Try.prog.underlying 29 = some (.struct (Try.prog.fieldsOf 29)) := by kernel_rfl
  obtain ⟨f0, f1, f2, hf, n0, n1, n2, p0, p1, p2⟩ : ∃ f0 f1 f2 : Field, (Try.prog.fieldsOf 29).toList = [f0, f1, f2] ∧ (f0.name != "_") = true ∧ (f1.name != "_") = true ∧ (f2.name != "_") = true ∧
      (f0.type, f0.offset) = (3, 0) ∧ (f1.type, f1.offset) = (3, 1) ∧ (f2.type, f2.offset) = (3, 2) :=
    ⟨_, _, _, rfl, by kernel_rfl, by kernel_rfl, by kernel_rfl, by kernel_rfl, by kernel_rfl, by kernel_rfl⟩
  simp only [Prod.mk.injEq] at p0 p1 p2
  have hI : ∀ x y w, (Op.equalIn 9999 3 (.int .i64 x) (.int .i64 y)).run Try.prog w = .ok (decide (x = y)) w := fun x y w => run_equalIn_int w 9998 3 .i64 .i64 x y Try.underlying3
  unfold Ext.val
  rw [run_equalIn_struct _ 9999 _ _ _ hu (by kernel_rfl), hf]
  rw [eqX_cons (u := .int .i64 a.f) (v := .int .i64 b.f) n0 (fun w => by rw [p0.1, p0.2]; simp [go_sem]) (fun w => by rw [p0.1, p0.2]; simp [go_sem]) (by rw [p0.1]; exact hI _ _ _)
    (eqX_cons (u := .int .i64 a.n) (v := .int .i64 b.n) n1 (fun w => by rw [p1.1, p1.2]; simp [go_sem]) (fun w => by rw [p1.1, p1.2]; simp [go_sem]) (by rw [p1.1]; exact hI _ _ _)
    (eqX_cons (u := .int .i64 a.p) (v := .int .i64 b.p) n2 (fun w => by rw [p2.1, p2.2]; simp [go_sem]) (fun w => by rw [p2.1, p2.2]; simp [go_sem]) (by rw [p2.1]; exact hI _ _ _) (by simp [Op.eqFields] : (Op.eqFields 9999 _ _ []).run Try.prog w = .ok true w)))]
  simp only [Bool.and_true, extEq]
theorem eqX_any (a b : Ext) (w : World) : (binOp .eql 29 a.val b.val).run Try.prog w = .ok (.bool (extEq a b)) w := by
  have := eqX_in a b w
  unfold Ext.val at this ⊢
  rw [run_eql_struct, this]; rfl
theorem neX_any (a b : Ext) (w : World) : (binOp .neq 29 a.val b.val).run Try.prog w = .ok (.bool (!extEq a b)) w := by
  have := eqX_in a b w
  unfold Ext.val at this ⊢
  rw [run_neq_struct, this]; rfl
theorem extEq_self (a : Ext) : extEq a a = true := by simp [extEq]
end Go.Proofs.Ytlfmfdbgchpjgaa
