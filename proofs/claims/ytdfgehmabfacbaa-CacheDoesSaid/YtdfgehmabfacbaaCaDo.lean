import Derived.Test.YtdfgehmabfacbaaCaSam
import Derived.Deep.DeepCutAuto
import Derived.Deep.RegionLaw
import Derived.StillTailTactics
import Derived.OwnWalk
/-! CacheDoes: its walk. -/
namespace Go.Proofs.Ytdfgehmabfacbaa
open Wd Sm Go.Maps Go.RowKit Go.ChangeShapes Go.WideShapes Go.Sort
set_option linter.unusedVariables false
set_option maxRecDepth 100000
def zP : List Value := List.replicate 255 (.int .u8 0)
abbrev zeroP (w : World) : World := w.alloc (.cells zP.toArray 5)
theorem mk255 (w : World) : (Instr.makeSlice 23 (.int .i64 255) (.int .i64 255)).run Try.prog w = .ok (.slice (some ⟨w.heap.size, 0, none⟩) 255 255) (zeroP w) :=
  make_row (P := Try.prog) 23 5 (.int .u8 0) 1 Try.underlying23 infoB rfl 255 (by omega) (by omega) w
def pg (X : Int) : List Value := zP ++ [.int .u8 X]
theorem pg_len (X : Int) : (pg X).length = 256 := by simp [pg, zP]
theorem pg_one (X : Int) : ∀ v ∈ pg X, v.oneCell' = true := fun v hv => by
  rcases List.mem_append.1 hv with h | h
  · rw [(List.mem_replicate.1 h).2]; rfl
  · rw [List.mem_singleton.1 h]; rfl
theorem pg_at (X : Int) : (pg X)[255]? = some (.int .u8 X) := by
  unfold pg
  rw [List.getElem?_append_right (by simp [zP])]
  simp [zP]
theorem zeroP_own (w : World) (o : Obj) : ((zeroP w).alloc o).ownsRow w.heap.size 5 1 (.slice (some ⟨w.heap.size, 0, none⟩) 255 255) 255 zP := by
  refine ⟨by simp [zP], .inr ⟨w.heap.size, 255, zP.toArray, rfl, Nat.le_refl _, ?_, Nat.le_refl _, by unfold maxLen; omega, by simp [zP], by simp [zP]⟩⟩
  exact (Cells.new w 5 zP.toArray).alloc o
theorem idr_nil_at {w : World} {B : Nat} {v v' : Value} {l : List Int} (h : l = []) (hv : v = v') (hi : IdR w B v l) : IdR w B v' [] := by rw [← h, ← hv]; exact hi
theorem wf_lim {n : Int} (h : (Lit.int .i64 n).wf = true) : -9223372036854775808 ≤ n ∧ n ≤ 9223372036854775807 := by
  have h : IntKind.i64.min ≤ n ∧ n ≤ IntKind.i64.max := by simpa [Lit.wf] using h
  have m1 : IntKind.i64.min = -9223372036854775808 := by decide
  have m2 : IntKind.i64.max = 9223372036854775807 := by decide
  omega
def GotP (w : World) (X : Int) (e : Ending) (w' : World) : Prop := ∃ gq : Nat, e = .returned (.tuple #[.slice (some ⟨gq, 0, none⟩) 256 256, .bool true]) ∧ w'.cell? ⟨gq, 255, none⟩ = some (.int .u8 X) ∧ Below w.heap.size w w'
theorem caGot {w : World} {base p m : Nat} {S : Cst} (h : CaAt w base p m S) (x : Int) (hx : -9223372036854775808 ≤ x ∧ x ≤ 9223372036854775807) {X : Int} (hc : S.F x = some (.agg (pg X).toArray)) :
    Calls Try.prog 8 #[CPtr p, .int .i64 x] w (GotP w X) :=
  (caGet_yes h x hx hc).mono fun e w' ⟨h1, h2⟩ => ⟨w.heap.size, h1, by rw [← h2, (Cells.new w 42 (pg X).toArray).cell 255, List.getElem?_toArray]; exact pg_at X, by rw [← h2]; exact (Below.refl _ _).alloc (Nat.le_refl _) _⟩
theorem caNot {w : World} {base p m : Nat} {S : Cst} (h : CaAt w base p m S) (x : Int) (hx : -9223372036854775808 ≤ x ∧ x ≤ 9223372036854775807) (hc : S.F x = none) :
    Calls Try.prog 8 #[CPtr p, .int .i64 x] w (fun e w' => e = .returned (.tuple #[.slice none 0 0, .bool false]) ∧ Below w.heap.size w w') :=
  (caGet_no h x hx hc).mono fun e w' ⟨h1, h2⟩ => ⟨h1, by rw [← h2]; exact (Below.refl _ _).alloc (Nat.le_refl _) _⟩
theorem wpList_append_none {P : Program} {ops : Array Oper} {rest : List Oper} {o : Oper} {a : Act} {w : World} {Q : Exit → Act → World → Prop}
    (hg : o.guard = none) (s x : Operand) (t : TypeId) (hop : o.op = Op.call { callee := Callee.builtin Builtin.append, args := #[s, x], argTypes := #[t, t] })
    (e : TypeId) (z : Value) (size bytes : Nat) (ht : P.underlying t = some (.slice e)) (hi : (P.info? e).map (fun i => (i.zero, i.size, i.bytes)) = some (some z, size, bytes))
    (ad : Addr) (n c : Nat) (hs : a.eval s = .slice (some ad) n c) (hnc : n ≤ c) (A : Option Addr) (m0 c2 : Nat) (hx : a.eval x = .slice A m0 c2) (hm0 : m0 = 0)
    (h : wpList P ops Q rest (a.put o.dst (.slice (some ad) n c)) w) : wpList P ops Q (o :: rest) a w := by
  subst hm0
  refine wpList_plain hg fun K hK => ?_
  have hst := step_append_none (ops := ops) (K := K) (Q := Q) (E := False) hg s x t hop e z size bytes ht hi ad n c hs hnc A c2 hx (hK _ _ h)
  have hw : Region.wanted o (yielded ops a.tmps) = true := by simp [Region.wanted, hg]
  rw [if_pos hw] at hst
  exact hst
theorem wpList_append_full {P : Program} {ops : Array Oper} {rest : List Oper} {o : Oper} {a : Act} {w : World} {Q : Exit → Act → World → Prop}
    (hg : o.guard = none) (s x : Operand) (t : TypeId) (hop : o.op = Op.call { callee := Callee.builtin Builtin.append, args := #[s, x], argTypes := #[t, t] })
    (e : TypeId) (z : Value) (bytes : Nat) (ht : P.underlying t = some (.slice e)) (hi : (P.info? e).map (fun i => (i.zero, i.size, i.bytes)) = some (some z, 1, bytes)) (hz : z.cells.size = 1)
    (q : Addr) (n : Nat) (olds : List Value) (hs : a.eval s = .slice (some q) n n) (hlo : olds.length = n * 1) (holds : ∀ j u, olds[j]? = some u → w.cell? (q.add j) = some u)
    (ad : Addr) (m c : Nat) (news : List Value) (hx : a.eval x = .slice (some ad) m c) (hn : news.length = m) (hc : ∀ j u, news[j]? = some u → w.cell? (ad.add j) = some u) (h1c : ∀ u ∈ news, u.oneCell' = true)
    (hm0 : 0 < m) (b1 : n + m ≤ maxLen) (b2 : (n + m) * bytes ≤ 140737488355328)
    (h : ∀ v' w', w'.ownsRow w.heap.size e 1 v' (n + m) (olds ++ news) → w.grownBy w' none → wpList P ops Q rest (a.put o.dst v') w') : wpList P ops Q (o :: rest) a w := by
  refine wpList_plain hg fun K hK => ?_
  obtain ⟨i0, hi0, hz0, hz1, hz2⟩ := info_parts hi
  have hst := step_append_grows (ops := ops) (K := K) (Q := Q) (E := False) hg s x t hop e i0 z 1 bytes ht hi0 hz0 hz1 hz2 hz (by decide) (some q) n n olds hs (fun h => by cases h) hlo (fun b hb => by injection hb with hb; subst hb; exact holds) ad m c news hx (by rw [Nat.mul_one]; exact hn) hc h1c (by omega) b1 b2 (fun v' w' h1 h2 => hK _ _ (h v' w' h1 h2))
  have hw : Region.wanted o (yielded ops a.tmps) = true := by simp [Region.wanted, hg]
  rw [if_pos hw] at hst
  exact hst
/-- the rest of a row behind its last: nothing, wherever it says that it lies -/
theorem run_tail0 (q c s n : Nat) (hn : s + 1 = n) (hc : n ≤ c) : ∃ (A : Option Addr) (c' : Nat), ∀ w, (Instr.slice 22 (.slice (some ⟨q, 0, none⟩) n c) (some (.int .i64 ((s : Int) + 1))) none none).run Try.prog w = .ok (.slice A 0 c') w := by
  have he : Try.prog.elem 22 = 3 := by kernel_rfl
  obtain ⟨i, hi, _, hsz, _⟩ := info_parts infoZ
  have hs : ∀ w, (sizeOf 3).run Try.prog w = .ok 1 w := fun w => by simp [sizeOf, typeInfo, hi, hsz]
  refine ⟨if c = s + 1 then some ⟨q, 0, none⟩ else (some (⟨q, 0, none⟩ : Addr)).map (·.add ((s + 1) * 1)), c - (s + 1), fun w => ?_⟩
  rw [run_slice_l (P := Try.prog) (t := 22) (a := some ⟨q, 0, none⟩) (len := n) (cap := c) (ht := by rw [he]; exact Try.underlying22) (kl := .i64) (l := (s : Int) + 1) (h0 := by omega) (h1 := by omega), he, hs, show ((s : Int) + 1).toNat = s + 1 by omega]
  show Result.ok (Value.slice _ (n - (s + 1)) _) w = _
  rw [show n - (s + 1) = 0 by omega]
def DoMid (W : World) (base p m j M : Nat) (v lst : Value) (wx : World) : Prop := ∃ S1 : Cst, CaAt wx base p m S1 ∧ IdR wx base v S1.ids ∧ S1.last ≤ j + 1 ∧ S1.most = M ∧ lst = .int .i64 (S1.last : Int) ∧ Below W.heap.size W wx
@[irreducible] def Stp (p : Prop) : Prop := p
theorem stp {p : Prop} (h : Stp p) : p := by unfold Stp at h; exact h
theorem unstp {p : Prop} (h : p) : Stp p := by unfold Stp; exact h
def DoRel (W : World) (base p m L M : Nat) (v lst idx : Value) (wr : World) : Prop := ∃ (j : Nat) (S : Cst), j ≤ L ∧ idx = .int .i64 j ∧ lst = .int .i64 (S.last : Int) ∧ S.most = M ∧ CaAt wr base p m S ∧ IdR wr base v S.ids ∧ S.last ≤ j ∧ Below W.heap.size W wr
set_option maxHeartbeats 40000000 in
theorem lDoes {W : World} {A A2 : Option Addr} {c c2 : Nat} {l l2 : List Int} (h : Row W W.heap.size A l.length (l.map iz)) (hx : ∀ y ∈ l, (Lit.int .i64 y).wf = true) (hlm : l.length ≤ maxLen) (n : Int) (h2 : Row W W.heap.size A2 l2.length (l2.map (Value.int .u8))) (hlm2 : l2.length ≤ maxLen) :
    Calls Try.prog 3 #[.int .i64 n, .slice A l.length c, .slice A2 l2.length c2] W (TrueB W) := by
  have H := Lib.hid h; have HHX := Lib.hid hx; have HH2 := Lib.hid h2; have HLM2 := Lib.hid hlm2
  unfold maxLen at hlm hlm2
  have KA := Lib.hid (cAwake W)
  have KN := Lib.hid (fun w => caNew w n)
  clear h hx h2
  go_enter Try.func3, Try.ntmps3
  go_wp2_with fail
  refine KA.out.mono ?_
  rintro e w1 ⟨rfl, b1⟩
  have B1 := Lib.hid b1
  clear b1 KA
  by_cases c1 : 80 < l.length
  · have q1 : (80 : Int) < (l.length : Int) := by omega
    go_wp2
    go_ret
    exact ⟨rfl, B1.out⟩
  have q1 : ¬ ((80 : Int) < (l.length : Int)) := by omega
  have hle : l.length ≤ 80 := by omega
  by_cases c3 : 300 < l2.length
  · have q2 : (300 : Int) < (l2.length : Int) := by omega
    go_wp2
    go_ret
    exact ⟨rfl, B1.out⟩
  have q2 : ¬ ((300 : Int) < (l2.length : Int)) := by omega
  have hle2 : l2.length ≤ 300 := by omega
  clear c1 c3
  obtain ⟨M, hM⟩ : ∃ M, M = mostOf n := ⟨_, rfl⟩
  have HMM := Lib.hid hM
  clear hM
  go_wp2_with fail
  refine (KN.out _).mono ?_
  rintro e w2 ⟨rfl, h2, b2⟩
  obtain ⟨base, hbase⟩ : ∃ base, base = w1.heap.size := ⟨_, rfl⟩
  obtain ⟨p, hp⟩ : ∃ p, p = w1.heap.size + 1 := ⟨_, rfl⟩
  rw [← hp, ← hbase] at h2
  rw [← hp]
  have HBS := Lib.hid (show W.heap.size ≤ base by rw [hbase]; exact B1.out.size)
  have H2 := Lib.hid h2
  have B2 := Lib.hid (B1.out.trans (b2.mono B1.out.size))
  clear h2 b2 hbase hp KN
  go_upto_region 6 with fail
  go_cut [8] from 37 to 39 (fun c wx => c = .int .i64 (M : Nat) ∧ wx = w2)
  case first =>
    have hM := HMM.out
    unfold mostOf at hM
    clear H HHX HH2 HLM2 HMM HBS H2 B2 B1
    by_cases h1 : n ≤ 8
    · have e : (M : Int) = 8 := by omega
      have hmx : max n 8 = 8 := by omega
      clear hM
      go_wp2
      all_goals go_meet
      all_goals exact ⟨by rw [Value.int.injEq]; exact ⟨rfl, by omega⟩, rfl⟩
    · have hmx : max n 8 = n := by omega
      by_cases h2 : n ≤ 256
      · have e : (M : Int) = n := by omega
        clear hM
        go_wp2
        all_goals go_meet
        all_goals exact ⟨by rw [Value.int.injEq]; exact ⟨rfl, by omega⟩, rfl⟩
      · have e : (M : Int) = 256 := by omega
        clear hM
        go_wp2
        all_goals go_meet
        all_goals exact ⟨by rw [Value.int.injEq]; exact ⟨rfl, by omega⟩, rfl⟩
  case rest =>
  obtain ⟨rfl, rfl⟩ := hcut
  go_wp2
  go_loopw [9, 10, 42] (fun v lst i wr => DoRel W base p base l.length M v lst i wr) (fun _ _ i _ => l.length - (intOf i).toNat)
  case atStart => exact ⟨0, newC n, Nat.zero_le _, rfl, rfl, HMM.out.symm, H2.out, IdR.nil _ _, Nat.le_refl _, B2.out⟩
  case round =>
    obtain ⟨j, S, hj, rfl, rfl, hmost, hc, hi, hl, hb⟩ := hrel
    have HC := Lib.hid hc; have HI0 := Lib.hid hi; have HL0 := Lib.hid hl; have HB0 := Lib.hid hb; have HM0 := Lib.hid hmost
    by_cases hlt : j < l.length
    · obtain ⟨b, off, x, rfl, hbB, hx, hcx⟩ := (H.out.below hb).get hlt
      have hlt2 : (j : Int) < (l.length : Int) := Int.ofNat_lt.2 hlt
      have hwf := wf_lim (HHX.out x (List.mem_of_getElem? hx))
      have HWF := Lib.hid hwf
      unfold iz at hcx
      clear hc hb hx hl hi hmost hwf
      go_upto_if 47 with fail
      go_cut [9, 10, 13, 14, 15, 16, 17, 18, 19, 20] from 46 to 149 (fun v lst _ _ _ _ _ _ _ _ wx => DoMid W base p base j M v lst wx)
      case first =>
        by_cases hneg : 0 ≤ x
        · obtain ⟨X, hX⟩ : ∃ X, X = IntKind.u8.wrap x := ⟨_, rfl⟩
          have hX' : IntKind.u8.wrap x = X := hX.symm
          have hmk := mk255
          obtain ⟨A0, d0, rfl, _⟩ := HI0.out.row (by have := HC.out.ok.few; have := HC.out.ok.hi; omega)
          have HZO := Lib.hid (zeroP_own wr (.cells #[.int .u8 X] 5))
          have hrq := Row.one (zeroP wr) (.int .u8 X) 5
          rw [show (zeroP wr).heap.size = wr.heap.size + 1 by simp [zeroP]] at hrq
          have HRQ := Lib.hid hrq
          have HSZ := Lib.hid (show wr.heap.size ≤ ((zeroP wr).alloc (.cells #[.int .u8 X] 5)).heap.size by simp [zeroP]; omega)
          have hlen0 : S.ids.length ≤ 256 := by have := HC.out.ok.few; have := HC.out.ok.hi; omega
          have HLEN := Lib.hid hlen0
          have hlast : S.last ≤ 80 := by have := HL0.out; omega
          have hw1 : IntKind.i64.wrap ((S.last : Int) + 1) = (S.last : Int) + 1 := by rw [IntKind.wrap_i64]; omega
          clear hrq hX
          go_wp2_with (at_builtin; refine wpList_append_row _ rfl (.tmp 48) (.tmp 51) 23 rfl wr.heap.size 5 (.int .u8 0) 1 Try.underlying23 infoB rfl _ 255 zP rfl HZO.out _ _ 1 1 [.int .u8 X] rfl HRQ.out (fun u hu => by rw [List.mem_singleton.1 hu]; rfl) (by unfold maxLen; omega) (by omega) HSZ.out ?_; intro v4 w4 o4 g4 _; refine stp ?_)
          refine unstp ?_
          have b4 : Below wr.heap.size wr w4 := (((Below.refl _ _).alloc (Nat.le_refl _) _).alloc (by simp) _).grown g4 HSZ.out (fun q hq => own_base HZO.out q hq)
          have o4 : w4.ownsRow wr.heap.size 5 1 v4 256 (pg X) := o4
          obtain ⟨g, cp, rfl, hg, hcp, hcm, hglt⟩ := own_open o4 (by omega)
          have H4 := Lib.hid (HC.out.below' b4)
          have HI4 := Lib.hid (HI0.out.below b4)
          have HB4 := Lib.hid (HB0.out.trans (b4.mono HB0.out.size))
          have HO4 := Lib.hid o4
          have hgp : g ≠ p := fun e => by have := HC.out.c.lt; omega
          have hcel : ∀ q (hq : q < (pg X).length), w4.cell? ⟨g, 0 + q, none⟩ = some (pg X)[q] := fun q hq => by rw [Nat.zero_add]; exact (own_cell o4 (k := q) (List.getElem?_eq_getElem hq)).1
          have HGB := Lib.hid (show base ≤ g from Nat.le_trans HC.out.bp (Nat.le_trans (Nat.le_of_lt HC.out.c.lt) hg))
          have HCEL := Lib.hid hcel
          have HGP := Lib.hid hgp
          clear g4 b4 o4 hcel hgp HZO HRQ HSZ
          by_cases hroom : S.ids.length < M
          · have KP := Lib.hid (caPut_yes H4.out (g := g) (o := 0) (cp := cp) (xs := pg X) HGP.out (pg_len X) (pg_one X) HCEL.out (by rw [HM0.out]; exact hroom) (by omega))
            have hroomZ : (S.ids.length : Int) < (M : Int) := by omega
            have q3 : (((S.last : Int) + 1) != ((S.last : Int) + 1)) = false := by simp
            clear hg hcp hcm hglt
            go_wp2_with fail
            refine KP.out.mono ?_
            rintro e w5 ⟨rfl, h5, b5, k5, s5⟩
            have HO5 := Lib.hid (own_keepI HO4.out (fun q cs hq => k5 q (hq.ne H4.out.c (by decide)) (H4.out.v.cells hq).symm))
            have HI5 := Lib.hid (HI4.out.keep (fun q cs hq => k5 q (hq.ne H4.out.c (by decide)) (H4.out.v.cells hq).symm))
            have HB5 := Lib.hid (HB4.out.trans (b5.mono HBS.out))
            have ba := (Below.refl w5.heap.size w5).alloc (Nat.le_refl _) (.cells #[iz ((S.last : Int) + 1)] 3)
            have H6 := Lib.hid (h5.below' ba)
            have HI6 := Lib.hid (HI5.out.below ba)
            have HO6 := Lib.hid (own_keepI HO5.out (fun q cs hq => ba.block q hq.lt))
            have HB6 := Lib.hid (HB5.out.trans (ba.mono HB5.out.size))
            have HC6 := Lib.hid (Cells.new w5 3 #[iz ((S.last : Int) + 1)])
            have HS6 := Lib.hid (show base ≤ (w5.alloc (.cells #[iz ((S.last : Int) + 1)] 3)).heap.size from Nat.le_trans H6.out.bp (Nat.le_of_lt H6.out.c.lt))
            clear h5 b5 k5 s5 ba KP
            go_wp2_with (at_builtin; refine wpList_append_id rfl (.tmp 85) (.tmp 87) rfl rfl HI6.out (by omega) HS6.out _ _ rfl HC6.out ?_; intro v7 w7 i7 b7 k7 m7 z7; refine stp ?_)
            refine unstp ?_
            have HI7 := Lib.hid i7
            have h7 : CaAt w7 base p base (putC S (pg X).toArray) := H6.out.keep (k7 p _ _ (by decide) H6.out.c) (m7 base (fun T cs hq => H6.out.v.cells hq rfl) H6.out.v.lt)
            have HO7 := Lib.hid (own_keepI HO6.out (fun q cs hq => k7 q cs _ (by decide) hq))
            have HB7 := Lib.hid (HB6.out.trans (b7.mono HBS.out))
            obtain ⟨cx, fx⟩ := own_cell HO7.out (k := 255) (pg_at X)
            have KG := Lib.hid (fun u => caGot (w := w7.setCell ⟨g, 255, none⟩ u) (h7.keep (Below.heap_setCell w7 _ _ p HGP.out.symm) (Below.heap_setCell w7 _ _ base (fun e => by
              obtain ⟨g', cap, cur, hv, _, hcc, _⟩ := HO7.out.2.resolve_left (fun hh => by cases hh.1)
              injection hv with hv
              injection hv with hv
              injection hv with hv
              subst hv
              exact h7.v.cells (show Cells w7 g 5 cur from hcc) e))) ((S.last : Int) + 1) (by omega) (last_none HC.out.ok))
            have HI8 := Lib.hid (fun u => (HI7.out.keep (w' := w7.setCell ⟨g, 255, none⟩ u) (fun q cs hq => Below.heap_setCell w7 _ _ q (fun e => by
              obtain ⟨g', cap, cur, hv, _, hcc, _⟩ := HO7.out.2.resolve_left (fun hh => by cases hh.1)
              injection hv with hv
              injection hv with hv
              injection hv with hv
              subst hv
              exact hq.ne (show Cells w7 g 5 cur from hcc) (by decide) e))))
            have H8 := Lib.hid (fun u => (h7.keep (w' := w7.setCell ⟨g, 255, none⟩ u) (Below.heap_setCell w7 _ _ p HGP.out.symm) (Below.heap_setCell w7 _ _ base (fun e => by
              obtain ⟨g', cap, cur, hv, _, hcc, _⟩ := HO7.out.2.resolve_left (fun hh => by cases hh.1)
              injection hv with hv
              injection hv with hv
              injection hv with hv
              subst hv
              exact h7.v.cells (show Cells w7 g 5 cur from hcc) e))))
            have HB8 := Lib.hid (fun u => HB7.out.setCell (p := ⟨g, 255, none⟩) (Nat.le_trans HBS.out HGB.out) u)
            clear i7 b7 k7 m7 z7 h7 HI6 HO6 HC6 HS6 H6 HB6 HI5 HO5 HB5
            go_wp2_with fail
            refine (KG.out _).mono ?_
            rintro e wx ⟨gq, rfl, cq, bq⟩
            have q4 : (X != X) = false := by simp
            have HT1 := Lib.hid ((H8.out _).below' bq)
            have HTI := Lib.hid ((HI8.out _).below bq)
            have HTB := Lib.hid ((HB8.out _).trans (bq.mono (HB8.out _).size))
            have HEND := Lib.hid (show DoMid W base p base j M v7 (.int .i64 ((S.last : Int) + 1)) wx from ⟨putC S (pg X).toArray, HT1.out, HTI.out, Nat.succ_le_succ HL0.out, HM0.out, rfl, HTB.out⟩)
            clear bq KG HI8 H8 HB8 HI7 HO7 HB7 cx fx H4 HI4 HO4 HB4 HCEL HT1 HTI HTB
            go_wp2
            go_meet
            exact HEND.out
          · have KP := Lib.hid (caPut_no H4.out (some ⟨g, 0, none⟩) 256 cp (by unfold maxLen; omega) (fun hh => hroom (by rw [← HM0.out]; exact hh.2)))
            have hroomZ : ¬ ((S.ids.length : Int) < (M : Int)) := by omega
            clear hg hcp hcm hglt
            go_wp2_with fail
            refine KP.out.mono ?_
            rintro e w5 ⟨rfl, rfl⟩
            obtain ⟨cx, fx⟩ := own_cell HO4.out (k := 255) (pg_at X)
            have H8 := Lib.hid (fun u => (H4.out.keep (w' := w4.setCell ⟨g, 255, none⟩ u) (Below.heap_setCell w4 _ _ p HGP.out.symm) (Below.heap_setCell w4 _ _ base (fun e => by
              obtain ⟨g', cap, cur, hv, _, hcc, _⟩ := HO4.out.2.resolve_left (fun hh => by cases hh.1)
              injection hv with hv
              injection hv with hv
              injection hv with hv
              subst hv
              exact H4.out.v.cells (show Cells w4 g 5 cur from hcc) e))))
            have KG := Lib.hid (fun u => caNot (H8.out u) 0 (by omega) (zero_none HC.out.ok))
            have HI8 := Lib.hid (fun u => (HI4.out.keep (w' := w4.setCell ⟨g, 255, none⟩ u) (fun q cs hq => Below.heap_setCell w4 _ _ q (fun e => by
              obtain ⟨g', cap, cur, hv, _, hcc, _⟩ := HO4.out.2.resolve_left (fun hh => by cases hh.1)
              injection hv with hv
              injection hv with hv
              injection hv with hv
              subst hv
              exact hq.ne (show Cells w4 g 5 cur from hcc) (by decide) e))))
            have HB8 := Lib.hid (fun u => HB4.out.setCell (p := ⟨g, 255, none⟩) (Nat.le_trans HBS.out HGB.out) u)
            clear KP
            go_wp2_with fail
            refine (KG.out _).mono ?_
            rintro e wx ⟨rfl, bq⟩
            have HT1 := Lib.hid ((H8.out _).below' bq)
            have HTI := Lib.hid ((HI8.out _).below bq)
            have HTB := Lib.hid ((HB8.out _).trans (bq.mono (HB8.out _).size))
            have HEND := Lib.hid (show DoMid W base p base j M (.slice A0 S.ids.length d0) (.int .i64 (S.last : Int)) wx from ⟨S, HT1.out, HTI.out, Nat.le_succ_of_le HL0.out, HM0.out, rfl, HTB.out⟩)
            clear bq KG HI8 H8 HB8 cx fx H4 HI4 HO4 HB4 HCEL HT1 HTI HTB
            go_wp2
            go_meet
            exact HEND.out
        · obtain ⟨y, hy⟩ : ∃ y, y = IntKind.i64.wrap (-x) := ⟨_, rfl⟩
          have hyR : -9223372036854775808 ≤ y ∧ y ≤ 9223372036854775807 := by have := HWF.out; rw [hy, IntKind.wrap_i64]; omega
          have hy' : IntKind.i64.wrap (-x) = y := hy.symm
          obtain ⟨A0, d0, rfl, hr0⟩ := HI0.out.row (by have := HC.out.ok.few; have := HC.out.ok.hi; omega)
          have hlen0 : S.ids.length ≤ 256 := by have := HC.out.ok.few; have := HC.out.ok.hi; omega
          obtain ⟨wo, rfl⟩ : ∃ wo : World, wo = wr := ⟨_, rfl⟩
          have HR0 := Lib.hid hr0; have HYR := Lib.hid hyR
          clear hy hr0 hyR
          go_wp2
          go_loopw [18, 121] (fun k i wr => InRel S.ids y wo k i wr) (fun _ i _ => S.ids.length - (intOf i).toNat)
          case atStart => exact ⟨0, Nat.zero_le _, rfl, FoundK.start _ _, rfl⟩
          case round =>
            obtain ⟨t, ht, rfl, hf, rfl⟩ := hrel
            have HF := Lib.hid hf
            clear hf
            by_cases htl : t < S.ids.length
            · obtain ⟨b5, o5, z, rfl, _, gz, cz⟩ := HR0.out.get htl
              have htl2 : (t : Int) < (S.ids.length : Int) := Int.ofNat_lt.2 htl
              unfold iz at cz
              have GZ := Lib.hid gz
              clear gz
              by_cases hzy : z = y
              · have q5 : (z == y) = true := by simpa using hzy
                have HZY := Lib.hid hzy
                clear hzy
                go_wp2
                go_roundw
                case rel => exact ⟨t + 1, by omega, by go_num, FoundK.hit (by rw [GZ.out, HZY.out]), rfl⟩
                case measure => simp [intOf]; omega
              · have q5 : (z == y) = false := by simpa using hzy
                have HZY := Lib.hid hzy
                clear hzy
                go_wp2
                go_roundw
                case rel => exact ⟨t + 1, by omega, by go_num, HF.out.miss GZ.out HZY.out, rfl⟩
                case measure => simp [intOf]; omega
            · obtain rfl : t = S.ids.length := by omega
              have KD := Lib.hid (caDrop HC.out y HYR.out)
              rcases HF.out.all HC.out.ok with ⟨rfl, hnone⟩ | ⟨s, rfl, hs, hsome⟩
              · unfold DropCa at KD
                rw [hnone, dropC_none HC.out.ok hnone] at KD
                clear hnone htl HF
                go_wp2_with fail
                refine KD.out.mono ?_
                rintro e wx ⟨rfl, h9, b9, z9, k9⟩
                have HT1 := Lib.hid h9
                have HTI := Lib.hid (HI0.out.keep (fun q cs hq => k9 q (HC.out.v.cells hq).symm hq.lt))
                have HTB := Lib.hid (HB0.out.trans (b9.mono HBS.out))
                have HEND := Lib.hid (show DoMid W base p base j M (.slice A0 S.ids.length d0) (.int .i64 (S.last : Int)) wx from ⟨S, HT1.out, HTI.out, Nat.le_succ_of_le HL0.out, HM0.out, rfl, HTB.out⟩)
                clear h9 b9 z9 k9 KD HT1 HTI HTB
                go_wp2
                go_meet
                exact HEND.out
              · unfold DropCa at KD
                rw [hsome] at KD
                have hsl : s < S.ids.length := (List.getElem?_eq_some_iff.1 hs).1
                have hids : (dropC S y).ids = S.ids.take s ++ S.ids.drop (s + 1) := filter_at HC.out.ok.rise hs
                have HS := Lib.hid hs; have HIDS := Lib.hid hids
                clear hsome htl HF hs hids
                go_wp2_with fail
                refine KD.out.mono ?_
                rintro e w9 ⟨rfl, h9, b9, z9, k9⟩
                have HI9 := Lib.hid (HI0.out.keep (fun q cs hq => k9 q (HC.out.v.cells hq).symm hq.lt))
                have H9 := Lib.hid h9
                have HB9 := Lib.hid (HB0.out.trans (b9.mono HBS.out))
                clear h9 b9 z9 k9 KD
                rcases HI9.out.form (by omega) with ⟨_, e0⟩ | ⟨q, cc, cs, e0, hcl, hcm, hBq, hcq, hxq⟩
                · rw [e0] at hsl
                  simp at hsl
                injection e0 with e01 e02 e03
                subst e01 e03
                have HCQ := Lib.hid hcq; have HXQ := Lib.hid hxq; have HBQ := Lib.hid hBq
                have i1 : (0 : Int) ≤ (s : Int) := by omega
                have i3 : (S.ids.length : Int) ≤ (d0 : Int) := by omega
                have i4 : (s : Int) ≤ (d0 : Int) := by omega
                have q7 : IntKind.i64.wrap ((s : Int) + 1) = (s : Int) + 1 := by rw [IntKind.wrap_i64]; omega
                have i5 : (0 : Int) ≤ (s : Int) + 1 := by omega
                have i6 : (s : Int) + 1 ≤ (S.ids.length : Int) := by omega
                have hm2 : d0 ≤ 9223372036854775807 := by unfold maxLen at hcm; omega
                have ROWS := Lib.hid (zrow_tail (k := s + 1) (w' := w9.drew) (B := w9.heap.size) HCQ.out HXQ.out (by omega) hcl rfl HCQ.out.lt)
                have HOLDS := Lib.hid (zrow_head (w' := w9.drew) (k := s) HCQ.out HXQ.out rfl)
                have LENT := Lib.hid (show ((S.ids.take s).map iz).length = s * 1 by rw [List.length_map, List.length_take, Nat.mul_one]; omega)
                clear hcq hxq hBq
                by_cases hlastk : s + 1 = S.ids.length
                · have HLK := Lib.hid hlastk
                  have hz0 : S.ids.length - (s + 1) = 0 := by omega
                  obtain ⟨AX, cX, hAX⟩ := run_tail0 q d0 s S.ids.length hlastk (by omega)
                  have HSL := Lib.hid hsl
                  clear hz0 hlastk
                  go_upto_region 34 with fail
                  go_still_tail 8, (by kernel_rfl)
                  change wpList _ _ _ _ _ w9.drew
                  refine wpList_append_none rfl (.tmp 144) (.tmp 148) 22 rfl 3 (.int .i64 0) 1 8 Try.underlying22 infoZ ⟨q, 0, none⟩ s s rfl (Nat.le_refl _) _ _ _ rfl rfl ?_
                  obtain ⟨wx, hwx⟩ : ∃ wx, w9.drew = wx := ⟨_, rfl⟩
                  have BX : Below w9.heap.size w9 wx := by rw [← hwx]; exact (Below.refl _ _).drew
                  have IX : IdR wx base (.slice (some ⟨q, 0, none⟩) s s) (S.ids.take s ++ S.ids.drop (s + 1)) := by
                    rw [List.drop_of_length_le (by have := HLK.out; omega), List.append_nil]
                    have el : (S.ids.take s).length = s := by rw [List.length_take]; omega
                    exact .inr ⟨q, cs, by rw [el], HBQ.out, by rw [← hwx]; exact HCQ.out, fun t x hx => HXQ.out t x (by rw [List.getElem?_take] at hx; split at hx; exact hx; cases hx)⟩
                  rw [hwx]
                  have HT1 := Lib.hid (H9.out.below' BX)
                  have HTI := Lib.hid IX
                  have HTB := Lib.hid (HB9.out.trans (BX.mono HB9.out.size))
                  have HEND := Lib.hid (show DoMid W base p base j M (.slice (some ⟨q, 0, none⟩) s s) (.int .i64 (S.last : Int)) wx from ⟨dropC S y, HT1.out, by rw [HIDS.out]; exact HTI.out, Nat.le_succ_of_le HL0.out, HM0.out, rfl, HTB.out⟩)
                  clear BX IX HT1 HTI HTB
                  go_wp2
                  go_meet
                  exact HEND.out
                · obtain ⟨mm, hmm⟩ : ∃ mm, mm = S.ids.length - (s + 1) := ⟨_, rfl⟩
                  have hmm0 : 0 < mm := by omega
                  have hck : ¬ d0 = s + 1 := by omega
                  have hrows := ROWS.out
                  rw [if_neg hck, ← hmm] at hrows
                  have ROWC := Lib.hid (zrow_cells hrows)
                  have LEND := Lib.hid hrows.1
                  have hm1 : S.ids.length - (s + 1) = mm := hmm.symm
                  have HMM1 := Lib.hid hmm
                  clear hmm hrows
                  go_upto_region 34 with fail
                  go_still_tail 8, (by kernel_rfl)
                  change wpList _ _ _ _ _ w9.drew
                  refine wpList_append_full rfl (.tmp 144) (.tmp 148) 22 rfl 3 (.int .i64 0) 8 Try.underlying22 infoZ rfl ⟨q, 0, none⟩ s ((S.ids.take s).map iz) rfl LENT.out HOLDS.out ⟨q, s + 1, none⟩ mm (d0 - (s + 1)) ((S.ids.drop (s + 1)).map iz) rfl LEND.out ROWC.out (ones_iz _) hmm0 (by unfold maxLen; omega) (by omega) ?_
                  intro v5 wx o5 g5
                  have BX : Below w9.heap.size w9 wx := ((Below.refl w9.heap.size w9).drew).trans (below_of_grown g5)
                  have IX : IdR wx base v5 (S.ids.take s ++ S.ids.drop (s + 1)) := by
                    refine .inl ?_
                    rw [List.map_append]
                    have el : (S.ids.take s ++ S.ids.drop (s + 1)).length = s + mm := by rw [List.length_append, List.length_take, List.length_drop, HMM1.out]; omega
                    rw [el]
                    exact own_mono_c o5 (Nat.le_trans H9.out.bp (Nat.le_of_lt H9.out.c.lt))
                  have HT1 := Lib.hid (H9.out.below' BX)
                  have HTI := Lib.hid IX
                  have HTB := Lib.hid (HB9.out.trans (BX.mono HB9.out.size))
                  have HEND := Lib.hid (show DoMid W base p base j M v5 (.int .i64 (S.last : Int)) wx from ⟨dropC S y, HT1.out, by rw [HIDS.out]; exact HTI.out, Nat.le_succ_of_le HL0.out, HM0.out, rfl, HTB.out⟩)
                  clear BX IX HT1 HTI HTB
                  go_wp2
                  go_meet
                  exact HEND.out
      case rest =>
        obtain ⟨S1, ht1, hti, htl, htm, hlq, htb⟩ := hcut
        have HT1 := Lib.hid ht1; have HTI := Lib.hid hti; have HTL := Lib.hid htl; have HTM := Lib.hid htm; have HTB := Lib.hid htb
        subst hlq
        clear ht1 hti htl htm htb
        obtain ⟨A1, d1, hv1, hr1⟩ := HTI.out.row (by have := HT1.out.ok.few; have := HT1.out.ok.hi; omega)
        rw [hv1]
        have HV1 := Lib.hid hv1; have HR1 := Lib.hid hr1
        have KE := Lib.hid (caEldest HT1.out)
        have hnl : S1.ids.length ≤ 1000 := by have := HT1.out.ok.few; have := HT1.out.ok.hi; omega
        have hfew := HT1.out.ok.few
        have hlo := HT1.out.ok.lo
        have hhi := HT1.out.ok.hi
        rw [HTM.out] at hfew hlo hhi
        clear hv1 hr1
        by_cases he : S1.ids = []
        · rw [he] at KE
          have HE := Lib.hid he
          have KI := Lib.hid (fun w (hb : Below wc.heap.size wc w) => caIds (HT1.out.below' hb))
          have KL := Lib.hid (fun w (hb : Below wc.heap.size wc w) => caLen (HT1.out.below' hb))
          have KM := Lib.hid (fun w (hb : Below wc.heap.size wc w) => caMost (HT1.out.below' hb))
          have KR := Lib.hid (fun w (hb : Below wc.heap.size wc w) => caRoom (HT1.out.below' hb) 1)
          have hro : roomB S1 1 = true := roomB_of (by omega) (by rw [he, HTM.out]; simp; omega)
          rw [hro] at KR
          rw [HTM.out] at KM
          rw [he] at KI KL HR1
          rw [he]
          simp only [List.length_nil, List.headD_nil, List.isEmpty_nil, Bool.not_true] at *
          have hz : ((0 : Nat) : Int) = 0 := rfl
          rw [hz] at KL
          have hM0 : (0 : Int) < (M : Int) := by omega
          have hM1 : 0 < M := by omega
          have hM2 : decide (0 < M) = true := decide_eq_true hM1
          clear he hnl hfew hro hz
          go_wp2_with fail
          refine KE.out.mono ?_
          rintro e wa ⟨rfl, ba⟩
          have BA := Lib.hid ba
          have KI2 := Lib.hid (KI.out _ ba)
          clear ba KE KI
          go_wp2_with fail
          refine KI2.out.mono ?_
          rintro e wb ⟨vb, rfl, ob, bb⟩
          obtain ⟨Ab, cb, rfl, rb⟩ := Row.of_own ob
          have BB := Lib.hid (BA.out.trans (bb.mono BA.out.size))
          have KS := Lib.hid (cSameI [] 0 rfl (by omega) Ab A1 cb d1 _ _ wb rb (HR1.out.below (BB.out)))
          clear ob bb rb KI2
          go_wp2_with fail
          refine KS.out.mono ?_
          rintro e wc hg
          obtain ⟨rfl, bc⟩ := hg.below
          have BC := Lib.hid (BB.out.trans (bc.mono BB.out.size))
          have KL2 := Lib.hid (KL.out _ BC.out); have KM2 := Lib.hid (KM.out _ BC.out); have KR2 := Lib.hid (KR.out _ BC.out)
          clear hg bc KS KL KM KR
          go_wp2_with fail
          refine KL2.out.mono ?_
          rintro e wd ⟨rfl, rfl⟩
          go_wp2_with fail
          refine KM2.out.mono ?_
          rintro e wd ⟨rfl, rfl⟩
          go_wp2_with fail
          refine KR2.out.mono ?_
          rintro e wd ⟨rfl, rfl⟩
          go_wp2
          go_roundw
          case rel => exact ⟨j + 1, S1, by omega, by go_num, rfl, HTM.out, HT1.out.below' BC.out, by rw [HE.out]; exact idr_nil_at HE.out (by rw [HV1.out, HE.out]; rfl) (HTI.out.below BC.out), HTL.out, HTB.out.trans (BC.out.mono HTB.out.size)⟩
          case measure => simp [intOf]; omega
        · obtain ⟨N, hN⟩ : ∃ N, N = S1.ids.length := ⟨_, rfl⟩
          have hN0 : 0 < N := by rw [hN]; exact List.length_pos_iff.2 he
          have hem : S1.ids.isEmpty = false := by cases hq : S1.ids with | nil => exact absurd hq he | cons a t => rfl
          have hx0 : S1.ids[0]? = some (S1.ids.headD 0) := by cases hq : S1.ids with | nil => exact absurd hq he | cons a t => rfl
          rw [hem] at KE
          obtain ⟨X0, hX0⟩ : ∃ X0, X0 = S1.ids.headD 0 := ⟨_, rfl⟩
          rw [← hX0] at KE hx0
          have KI := Lib.hid (fun w (hb : Below wc.heap.size wc w) => caIds (HT1.out.below' hb))
          have KL := Lib.hid (fun w (hb : Below wc.heap.size wc w) => caLen (HT1.out.below' hb))
          have KM := Lib.hid (fun w (hb : Below wc.heap.size wc w) => caMost (HT1.out.below' hb))
          have KR := Lib.hid (fun w (hb : Below wc.heap.size wc w) => caRoom (HT1.out.below' hb) 1)
          rw [HTM.out] at KM
          rw [← hN] at KL HR1 hfew hnl
          rw [← hN]
          have HNN := Lib.hid hN
          have hN1 : ¬ ((N : Int) = 0) := by omega
          have hN2 : (0 : Int) < (N : Int) := by omega
          have hgx := fun w (hb : Below wc.heap.size wc w) => (HR1.out.below hb).get hN0
          have HX0 := Lib.hid hx0; have HGX := Lib.hid hgx
          obtain ⟨b1, o1, y1, rfl, _, _, _⟩ := hgx _ (Below.refl _ _)
          clear he hem hx0 hX0 hgx
          go_wp2_with fail
          refine KE.out.mono ?_
          rintro e wa ⟨rfl, ba⟩
          have BA := Lib.hid ba
          have KI2 := Lib.hid (KI.out _ ba)
          clear ba KE KI
          go_wp2_with fail
          refine KI2.out.mono ?_
          rintro e wb ⟨vb, rfl, ob, bb⟩
          obtain ⟨Ab, cb, rfl, rb⟩ := Row.of_own ob
          have BB := Lib.hid (BA.out.trans (bb.mono BA.out.size))
          rw [← HNN.out] at rb
          have KS := Lib.hid (cSameI S1.ids N HNN.out.symm hnl Ab (some ⟨b1, o1, none⟩) cb d1 _ _ wb rb (HR1.out.below (BB.out)))
          rw [← HNN.out]
          clear ob bb rb KI2 hN
          go_wp2_with fail
          refine KS.out.mono ?_
          rintro e wc hg
          obtain ⟨rfl, bc⟩ := hg.below
          have BC := Lib.hid (BB.out.trans (bc.mono BB.out.size))
          have KL2 := Lib.hid (KL.out _ BC.out); have KM2 := Lib.hid (KM.out _ BC.out); have KR2 := Lib.hid (KR.out _ BC.out)
          obtain ⟨b2, o2, y2, e2, _, g2, c2⟩ := HGX.out _ BC.out
          injection e2 with e2
          injection e2 with e21 e22
          subst e21 e22
          have g3 : y2 = X0 := by have := HX0.out; rw [g2] at this; exact Option.some.inj this
          rw [g3, Nat.add_zero] at c2
          unfold iz at c2
          have q0 : (X0 != X0) = false := by simp
          clear hg bc KS KL KM KR g2 g3
          by_cases hro : N < M
          · have h1 : roomB S1 1 = true := roomB_of (by omega) (by rw [HTM.out, ← HNN.out]; omega)
            rw [h1] at KR2
            have hro2 : (N : Int) < (M : Int) := by omega
            clear h1
            go_wp2_with fail
            refine KL2.out.mono ?_
            rintro e wd ⟨rfl, rfl⟩
            go_wp2_with fail
            refine KM2.out.mono ?_
            rintro e wd ⟨rfl, rfl⟩
            go_wp2_with fail
            refine KR2.out.mono ?_
            rintro e wd ⟨rfl, rfl⟩
            go_wp2
            go_roundw
            case rel => exact ⟨j + 1, S1, by omega, by go_num, rfl, HTM.out, HT1.out.below' BC.out, by rw [HNN.out, ← HV1.out]; exact HTI.out.below BC.out, HTL.out, HTB.out.trans (BC.out.mono HTB.out.size)⟩
            case measure => simp [intOf]; omega
          · have h1 : roomB S1 1 = false := roomB_hi (by rw [HTM.out, ← HNN.out]; omega)
            rw [h1] at KR2
            have hro2 : (M : Int) ≤ (N : Int) := by omega
            clear h1
            go_wp2_with fail
            refine KL2.out.mono ?_
            rintro e wd ⟨rfl, rfl⟩
            go_wp2_with fail
            refine KM2.out.mono ?_
            rintro e wd ⟨rfl, rfl⟩
            go_wp2_with fail
            refine KR2.out.mono ?_
            rintro e wd ⟨rfl, rfl⟩
            go_wp2
            go_roundw
            case rel => exact ⟨j + 1, S1, by omega, by go_num, rfl, HTM.out, HT1.out.below' BC.out, by rw [HNN.out, ← HV1.out]; exact HTI.out.below BC.out, HTL.out, HTB.out.trans (BC.out.mono HTB.out.size)⟩
            case measure => simp [intOf]; omega
    · obtain rfl : j = l.length := by omega
      obtain ⟨A0, d0, rfl, hr0⟩ := HI0.out.row (by have := HC.out.ok.few; have := HC.out.ok.hi; omega)
      have hlen0 : S.ids.length ≤ 256 := by have := HC.out.ok.few; have := HC.out.ok.hi; omega
      have hml : M ≤ 256 := by have := HC.out.ok.hi; have := HM0.out; omega
      have hlast : S.last ≤ 80 := by have := HL0.out; omega
      have HR2 := Lib.hid (HH2.out.below HB0.out)
      clear hlt hr0 hb hl hc hi hmost
      by_cases hb : l2.length = 256
      · by_cases hroom : S.ids.length < M
        · have hpos : 0 < l2.length := by rw [hb]; exact Nat.zero_lt_succ _
          obtain ⟨g, o, rfl, hgB, hgx⟩ := HR2.out.2 hpos
          have hgp : g ≠ p := fun e => Nat.lt_irrefl g (Nat.lt_of_lt_of_le hgB (Nat.le_trans HBS.out (by rw [e]; exact HC.out.bp)))
          have KP := Lib.hid (caPut_yes HC.out (g := g) (o := o) (cp := c2) (xs := l2.map (Value.int .u8)) hgp (by rw [List.length_map, hb]) (fun v hv => by obtain ⟨x, _, rfl⟩ := List.mem_map.1 hv; rfl) hgx (by rw [HM0.out]; exact hroom) (by omega))
          rw [← hb] at KP
          have hbz : (l2.length : Int) = 256 := by omega
          have hroomZ : (S.ids.length : Int) < (M : Int) := by omega
          have HB256 := Lib.hid hb
          clear hgx hb hpos
          go_wp2_with fail
          refine KP.out.mono ?_
          rintro e w5 ⟨rfl, h5, b5, k5, s5⟩
          have HB5 := Lib.hid (HB0.out.trans (b5.mono HBS.out))
          clear h5 b5 k5 s5 KP
          go_wp2
          go_ret
          exact ⟨rfl, HB5.out⟩
        · have KP := Lib.hid (caPut_no HC.out A2 l2.length c2 HLM2.out (fun hh => hroom (by rw [← HM0.out]; exact hh.2)))
          have hbz : (l2.length : Int) = 256 := by omega
          clear hb
          have hroomZ : ¬ ((S.ids.length : Int) < (M : Int)) := by omega
          go_wp2_with fail
          refine KP.out.mono ?_
          rintro e w5 ⟨rfl, rfl⟩
          go_wp2
          go_ret
          exact ⟨rfl, HB0.out⟩
      · have KP := Lib.hid (caPut_no HC.out A2 l2.length c2 HLM2.out (fun hh => hb hh.1))
        have hbz : ¬ ((l2.length : Int) = 256) := by omega
        go_wp2_with fail
        refine KP.out.mono ?_
        rintro e w5 ⟨rfl, rfl⟩
        go_wp2
        go_ret
        exact ⟨rfl, HB0.out⟩
end Go.Proofs.Ytdfgehmabfacbaa
