import Derived.Test.YtamndllolppmoaaGreatG30
import Derived.Test.YtamndllolppmoaaGreatG27
import Derived.Laws.EntriesVeiled
import Derived.Test.YtamndllolppmoaaGreatG24
import Derived.Test.YtamndllolppmoaaGreatG07

/-! The project's room: refs, and Try of one effect that can't be. -/
namespace Go.Proofs.YtamndllolppmoaaGreat
open Wd Ino Sm U Go.RowKit Go.ChangeShapes Go.WideShapes Go.Sort
set_option linter.unusedVariables false
set_option maxRecDepth 100000
section
variable {w : World} {base m g b : Nat} {S : Stt}
/-- the closure that tells refs: what it told last, and all refs that are used, in order -/
def RfGo (l : List Nod) (w : World) (e : Ending) (w' : World) : Prop := ∃ lb ub v, e = .returned (.func (.func 72) #[] #[.pointer (some ⟨lb, 0, none⟩), .pointer (some ⟨ub, 0, none⟩)]) ∧ w.heap.size ≤ lb ∧ w.heap.size ≤ ub ∧ lb ≠ ub ∧
  Cells w' lb 3 #[.int .i64 0] ∧ Cells w' ub 40 #[v] ∧ OwnI w' w.heap.size v ((refsS l).mergeSort leI) ∧ v.ownBlock ≠ some lb ∧ Below w.heap.size w w'
set_option maxHeartbeats 4000000 in
theorem pRefsFn (h : PF w base m g b S) : Calls Tryz.prog 41 #[SPtr g] w (RfGo S.l w) := by
  have KR := Lib.hid ((callsIn_wide (n := 3)).1 (pRefs_in 3 (Nat.le_refl _) h.p h.asc h.sm h.len h.m))
  have HLE := Lib.hid h.refs
  clear h
  unfold SPtr at *
  go_enter Tryz.func41, Tryz.ntmps41
  go_wp2_with fail
  refine (KR.out).mono ?_
  rintro e w2 ⟨v, rfl, ho, hb2⟩
  have hb3 : Below w2.heap.size w2 (w2.alloc (.cells #[v] 40)) := below_of_grown (World.grownBy_alloc w2 _ none)
  have hc3 : Cells (w2.alloc (.cells #[v] 40)) w2.heap.size 40 #[v] := Cells.new _ _ _
  have KS := Lib.hid (sort_ints (ho.below hb3) HLE.out)
  have HB3 := Lib.hid (hb2.trans (hb3.mono hb2.size))
  have HO3 := Lib.hid (ho.below hb3); have HC3 := Lib.hid hc3
  have HS2 := Lib.hid hb2.size
  obtain ⟨A, c, rfl, _⟩ := ho.row
  have c3 := hc3.cell 0
  simp only [List.getElem?_toArray, List.getElem?_cons_zero] at c3
  clear hb2 hb3 hc3 ho KR
  go_wp2_with fail
  refine (KS.out).mono ?_
  rintro e w3 ⟨rfl, ho3, hg3⟩
  have HB4 := Lib.hid (HB3.out.grown hg3 HB3.out.size (fun q hq => own_base HO3.out q hq))
  have HC4 := Lib.hid (HC3.out.grown hg3 (ne_own HC3.out HO3.out (by decide)))
  have HO4 := Lib.hid ho3
  clear hg3 ho3 KS c3
  go_wp2
  go_ret
  have hs3 : w2.heap.size < w3.heap.size := HC4.out.lt
  have hb5 : Below w3.heap.size w3 (w3.alloc (.cells #[.int .i64 0] 3)) := below_of_grown (World.grownBy_alloc w3 _ none)
  refine ⟨w3.heap.size, w2.heap.size, _, rfl, HB4.out.size, HS2.out, by omega, Cells.new _ _ _, HC4.out.below' hb5, HO4.out.below hb5, fun e => ?_, HB4.out.trans (hb5.mono HB4.out.size)⟩
  rcases HO4.out.2 with ⟨h0, _⟩ | ⟨q, cap, cur, h0, _, hh, _⟩
  · rw [h0] at e; cases e
  · rw [h0] at e
    injection e with e
    have h9 := (show Cells w3 q 3 cur from hh).lt
    change q = _ at e
    omega
/-- no write: no ref -/
theorem pRefNone (e : Eff) (hk : e.kind ≠ 7) (lb ub : Value) (w : World) : Calls Tryz.prog 72 #[e.val, lb, ub] w fun en w' => en = .returned (.int .i64 0) ∧ Below w.heap.size w w' := by
  have hb1 : Below w.heap.size w (w.alloc (.cells (effCells e) 50)) := below_of_grown (World.grownBy_alloc w _ none)
  have hc1 : Cells (w.alloc (.cells (effCells e) 50)) w.heap.size 50 (effCells e) := Cells.new _ _ _
  have c0 := hc1.cell 0
  obtain ⟨kind, ino, dir, dst, page, size, name, other, A, cp, data⟩ := e
  have q7 : (kind != 7) = true := by simpa using hk
  have B1 := Lib.hid hb1
  unfold effCells Eff.val at *
  simp only [List.getElem?_toArray, List.getElem?_cons_zero] at c0
  clear hb1 hc1 hk
  go_enter Tryz.func72, Tryz.ntmps72
  go_wp2
  go_ret
  exact ⟨rfl, B1.out⟩
set_option maxHeartbeats 8000000 in
/-- one effect, no write, that can't be -/
theorem pTry_bad (h : PF w base m g b S) (ft : Fit S) (P B I L D : Int) {A : Option Addr} {cap : Nat} (e : Eff) (hE : Effs w w.heap.size A [e]) (hk : e.kind ≠ 7) (hf : e.few) (hbad : errS S e 0 ≠ 0) :
    Calls Tryz.prog 19 #[.agg #[.int .i64 P, .int .i64 B, .int .i64 I, .int .i64 L, .int .i64 D], SPtr g, .slice A 1 cap] w fun en w' => en = .returned (.int .i64 93) ∧ Below w.heap.size w w' := by
  have hfol : Tryz.prog.follows .mixedOrders = true := by kernel_rfl
  have hb1 : Below w.heap.size w (w.alloc (.cells #[.int .i64 P, .int .i64 B, .int .i64 I, .int .i64 L, .int .i64 D] 28)) := below_of_grown (World.grownBy_alloc w _ none)
  have KC := Lib.hid (pCopy (h.p.below hb1))
  have B1 := Lib.hid hb1
  have H := Lib.hid h; have FT := Lib.hid ft; have HE := Lib.hid hE; have HF := Lib.hid hf; have HK := Lib.hid hk
  have hm := h.m
  have HM := Lib.hid hm
  obtain ⟨E, hEE⟩ : ∃ E, errS S e 0 = E := ⟨_, rfl⟩
  have HEE := Lib.hid hEE
  have q0 : (E != 0) = true := by rw [hEE] at hbad; simpa using hbad
  clear h ft hE hf hk hb1 hm hEE hbad
  unfold SPtr at *
  go_enter Tryz.func19, Tryz.ntmps19
  go_wp2_with fail
  refine (KC.out).mono ?_
  rintro e' w2 ⟨g2, b2, rfl, hp2, hg2, hb2', hb2⟩
  have B2 := Lib.hid (B1.out.trans (hb2.mono B1.out.size))
  have P2 := Lib.hid hp2
  have KR := Lib.hid (pRefsFn (H.out.below B2.out))
  have HG2 := Lib.hid (And.intro (Nat.le_trans B1.out.size hg2) (Nat.le_trans B1.out.size hb2'))
  unfold SPtr at *
  clear hp2 hg2 hb2' hb2 KC
  go_wp2_with fail
  refine (KR.out).mono ?_
  rintro e' w3 ⟨lb, ub, v, rfl, _, _, _, _, _, _, _, hb3⟩
  have B3 := Lib.hid (B2.out.trans (hb3.mono B2.out.size))
  have P3 := Lib.hid (P2.out.below hb3)
  clear hb3 KR
  go_wp2
  go_loopw [20] (fun i wr => i = .int .i64 0 ∧ wr = w3) (fun i _ => 0)
  case atStart => exact ⟨rfl, rfl⟩
  case round =>
    obtain ⟨rfl, rfl⟩ := hrel
    obtain ⟨bb, off, rfl, hbB, x0, x1, x2, x3, x4, x5, x6, x7, x8⟩ := effs_cells (HE.out.below B3.out) (k := 0) (e := e) rfl
    have hok := ((HE.out.ok e (by simp)).below B3.out)
    obtain ⟨kind, ino, dir, dst, page, size, name, other, Ae, cp, data⟩ := e
    simp only [Nat.zero_mul, Nat.add_zero] at x0 x1 x2 x3 x4 x5 x6 x7 x8
    obtain ⟨w4, hw4⟩ : ∃ w4, wr.alloc (.cells #[.int .i64 kind, .int .i64 ino, .int .i64 dir, .int .i64 dst, .int .i64 page, .int .i64 size, .string name, .string other, .slice Ae data.length cp] 50) = w4 := ⟨_, rfl⟩
    have hb4 : Below wr.heap.size wr w4 := by rw [← hw4]; exact below_of_grown (World.grownBy_alloc wr _ none)
    have hc4 : Cells w4 wr.heap.size 50 #[.int .i64 kind, .int .i64 ino, .int .i64 dir, .int .i64 dst, .int .i64 page, .int .i64 size, .string name, .string other, .slice Ae data.length cp] := by rw [← hw4]; exact Cells.new _ _ _
    have P4 := Lib.hid (P3.out.below hb4)
    have B4 := Lib.hid (B3.out.trans (hb4.mono B3.out.size))
    have C4 := Lib.hid hc4
    have b0 : Below w4.heap.size w4 w4.drew := below_drewN (Below.refl _ _) 1
    have S9 := Lib.hid (fun (wx : World) (hc : Cells wx wr.heap.size 50 #[.int .i64 kind, .int .i64 ino, .int .i64 dir, .int .i64 dst, .int .i64 page, .int .i64 size, .string name, .string other, .slice Ae data.length cp]) => show wx.cell? ⟨wr.heap.size, 0, none⟩ = some (.int .i64 kind) ∧ wx.cell? ⟨wr.heap.size, 1, none⟩ = some (.int .i64 ino) ∧ wx.cell? ⟨wr.heap.size, 2, none⟩ = some (.int .i64 dir) ∧ wx.cell? ⟨wr.heap.size, 3, none⟩ = some (.int .i64 dst) ∧ wx.cell? ⟨wr.heap.size, 4, none⟩ = some (.int .i64 page) ∧ wx.cell? ⟨wr.heap.size, 5, none⟩ = some (.int .i64 size) ∧ wx.cell? ⟨wr.heap.size, 6, none⟩ = some (.string name) ∧ wx.cell? ⟨wr.heap.size, 7, none⟩ = some (.string other) ∧ wx.cell? ⟨wr.heap.size, 8, none⟩ = some (.slice Ae data.length cp) from ⟨hc.cell 0, hc.cell 1, hc.cell 2, hc.cell 3, hc.cell 4, hc.cell 5, hc.cell 6, hc.cell 7, hc.cell 8⟩)
    have KN := Lib.hid (fun wx => pRefNone ⟨kind, ino, dir, dst, page, size, name, other, Ae, cp, data⟩ HK.out (.pointer (some ⟨lb, 0, none⟩)) (.pointer (some ⟨ub, 0, none⟩)) wx)
    have KA := Lib.hid (fun wx (hb : Below w4.heap.size w4 wx) => pApply (P4.out.below hb) FT.out HM.out ⟨kind, ino, dir, dst, page, size, name, other, Ae, cp, data⟩ ((hok.below ((hb4.mono B3.out.size).trans (hb.mono B4.out.size))).more (Nat.le_trans B4.out.size hb.size)) HF.out 0)
    have HW4 := Lib.hid hw4
    unfold AGo at KA
    rw [HEE.out] at KA
    unfold Eff.val at KN KA
    unfold SPtr at KA
    dsimp only at KN KA
    clear hok hb4 hc4 hw4 hbB
    go_upto_region 5 with fail
    rw [HW4.out]
    go_region_held3 (fun wx => wx.cell? ⟨wr.heap.size, 0, none⟩ = some (.int .i64 kind) ∧ wx.cell? ⟨wr.heap.size, 1, none⟩ = some (.int .i64 ino) ∧ wx.cell? ⟨wr.heap.size, 2, none⟩ = some (.int .i64 dir) ∧ wx.cell? ⟨wr.heap.size, 3, none⟩ = some (.int .i64 dst) ∧ wx.cell? ⟨wr.heap.size, 4, none⟩ = some (.int .i64 page) ∧ wx.cell? ⟨wr.heap.size, 5, none⟩ = some (.int .i64 size) ∧ wx.cell? ⟨wr.heap.size, 6, none⟩ = some (.string name) ∧ wx.cell? ⟨wr.heap.size, 7, none⟩ = some (.string other) ∧ wx.cell? ⟨wr.heap.size, 8, none⟩ = some (.slice Ae data.length cp))
      (first | exact S9.out _ (C4.out.below' b0) | exact S9.out _ (C4.out.below' k1) | exact S9.out _ cc6)
      (first
        | (go_at_call 72; (with_reducible refine (KN.out _).mono ?_); rintro e' w5 ⟨rfl, c5⟩; have k1 : Below w4.heap.size w4 w5 := b0.trans (c5.mono b0.size))
        | (go_at_call 23; (with_reducible refine (KA.out _ k1).mono ?_); rintro e' w6 ⟨A6, c6, l6, rfl, P6, t6⟩; have cc6 := (P4.out.below k1).keepC t6 _ _ _ (by decide) (C4.out.below' k1); have k2 := (B4.out.trans (k1.mono B4.out.size)).trans (t6.below (B := w.heap.size) (Nat.le_trans B4.out.size k1.size) (fun x hx => by
              rcases List.mem_cons.1 hx with rfl | hx
              · exact HG2.out.1
              · rw [List.mem_singleton.1 hx]; exact HG2.out.2))))
    all_goals
      have HK2 := Lib.hid k2
      clear k1 k2 cc6 t6 P6 S9 KN KA b0
      go_wp2
      go_ret
      exact ⟨rfl, HK2.out⟩
end
end Go.Proofs.YtamndllolppmoaaGreat

/-! A link that is taken away again, and a name that comes back to its place, plainly. -/
namespace Go.Proofs.YtamndllolppmoaaGreat
open Wd Ino
set_option linter.unusedVariables false
theorem mod_mod {l : List Nod} {d : Int} {f g : Nod → Nod} (hf : ∀ n, (f n).ino = n.ino) : modS (modS l d f) d g = modS l d (fun n => g (f n)) := by
  unfold modS
  rw [List.map_map]
  refine List.map_congr_left fun n _ => ?_
  show (if (if n.ino = d then f n else n).ino = d then g (if n.ino = d then f n else n) else (if n.ino = d then f n else n)) = _
  by_cases h : n.ino = d
  · rw [if_pos h, if_pos (by rw [hf]; exact h), if_pos h]
  · rw [if_neg h, if_neg h, if_neg h]
theorem mod_id {l : List Nod} (ha : AscS l) {d : Int} {f : Nod → Nod} (h : ∀ n, atS l d = some n → f n = n) : modS l d f = l := by
  unfold modS
  conv => rhs; rw [← List.map_id l]
  refine List.map_congr_left fun n hn => ?_
  show (if n.ino = d then f n else n) = n
  split
  · rename_i hd
    have := atS_of_mem ha hn
    rw [hd] at this
    exact h n this
  · rfl
theorem ino_put (s : ByteArray) (i : Int) : ∀ n : Nod, (putNm s i n).ino = n.ino := fun _ => rfl
theorem ino_more : ∀ n : Nod, (moreLk n).ino = n.ino := fun _ => rfl
theorem ino_up (u : Int) : ∀ n : Nod, (Go.Proofs.YtamndllolppmoaaGreat.setUp u n).ino = n.ino := fun _ => rfl
theorem ino_cut (s : ByteArray) : ∀ n : Nod, (cutNm s n).ino = n.ino := fun _ => rfl
theorem leave_enter {l : List Nod} (ha : AscS l) {d i : Int} {s : ByteArray} (h : hasN s (namesS l d) = false) : leaveS (enterS l d s i) d s = l := by
  unfold leaveS enterS
  rw [mod_mod (ino_put s i)]
  refine mod_id ha fun n hn => ?_
  have hn' : hasN s n.names = false := by unfold namesS at h; rw [getS_some hn] at h; exact h
  show ({ (putNm s i n) with names := dropN s (putNm s i n).names } : Nod) = n
  have e : (putNm s i n).names = putN s i n.names := by
    show (if hasN s n.names then n.names else putN s i n.names) = _
    rw [hn']; rfl
  rw [e, dropN_putN hn']
  rfl
theorem enter_leave {l : List Nod} (ha : AscS l) {d i : Int} {s : ByteArray} (hr : ∀ n ∈ l, RightN n.names) (h : hasS l d s i = true) : enterS (leaveS l d s) d s i = l := by
  obtain ⟨n0, a, b, c⟩ := has_at h
  unfold leaveS enterS
  rw [mod_mod (ino_cut s)]
  refine mod_id ha fun n hn => ?_
  have : n = n0 := Option.some.inj (hn.symm.trans a)
  subst this
  show ({ (cutNm s n) with names := (if hasN s (dropN s n.names) then dropN s n.names else putN s i (dropN s n.names)) } : Nod) = n
  rw [has_dropN, ← c]
  show ({ (cutNm s n) with names := putN s (inoN s n.names) (dropN s n.names) } : Nod) = n
  rw [putN_dropN (hr n (atS_mem hn)) b]
  rfl
theorem names_mod_ne {l : List Nod} {d j : Int} {f : Nod → Nod} (hf : ∀ n, (f n).ino = n.ino) (h : j ≠ d) : namesS (modS l d f) j = namesS l j := by
  unfold namesS
  rw [get_mod hf, if_neg (fun x => h x.1)]
theorem names_mod_eq {l : List Nod} {d : Int} {f : Nod → Nod} (hf : ∀ n, (f n).ino = n.ino) {n : Nod} (h : atS l d = some n) : namesS (modS l d f) d = (f n).names := by
  unfold namesS
  rw [get_mod hf, if_pos ⟨rfl, by rw [h]; rfl⟩, getS_some h]
theorem names_soft {l : List Nod} {i : Int} {f : Nod → Nod} (hf : ∀ n, (f n).ino = n.ino) (hn : ∀ n, (f n).names = n.names) (j : Int) : namesS (modS l i f) j = namesS l j := by
  unfold namesS
  rw [get_mod hf]
  split
  · exact hn _
  · rfl
/-- a name that was put is there -/
theorem has_enter {l : List Nod} {d i : Int} {s : ByteArray} {n : Nod} (h : atS l d = some n) (hn : hasN s n.names = false) : hasS (enterS l d s i) d s i = true := by
  have e : namesS (enterS l d s i) d = putN s i n.names := by
    unfold enterS
    rw [names_mod_eq (ino_put s i) h]
    show (if hasN s n.names then n.names else putN s i n.names) = _
    rw [hn]; rfl
  have hi : inoN s (putN s i n.names) = i := by
    have h1 : hasN s n.names = false := hn
    clear e h hn
    unfold putN
    generalize hk : n.names.findIdx (foreE s) = k
    have h2 : ∀ x ∈ n.names.take k, nameIs s x = false := fun x hx => has_false.1 h1 x (List.mem_of_mem_take hx)
    generalize n.names.take k = t at h2
    clear hk
    induction t with
    | nil => show (if nameIs s ⟨s, i⟩ then i else _) = i; rw [if_pos ((nameIs_iff (s := s) (e := ⟨s, i⟩)).2 rfl)]
    | cons x t ih =>
      show (if nameIs s x then x.n else inoN s (t ++ _)) = i
      rw [h2 x List.mem_cons_self]
      exact ih fun y hy => h2 y (List.mem_cons_of_mem _ hy)
  unfold hasS
  rw [e, has_putN, hi, decide_eq_true rfl]; rfl
theorem more_less {l : List Nod} (ha : AscS l) (i : Int) : modS (modS l i moreLk) i lessLk = l := by
  rw [mod_mod ino_more]
  refine mod_id ha fun n _ => ?_
  show ({ n with links := n.links + 1 - 1 } : Nod) = n
  rw [Int.add_sub_cancel]
theorem Inv.link_back {S S' : Stt} (h : Inv S) {e e2 : Eff} (hs : linkS S e = some S') (h1 : e2.dir = e.dir) (h2 : e2.name = e.name) (h3 : e2.ino = e.ino) : removeS S' e2 1 = some S := by
  unfold linkS at hs
  split at hs
  case isFalse => cases hs
  rename_i hc
  rw [Bool.and_eq_true, Bool.and_eq_true, decide_eq_true_eq] at hc
  obtain ⟨hf, hk, _⟩ := hc
  obtain rfl := (Option.some.inj hs).symm
  obtain ⟨n0, a0, k0, f0⟩ := free_at hf
  obtain ⟨m, m1, m2, m3⟩ := h.some_kind (i := e.ino) (by rw [hk]; decide)
  have hmk : m.kind = 1 := by rw [← m2]; exact hk
  have hne : e.ino ≠ e.dir := fun x => by
    rw [x, a0] at m1
    have := Option.some.inj m1
    rw [this] at k0
    omega
  have hnm : m.names = [] := (right_file (h.right m (atS_mem m1)) hmk).2.1
  have hi1 : ¬ e.ino = 1 := fun x => by
    obtain ⟨r, r1, r2⟩ := h.root
    rw [x, r1] at m1
    have := Option.some.inj m1
    rw [this] at r2
    omega
  obtain ⟨n1, b1⟩ := some_mod (d := e.ino) (f := moreLk) (fun _ => rfl) a0
  have b1' : n1 = n0 := by
    rw [atS_mod ino_more, a0] at b1
    have := Option.some.inj b1
    dsimp only at this
    rw [if_neg (fun x => hne x.symm)] at this
    exact this.symm
  subst b1'
  have hm : AscS (modS S.l e.ino moreLk) := asc_mod h.asc (fun _ => rfl)
  have hh := has_enter (i := e.ino) b1 f0
  have hnames : hasN e.name (namesS (modS S.l e.ino moreLk) e.dir) = false := by
    rw [names_soft ino_more (fun _ => rfl)]
    unfold namesS
    rw [getS_some a0]
    exact f0
  have hkk : kindS (enterS (modS S.l e.ino moreLk) e.dir e.name e.ino) e.ino = 1 := by
    unfold enterS
    rw [kind_mod (ino_put _ _) (fun _ => rfl), kind_mod ino_more (fun _ => rfl)]
    exact hk
  have hl : looseS (enterS (modS S.l e.ino moreLk) e.dir e.name e.ino) e.ino 1 = true := by
    unfold looseS
    have e1 : namesS (enterS (modS S.l e.ino moreLk) e.dir e.name e.ino) e.ino = [] := by
      unfold enterS
      rw [names_mod_ne (ino_put _ _) hne, names_soft ino_more (fun _ => rfl)]
      unfold namesS
      rw [getS_some m1]
      exact hnm
    rw [hkk, e1, decide_eq_true rfl, decide_eq_true rfl, decide_eq_false hi1]; rfl
  unfold removeS
  rw [h1, h2, h3]
  show (if (hasS (enterS (modS S.l e.ino moreLk) e.dir e.name e.ino) e.dir e.name e.ino && looseS (enterS (modS S.l e.ino moreLk) e.dir e.name e.ino) e.ino 1) = true then _ else none) = _
  rw [hh, hl, if_pos (show (true && true) = true from rfl)]
  unfold forgetS
  dsimp only
  rw [leave_enter hm hnames, if_neg (by rw [kind_mod ino_more (fun _ => rfl), hk]; decide), more_less h.asc]
/-- the way up from a node nearer to the root doesn't come to one that is farther, whatever this one's Up is -/
theorem way_far {l l' : List Nod} {i : Int} {m : Nat} (hi : Rch l m i) (hk : ∀ x, kindS l' x = kindS l x) (hu : ∀ x, x ≠ i → upS l' x = upS l x) : ∀ (N k : Nat) (x : Int), Rch l k x → k < m → wayB l' N x i = false
  | 0, k, x, h, hkm => decide_eq_false fun e => by
    subst e
    have := Rch.uniq h hi
    omega
  | N + 1, k, x, h, hkm => by
    have hx : x ≠ i := fun e => by
      subst e
      have := Rch.uniq h hi
      omega
    show (if x = i then true else if x = 1 ∨ kindS l' x ≠ 2 then false else wayB l' N (upS l' x) i) = false
    rw [if_neg hx]
    split
    · rfl
    · rename_i hc
      rw [hu x hx]
      cases k with
      | zero => exact absurd (.inl h) hc
      | succ k => exact way_far hi hk hu N k _ h.2.2 (by omega)
theorem Inv.move_back {S S' : Stt} (h : Inv S) {e b : Eff} (hs : renameS S e = some S') (hn : hasN e.other (namesS S.l e.dst) = false)
    (h1 : b.dir = e.dst) (h2 : b.name = e.other) (h3 : b.dst = e.dir) (h4 : b.other = e.name) (h5 : b.ino = e.ino) : renameS S' b = some S := by
  unfold renameS at hs
  split at hs
  case isFalse => cases hs
  rename_i hc
  rw [Bool.and_eq_true, Bool.and_eq_true, decide_eq_true_eq] at hc
  obtain ⟨hh, hd, hw⟩ := hc
  rw [if_neg (by rw [hn]; decide)] at hs
  obtain rfl := (Option.some.inj hs).symm
  obtain ⟨hdk, _, hik⟩ := h.has_kind hh
  obtain ⟨n0, a0, b0, c0⟩ := has_at hh
  obtain ⟨nd, d0, d1, _⟩ := h.some_kind (i := e.dst) (by rw [hd]; decide)
  obtain ⟨m, m1, m2, m3⟩ := h.some_kind hik
  -- where nothing has the new name
  have hnL : hasN e.other (namesS (leaveS S.l e.dir e.name) e.dst) = false := by
    cases hx : hasN e.other (namesS (leaveS S.l e.dir e.name) e.dst) with
    | false => rfl
    | true =>
      refine absurd hx ?_
      rw [Bool.not_eq_true]
      unfold leaveS
      by_cases hde : e.dst = e.dir
      · rw [hde] at hn ⊢
        rw [names_mod_eq (ino_cut _) a0]
        rw [has_false]
        intro y hy
        have hn' : hasN e.other n0.names = false := by unfold namesS at hn; rw [getS_some a0] at hn; exact hn
        exact has_false.1 hn' y (mem_dropN hy)
      · rw [names_mod_ne (ino_cut _) hde]; exact hn
  have haL : AscS (leaveS S.l e.dir e.name) := asc_mod h.asc (ino_cut _)
  obtain ⟨nL, aL⟩ := some_mod (d := e.dir) (f := cutNm e.name) (ino_cut _) d0
  have hnL' : hasN e.other nL.names = false := by
    have := hnL
    unfold namesS leaveS at this
    rw [getS_some aL] at this
    exact this
  have hE := has_enter (l := leaveS S.l e.dir e.name) (i := e.ino) aL hnL'
  have hkE : ∀ x, kindS (enterS (leaveS S.l e.dir e.name) e.dst e.other e.ino) x = kindS S.l x := fun x => by
    unfold enterS leaveS
    rw [kind_mod (ino_put _ _) (fun _ => rfl), kind_mod (ino_cut _) (fun _ => rfl)]
  have huE : ∀ x, upS (enterS (leaveS S.l e.dir e.name) e.dst e.other e.ino) x = upS S.l x := fun x => by
    unfold enterS leaveS
    rw [up_mod (ino_put _ _) (fun _ => rfl), up_mod (ino_cut _) (fun _ => rfl)]
  have hkM : ∀ x, kindS (moveS S.l e) x = kindS S.l x := fun x => by
    unfold moveS
    dsimp only
    split
    · rw [kind_mod (ino_up _) (fun _ => rfl), hkE]
    · exact hkE x
  have hnM : ∀ x, namesS (moveS S.l e) x = namesS (enterS (leaveS S.l e.dir e.name) e.dst e.other e.ino) x := fun x => by
    unfold moveS
    dsimp only
    split
    · rw [names_soft (ino_up _) (fun _ => rfl)]
    · rfl
  -- the old name is no more
  have hold : hasN e.name (namesS (moveS S.l e) e.dir) = false := by
    rw [hnM]
    unfold enterS
    by_cases hde : e.dir = e.dst
    · have hne : e.other ≠ e.name := fun x => by
        rw [← hde, x] at hn
        unfold namesS at hn
        rw [getS_some a0, b0] at hn
        cases hn
      have aL' : atS (leaveS S.l e.dst e.name) e.dst = some nL := by have := aL; rw [hde] at this; exact this
      rw [hde, names_mod_eq (ino_put _ _) aL']
      show hasN e.name (if hasN e.other nL.names then nL.names else putN e.other e.ino nL.names) = false
      rw [hnL']
      show hasN e.name (putN e.other e.ino nL.names) = false
      rw [has_false]
      intro y hy
      rcases mem_putN hy with rfl | hy
      · cases hx : nameIs e.name ⟨e.other, e.ino⟩ with
        | false => rfl
        | true => exact absurd (nameIs_iff.1 hx) hne
      · have e1 : nL = cutNm e.name n0 := by
          have := aL
          rw [atS_mod (ino_cut _), ← hde, a0] at this
          have := Option.some.inj this
          dsimp only at this
          rw [if_pos rfl] at this
          exact this.symm
        rw [e1] at hy
        exact has_false.1 (has_dropN e.name n0.names) y hy
    · rw [names_mod_ne (ino_put _ _) hde]
      unfold leaveS
      rw [names_mod_eq (ino_cut _) a0]
      exact has_dropN e.name n0.names
  have hback : enterS (leaveS (enterS (leaveS S.l e.dir e.name) e.dst e.other e.ino) e.dst e.other) e.dir e.name e.ino = S.l := by
    rw [leave_enter haL hnL, enter_leave h.asc h.names hh]
  have hw' : kindS S.l e.ino = 2 → withinS (moveS S.l e) e.dir e.ino = false := fun hk => by
    obtain ⟨x, x1, x2⟩ := h.there n0 (atS_mem a0) ⟨e.name, e.ino⟩ (by
      obtain ⟨y, y1, y2, y3⟩ := has_mem b0
      have : y = ⟨e.name, e.ino⟩ := by
        obtain ⟨ys, yn⟩ := y
        dsimp only at y2 y3
        rw [y2, y3, c0]
      rw [← this]; exact y1)
    have hxm : x = m := Option.some.inj (x1.symm.trans m1)
    subst hxm
    obtain ⟨hi1, hup⟩ := x2 (by rw [← m2]; exact hk)
    dsimp only at hi1
    rw [atS_ino a0] at hup
    obtain ⟨k, hr⟩ := h.reach e.ino hk
    cases k with
    | zero => exact absurd hr hi1
    | succ k =>
      have hr2 := hr.2.2
      have hue : upS S.l e.ino = e.dir := by unfold upS; rw [getS_some m1]; exact hup
      rw [hue] at hr2
      refine way_far hr hkM (fun y hy => ?_) _ k e.dir hr2 (Nat.lt_succ_self k)
      show upS (moveS S.l e) y = _
      unfold moveS
      dsimp only
      rw [if_pos hk]
      unfold upS
      rw [get_mod (f := setUp e.dst) (fun _ => rfl), if_neg (fun z => hy z.1)]
      exact huE y
  unfold renameS
  rw [h1, h2, h3, h4, h5]
  have hhM : hasS (moveS S.l e) e.dst e.other e.ino = true := by
    unfold hasS at hE ⊢
    rw [hnM]
    exact hE
  have hcw : (decide (kindS (moveS S.l e) e.ino = 2) && withinS (moveS S.l e) e.dir e.ino) = false := by
    rw [hkM]
    by_cases hk : kindS S.l e.ino = 2
    · rw [hw' hk, Bool.and_false]
    · rw [decide_eq_false hk, Bool.false_and]
  dsimp only
  rw [hhM, hcw, hkM, hdk, decide_eq_true rfl, if_pos (by decide), hold, if_neg (by decide)]
  congr 1
  have hm : moveS (moveS S.l e) b = S.l := by
    have hkb : kindS (moveS S.l e) b.ino = kindS S.l e.ino := by rw [h5]; exact hkM _
    unfold moveS at hkb ⊢
    dsimp only at hkb ⊢
    rw [hkb, h1, h2, h3, h4, h5]
    by_cases hk : kindS S.l e.ino = 2
    · rw [if_pos hk, if_pos hk]
      have e1 : ∀ X : List Nod, leaveS (modS X e.ino (setUp e.dst)) e.dst e.other = modS (leaveS X e.dst e.other) e.ino (setUp e.dst) := fun X => mod_comm (fun _ => rfl) (fun _ => rfl) (fun _ => rfl)
      have e2 : ∀ X : List Nod, enterS (modS X e.ino (setUp e.dst)) e.dir e.name e.ino = modS (enterS X e.dir e.name e.ino) e.ino (setUp e.dst) := fun X => mod_comm (fun _ => rfl) (fun _ => rfl) (fun _ => rfl)
      rw [e1, e2, hback, mod_mod (ino_up _)]
      refine mod_id h.asc fun x hx => ?_
      have hxm : x = m := Option.some.inj (hx.symm.trans m1)
      subst hxm
      obtain ⟨y, y1, y2⟩ := h.there n0 (atS_mem a0) ⟨e.name, e.ino⟩ (by
        obtain ⟨y, y1, y2, y3⟩ := has_mem b0
        have : y = ⟨e.name, e.ino⟩ := by
          obtain ⟨ys, yn⟩ := y
          dsimp only at y2 y3
          rw [y2, y3, c0]
        rw [← this]; exact y1)
      have hyx : y = x := Option.some.inj (y1.symm.trans m1)
      subst hyx
      obtain ⟨_, hup⟩ := y2 (by rw [← m2]; exact hk)
      rw [atS_ino a0] at hup
      show ({ y with up := e.dir } : Nod) = y
      rw [← hup]
    · rw [if_neg hk, if_neg hk]
      exact hback
  show (⟨moveS (moveS S.l e) b, S.last⟩ : Stt) = S
  rw [hm]
/-! whole effects -/
theorem check_link {e : Eff} (h : ({ e with kind := 2 } : Eff).check = true) : ({ e with kind := 3 } : Eff).check = true := by
  unfold Eff.check Eff.mayBe at h ⊢
  exact h
theorem check_ren {e : Eff} (h : ({ e with kind := 5 } : Eff).check = true) : ({ e with kind := 5, dir := e.dst, name := e.other, dst := e.dir, other := e.name } : Eff).check = true := by
  unfold Eff.check Eff.mayBe Eff.place at h ⊢
  dsimp only at h ⊢
  rw [if_neg (by decide), if_neg (by decide), if_pos rfl] at h ⊢
  simp only [Bool.and_eq_true] at h ⊢
  unfold Eff.noData at h ⊢
  dsimp only at h ⊢
  obtain ⟨⟨⟨⟨⟨⟨⟨h1, h2⟩, h3⟩, h4⟩, h5⟩, h6⟩, h7⟩, h8⟩ := h
  exact ⟨⟨⟨⟨⟨⟨⟨h3, h4⟩, h1⟩, h2⟩, h5⟩, h6⟩, h7⟩, h8⟩
theorem err_ok {S : Stt} {e : Eff} {ref : Int} (h : errS S e ref = 0) : e.check = true ∧ ∃ x, stepS S e ref = some x ∧ nextS S e ref = x.1 := by
  unfold errS at h
  by_cases hc : e.check = true
  · rw [if_pos hc] at h
    cases hx : stepS S e ref with
    | none => rw [hx] at h; exact absurd h (by decide)
    | some x =>
      refine ⟨hc, x, rfl, ?_⟩
      unfold nextS
      rw [if_pos hc, hx]
  · rw [if_neg hc] at h
    exact absurd h (by decide)
theorem err_no {S : Stt} {e : Eff} {ref : Int} (h : errS S e ref ≠ 0) : nextS S e ref = S := by
  unfold errS at h
  unfold nextS
  by_cases hc : e.check = true
  · rw [if_pos hc] at h ⊢
    cases hx : stepS S e ref with
    | none => rfl
    | some x => rw [hx] at h; exact absurd rfl h
  · rw [if_neg hc]
theorem step_ok {S S' : Stt} {e : Eff} {ref : Int} {r : List Int} (hc : e.check = true) (h : stepS S e ref = some (S', r)) : errS S e ref = 0 ∧ nextS S e ref = S' := by
  unfold errS nextS
  rw [if_pos hc, if_pos hc, h]
  exact ⟨rfl, rfl⟩
theorem Inv.link_unlink {S : Stt} (h : Inv S) {e : Eff} (ho : errS S { e with kind := 2 } 0 = 0) : errS (nextS S { e with kind := 2 } 0) { e with kind := 3 } 0 = 0 ∧ nextS (nextS S { e with kind := 2 } 0) { e with kind := 3 } 0 = S := by
  obtain ⟨hc, x, hx, hn⟩ := err_ok ho
  rw [hn]
  have hl : linkS S { e with kind := 2 } = some x.1 := bare_some (by
    have := hx
    unfold stepS at this
    exact this)
  have hb := h.link_back (e2 := { e with kind := 3 }) hl rfl rfl rfl
  refine step_ok (r := []) (check_link hc) ?_
  show bareS (removeS x.1 { e with kind := 3 } 1) = _
  rw [hb]
  rfl
theorem Inv.there_back {S : Stt} (h : Inv S) {e : Eff} (hn : hasN e.other (namesS S.l e.dst) = false) (ho : errS S { e with kind := 5 } 0 = 0) :
    errS (nextS S { e with kind := 5 } 0) { e with kind := 5, dir := e.dst, name := e.other, dst := e.dir, other := e.name } 0 = 0 ∧ nextS (nextS S { e with kind := 5 } 0) { e with kind := 5, dir := e.dst, name := e.other, dst := e.dir, other := e.name } 0 = S := by
  obtain ⟨hc, x, hx, hnx⟩ := err_ok ho
  rw [hnx]
  have hl : renameS S { e with kind := 5 } = some x.1 := bare_some (by
    have := hx
    unfold stepS at this
    exact this)
  have hb := h.move_back (b := { e with kind := 5, dir := e.dst, name := e.other, dst := e.dir, other := e.name }) hl hn rfl rfl rfl rfl rfl
  refine step_ok (r := []) (check_ren hc) ?_
  show bareS (renameS x.1 { e with kind := 5, dir := e.dst, name := e.other, dst := e.dir, other := e.name }) = _
  rw [hb]
  rfl
end Go.Proofs.YtamndllolppmoaaGreat

/-! What goes takes nothing more, plainly. -/
namespace Go.Proofs.YtamndllolppmoaaGreat
open Wd Ino Sm
set_option linter.unusedVariables false
theorem sum_mod {l : List Nod} {i : Int} {f : Nod → Nod} {F : Nod → Nat} (h : ∀ n ∈ l, n.ino = i → F (f n) ≤ F n) : ((modS l i f).map F).sum ≤ (l.map F).sum := by
  induction l with
  | nil => exact Nat.le_refl _
  | cons a l ih =>
    have h2 := ih fun n hn => h n (List.mem_cons_of_mem _ hn)
    show F (if a.ino = i then f a else a) + ((modS l i f).map F).sum ≤ F a + (l.map F).sum
    split
    · rename_i hi
      have := h a List.mem_cons_self hi
      omega
    · omega
theorem sum_rm {l : List Nod} {i : Int} {F : Nod → Nat} : ((rmS l i).map F).sum ≤ (l.map F).sum := by
  induction l with
  | nil => exact Nat.le_refl _
  | cons a l ih =>
    have e : rmS (a :: l) i = if a.ino = i then rmS l i else a :: rmS l i := by
      unfold rmS
      rw [List.filter_cons]
      by_cases h : a.ino = i <;> simp [h]
    rw [e]
    split
    · show _ ≤ F a + (l.map F).sum; omega
    · show F a + ((rmS l i).map F).sum ≤ F a + (l.map F).sum; omega
def refsN (n : Nod) : Nat := (refsP n.pages).length
theorem refs_sum (l : List Nod) : (refsS l).length = (l.map refsN).sum := by
  unfold refsS
  induction l with
  | nil => rfl
  | cons a l ih => rw [List.flatMap_cons, List.length_append, ih]; rfl
/-- no more words, no more refs -/
structure Less (l' l : List Nod) : Prop where
  w : wordsS l' ≤ wordsS l
  r : (refsS l').length ≤ (refsS l).length
theorem Less.refl (l : List Nod) : Less l l := ⟨Nat.le_refl _, Nat.le_refl _⟩
theorem Less.trans {a b c : List Nod} (h : Less a b) (k : Less b c) : Less a c := ⟨Nat.le_trans h.w k.w, Nat.le_trans h.r k.r⟩
theorem Less.mod {l : List Nod} {i : Int} {f : Nod → Nod} (h : ∀ n ∈ l, n.ino = i → wordsNod (f n) ≤ wordsNod n) (k : ∀ n ∈ l, n.ino = i → refsN (f n) ≤ refsN n) : Less (modS l i f) l := by
  refine ⟨?_, ?_⟩
  · have := sum_mod h
    unfold wordsS; omega
  · rw [refs_sum, refs_sum]; exact sum_mod k
theorem Less.rm (l : List Nod) (i : Int) : Less (rmS l i) l := by
  refine ⟨?_, ?_⟩
  · have := sum_rm (l := l) (i := i) (F := wordsNod)
    unfold wordsS; omega
  · rw [refs_sum, refs_sum]; exact sum_rm
theorem wsum_drop (s : ByteArray) (l : List Ent) : wsum (dropN s l) ≤ wsum l := by
  induction l with
  | nil => exact Nat.le_refl _
  | cons e l ih =>
    rw [dropN_cons]
    split
    · exact Nat.le_trans ih (Nat.le_add_left _ _)
    · exact Nat.add_le_add_left ih _
theorem Less.leave (l : List Nod) (d : Int) (s : ByteArray) : Less (leaveS l d s) l := Less.mod (fun n _ _ => by
  show 7 + n.pages.length + wsum (dropN s n.names) ≤ 7 + n.pages.length + wsum n.names
  have := wsum_drop s n.names
  omega) (fun n _ _ => Nat.le_refl _)
theorem Less.forget (l : List Nod) (d i : Int) (s : ByteArray) : Less (forgetS l d s i) l := by
  unfold forgetS
  split
  · exact (Less.rm _ _).trans (Less.leave l d s)
  · exact (Less.mod (f := lessLk) (fun n _ _ => Nat.le_refl _) (fun n _ _ => Nat.le_refl _)).trans (Less.leave l d s)
theorem refs_cut (l : List Int) (k : Nat) : (refsP (l.take k)).length ≤ (refsP l).length := by
  unfold refsP
  exact ((List.take_sublist k l).filter _).length_le
theorem Inv.less_trunc {S : Stt} (h : Inv S) {i size : Int} (h0 : 0 ≤ size) (hk : kindS S.l i = 1) (hs : size ≤ (getS S.l i).size) : Less (modS S.l i (resNod size)) S.l := by
  obtain ⟨m, m1, m2, _⟩ := h.some_kind (i := i) (by rw [hk]; decide)
  have hr := right_file (h.right m (atS_mem m1)) (by rw [← m2]; exact hk)
  rw [getS_some m1] at hs
  have hone : ∀ n ∈ S.l, n.ino = i → n = m := fun n hn e => by
    have := atS_of_mem h.asc hn
    rw [e, m1] at this
    exact (Option.some.inj this).symm
  have hK : (needP size).toNat ≤ m.pages.length := by
    have h1 := hr.2.2.2.2
    have h2 : needP size ≤ needP m.size := by unfold needP; omega
    omega
  have hfit : fitP m.pages (needP size).toNat = m.pages.take (needP size).toNat := by
    unfold fitP
    rw [show (needP size).toNat - m.pages.length = 0 by omega, List.replicate_zero, List.append_nil]
  refine Less.mod (fun n hn e => ?_) (fun n hn e => ?_)
  · rw [hone n hn e]
    show 7 + (fitP m.pages (needP size).toNat).length + wsum m.names ≤ 7 + m.pages.length + wsum m.names
    rw [hfit, List.length_take]
    omega
  · rw [hone n hn e]
    show (refsP (fitP m.pages (needP size).toNat)).length ≤ (refsP m.pages).length
    rw [hfit]
    exact refs_cut _ _
/-- unlinked, removed, dropped, or truncated to less -/
def goesB (S : Stt) (e : Eff) : Bool := decide (e.kind = 3) || (decide (e.kind = 4) || (decide (e.kind = 8) || (decide (e.kind = 6) && decide (e.size ≤ (getS S.l e.ino).size))))
theorem Inv.less {S : Stt} (h : Inv S) {e : Eff} (hg : goesB S e = true) (ho : errS S e 0 = 0) : Less (nextS S e 0).l S.l := by
  obtain ⟨hc, x, hx, hn⟩ := err_ok ho
  rw [hn]
  unfold goesB at hg
  simp only [Bool.or_eq_true, Bool.and_eq_true, decide_eq_true_eq] at hg
  have rem : ∀ k, removeS S e k = some x.1 → Less x.1.l S.l := fun k hr => by
    unfold removeS at hr
    split at hr
    · rw [← Option.some.inj hr]
      exact Less.forget _ _ _ _
    · cases hr
  rcases hg with h3 | h3 | h3 | ⟨h3, h4⟩
  · refine rem 1 (bare_some ?_)
    unfold stepS at hx
    rw [h3] at hx
    exact hx
  · refine rem 2 (bare_some ?_)
    unfold stepS at hx
    rw [h3] at hx
    exact hx
  · have hd : dropS S e = some x := by
      unfold stepS at hx
      rw [h3] at hx
      exact hx
    unfold dropS at hd
    split at hd
    · rw [← Option.some.inj hd]; exact Less.rm _ _
    · cases hd
  · have hd : truncS S e = some x := by
      unfold stepS at hx
      rw [h3] at hx
      exact hx
    unfold truncS at hd
    split at hd
    · rename_i hk
      rw [← Option.some.inj hd]
      refine h.less_trunc ?_ hk h4
      unfold Eff.check Eff.mayBe at hc
      rw [h3] at hc
      simp only [Bool.and_eq_true, decide_eq_true_eq, show ¬ ((6 : Int) = 1) by decide, show ¬ ((6 : Int) = 2 ∨ (6 : Int) = 3 ∨ (6 : Int) = 4) by decide, show ¬ ((6 : Int) = 5) by decide, if_false, if_true] at hc
      exact hc.1.1.2
    · cases hd
theorem Less.fits {I D : Int} {l' l : List Nod} (h : Less l' l) (hf : fitsB I D l = true) : fitsB I D l' = true ∧ I - 1 - (wordsS l : Nat) ≤ I - 1 - (wordsS l' : Nat) ∧ D - 1 - ((refsS l).length : Nat) ≤ D - 1 - ((refsS l').length : Nat) := by
  have h1 := h.w; have h2 := h.r
  unfold fitsB at *
  simp only [Bool.and_eq_true, decide_eq_true_eq] at *
  omega
end Go.Proofs.YtamndllolppmoaaGreat

/-! The room's laws: awake. -/
namespace Go.Proofs.YtamndllolppmoaaGreat
open Wd Ino Sm U Go.RowKit Go.ChangeShapes Go.WideShapes Go.Sort
set_option linter.unusedVariables false
set_option maxRecDepth 100000
theorem one_effs {w : World} {e : Eff} (ok : e.Ok w w.heap.size) : Effs (w.alloc (.cells (effCells e) 50)) (w.alloc (.cells (effCells e) 50)).heap.size (some ⟨w.heap.size, 0, none⟩) [e] := ⟨fun _ => ⟨w.heap.size, 0, rfl, by simp, fun j d hd k x hx => by
  have hj : j = 0 := by have := (List.getElem?_eq_some_iff.1 hd).1; rw [List.length_singleton] at this; omega
  subst hj
  rw [List.getElem?_cons_zero] at hd
  injection hd with hd
  subst hd
  have := (Cells.new w 50 (effCells e)).cell k
  rw [show (0 : Nat) + (0 * 9 + k) = k by omega, this, ← Array.getElem?_toList]
  exact hx⟩, fun d hd => by
    rw [List.mem_singleton.1 hd]
    exact (ok.below (below_of_grown (World.grownBy_alloc w _ none))).more (by simp)⟩
def drop9 : Eff := ⟨8, 9, 0, 0, 0, 0, ⟨#[]⟩, ⟨#[]⟩, none, 0, []⟩
theorem drop9_ok (w : World) (B : Nat) : drop9.Ok w B := ⟨(by show i64R 8; unfold i64R; omega), (by show i64R 9; unfold i64R; omega), i64R_0, i64R_0, i64R_0, i64R_0, Nat.zero_le _, Nat.zero_le _, (fun x hx => by cases hx), Row.nil, Nat.zero_le _, Nat.zero_le _⟩
theorem PF.of {w : World} {base m g b : Nat} {S : Stt} (h : PSt w base m g b S) (iv : Inv S) {k : Nat} (nm : Num k S) (hk : k ≤ 900) (hm : m < 999900) : PF w base m g b S := ⟨h, iv.asc, iv.smN nm hk, by have := nm.len; omega, hm⟩
theorem fits_new : fitsB 127 47 newStt.l = true := by decide +kernel
theorem geom64 : geomV 64 = .agg #[.int .i64 64, .int .i64 8, .int .i64 127, .int .i64 127, .int .i64 47] := rfl
set_option maxHeartbeats 8000000 in
theorem rmAwake_true (w : World) : Calls Tryz.prog 8 #[] w (TrueB w) := by
  have hfol : Tryz.prog.follows .mixedOrders = true := by kernel_rfl
  have KG := Lib.hid (refGeom_yes 64 (by omega) (by omega) w)
  rw [geom64] at KG
  go_enter Tryz.func8, Tryz.ntmps8
  go_wp2_with fail
  refine (KG.out).mono ?_
  rintro e w1 ⟨rfl, hw1⟩
  have hb1 := grown_b hw1
  have hb2 : Below w1.heap.size w1 (w1.alloc (.cells #[.int .i64 64, .int .i64 8, .int .i64 127, .int .i64 127, .int .i64 47] 28)) := below_of_grown (World.grownBy_alloc w1 _ none)
  have hc2 : Cells (w1.alloc (.cells #[.int .i64 64, .int .i64 8, .int .i64 127, .int .i64 127, .int .i64 47] 28)) w1.heap.size 28 #[.int .i64 64, .int .i64 8, .int .i64 127, .int .i64 127, .int .i64 47] := Cells.new _ _ _
  obtain ⟨w2, hw2⟩ : ∃ w2, w1.alloc (.cells #[.int .i64 64, .int .i64 8, .int .i64 127, .int .i64 127, .int .i64 47] 28) = w2 := ⟨_, rfl⟩
  rw [hw2] at hb2 hc2
  have HW2 := Lib.hid hw2
  have B2 := Lib.hid (hb1.trans (hb2.mono hb1.size)); have C2 := Lib.hid hc2
  have b0 : Below w2.heap.size w2 w2.drew := below_drewN (Below.refl _ _) 1
  have S9 := Lib.hid (fun (wx : World) (hb : Below w2.heap.size w2 wx) => show wx.cell? ⟨w1.heap.size, 0, none⟩ = some (.int .i64 64) ∧ wx.cell? ⟨w1.heap.size, 1, none⟩ = some (.int .i64 8) ∧ wx.cell? ⟨w1.heap.size, 2, none⟩ = some (.int .i64 127) ∧ wx.cell? ⟨w1.heap.size, 3, none⟩ = some (.int .i64 127) ∧ wx.cell? ⟨w1.heap.size, 4, none⟩ = some (.int .i64 47) from ⟨(C2.out.below' hb).cell 0, (C2.out.below' hb).cell 1, (C2.out.below' hb).cell 2, (C2.out.below' hb).cell 3, (C2.out.below' hb).cell 4⟩)
  have KN := Lib.hid pNew
  have KF := Lib.hid (fun (wx : World) (bs g b : Nat) (P : PSt wx bs 1 g b newStt) => pFits (PF.of P Inv.new Num.new (by omega) (by omega)) 64 8 127 127 47 (by omega) (by omega))
  have KT := Lib.hid (fun (wx : World) (bs g b : Nat) (P : PSt wx bs 1 g b newStt) (A : Option Addr) (hE : Effs wx wx.heap.size A [drop9]) => pTry_bad (cap := 1) (PF.of P Inv.new Num.new (by omega) (by omega)) (Inv.new.fit Num.new (by omega)) 64 8 127 127 47 drop9 hE (by decide) (by decide) (by decide +kernel))
  have KE := Lib.hid (fun (wx : World) => one_effs (drop9_ok wx wx.heap.size))
  rw [fits_new] at KF
  have KE2 := Lib.hid (fun (wx w' : World) (c : Below (wx.alloc (.cells (effCells drop9) 50)).heap.size (wx.alloc (.cells (effCells drop9) 50)) w') => ((KE.out wx).below c).more c.size)
  unfold effCells drop9 at KE KE2
  clear hw1 hb1 hb2 hc2 hw2 KG
  go_upto_region 2 with fail
  rw [HW2.out]
  go_region_held3 (fun wx => wx.cell? ⟨w1.heap.size, 0, none⟩ = some (.int .i64 64) ∧ wx.cell? ⟨w1.heap.size, 1, none⟩ = some (.int .i64 8) ∧ wx.cell? ⟨w1.heap.size, 2, none⟩ = some (.int .i64 127) ∧ wx.cell? ⟨w1.heap.size, 3, none⟩ = some (.int .i64 127) ∧ wx.cell? ⟨w1.heap.size, 4, none⟩ = some (.int .i64 47))
    (first | exact S9.out _ b0 | exact S9.out _ k1 | exact S9.out _ k2 | exact S9.out _ (k2.alloc k2.size _) | exact S9.out _ k3 | exact S9.out _ (k3.alloc k3.size _) | exact S9.out _ k4)
    (first
      | (go_at_call 33; (with_reducible refine (KN.out _).mono ?_); rintro e' w3 ⟨g, b, rfl, c1, P1⟩; have k1 : Below w2.heap.size w2 w3 := b0.trans (c1.mono b0.size))
      | (go_at_call 14; (with_reducible refine (KF.out _ _ _ _ P1).mono ?_); rintro e' w4 ⟨rfl, c2⟩; have k2 : Below w2.heap.size w2 w4 := k1.trans (c2.mono k1.size))
      | (go_at_call 33; (with_reducible refine (KN.out _).mono ?_); rintro e' w5 ⟨g', b', rfl, c3, P2⟩; have k3 : Below w2.heap.size w2 w5 := k2.trans (c3.mono k2.size))
      | (go_at_call 33; (with_reducible refine (KN.out _).mono ?_); rintro e' w5 ⟨g', b', rfl, c3, P2⟩; have k3 : Below w2.heap.size w2 w5 := (k2.alloc k2.size _).trans (c3.mono (k2.alloc k2.size _).size); have hE := KE2.out _ _ c3)
      | (go_at_call 19; (with_reducible refine (KT.out _ _ _ _ P2 _ hE).mono ?_); rintro e' w6 ⟨rfl, c4⟩; have k4 : Below w2.heap.size w2 w6 := k3.trans (c4.mono k3.size))
      | (go_at_call 19; (with_reducible refine (KT.out _ _ _ _ (P2.below (below_of_grown (World.grownBy_alloc _ _ none))) _ (KE.out _)).mono ?_); rintro e' w6 ⟨rfl, c4⟩; have k4 : Below w2.heap.size w2 w6 := (k3.alloc k3.size _).trans (c4.mono (k3.alloc k3.size _).size)))
  all_goals
    have HK := Lib.hid k4
    clear k1 k2 k3 k4 b0 S9 KN KF KT KE KE2
    go_wp2
    go_ret
    exact ⟨rfl, B2.out.trans (HK.out.mono B2.out.size)⟩
end Go.Proofs.YtamndllolppmoaaGreat
