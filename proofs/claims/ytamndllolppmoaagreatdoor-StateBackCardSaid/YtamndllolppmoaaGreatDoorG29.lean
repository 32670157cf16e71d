import Derived.Test.YtamndllolppmoaaGreatDoorG28
import Derived.Laws.EntriesVeiled
import Derived.Test.YtamndllolppmoaaGreatDoorG06
import Derived.RangeFuncNested
import Derived.RangeFuncBound
import Derived.RangeFuncCalls

/-! What the project's inOrder hands to a loop's body: the nodes, by number. -/
namespace Go.Proofs.YtamndllolppmoaaGreatDoor
open Wd Ino Sm U Go.RowKit Go.ChangeShapes Go.WideShapes Go.Shelf
set_option linter.unusedVariables false
attribute [local go_sem] Oper.semAt_some
set_option maxRecDepth 100000
theorem nds_of_row {w : World} {base n : Nat} {v : Value} {l : List Nd} (h : RowP w base 38 7 v l.length (ndvals l)) : ∃ A c, v = .slice A l.length c ∧ Nds w w.heap.size A l := by
  rcases h.2 with ⟨rfl, h0⟩ | ⟨g, cap, cur, rfl, _, hh, hc, hm, _, ht⟩
  · obtain rfl : l = [] := List.eq_nil_of_length_eq_zero h0
    exact ⟨none, 0, rfl, fun hn => absurd hn (by simp)⟩
  · refine ⟨_, cap, rfl, fun _ => ⟨g, 0, rfl, (show Cells w g 38 cur from hh).lt, fun j e hj k x hk => ?_⟩⟩
    have h1 := flat_at cells_len l j k e x hj hk
    have h2 : cur.toList[j * 7 + k]? = some x := by
      have h3 : (ndvals l)[j * 7 + k]? = some x := h1
      rw [← ht] at h3
      rw [← h3]
      have := (List.getElem?_eq_some_iff.1 h3).1
      rw [List.getElem?_take_of_lt (by rw [List.length_take] at this; omega)]
    rw [(show Cells w g 38 cur from hh).cell (0 + (j * 7 + k)), Nat.zero_add, ← Array.getElem?_toList]
    exact h2
theorem Nds.below {w w' : World} {hi : Nat} {A : Option Addr} {l : List Nd} (h : Nds w hi A l) (hb : Below hi w w') : Nds w' hi A l := fun hn => by
  obtain ⟨b, off, e, hB, hx⟩ := h hn
  exact ⟨b, off, e, hB, fun j d hj k x hk => (hb.cell (p := ⟨b, _, none⟩) hB).trans (hx j d hj k x hk)⟩
theorem Nds.more {w : World} {hi hi' : Nat} {A : Option Addr} {l : List Nd} (h : Nds w hi A l) (hb : hi ≤ hi') : Nds w hi' A l := fun hn => by
  obtain ⟨b, off, e, hB, hx⟩ := h hn
  exact ⟨b, off, e, Nat.lt_of_lt_of_le hB hb, hx⟩
theorem nds_cells {w : World} {hi : Nat} {A : Option Addr} {l : List Nd} (h : Nds w hi A l) {k : Nat} {n : Nd} (hk : l[k]? = some n) : ∃ b off, A = some ⟨b, off, none⟩ ∧ b < hi ∧
    w.cell? ⟨b, off + k * 7, none⟩ = some (.int .i64 n.ino) ∧ w.cell? ⟨b, off + k * 7 + 1, none⟩ = some (.int .i64 n.kind) ∧ w.cell? ⟨b, off + k * 7 + 2, none⟩ = some (.int .i64 n.links) ∧ w.cell? ⟨b, off + k * 7 + 3, none⟩ = some (.int .i64 n.size) ∧
    w.cell? ⟨b, off + k * 7 + 4, none⟩ = some (.int .i64 n.up) ∧ w.cell? ⟨b, off + k * 7 + 5, none⟩ = some (.slice n.A n.pages.length n.ac) ∧ w.cell? ⟨b, off + k * 7 + 6, none⟩ = some (.slice n.B n.names.length n.bc) := by
  obtain ⟨b, off, rfl, hb, hx⟩ := h (by have := (List.getElem?_eq_some_iff.1 hk).1; omega)
  have g := hx k n hk
  exact ⟨b, off, rfl, hb, g 0 _ rfl, g 1 _ rfl, g 2 _ rfl, g 3 _ rfl, g 4 _ rfl, g 5 _ rfl, g 6 _ rfl⟩
theorem take_len {α : Type} (l : List α) {k : Nat} (hk : k ≤ l.length) : (l.take k).length = k := by rw [List.length_take]; omega
/-- what a loop's body keeps of the row that it is handed -/
def Kq (q : Nat) (A : Option Addr) (W W' : World) : Prop := W.heap.size ≤ W'.heap.size ∧ W'.heap[q]? = W.heap[q]? ∧ ∀ b off, A = some ⟨b, off, none⟩ → W'.heap[b]? = W.heap[b]?
theorem Kq.refl (q : Nat) (A : Option Addr) (W : World) : Kq q A W W := ⟨Nat.le_refl _, rfl, fun _ _ _ => rfl⟩
theorem Kq.trans {q : Nat} {A : Option Addr} {X Y Z : World} (h : Kq q A X Y) (k : Kq q A Y Z) : Kq q A X Z := ⟨Nat.le_trans h.1 k.1, k.2.1.trans h.2.1, fun b off e => (k.2.2 b off e).trans (h.2.2 b off e)⟩
theorem Kq.below {q : Nat} {A : Option Addr} {X Y : World} {B : Nat} (h : Below B X Y) (hq : q < B) (hA : ∀ b off, A = some ⟨b, off, none⟩ → b < B) : Kq q A X Y := ⟨h.size, h.block _ hq, fun b off e => h.block _ (hA b off e)⟩
theorem Kq.nds {q : Nat} {A : Option Addr} {X Y : World} {hi hi' : Nat} {l : List Nd} (h : Kq q A X Y) (hn : Nds X hi A l) (hh : hi ≤ hi') : Nds Y hi' A l := fun h0 => by
  obtain ⟨b, off, e, hB, hx⟩ := hn h0
  have hb := h.2.2 b off e
  exact ⟨b, off, e, Nat.lt_of_lt_of_le hB hh, fun j d hj k x hk => by
    have := hx j d hj k x hk
    unfold World.cell? at this ⊢
    rw [hb]; exact this⟩
theorem Kq.put {q : Nat} {A : Option Addr} {w : World} (hq : q < w.heap.size) (hA : ∀ b off, A = some ⟨b, off, none⟩ → b < w.heap.size) (W : World) (l : Nat) (o o' : Obj) (hl : w.heap.size ≤ l) (h : W.heap[l]? = some o) (_ : o.isCells = false) (_ : o.isWalk = false) : Kq q A W (W.putObj l o') :=
  ⟨(grownBy_putObj' W l o').size, World.putObj_heap_other (by omega), fun b off e => World.putObj_heap_other (by have := hA b off e; omega)⟩
set_option maxHeartbeats 4000000 in
theorem io_in (F : Fence) (n : Nat) (h7 : F.fn 89) (hro : F.round = none) (hn : 1 ≤ n) (lp q : Nat) (A : Option Addr) (cap : Nat) (l : List Nd) (hm : l.length ≤ 1000) (J Jx : List Nd → World → Prop)
    (hY : ∀ pre (x : Nd) W, J pre W → pre.length < l.length → l[pre.length]? = some x → YieldAt F (n - 1) Tryz.prog lp #[.int .i64 x.ino, x.val] W fun e W' =>
      (e = .returned (.bool true) ∧ J (pre ++ [x]) W' ∧ Kq q A W W') ∨ (e = .returned (.bool false) ∧ Jx (pre ++ [x]) W'))
    (hJ : ∀ pre W o, J pre W → J pre (W.alloc o))
    (W : World) (hq : W.cell? ⟨q, 0, none⟩ = some (.slice A l.length cap)) (hqn : q < W.heap.size) (hE : Nds W W.heap.size A l) (h0 : J [] W) :
    CallsIn F n Tryz.prog 89 #[.func (.yield lp) #[] #[], .pointer (some ⟨q, 0, none⟩)] W fun e W' => (∃ v, e = .returned v) ∧
      (J l W' ∨ (∃ k, k ≤ l.length ∧ Jx (l.take k) W')) := by
  refine callsIn_of_wp Tryz.func89 rfl h7 ?_ hro
  simp only [Tryz.ntmps89, List.size_toArray, List.length_cons, List.length_nil, Nat.reduceAdd, Nat.reduceSub, Array.replicate_succ, Array.replicate_zero, List.push_toArray, List.append_toArray, List.nil_append, List.cons_append]
  gi_wp2
  gi_loopw [7] (fun i wr => ∃ k : Nat, k ≤ l.length ∧ i = .int .i64 (k : Int) ∧ J (l.take k) wr ∧ Kq q A W wr) (fun i _ => l.length - (intOf i).toNat)
  case atStart => exact ⟨0, Nat.zero_le _, by simp, h0, Kq.refl _ _ _⟩
  case round =>
    obtain ⟨k, hk, rfl, hJs, hnx⟩ := hrel
    by_cases hlt : k < l.length
    · obtain ⟨e, he⟩ : ∃ e, l[k]? = some e := ⟨_, List.getElem?_eq_getElem hlt⟩
      have hs := take_snocE he
      obtain ⟨b, off, rfl, hbB, x0, x1, x2, x3, x4, x5, x6⟩ := nds_cells (hnx.nds hE hnx.1) he
      obtain ⟨J0, ki, lk, t, u, A0, ac, P, B0, bc, N⟩ := e
      dsimp only at x0 x1 x2 x3 x4 x5 x6
      obtain ⟨w3, hw3⟩ : ∃ w3, wr.alloc (.cells #[.int .i64 J0, .int .i64 ki, .int .i64 lk, .int .i64 t, .int .i64 u, .slice A0 P.length ac, .slice B0 N.length bc] 38) = w3 := ⟨_, rfl⟩
      have hc3 : Cells w3 wr.heap.size 38 (ncells J0 ki lk t u (.slice A0 P.length ac) (.slice B0 N.length bc)) := by rw [← hw3]; exact Cells.new _ _ _
      have hb3 : Below wr.heap.size wr w3 := by rw [← hw3]; exact below_of_grown (World.grownBy_alloc wr _ none)
      have hJ3 : J (l.take k) w3 := by rw [← hw3]; exact hJ _ _ _ hJs
      obtain ⟨z0, z1, z2, z3, z4, z5, z6⟩ := cells7 hc3
      have hl2 : (l.take k).length = k := take_len l hk
      obtain ⟨fn, tmps, assign, body, hy, hR⟩ := hY _ ⟨J0, ki, lk, t, u, A0, ac, P, B0, bc, N⟩ w3 hJ3 (by rw [hl2]; exact hlt) (by rw [hl2]; exact he)
      unfold Nd.val at hy
      dsimp only at hy
      have HS := Lib.hid hs; have HLT := Lib.hid hlt; have HB3 := Lib.hid (hnx.trans (Kq.below hb3 (Nat.lt_of_lt_of_le hqn hnx.1) (fun b9 off9 e9 => by cases e9; exact hbB)))
      have hkl : (k : Int) < (l.length : Int) := by omega
      have hm2 : (k : Int) < 1000 := by omega
      clear hs he hc3 hb3 hJ3 hJs hk hlt
      gi_wp2
      refine hR.mono ?_
      rintro e W3 (⟨rfl, hJ4, hk4⟩ | ⟨rfl, hJx4⟩)
      · gi_wp2
        go_roundw
        case rel => exact ⟨k + 1, HLT.out, by go_num, by rw [HS.out]; exact hJ4, HB3.out.trans hk4⟩
        case measure => simp [intOf]; have := HLT.out; omega
      · gi_wp2
        refine bodyPost_ret (results_none rfl _ _ _) rfl ?_
        exact ⟨⟨_, rfl⟩, .inr ⟨k + 1, HLT.out, by rw [HS.out]; exact hJx4⟩⟩
    · obtain rfl : k = l.length := by omega
      rw [List.take_length] at hJs
      gi_wp2
      go_end0
      exact ⟨⟨_, rfl⟩, .inl hJs⟩
end Go.Proofs.YtamndllolppmoaaGreatDoor

/-! A loop over the project's inOrder that goes through all nodes. -/
namespace Go.Proofs.YtamndllolppmoaaGreatDoor
open Wd Ino Sm U Go.RowKit Go.ChangeShapes Go.WideShapes Go.Shelf
set_option linter.unusedVariables false
set_option maxRecDepth 100000
abbrev Mem (L : List Nd) := {x : Nd // x ∈ L}
theorem mem_lift {L : List Nd} : ∀ (l : List Nd), (∀ x ∈ l, x ∈ L) → ∃ p : List (Mem L), p.map Subtype.val = l
  | [], _ => ⟨[], rfl⟩
  | x :: l, h => by
    obtain ⟨p, hp⟩ := mem_lift l (fun y hy => h y (List.mem_cons_of_mem _ hy))
    exact ⟨⟨x, h x List.mem_cons_self⟩ :: p, by rw [List.map_cons, hp]⟩
theorem io_seq {L : List Nd} {n0 : Nat} (h2 : 2 ≤ n0) {w : World} {q cap : Nat} {A : Option Addr} (hq : w.cell? ⟨q, 0, none⟩ = some (.slice A L.length cap)) (hqw : q < w.heap.size) (hA : ∀ b off, A = some ⟨b, off, none⟩ → b < w.heap.size) (hE : Nds w w.heap.size A L) (hm : L.length ≤ 1000) :
    SeqStopsK Fence.wide (n0 - 1) Tryz.prog 89 #[.pointer (some ⟨q, 0, none⟩)] (fun x : Mem L => #[Value.int .i64 x.1.ino, x.1.val]) (Kq q A) (fun xs => xs.map Subtype.val = L) (fun pre => ∃ k, k ≤ L.length ∧ pre.map Subtype.val = L.take k) L.length w := by
  intro lp J Jx W hW hJ hJx hY h0
  have hk : Kq q A w W := Kq.below hW hqw hA
  have hq2 : W.cell? ⟨q, 0, none⟩ = some (.slice A L.length cap) := (hW.cell (p := ⟨q, 0, none⟩) hqw).trans hq
  refine (io_in Fence.wide (n0 - 1) trivial rfl (by omega) lp q A cap L hm (fun pre W => ∃ p : List (Mem L), p.map Subtype.val = pre ∧ J p W) (fun pre W => ∃ p : List (Mem L), p.map Subtype.val = pre ∧ Jx p W) ?_ ?_ W hq2 (Nat.lt_of_lt_of_le hqw hW.size) (hk.nds hE hW.size) ⟨[], rfl, h0⟩).mono ?_
  · rintro pre x W1 ⟨p, hp, hj⟩ hlt hx
    have hpl : p.length < L.length := by rw [← hp, List.length_map] at hlt; exact hlt
    obtain ⟨fn, tmps, assign, body, hy, hR⟩ := hY p ⟨x, List.mem_of_getElem? hx⟩ W1 hj hpl
    refine ⟨fn, tmps, assign, body, hy, hR.mono fun e W' he => ?_⟩
    rcases he with ⟨h1, h2, h3⟩ | ⟨h1, h2⟩
    · exact .inl ⟨h1, ⟨_, by rw [List.map_append, hp]; rfl, h2⟩, h3⟩
    · exact .inr ⟨h1, ⟨_, by rw [List.map_append, hp]; rfl, h2⟩⟩
  · rintro pre W1 o ⟨p, hp, hj⟩
    exact ⟨p, hp, hJ _ _ _ none hj (World.grownBy_alloc W1 o none) (fun r e => by cases e)⟩
  · rintro e W' ⟨hv, hj | ⟨k, hk2, hj⟩⟩
    · obtain ⟨p, hp, hj⟩ := hj
      exact ⟨hv, .inl ⟨p, hp, hj⟩⟩
    · obtain ⟨p, hp, hj⟩ := hj
      exact ⟨hv, .inr ⟨p, ⟨k, hk2, hp⟩, hj⟩⟩
/-- a loop over all nodes, by number, whose body never ends it -/
theorem wp_inOrder {L : List Nd} {n0 : Nat} (h3 : 3 ≤ n0) {w : World} {q cap : Nat} {A : Option Addr} {g : Operand} {ps : Array Tmp} {assign body : Code} {Q : Exit → Act → World → Prop} {a : Act}
    (hg : a.eval g = .func (.func 89) #[] #[.pointer (some ⟨q, 0, none⟩)]) (hps : ps.size = 2)
    (hq : w.cell? ⟨q, 0, none⟩ = some (.slice A L.length cap)) (hqw : q < w.heap.size) (hA : ∀ b off, A = some ⟨b, off, none⟩ → b < w.heap.size) (hE : Nds w w.heap.size A L) (hm : L.length ≤ 1000)
    (I : List (Mem L) → World → Prop) (hI : OwnFrom w.heap.size I) (h0 : I [] w) (Ax : Mem L → Act → World → Prop) (hAx : ∀ x a', OwnFrom w.heap.size (fun (_ : Unit) W => Ax x a' W))
    (hassign : ∀ (l : Nat) (pre : List (Mem L)) (x : Mem L) (W : World) (K : Act → World → Prop), I pre W → (∀ a' W', KeepsFrom w.heap.size W W' → Kq q A W W' → I pre W' → Ax x a' W' → K a' W') →
      assign.wpIn (Fence.wide.inRound l) (n0 - 1 - 1) Tryz.prog (Exit.then K (fun _ _ _ => False)) { tmps := (ps.zip #[Value.int .i64 x.1.ino, x.1.val]).foldl (fun t (p, v) => t.setIfInBounds p v) a.tmps, defers := [] } W)
    (hbody : ∀ (l : Nat) (pre : List (Mem L)) (x : Mem L) (a' : Act) (W : World), w.heap.size ≤ l → I pre W → Ax x a' W → pre.length < L.length → body.wpIn (Fence.wide.inRound l) (n0 - 1 - 1) Tryz.prog (ownPostG w.heap.size (Kq q A) I (fun _ _ _ => False) (pre ++ [x]) W) a' W)
    (hdone : ∀ (D : Nat) (xs : List (Mem L)) (W : World), w.heap.size ≤ D → xs.map Subtype.val = L → I xs W → W.heap[D]? = some (.deferred (some [])) → Q .normal { a with defers := { target := .collected D, args := #[] } :: a.defers } W) :
    (Code.rangeFunc g ps assign body).wpIn Fence.wide n0 Tryz.prog Q a w :=
  wpIn_rangeFunc_ownH rfl (by omega) (gf := 89) (lb := #[.pointer (some ⟨q, 0, none⟩)]) hg trivial (enters_of Tryz.func89 (by kernel_rfl) rfl)
    (io_seq (n0 := n0) (by omega) hq hqw hA hE hm) (fun h k => h.trans k) (fun W l o o' hl h hc hw => Kq.put hqw hA W l o o' hl h hc hw) (Below.refl _ _) (fun x => by rw [hps]; rfl) I (fun _ _ _ => False) hI (fun c s W W' row hs _ _ => hs) h0 Ax hAx
    hassign (fun l pre x a' W hl _ hi hax hlt => hbody l pre x a' W hl hi hax hlt) hdone (fun D c pre W _ _ hx _ => hx.elim)
end Go.Proofs.YtamndllolppmoaaGreatDoor

/-! The project's Nodes: what it hands back. -/
namespace Go.Proofs.YtamndllolppmoaaGreatDoor
open Wd Ino Sm U Go.RowKit Go.ChangeShapes Go.WideShapes Go.Shelf Go.Sort
set_option linter.unusedVariables false
set_option maxRecDepth 100000
/-- a box that holds what inOrder told, and the row that this goes through -/
def NodesGo (l : List Nod) (base : Nat) (w : World) (e : Ending) (w' : World) : Prop := ∃ p q Lk v, e = .returned (.func (.func 54) #[] #[.pointer (some ⟨p, 0, none⟩)]) ∧ w.heap.size ≤ p ∧ p < w'.heap.size ∧ p ≠ q ∧
  w'.cell? ⟨p, 0, none⟩ = some (.func (.func 89) #[] #[.pointer (some ⟨q, 0, none⟩)]) ∧ w.heap.size ≤ q ∧ Cells w' q 43 #[v] ∧ OwnNs w' w.heap.size v Lk ∧ (∀ n ∈ Lk, OwnNd w' base n) ∧ Lk.map Nd.plain = l ∧ Below w.heap.size w w'
section
variable {w : World} {base m g b : Nat} {S : Stt}
theorem pNodes (h : PSt w base m g b S) (ha : AscS S.l) (hs : SmS S.l) (hl : S.l.length ≤ 1000) (hm : m < 999900) : Calls Tryz.prog 23 #[SPtr g] w (NodesGo S.l base w) := by
  have KM := Lib.hid (pMade h)
  have KO := Lib.hid (fun wx (hb : Below w.heap.size w wx) => pInOrder h hb ha hs hl hm)
  have H := Lib.hid h
  clear h ha hs
  unfold SPtr at *
  go_enter Tryz.func23, Tryz.ntmps23
  go_wp2_with fail
  refine (KM.out).mono ?_
  rintro e w1 ⟨rfl, hw1⟩
  have B1 := Lib.hid (grown_b hw1)
  have K1 := Lib.hid (KO.out w1 B1.out)
  clear hw1 KM KO
  go_wp2_with fail
  refine (K1.out).mono ?_
  rintro e w2 ⟨q, Lk, v, rfl, hor, hb2⟩
  have HOR := Lib.hid hor; have HB2 := Lib.hid hb2
  clear hor hb2 K1
  go_wp2
  go_ret
  obtain ⟨h1, h2, h3, h4, h5⟩ := HOR.out
  have hb3 : Below w2.heap.size w2 (w2.alloc (.cells #[.func (.func 89) #[] #[.pointer (some ⟨q, 0, none⟩)]] 58)) := below_of_grown (World.grownBy_alloc w2 _ none)
  have hcz : Cells (w2.alloc (.cells #[.func (.func 89) #[] #[.pointer (some ⟨q, 0, none⟩)]] 58)) w2.heap.size 58 #[.func (.func 89) #[] #[.pointer (some ⟨q, 0, none⟩)]] := Cells.new _ _ _
  have hb12 := HB2.out.size
  have hbw := B1.out.size
  have hBw : Below w.heap.size w w2 := B1.out.trans (HB2.out.mono hbw)
  refine ⟨w2.heap.size, q, Lk, v, rfl, by omega, by simp, ?_, ?_, by omega, h2.below' hb3, ?_, fun n hn => ((h4 n hn).below hBw).below hb3, h5, hBw.trans (hb3.mono (by omega))⟩
  · have := h2.lt; omega
  · exact hcz.cell 0
  · have h9 := own_below h3 hb3
    refine ⟨h9.1, ?_⟩
    rcases h9.2 with h6 | ⟨gg, cap, cur, h6, h7, h8⟩
    · exact .inl h6
    · exact .inr ⟨gg, cap, cur, h6, Nat.le_trans hbw h7, h8⟩
end
end Go.Proofs.YtamndllolppmoaaGreatDoor

/-! A range over a function whose iterator tells, of each thing, what holds of it in the world in which it is handed on; the body never ends the loop. -/
namespace Go.Proofs.YtamndllolppmoaaGreatDoor
open Go.RowKit
set_option linter.unusedVariables false
/-- the iterator g goes through things of which Ok holds as they are handed on; behind it S holds of all of them -/
def SeqTells {α : Type} (F : Fence) (n : Nat) (P : Program) (g : Nat) (lb : Array Value) (encs : α → Array Value) (Kp : World → World → Prop) (Ok : α → World → Prop) (S : List α → World → Prop) (N : Nat) (w : World) : Prop :=
  ∀ (l : Nat) (J : List α → World → Prop) (W : World), Below w.heap.size w W → OwnFrom W.heap.size J →
    (∀ pre x W1, J pre W1 → Ok x W1 → pre.length < N → YieldAt F (n - 1) P l (encs x) W1 fun e W' => e = .returned (.bool true) ∧ J (pre ++ [x]) W' ∧ Kp W1 W' ∧ KeepsFrom W.heap.size W1 W') →
    J [] W → CallsIn F n P g (#[.func (.yield l) #[] #[]] ++ lb) W fun e W' => (∃ v, e = .returned v) ∧ ∃ xs, S xs W' ∧ J xs W'
theorem ownFrom_mono {β : Type} {B B' : Nat} {I : β → World → Prop} (h : OwnFrom B I) (hB : B ≤ B') : OwnFrom B' I := fun s X Y row hs hg hr => h s X Y row hs hg fun r e => ⟨Nat.le_trans hB (hr r e).1, (hr r e).2⟩
theorem keepsFrom_mono {B B' : Nat} {W W' : World} (h : KeepsFrom B W W') (hB : B ≤ B') : KeepsFrom B' W W' := ⟨h.size, fun k o hk => h.same k o (Nat.le_trans hB hk)⟩
theorem wp_range_tells {α : Type} {F : Fence} {n : Nat} {P : Program} {g : Operand} {ps : Array Tmp} {assign body : Code} {Q : Exit → Act → World → Prop} {a : Act} {w : World}
    (hro : F.round = none) (h1 : 1 ≤ n) {gf : Nat} {lb : Array Value} (hg : a.eval g = .func (.func gf) #[] lb) (hFg : F.fn gf) (eg : ∀ args w, (callFunc gf args).run P w = .ok (.enter gf args) w)
    {encs : α → Array Value} {Kp : World → World → Prop} {Ok : α → World → Prop} {S : List α → World → Prop} {N : Nat} (hseq : SeqTells F (n - 1) P gf lb encs Kp Ok S N w)
    (hKt : ∀ {A B C : World}, Kp A B → Kp B C → Kp A C) (hKb : ∀ (W : World) (o o' : Obj), W.heap[w.heap.size + 1]? = some o → o.isCells = false → o.isWalk = false → Kp W (W.putObj (w.heap.size + 1) o'))
    (hS : OwnFrom w.heap.size S) (hps : ∀ x, (encs x).size = ps.size)
    (I : List α → World → Prop) (hI : OwnFrom w.heap.size I) (h0 : I [] w) (Ax : α → Act → World → Prop) (hAx : ∀ x a', OwnFrom w.heap.size (fun (_ : Unit) W => Ax x a' W))
    (hassign : ∀ (l : Nat) (pre : List α) (x : α) (W : World) (K : Act → World → Prop), I pre W → Ok x W → (∀ a' W', KeepsFrom w.heap.size W W' → Kp W W' → I pre W' → Ax x a' W' → K a' W') →
      assign.wpIn (F.inRound l) (n - 1 - 1) P (Exit.then K (fun _ _ _ => False)) { tmps := (ps.zip (encs x)).foldl (fun t (p, v) => t.setIfInBounds p v) a.tmps, defers := [] } W)
    (hbody : ∀ (l : Nat) (pre : List α) (x : α) (a' : Act) (W : World), w.heap.size ≤ l → I pre W → Ax x a' W → pre.length < N → body.wpIn (F.inRound l) (n - 1 - 1) P (ownPostG w.heap.size Kp I (fun _ _ _ => False) (pre ++ [x]) W) a' W)
    (hdone : ∀ (D : Nat) (xs : List α) (W : World), w.heap.size ≤ D → S xs W → I xs W → W.heap[D]? = some (.deferred (some [])) → Q .normal { a with defers := { target := .collected D, args := #[] } :: a.defers } W) :
    (Code.rangeFunc g ps assign body).wpIn F n P Q a w := by
  refine wpIn_rangeFunc fun fn hfn => ?_
  rw [hro]
  obtain ⟨L, hL⟩ : ∃ L : LoopState → Option Code → Loop, L = fun st pe => { state := st, pending := pe, fn, tmps := a.tmps, params := ps, assign, body, defers := w.heap.size } := ⟨_, rfl⟩
  obtain ⟨V, hV⟩ : ∃ V, (w.alloc (.deferred (some []))).alloc (.loop (L .ready none)) = V := ⟨_, rfl⟩
  have hs : (w.alloc (.deferred (some []))).heap.size = w.heap.size + 1 := World.size_alloc _ _
  have v1 : V.heap[w.heap.size + 1]? = some (.loop (L .ready none)) := by rw [← hV, ← hs]; exact World.alloc_heap_new _ _
  have v0 : V.heap[w.heap.size]? = some (.deferred (some [])) := by rw [← hV]; exact (Below.heap_alloc _ _ _ (by omega)).trans (World.alloc_heap_new w _)
  have vb : Below w.heap.size w V := by rw [← hV]; exact ((Below.refl _ w).alloc (Nat.le_refl _) _).alloc (by omega) _
  have vs : V.heap.size = w.heap.size + 2 := by rw [← hV, World.size_alloc, hs]
  have vB : w.heap.size ≤ V.heap.size := by omega
  have vI : I [] V := by rw [← hV]; exact hI.alloc _ (hI.alloc _ h0)
  have busy : ∀ W : World, W.heap[w.heap.size + 1]? = some (.loop (L .ready none)) → w.heap.size + 1 < W.heap.size := fun W h => (Array.getElem?_eq_some_iff.1 h).1
  refine ⟨w.heap.size + 1, [{ target := .collected w.heap.size, args := #[] }], V, { target := .fn (.func gf) lb, args := #[.func (.yield (w.heap.size + 1)) #[] #[]] }, V, gf, #[.func (.yield (w.heap.size + 1)) #[] #[]] ++ lb, V,
    by rw [← hV, hL]; exact run_enterLoop_outer _ _ _ _ _, by simp only [resolve, hg]; simp [go_sem], fun f' hf' => by simp [Target.leads] at hf'; subst hf'; exact hFg, by simp [invoke, go_sem, eg], fun _ => h1, ?_⟩
  refine (hseq (w.heap.size + 1) (fun pre W => I pre W ∧ W.heap[w.heap.size + 1]? = some (.loop (L .ready none)) ∧ W.heap[w.heap.size]? = some (.deferred (some []))) V vb ?_ ?_ ⟨vI, v1, v0⟩).mono ?_
  · rintro s X Y row ⟨x1, x2, x3⟩ hgr hr
    have hr' : ∀ r, row = some r → w.heap.size + 2 ≤ r := fun r e => by have := (hr r e).1; omega
    refine ⟨hI s X Y row x1 hgr fun r e => ⟨by have := hr' r e; omega, (hr r e).2⟩, (hgr.block _ (Array.getElem?_eq_some_iff.1 x2).1 fun e => ?_).trans x2, (hgr.block _ (Array.getElem?_eq_some_iff.1 x3).1 fun e => ?_).trans x3⟩
    · have := hr' _ e.symm; omega
    · have := hr' _ e.symm; omega
  · rintro pre x W ⟨x1, x2, x3⟩ hok hlen
    have hy := run_yield (P := P) (args := encs x) x2 (by rw [hL]; exact hps x)
    rw [hL] at hy
    refine ⟨fn, _, assign, body, hy, roundIn_of_wpIn hfn (hassign _ pre x W _ x1 hok fun a' Wa ka kp ia ax => ?_)⟩
    clear hy
    have y2 := ka.same _ _ (by omega) x2 rfl
    have y3 := ka.same _ _ (Nat.le_refl _) x3 rfl
    have hlt := busy Wa y2
    refine ⟨_, run_beginRound y2 (by rw [hL]), ?_⟩
    have z2 : (Wa.putObj (w.heap.size + 1) (.loop { L .ready none with state := .busy })).heap[w.heap.size + 1]? = some (.loop { L .ready none with state := .busy }) := World.putObj_heap_same hlt
    have z3 : (Wa.putObj (w.heap.size + 1) (.loop { L .ready none with state := .busy })).heap[w.heap.size]? = some (.deferred (some [])) := (World.putObj_heap_other (by omega)).trans y3
    refine wpIn_mono (hbody _ pre x a' _ (by omega) (hI.putObj _ ia (by omega) y2 rfl) ((hAx x a').putObj (s := ()) _ ax (by omega) y2 rfl) hlen) ?_
    rintro e a3 W3 hp
    cases e with
    | normal =>
      obtain ⟨k3, p3, i3⟩ := hp
      have u2 := k3.same _ _ (by omega) z2 rfl
      have u3 := k3.same _ _ (Nat.le_refl _) z3 rfl
      have hend := run_endRound (P := P) none u2
      rw [hL] at hend
      refine ⟨_, _, hend, rfl, ⟨hI.putObj _ i3 (by omega) u2 rfl, ?_, (World.putObj_heap_other (by omega)).trans u3⟩, hKt kp (hKt (hKt (hKb _ _ _ y2 rfl rfl) p3) (hKb _ _ _ u2 rfl rfl)),
        ((((keepsFrom_mono ka vB).trans (KeepsFrom.of_grownBy (grownBy_putObj' Wa _ _) fun j e => by cases e; omega)).trans (keepsFrom_mono k3 vB)).trans (KeepsFrom.of_grownBy (grownBy_putObj' W3 _ _) fun j e => by cases e; omega))⟩
      rw [World.putObj_heap_same (Array.getElem?_eq_some_iff.1 u2).1, hL]; rfl
    | ret => exact hp.2.elim
    | exit id => exact hp.2.elim
    | goto t => exact hp.2.elim
    | panic ch => exact hp.elim
    | outgrown => exact hp.elim
  · rintro e W2 ⟨⟨v, rfl⟩, xs, hSx, x1, x2, x3⟩
    have hend := run_endLoop (P := P) x2 (by rw [hL]; simp)
    rw [hL] at hend
    exact ⟨none, _, hend, hdone _ xs _ (Nat.le_refl _) (hS.putObj _ hSx (by omega) x2 rfl) (hI.putObj _ x1 (by omega) x2 rfl) ((World.putObj_heap_other (by omega)).trans x3)⟩
end Go.Proofs.YtamndllolppmoaaGreatDoor
