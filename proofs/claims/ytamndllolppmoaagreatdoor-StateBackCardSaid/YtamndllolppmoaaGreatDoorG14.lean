import Derived.Test.YtamndllolppmoaaGreatDoorG08
import Derived.Test.YtamndllolppmoaaGreatDoorG11
import Derived.Test.YtamndllolppmoaaGreatDoorG13
import Derived.Test.YtamndllolppmoaaGreatDoorG12
import Derived.BigRegion
import Derived.StillTailTactics
import Derived.Test.YtamndllolppmoaaGreatDoorG06
import Derived.Test.YtamndllolppmoaaGreatDoorG01
import Derived.Test.YtamndllolppmoaaGreatDoorG00
import Derived.WalkKit
import Derived.WalkMore
import Derived.Laws.Strings
import Derived.Test.YtamndllolppmoaaGreatDoorG10
import Derived.Lib.BufferWrite
import Derived.Lib.UnsafeStr

/-! Small functions of the project's State: what a node is, and which names there are. -/
namespace Go.Proofs.YtamndllolppmoaaGreatDoor
open Wd Ino Sm Go.RowKit Go.ChangeShapes Go.WideShapes Go.Sort
set_option linter.unusedVariables false
set_option maxRecDepth 100000
def SPtr (g : Nat) : Value := .pointer (some ⟨g, 0, none⟩)
section
variable {w : World} {base m g b : Nat} {S : Stt}
theorem PSt.c0 (h : PSt w base m g b S) : w.cell? ⟨g, 0, none⟩ = some (.map (some b)) := h.cells.cell 0
theorem PSt.c1 (h : PSt w base m g b S) : w.cell? ⟨g, 1, none⟩ = some (.int .i64 S.last) := h.cells.cell 1
theorem PSt.fr (h : PSt w base m g b S) (i : Nat) : w.frozen? ⟨g, i, none⟩ = false := h.cells.free i
theorem OwnNd.ens {n : Nd} (h : OwnNd w base n) : n.names.length ≤ n.bc ∧ Ens w w.heap.size n.B n.names := by
  obtain ⟨A, c, hv, hc, hr⟩ := h.2.form
  injection hv with h1 h2 h3
  rw [h1, h3]; exact ⟨hc, hr⟩
theorem equalIn_map_nil (d : Nat) (t k e : TypeId) (p : Option Nat) (h : Tryz.prog.underlying t = some (.map k e)) (w : World) : (Op.equalIn (d + 1) t (.map p) (.map none)).run Tryz.prog w = .ok p.isNone w := by
  cases p <;> simp [Op.equalIn, run_underlying h]
theorem ne_nilmap (t k e : TypeId) (p : Option Nat) (h : Tryz.prog.underlying t = some (.map k e)) (w : World) : (binOp .neq t (.map p) (.map none)).run Tryz.prog w = .ok (.bool (!p.isNone)) w := by
  simp only [binOp]
  simp [show Op.equal t (.map p) (.map none) = Op.equalIn (9999 + 1) t (.map p) (.map none) from rfl, equalIn_map_nil 9999 t k e p h]

theorem nil_len (N : List Ent) : decide (N = []) = ((N.length : Int) == 0) := by
  cases N with
  | nil => rfl
  | cons a l =>
    have h1 : ((((a :: l).length : Nat) : Int) == 0) = false := by
      rw [List.length_cons]
      simp
      omega
    rw [h1]
    rfl

theorem pMade (h : PSt w base m g b S) : Calls Tryz.prog 32 #[SPtr g] w (Grows (.bool true) w) := by
  have c0 := h.c0
  have q0 := fun w => ne_nilmap 75 _ _ (some b) Tryz.underlying75 w
  clear h
  unfold SPtr
  go_enter Tryz.func32, Tryz.ntmps32
  go_wp2
  go_ret
  exact ⟨rfl, grow_none _⟩

theorem pIs (h : PSt w base m g b S) (x k : Int) (hx : i64R x) : Calls Tryz.prog 34 #[SPtr g, .int .i64 x, .int .i64 k] w (Grows (.bool (decide (kindS S.l x = k))) w) := by
  have c0 := h.c0
  obtain ⟨n, hn, ho, lk⟩ := h.look hx
  have lk0 := lk w rfl
  obtain ⟨i, ki, l, s, u, A, ac, P, B, bc, N⟩ := n
  have hk : kindS S.l x = ki := by unfold kindS; rw [← hn]; rfl
  rw [hk]
  unfold Nd.val at lk0
  dsimp only at lk0
  clear h lk ho hn hk
  unfold SPtr
  by_cases e : ki = k
  · have q0 : decide (ki = k) = true := decide_eq_true e
    rw [q0]
    go_enter Tryz.func34, Tryz.ntmps34
    go_wp2
    go_ret
    exact ⟨rfl, grow_none _⟩
  · have q0 : decide (ki = k) = false := decide_eq_false e
    have q1 : (ki == k) = false := by simpa using e
    rw [q0]
    go_enter Tryz.func34, Tryz.ntmps34
    go_wp2
    go_ret
    exact ⟨rfl, grow_none _⟩

theorem pFree (h : PSt w base m g b S) (hs : SmS S.l) (d : Int) (hd : i64R d) (s : ByteArray) : Calls Tryz.prog 110 #[SPtr g, .int .i64 d, .string s] w (Grows (.bool (freeS S.l d s)) w) := by
  have c0 := h.c0
  obtain ⟨n, hn, ho, lk⟩ := h.look hd
  have lk0 := lk w rfl
  have hsm := hs.get d
  have hN : namesS S.l d = n.names := by unfold namesS; rw [← hn]; rfl
  have hlen : n.names.length ≤ 1000 := by have := hsm.q; rw [← hn] at this; exact Nat.le_trans this (by decide)
  obtain ⟨hbc, hE⟩ := ho.ens
  have KF := Lib.hid (dFind (c := n.bc) hE (Nat.le_refl _) hlen s)
  unfold freeS
  rw [hN]
  obtain ⟨H, hH⟩ : ∃ H, hasN s n.names = H := ⟨_, rfl⟩
  obtain ⟨I, hI⟩ : ∃ H, inoN s n.names = H := ⟨_, rfl⟩
  rw [hH, hI] at KF
  rw [hH]
  have KI2 := Lib.hid (fun w' (hb : Below w.heap.size w w') => pIs (h.below hb) d 2 hd)
  obtain ⟨q, hq⟩ : ∃ q, decide (kindS S.l d = 2) = q := ⟨_, rfl⟩
  rw [hq] at KI2 ⊢
  obtain ⟨i, ki, l, t, u, A, ac, P, B, bc, N⟩ := n
  unfold Nd.val at lk0
  dsimp only at lk0 KF
  clear h lk ho hn hN hs hsm hlen hE hbc hH hI hq
  unfold SPtr at *
  go_enter Tryz.func110, Tryz.ntmps110
  go_wp2_with fail
  refine (KF.out).mono ?_
  rintro e w1 ⟨rfl, q1, os1, rfl⟩
  go_wp2_with fail
  refine (KI2.out _ (below_grow' _ _ _)).mono ?_
  rintro e w2 ⟨rfl, hw2⟩
  have HG := Lib.hid (grow_trans ⟨q1, os1, rfl⟩ hw2)
  clear hw2
  cases q <;> cases H <;> (go_wp2; go_ret; exact ⟨rfl, HG.out⟩)

theorem pHas (h : PSt w base m g b S) (hs : SmS S.l) (d : Int) (hd : i64R d) (s : ByteArray) (i : Int) : Calls Tryz.prog 112 #[SPtr g, .int .i64 d, .string s, .int .i64 i] w (Grows (.bool (hasS S.l d s i)) w) := by
  have c0 := h.c0
  obtain ⟨n, hn, ho, lk⟩ := h.look hd
  have lk0 := lk w rfl
  have hsm := hs.get d
  have hN : namesS S.l d = n.names := by unfold namesS; rw [← hn]; rfl
  have hlen : n.names.length ≤ 1000 := by have := hsm.q; rw [← hn] at this; exact Nat.le_trans this (by decide)
  obtain ⟨hbc, hE⟩ := ho.ens
  have KF := Lib.hid (dFind (c := n.bc) hE (Nat.le_refl _) hlen s)
  unfold hasS
  rw [hN]
  obtain ⟨H, hH⟩ : ∃ H, hasN s n.names = H := ⟨_, rfl⟩
  obtain ⟨I, hI⟩ : ∃ H, inoN s n.names = H := ⟨_, rfl⟩
  rw [hH, hI] at KF
  rw [hH, hI]
  obtain ⟨j, ki, l, t, u, A, ac, P, B, bc, N⟩ := n
  unfold Nd.val at lk0
  dsimp only at lk0 KF
  clear h lk ho hn hN hs hsm hlen hE hbc hH hI
  unfold SPtr at *
  by_cases e : I = i
  · have q0 : decide (I = i) = true := decide_eq_true e
    rw [q0]
    go_enter Tryz.func112, Tryz.ntmps112
    go_wp2_with fail
    refine (KF.out).mono ?_
    rintro e w1 ⟨rfl, HG⟩
    have HG := Lib.hid HG
    cases H <;> (go_wp2; go_ret; exact ⟨rfl, HG.out⟩)
  · have q0 : decide (I = i) = false := decide_eq_false e
    have q1 : (I == i) = false := by simpa using e
    rw [q0]
    go_enter Tryz.func112, Tryz.ntmps112
    go_wp2_with fail
    refine (KF.out).mono ?_
    rintro e w1 ⟨rfl, HG⟩
    have HG := Lib.hid HG
    cases H <;> (go_wp2; go_ret; exact ⟨rfl, HG.out⟩)

theorem pLoose (h : PSt w base m g b S) (i k : Int) (hi : i64R i) : Calls Tryz.prog 113 #[SPtr g, .int .i64 i, .int .i64 k] w (Grows (.bool (looseS S.l i k)) w) := by
  have c0 := h.c0
  obtain ⟨n, hn, ho, lk⟩ := h.look hi
  have hN : namesS S.l i = n.names := by unfold namesS; rw [← hn]; rfl
  have KI2 := Lib.hid (pIs h i k hi)
  have LK := Lib.hid lk
  have HC := Lib.hid h
  unfold looseS
  rw [hN]
  obtain ⟨q, hq⟩ : ∃ q, decide (kindS S.l i = k) = q := ⟨_, rfl⟩
  rw [hq] at KI2 ⊢
  obtain ⟨j, ki, l, t, u, A, ac, P, B, bc, N⟩ := n
  unfold Nd.val at LK
  dsimp only at LK ⊢
  clear h lk ho hn hN hq
  unfold SPtr at *
  have nl : decide (N = []) = ((N.length : Int) == 0) := nil_len N
  rw [nl]
  by_cases e1 : i = 1
  · have q1 : decide (i = 1) = true := decide_eq_true e1
    have q2 : (i == 1) = true := by simpa using e1
    have q4 : (i != 1) = false := by simpa using e1
    rw [q1]
    clear e1 nl
    go_enter Tryz.func113, Tryz.ntmps113
    go_wp2_with fail
    refine (KI2.out).mono ?_
    rintro e w1 ⟨rfl, HG⟩
    have HG := Lib.hid HG
    cases q <;> (go_wp2; go_ret; exact ⟨rfl, HG.out⟩)
  · have q1 : decide (i = 1) = false := decide_eq_false e1
    have q2 : (i == 1) = false := by simpa using e1
    have q4 : (i != 1) = true := by simpa using e1
    rw [q1]
    clear e1 nl
    obtain ⟨z, hz⟩ : ∃ z, ((N.length : Int) == 0) = z := ⟨_, rfl⟩
    rw [hz]
    go_enter Tryz.func113, Tryz.ntmps113
    go_wp2_with fail
    refine (KI2.out).mono ?_
    rintro e w1 ⟨rfl, q3, os3, rfl⟩
    have hb := below_grow' w q3 os3
    have c0 := HC.out.cells.below' hb
    have c0 := c0.cell 0
    have lk0 := LK.out _ (hb.block b HC.out.blt)
    have HG := Lib.hid (show ∃ q os, grow (w.drewN q3) os3 = grow (w.drewN q) os from ⟨q3, os3, rfl⟩)
    clear hb
    obtain ⟨w2, hw2⟩ : ∃ w2, grow (w.drewN q3) os3 = w2 := ⟨_, rfl⟩
    rw [hw2] at c0 lk0 HG ⊢
    clear hw2
    cases q <;> cases z <;> (go_wp2; go_ret; exact ⟨rfl, HG.out⟩)
end
end Go.Proofs.YtamndllolppmoaaGreatDoor

/-! The document's State in memory: a row of nodes that may be shorter than its block. -/
namespace Go.Proofs.YtamndllolppmoaaGreatDoor
open Wd Ino Sm Go.RowKit Go.ChangeShapes Go.WideShapes Go.Sort
set_option linter.unusedVariables false
set_option maxRecDepth 100000
/-- a row that is owned, in a block that may be greater than its room -/
def RowP (w : World) (base : Nat) (e : TypeId) (sz : Nat) (v : Value) (n : Nat) (xs : List Value) : Prop := xs.length = n * sz ∧ ((v = .slice none 0 0 ∧ n = 0) ∨
  ∃ g cap cur, v = .slice (some ⟨g, 0, none⟩) n cap ∧ base ≤ g ∧ Cells w g e cur ∧ n ≤ cap ∧ cap ≤ maxLen ∧ cap * sz ≤ cur.size ∧ cur.toList.take (n * sz) = xs)
theorem RowP.of {w : World} {base sz n : Nat} {e : TypeId} {v : Value} {xs : List Value} (h : w.ownsRow base e sz v n xs) : RowP w base e sz v n xs := by
  refine ⟨h.1, ?_⟩
  rcases h.2 with ⟨rfl, rfl⟩ | ⟨g, cap, cur, hv, hb, hh, h1, h2, hs, ht⟩
  · exact .inl ⟨rfl, rfl⟩
  · exact .inr ⟨g, cap, cur, hv, hb, hh, h1, h2, by rw [hs]; exact Nat.le_refl _, ht⟩
theorem KeepC.rowP {w w' : World} {Ts : List TypeId} (h : KeepC Ts w w') {base n sz : Nat} {e : TypeId} {v : Value} {xs : List Value} (he : e ∉ Ts) (ho : RowP w base e sz v n xs) : RowP w' base e sz v n xs := by
  refine ⟨ho.1, ?_⟩
  rcases ho.2 with ho | ⟨g, cap, cur, hv, hb, hh, h1⟩
  · exact .inl ho
  · exact .inr ⟨g, cap, cur, hv, hb, h _ _ _ he hh, h1⟩
structure DSx (w : World) (base g : Nat) (Ls : List Nd) (v : Value) (S : Stt) : Prop where
  lo : base ≤ g
  cells : Cells w g 45 #[v, .int .i64 S.last]
  row : RowP w base 38 7 v Ls.length (ndvals Ls)
  own : ∀ n ∈ Ls, OwnNd w base n
  eq : Ls.map Nd.plain = S.l
end Go.Proofs.YtamndllolppmoaaGreatDoor

/-! The document's State: where a node stands, of which kind it is, and which node has a name. -/
namespace Go.Proofs.YtamndllolppmoaaGreatDoor
open Wd Ino Sm Go.RowKit Go.ChangeShapes Go.WideShapes Go.Sort
set_option linter.unusedVariables false
set_option maxRecDepth 100000
theorem flat_at {α : Type} {f : α → List Value} {K : Nat} (hK : ∀ a, (f a).length = K) : ∀ (l : List α) (j k : Nat) (x : α) (y : Value), l[j]? = some x → (f x)[k]? = some y → (l.flatMap f)[j * K + k]? = some y := by
  intro l
  induction l with
  | nil => intro j k e x hj; simp at hj
  | cons q l ih =>
    intro j k e x hj hk
    rw [List.flatMap_cons]
    cases j with
    | zero =>
      simp at hj
      subst hj
      have : k < (f q).length := (List.getElem?_eq_some_iff.1 hk).1
      rw [Nat.zero_mul, Nat.zero_add, List.getElem?_append_left this]
      exact hk
    | succ j =>
      rw [List.getElem?_append_right (by rw [hK, Nat.add_mul]; omega), hK, show (j + 1) * K + k - K = j * K + k by rw [Nat.add_mul]; omega]
      exact ih j k e x (by simpa using hj) hk
theorem flat_len {α : Type} {f : α → List Value} {K : Nat} (hK : ∀ a, (f a).length = K) (l : List α) : (l.flatMap f).length = l.length * K := by
  induction l with
  | nil => simp
  | cons a l ih => rw [List.flatMap_cons, List.length_append, ih, hK, List.length_cons, Nat.add_mul]; omega
theorem cells_len (n : Nd) : n.cells.length = 7 := rfl
/-- a row that is owned, of elements of any size: each cell -/
theorem ownK_cell {w : World} {base n sz g cap : Nat} {e : TypeId} {xs : List Value} (h : RowP w base e sz (.slice (some ⟨g, 0, none⟩) n cap) n xs) {k : Nat} {u : Value} (hk : xs[k]? = some u) : w.cell? ⟨g, k, none⟩ = some u ∧ w.frozen? ⟨g, k, none⟩ = false ∧ base ≤ g := by
  have hl := h.1
  rcases h.2 with ⟨h0, _⟩ | ⟨g', cap', cur, hv, hb, hh, h1, h2, hs, ht⟩
  · cases h0
  · injection hv with hv _ hc
    injection hv with hv
    injection hv with hv
    subst hv hc
    have hkn : k < n * sz := by have := (List.getElem?_eq_some_iff.1 hk).1; omega
    have hc : Cells w g e cur := hh
    refine ⟨?_, hc.free k, hb⟩
    rw [hc.cell k]
    rw [← ht, List.getElem?_take_of_lt hkn] at hk
    simpa using hk
theorem ownK_set {w : World} {base n sz g cap : Nat} {e : TypeId} {xs : List Value} (h : RowP w base e sz (.slice (some ⟨g, 0, none⟩) n cap) n xs) (k : Nat) (u : Value) : RowP (w.setCell ⟨g, k, none⟩ u) base e sz (.slice (some ⟨g, 0, none⟩) n cap) n (xs.set k u) := by
  rcases h with ⟨hl, h⟩
  refine ⟨by rw [List.length_set]; exact hl, ?_⟩
  rcases h with ⟨h0, _⟩ | ⟨g', cap', cur, hv, hb, hh, h1, h2, hs, ht⟩
  · cases h0
  · injection hv with hv _ hc
    injection hv with hv
    injection hv with hv
    subst hv hc
    refine .inr ⟨g, cap, cur.setIfInBounds k u, rfl, hb, Cells.set hh k u, h1, h2, by rw [Array.size_setIfInBounds]; exact hs, ?_⟩
    rw [Array.toList_setIfInBounds, List.take_set, ht]
theorem ownK_form {w : World} {base n sz : Nat} {e : TypeId} {v : Value} {xs : List Value} (h : RowP w base e sz v n xs) : ∃ A c, v = .slice A n c ∧ n ≤ c ∧ (0 < n → ∃ gL, A = some ⟨gL, 0, none⟩) := by
  rcases h.2 with ⟨rfl, rfl⟩ | ⟨g, cap, cur, rfl, hb, hh, hc, _⟩
  · exact ⟨none, 0, rfl, Nat.le_refl _, fun h => by omega⟩
  · exact ⟨_, cap, rfl, hc, fun _ => ⟨g, rfl⟩⟩
section
variable {w w' : World} {base g : Nat} {Ls : List Nd} {v : Value} {S : Stt}
theorem DSx.len (h : DSx w base g Ls v S) : S.l.length = Ls.length := by rw [← h.eq]; simp
theorem DSx.form (h : DSx w base g Ls v S) : ∃ A c, v = .slice A Ls.length c ∧ Ls.length ≤ c ∧ ∀ k n, Ls[k]? = some n → ∃ gL, A = some ⟨gL, 0, none⟩ ∧ base ≤ gL ∧ ∀ j u, n.cells[j]? = some u → w.cell? ⟨gL, k * 7 + j, none⟩ = some u ∧ w.frozen? ⟨gL, k * 7 + j, none⟩ = false := by
  obtain ⟨A, c, rfl, hc, hA⟩ := ownK_form h.row
  refine ⟨A, c, rfl, hc, fun k n hk => ?_⟩
  obtain ⟨gL, rfl⟩ := hA (by have := (List.getElem?_eq_some_iff.1 hk).1; omega)
  have hb : base ≤ gL := by
    have h0 := flat_at cells_len Ls k 0 n (.int .i64 n.ino) hk rfl
    exact (ownK_cell h.row h0).2.2
  exact ⟨gL, rfl, hb, fun j u hj => by
    have h1 := ownK_cell h.row (flat_at cells_len Ls k j n u hk hj)
    exact ⟨h1.1, h1.2.1⟩⟩
theorem DSx.keep (h : DSx w base g Ls v S) {Ts : List TypeId} (hk : KeepC Ts w w') (h1 : 3 ∉ Ts) (h2 : 97 ∉ Ts) (h3 : 38 ∉ Ts) (h4 : 45 ∉ Ts) : DSx w' base g Ls v S :=
  ⟨h.lo, hk _ _ _ h4 h.cells, hk.rowP h3 h.row, fun n hn => (h.own n hn).keep hk h1 h2, h.eq⟩
theorem DSx.below (h : DSx w base g Ls v S) (hb : Below w.heap.size w w') : DSx w' base g Ls v S := h.keep (KeepC.of (Ts := []) hb) (by simp) (by simp) (by simp) (by simp)
theorem DSx.c0 (h : DSx w base g Ls v S) : w.cell? ⟨g, 0, none⟩ = some v := h.cells.cell 0
theorem DSx.c1 (h : DSx w base g Ls v S) : w.cell? ⟨g, 1, none⟩ = some (.int .i64 S.last) := h.cells.cell 1
def idxS (l : List Nod) (i : Int) : Nat := l.findIdx (fun n => decide (n.ino = i))
def atI (l : List Nod) (i : Int) : Int := if idxS l i < l.length then (idxS l i : Int) else -1
theorem idx_at {l : List Nod} {i : Int} {k : Nat} {n : Nod} (h0 : ∀ x ∈ l.take k, x.ino ≠ i) (hk : l[k]? = some n) (hn : n.ino = i) : idxS l i = k := by
  unfold idxS
  have hkl := (List.getElem?_eq_some_iff.1 hk).1
  have e : l = l.take k ++ l.drop k := (List.take_append_drop k l).symm
  rw [e, List.findIdx_append]
  have h1 : (l.take k).findIdx (fun n => decide (n.ino = i)) = (l.take k).length := List.findIdx_eq_length.2 fun x hx => by simpa using h0 x hx
  rw [h1, if_neg (by omega), List.drop_eq_getElem_cons hkl, List.findIdx_cons, List.length_take]
  have h2 : l[k] = n := (List.getElem?_eq_some_iff.1 hk).2
  rw [h2]
  simp [hn]
  omega
theorem idx_none {l : List Nod} {i : Int} (h0 : ∀ x ∈ l, x.ino ≠ i) : idxS l i = l.length := by
  unfold idxS
  exact List.findIdx_eq_length.2 fun x hx => by simpa using h0 x hx
theorem idx_some {l : List Nod} {i : Int} {n : Nod} (h : atS l i = some n) : idxS l i < l.length ∧ l[idxS l i]? = some n := by
  induction l with
  | nil => cases h
  | cons a l ih =>
    rw [atS_cons] at h
    unfold idxS
    rw [List.findIdx_cons]
    by_cases e : a.ino = i
    · rw [if_pos e] at h
      obtain rfl := Option.some.inj h
      simp [e]
    · rw [if_neg e] at h
      obtain ⟨h1, h2⟩ := ih h
      unfold idxS at h1 h2
      rw [show decide (a.ino = i) = false from decide_eq_false e]
      refine ⟨?_, ?_⟩
      · show List.findIdx (fun n => decide (n.ino = i)) l + 1 < (a :: l).length
        rw [List.length_cons]; omega
      · show (a :: l)[List.findIdx (fun n => decide (n.ino = i)) l + 1]? = some n
        rw [List.getElem?_cons_succ]; exact h2
theorem atI_some {l : List Nod} {i : Int} {n : Nod} (h : atS l i = some n) : atI l i = (idxS l i : Int) := by unfold atI; rw [if_pos (idx_some h).1]
theorem atI_none {l : List Nod} {i : Int} (h : atS l i = none) : atI l i = -1 := by unfold atI; rw [if_neg (by rw [idx_none (atS_none.1 h)]; omega)]
def AtRel (l : List Nod) (i : Int) (w : World) (x : Value) (wr : World) : Prop := ∃ k : Nat, k ≤ l.length ∧ x = .int .i64 k ∧ (∀ n ∈ l.take k, n.ino ≠ i) ∧ ∃ q os, wr = grow (w.drewN q) os
theorem rAt (h : DSx w base g Ls v S) (hlen : Ls.length ≤ 1000) (i : Int) : Calls Tryz.prog 14 #[SPtr g, .int .i64 i] w (Grows (.int .i64 (atI S.l i)) w) := by
  have H := Lib.hid h
  have HL := Lib.hid h.len
  obtain ⟨A, c, rfl, hc, _⟩ := h.form
  have c0 := h.c0
  clear h hc
  unfold SPtr
  go_enter Tryz.func14, Tryz.ntmps14
  go_wp2
  go_loopw [12] (fun x wr => AtRel S.l i w x wr) (fun x _ => Ls.length - (intOf x).toNat)
  case atStart => exact ⟨0, Nat.zero_le _, rfl, by simp, grow_none _⟩
  case round =>
    obtain ⟨k, hk, rfl, hno, hgr⟩ := hrel
    have HNO := Lib.hid hno; have HG := Lib.hid hgr
    have h2 := H.out.below (grown_b hgr)
    rw [HL.out] at hk
    by_cases hlt : k < Ls.length
    · obtain ⟨n, hn⟩ : ∃ n, Ls[k]? = some n := ⟨_, List.getElem?_eq_getElem hlt⟩
      have HN := Lib.hid (show S.l[k]? = some n.plain by rw [← H.out.eq, List.getElem?_map, hn]; rfl)
      obtain ⟨A', c', hv, _, hF⟩ := h2.form
      injection hv with hv1 hv2 hv3
      obtain ⟨gL, hA, _, hx⟩ := hF k n hn
      have hA2 : A = some ⟨gL, 0, none⟩ := hv1.trans hA
      subst hA2
      obtain ⟨j, ki, l, t, u, A0, ac, P, B, bc, N⟩ := n
      obtain ⟨off, hoff⟩ : ∃ off, k * 7 = off := ⟨_, rfl⟩
      rw [hoff] at hx
      have x0 := (hx 0 _ rfl).1; have x1 := (hx 1 _ rfl).1; have x2 := (hx 2 _ rfl).1; have x3 := (hx 3 _ rfl).1; have x4 := (hx 4 _ rfl).1; have x5 := (hx 5 _ rfl).1; have x6 := (hx 6 _ rfl).1
      have hlt2 : (k : Int) < (Ls.length : Int) := Int.ofNat_lt.2 hlt
      dsimp only at x0 x1 x2 x3 x4 x5 x6
      rw [← hoff] at x0 x1 x2 x3 x4 x5 x6
      rw [Nat.add_zero] at x0
      clear hno hgr h2 hn hv1 hv2 hv3 hA hF hx hoff
      by_cases e : j = i
      · have q0 : (j == i) = true := by simpa using e
        have HR := Lib.hid (show atI S.l i = (k : Int) by
          have h3 := idx_at HNO.out HN.out e
          unfold atI
          rw [h3, if_pos (by rw [HL.out]; exact hlt)])
        clear e
        go_wp2
        go_ret
        rw [HR.out]
        exact ⟨rfl, grow_alloc HG.out _⟩
      · have q0 : (j == i) = false := by simpa using e
        have HNX := Lib.hid (show ∀ x ∈ S.l.take (k + 1), x.ino ≠ i by
          rw [take_snocE HN.out]
          intro x hx
          rcases List.mem_append.1 hx with hx | hx
          · exact HNO.out x hx
          · rw [List.mem_singleton.1 hx]; exact e)
        have HKL := Lib.hid (show k + 1 ≤ S.l.length by rw [HL.out]; omega)
        clear e
        go_wp2
        go_roundw
        case rel => exact ⟨k + 1, HKL.out, by go_num, HNX.out, grow_alloc HG.out _⟩
        case measure => simp [intOf]; omega
    · obtain rfl : k = Ls.length := by omega
      have HR := Lib.hid (show atI S.l i = -1 by
        have h3 := HNO.out
        rw [← HL.out, List.take_length] at h3
        exact atI_none (atS_none.2 h3))
      clear hno hgr h2
      go_wp2
      go_ret
      rw [HR.out]
      exact ⟨rfl, HG.out⟩
end
end Go.Proofs.YtamndllolppmoaaGreatDoor

/-! The project's State: a name comes, a name goes, a directory moves, a node goes. -/
namespace Go.Proofs.YtamndllolppmoaaGreatDoor
open Wd Ino Sm Go.RowKit Go.ChangeShapes Go.WideShapes Go.Sort
set_option linter.unusedVariables false
set_option maxRecDepth 100000
theorem at_modS {l : List Nod} {d : Int} {f : Nod → Nod} {n : Nod} (hf : ∀ n, (f n).ino = n.ino) (h : atS l d = some n) : ∀ i, atS (modS l d f) i = if i = d then some (f n) else atS l i := by
  intro i
  rw [atS_mod hf]
  by_cases e : i = d
  · subst e; rw [h]; simp
  · rw [if_neg e]
    cases hi : atS l i with
    | none => rfl
    | some k => simp [e]
theorem getS_some {l : List Nod} {d : Int} {n : Nod} (h : atS l d = some n) : getS l d = n := by unfold getS; rw [h]; rfl
theorem putR_eq (s : ByteArray) (i : Int) (l : List Ent) : putNm.putR' s i l = putR s i l := rfl
/-- it returns nothing; the state is S' -/
def PGo (S' : Stt) (base m g b : Nat) (w : World) (e : Ending) (w' : World) : Prop := e = .returned (.tuple #[]) ∧ PSt w' base m g b S' ∧ Trn w w' [g, b]
section
variable {w : World} {base m g b : Nat} {S : Stt}
theorem pEnter (h : PSt w base m g b S) (hs : SmS S.l) (hm : m < 1000000) (d : Int) (hd : i64R d) {n0 : Nod} (h0 : atS S.l d = some n0) (s : ByteArray) (hsz : s.size ≤ 1000) (i : Int) :
    Calls Tryz.prog 111 #[SPtr g, .int .i64 d, .string s, .int .i64 i] w (PGo ⟨enterS S.l d s i, S.last⟩ base (m + 1) g b w) := by
  have c0 := h.c0
  obtain ⟨n, hn, ho, lk⟩ := h.look hd
  have lk0 := lk w rfl
  have hsm := hs.get d
  rw [getS_some h0] at hn hsm
  have hlen : n.names.length ≤ 1000 := by have := hsm.q; rw [← hn] at this; exact Nat.le_trans this (by decide)
  have hes : ∀ e ∈ n.names, e.s.size ≤ 1000 := by have := hsm.sz; rw [← hn] at this; exact this
  obtain ⟨hbc, hE⟩ := ho.ens
  obtain ⟨j, ki, l, t, u, A, ac, P, B, bc, N⟩ := n
  dsimp only at hlen hes hE
  have hg1 := below_of_grown (World.grownBy_alloc w (.cells (ncells j ki l t u (.slice A P.length ac) (.slice B N.length bc)) 38) none)
  have hc1 := Cells.new w 38 (ncells j ki l t u (.slice A P.length ac) (.slice B N.length bc))
  have x6 := hc1.cell 6
  have f6 := hc1.free 6
  have KP := Lib.hid (dPutO (c := bc) (hE.below hg1) hg1.size hlen hes s hsz i)
  have HC1 := Lib.hid hc1; have HG1 := Lib.hid hg1; have H := Lib.hid h; have HO := Lib.hid ho
  have HN := Lib.hid hn; have H0 := Lib.hid h0; have HM := Lib.hid hm; have HD := Lib.hid hd
  unfold ncells at x6 f6 HC1 HG1 KP
  unfold Nd.val at lk0
  dsimp only at lk0
  clear h lk ho hn hs hsm hlen hes hE hbc h0 hc1 hg1 hm hd
  unfold SPtr at *
  go_enter Tryz.func111, Tryz.ntmps111
  go_wp2_with fail
  refine (KP.out).mono ?_
  rintro e w2 ⟨B2, bc2, rfl, hb2, hO2, hw2⟩
  have hcx := HC1.out.below' hw2
  have y6 := hcx.cell 6
  have g6 := hcx.free 6
  have HCX := Lib.hid hcx
  have HB2 := Lib.hid (HG1.out.trans (hw2.mono HG1.out.size))
  have HO2 := Lib.hid (hO2.mono HG1.out.size)
  have HP := Lib.hid (show putR s i N = (putNm s i ⟨j, ki, l, t, u, P, N⟩).names from rfl)
  clear hcx hw2 hO2 hb2 KP
  go_wp2_with fail
  obtain ⟨V, hV⟩ : ∃ V, Value.slice B2 (putR s i N).length bc2 = V := ⟨_, rfl⟩
  have HV := Lib.hid hV
  rw [hV]
  obtain ⟨w3, hw3⟩ : ∃ w3, w2.setCell ⟨w.heap.size, 6, none⟩ V = w3 := ⟨_, rfl⟩
  have h2 := H.out.below HB2.out
  have hb3 : Below w.heap.size w w3 := by rw [← hw3]; exact HB2.out.setCell (p := ⟨w.heap.size, 6, none⟩) (Nat.le_refl _) V
  have hcb : Cells w3 w.heap.size 38 (ncells j ki l t u (.slice A P.length ac) V) := by rw [← hw3]; exact HCX.out.set 6 V
  have ho3 : OwnE w3 w.heap.size V (putR s i N) := by rw [← hw3, ← HV.out]; exact own_apart HO2.out HCX.out (by decide) 6 _
  have H3 := Lib.hid (h2.below (Below.refl _ _) |> fun _ => H.out.below hb3)
  have c03 := H3.out.c0
  obtain ⟨z0, z1, z2, z3, z4, z5, z6⟩ := cells7 hcb
  rw [hw3]
  have HB3 := Lib.hid hb3; have HO3 := Lib.hid ho3
  clear hV hw3 h2 hb3 hcb ho3 y6 g6 x6 f6 c0 lk0
  go_still_tail 6, (by kernel_rfl)
  change wpList _ _ _ _ _ w3.drew
  obtain ⟨w4, hrun, hP4, hT4⟩ := (H3.out.below (Below.refl _ _).drew).store HM.out HD.out (x := d) (n := ⟨j, ki, l, t, u, A, ac, P, B2, bc2, putR s i N⟩)
    ⟨by exact (HO.out.below HB3.out).1, by rw [HV.out]; exact (HO3.out.mono (Nat.le_of_lt_succ (Nat.lt_succ_of_le (by have := H.out.lo; have := H.out.cells.lt; omega))))⟩
    (l' := enterS S.l d s i) (fun x => by rw [show enterS S.l d s i = modS S.l d (putNm s i) from rfl, at_modS (f := putNm s i) (fun _ => rfl) H0.out, ← HN.out]; rfl)
  unfold Nd.val at hrun
  dsimp only at hrun
  rw [HV.out] at hrun
  have HP4 := Lib.hid hP4
  have HT4 := Lib.hid ((Trn.of HB3.out).drew.trans (Trn.map hT4 (S := [g, b]) (by simp)))
  clear hP4 hT4
  go_wp2
  go_end0
  exact ⟨rfl, HP4.out, HT4.out⟩
theorem pLeave (h : PSt w base m g b S) (hs : SmS S.l) (hm : m < 1000000) (d : Int) (hd : i64R d) {n0 : Nod} (h0 : atS S.l d = some n0) (s : ByteArray) :
    Calls Tryz.prog 115 #[SPtr g, .int .i64 d, .string s] w (PGo ⟨leaveS S.l d s, S.last⟩ base (m + 1) g b w) := by
  have c0 := h.c0
  obtain ⟨n, hn, ho, lk⟩ := h.look hd
  have lk0 := lk w rfl
  have hsm := hs.get d
  rw [getS_some h0] at hn hsm
  have hlen : n.names.length ≤ 1000 := by have := hsm.q; rw [← hn] at this; exact Nat.le_trans this (by decide)
  have hes : ∀ e ∈ n.names, e.s.size ≤ 1000 := by have := hsm.sz; rw [← hn] at this; exact this
  obtain ⟨hbc, hE⟩ := ho.ens
  obtain ⟨j, ki, l, t, u, A, ac, P, B, bc, N⟩ := n
  dsimp only at hlen hes hE
  have hg1 := below_of_grown (World.grownBy_alloc w (.cells (ncells j ki l t u (.slice A P.length ac) (.slice B N.length bc)) 38) none)
  have hc1 := Cells.new w 38 (ncells j ki l t u (.slice A P.length ac) (.slice B N.length bc))
  have x6 := hc1.cell 6
  have f6 := hc1.free 6
  have KP := Lib.hid (dDropO (c := bc) (hE.below hg1) hg1.size hlen hes s)
  have HC1 := Lib.hid hc1; have HG1 := Lib.hid hg1; have H := Lib.hid h; have HO := Lib.hid ho
  have HN := Lib.hid hn; have H0 := Lib.hid h0; have HM := Lib.hid hm; have HD := Lib.hid hd
  unfold ncells at x6 f6 HC1 HG1 KP
  unfold Nd.val at lk0
  dsimp only at lk0
  clear h lk ho hn hs hsm hlen hes hE hbc h0 hc1 hg1 hm hd
  unfold SPtr at *
  go_enter Tryz.func115, Tryz.ntmps115
  go_wp2_with fail
  refine (KP.out).mono ?_
  rintro e w2 ⟨B2, bc2, rfl, hb2, hO2, hw2⟩
  have hcx := HC1.out.below' hw2
  have y6 := hcx.cell 6
  have g6 := hcx.free 6
  have HCX := Lib.hid hcx
  have HB2 := Lib.hid (HG1.out.trans (hw2.mono HG1.out.size))
  have HO2 := Lib.hid (hO2.mono HG1.out.size)
  have HP := Lib.hid (show dropN s N = (cutNm s ⟨j, ki, l, t, u, P, N⟩).names from rfl)
  clear hcx hw2 hO2 hb2 KP
  go_wp2_with fail
  obtain ⟨V, hV⟩ : ∃ V, Value.slice B2 (dropN s N).length bc2 = V := ⟨_, rfl⟩
  have HV := Lib.hid hV
  rw [hV]
  obtain ⟨w3, hw3⟩ : ∃ w3, w2.setCell ⟨w.heap.size, 6, none⟩ V = w3 := ⟨_, rfl⟩
  have h2 := H.out.below HB2.out
  have hb3 : Below w.heap.size w w3 := by rw [← hw3]; exact HB2.out.setCell (p := ⟨w.heap.size, 6, none⟩) (Nat.le_refl _) V
  have hcb : Cells w3 w.heap.size 38 (ncells j ki l t u (.slice A P.length ac) V) := by rw [← hw3]; exact HCX.out.set 6 V
  have ho3 : OwnE w3 w.heap.size V (dropN s N) := by rw [← hw3, ← HV.out]; exact own_apart HO2.out HCX.out (by decide) 6 _
  have H3 := Lib.hid (h2.below (Below.refl _ _) |> fun _ => H.out.below hb3)
  have c03 := H3.out.c0
  obtain ⟨z0, z1, z2, z3, z4, z5, z6⟩ := cells7 hcb
  rw [hw3]
  have HB3 := Lib.hid hb3; have HO3 := Lib.hid ho3
  clear hV hw3 h2 hb3 hcb ho3 y6 g6 x6 f6 c0 lk0
  go_still_tail 6, (by kernel_rfl)
  change wpList _ _ _ _ _ w3.drew
  obtain ⟨w4, hrun, hP4, hT4⟩ := (H3.out.below (Below.refl _ _).drew).store HM.out HD.out (x := d) (n := ⟨j, ki, l, t, u, A, ac, P, B2, bc2, dropN s N⟩)
    ⟨by exact (HO.out.below HB3.out).1, by rw [HV.out]; exact (HO3.out.mono (Nat.le_of_lt_succ (Nat.lt_succ_of_le (by have := H.out.lo; have := H.out.cells.lt; omega))))⟩
    (l' := leaveS S.l d s) (fun x => by rw [show leaveS S.l d s = modS S.l d (cutNm s) from rfl, at_modS (f := cutNm s) (fun _ => rfl) H0.out, ← HN.out]; rfl)
  unfold Nd.val at hrun
  dsimp only at hrun
  rw [HV.out] at hrun
  have HP4 := Lib.hid hP4
  have HT4 := Lib.hid ((Trn.of HB3.out).drew.trans (Trn.map hT4 (S := [g, b]) (by simp)))
  clear hP4 hT4
  go_wp2
  go_end0
  exact ⟨rfl, HP4.out, HT4.out⟩
theorem pMoveTo (h : PSt w base m g b S) (hm : m < 1000000) (d : Int) (hd : i64R d) {n0 : Nod} (h0 : atS S.l d = some n0) (u' : Int) :
    Calls Tryz.prog 116 #[SPtr g, .int .i64 d, .int .i64 u'] w (PGo ⟨modS S.l d (setUp u'), S.last⟩ base (m + 1) g b w) := by
  have c0 := h.c0
  obtain ⟨n, hn, ho, lk⟩ := h.look hd
  have lk0 := lk w rfl
  rw [getS_some h0] at hn
  obtain ⟨j, ki, l, t, u, A, ac, P, B, bc, N⟩ := n
  have hc1 := Cells.new w 38 (ncells j ki l t u' (.slice A P.length ac) (.slice B N.length bc))
  obtain ⟨z0, z1, z2, z3, z4, z5, z6⟩ := cells7 hc1
  have hg1 := below_of_grown (World.grownBy_alloc w (.cells (ncells j ki l t u' (.slice A P.length ac) (.slice B N.length bc)) 38) none)
  have c01 := (h.below hg1).c0
  have HG1 := Lib.hid hg1; have H := Lib.hid h; have HO := Lib.hid ho
  have HN := Lib.hid hn; have H0 := Lib.hid h0; have HM := Lib.hid hm; have HD := Lib.hid hd
  unfold ncells at z0 z1 z2 z3 z4 z5 z6 HG1 c01
  unfold Nd.val at lk0
  dsimp only at lk0
  clear h lk ho hn h0 hc1 hg1 hm hd
  unfold SPtr at *
  go_enter Tryz.func116, Tryz.ntmps116
  go_wp2_with fail
  obtain ⟨w3, hw3⟩ : ∃ w3, w.alloc (.cells #[.int .i64 j, .int .i64 ki, .int .i64 l, .int .i64 t, .int .i64 u', .slice A P.length ac, .slice B N.length bc] 38) = w3 := ⟨_, rfl⟩
  rw [hw3] at HG1 z0 z1 z2 z3 z4 z5 z6 c01 ⊢
  clear hw3 c0 lk0
  go_still_tail 6, (by kernel_rfl)
  change wpList _ _ _ _ _ w3.drew
  obtain ⟨w4, hrun, hP4, hT4⟩ := (H.out.below HG1.out.drew).store HM.out HD.out (x := d) (n := ⟨j, ki, l, t, u', A, ac, P, B, bc, N⟩)
    (show OwnNd _ base ⟨j, ki, l, t, u, A, ac, P, B, bc, N⟩ from HO.out.below HG1.out.drew)
    (l' := modS S.l d (setUp u')) (fun x => by rw [at_modS (f := setUp u') (fun _ => rfl) H0.out, ← HN.out]; rfl)
  unfold Nd.val at hrun
  dsimp only at hrun
  have HP4 := Lib.hid hP4
  have HT4 := Lib.hid ((Trn.of HG1.out).drew.trans (Trn.map hT4 (S := [g, b]) (by simp)))
  clear hP4 hT4
  go_wp2
  go_end0
  exact ⟨rfl, HP4.out, HT4.out⟩
end
end Go.Proofs.YtamndllolppmoaaGreatDoor

/-! The project's State: a node loses a name. -/
namespace Go.Proofs.YtamndllolppmoaaGreatDoor
open Wd Ino Sm Go.RowKit Go.ChangeShapes Go.WideShapes Go.Sort
set_option linter.unusedVariables false
set_option maxRecDepth 100000
section
variable {w : World} {base m g b : Nat} {S : Stt}
theorem pForget (h : PSt w base m g b S) (hs : SmS S.l) (hm : m < 999999) (d : Int) (hd : i64R d) {n0 n1 : Nod} (h0 : atS S.l d = some n0) (s : ByteArray) (i : Int) (hi : i64R i) (h1 : atS (leaveS S.l d s) i = some n1) (hl : 0 ≤ n1.links) (hl2 : n1.links ≤ 1000) :
    Calls Tryz.prog 114 #[SPtr g, .int .i64 d, .string s, .int .i64 i] w (PGo ⟨forgetS S.l d s i, S.last⟩ base (m + 2) g b w) := by
  have KL := Lib.hid (pLeave h hs (by omega) d hd h0 s)
  have H := Lib.hid h; have H1 := Lib.hid h1; have HM := Lib.hid hm; have HI := Lib.hid hi
  have HF := Lib.hid (show forgetS S.l d s i = if n1.kind = 2 then rmS (leaveS S.l d s) i else modS (leaveS S.l d s) i lessLk by
    unfold forgetS kindS; rw [getS_some h1])
  clear h hs h0 h1 hm hi
  unfold SPtr at *
  go_enter Tryz.func114, Tryz.ntmps114
  go_wp2_with fail
  refine (KL.out).mono ?_
  rintro e w1 ⟨rfl, h2, t2⟩
  have c0 := h2.c0
  obtain ⟨n, hn, ho, lk⟩ := h2.look HI.out
  have lk0 := lk w1 rfl
  rw [getS_some H1.out] at hn
  have H2 := Lib.hid h2; have T2 := Lib.hid t2; have HO := Lib.hid ho
  obtain ⟨j, ki, l, t, u, A, ac, P, B, bc, N⟩ := n
  have hn1 : n1 = ⟨j, ki, l, t, u, P, N⟩ := hn.symm
  subst hn1
  dsimp only at hl hl2
  have HF := Lib.hid (show forgetS S.l d s i = if ki = 2 then rmS (leaveS S.l d s) i else modS (leaveS S.l d s) i lessLk from HF.out)
  unfold Nd.val at lk0
  dsimp only at lk0
  have w9 : wrap64 (l - 1) = l - 1 := by unfold wrap64; omega
  by_cases hk : ki = 2
  · have q0 : (ki == 2) = true := by simpa using hk
    have HF2 := Lib.hid (show forgetS S.l d s i = rmS (leaveS S.l d s) i by rw [HF.out, if_pos hk])
    have hg1 := below_of_grown (World.grownBy_alloc w1 (.cells (ncells j ki l t u (.slice A P.length ac) (.slice B N.length bc)) 38) none)
    have c01 := (H2.out.below hg1).c0
    obtain ⟨w4, hrun, hP4, hT4⟩ := (H2.out.below hg1).drop HI.out (l' := rmS (leaveS S.l d s) i) (fun x => atS_rm _ _ _) 0
    have HP4 := Lib.hid hP4
    have HT4 := Lib.hid ((T2.out.trans (Trn.of hg1)).trans (Trn.map hT4 (S := [g, b]) (by simp)))
    unfold ncells at c01 hrun
    clear h2 t2 lk ho hn hk hg1 hP4 hT4 KL
    go_wp2_with fail
    go_end0
    rw [HF2.out]
    exact ⟨rfl, HP4.out.more (by omega), HT4.out⟩
  · have q0 : (ki == 2) = false := by simpa using hk
    have HF2 := Lib.hid (show forgetS S.l d s i = modS (leaveS S.l d s) i lessLk by rw [HF.out, if_neg hk])
    have hc1 := Cells.new w1 38 (ncells j ki (l - 1) t u (.slice A P.length ac) (.slice B N.length bc))
    obtain ⟨z0, z1, z2, z3, z4, z5, z6⟩ := cells7 hc1
    have hg1 := below_of_grown (World.grownBy_alloc w1 (.cells (ncells j ki (l - 1) t u (.slice A P.length ac) (.slice B N.length bc)) 38) none)
    have c01 := (H2.out.below hg1).c0
    have HG1 := Lib.hid hg1
    unfold ncells at z0 z1 z2 z3 z4 z5 z6 HG1 c01
    clear h2 t2 lk ho hn hk hg1 hc1 KL
    go_wp2_with fail
    obtain ⟨w3, hw3⟩ : ∃ w3, w1.alloc (.cells #[.int .i64 j, .int .i64 ki, .int .i64 (l - 1), .int .i64 t, .int .i64 u, .slice A P.length ac, .slice B N.length bc] 38) = w3 := ⟨_, rfl⟩
    rw [hw3] at HG1 z0 z1 z2 z3 z4 z5 z6 c01 ⊢
    clear hw3 c0 lk0
    go_still_tail 6, (by kernel_rfl)
    change wpList _ _ _ _ _ w3.drew
    obtain ⟨w4, hrun, hP4, hT4⟩ := (H2.out.below HG1.out.drew).store (by have := HM.out; omega) HI.out (x := i) (n := ⟨j, ki, l - 1, t, u, A, ac, P, B, bc, N⟩)
      (show OwnNd _ base ⟨j, ki, l, t, u, A, ac, P, B, bc, N⟩ from HO.out.below HG1.out.drew)
      (l' := modS (leaveS S.l d s) i lessLk) (fun x => by rw [at_modS (f := lessLk) (fun _ => rfl) H1.out]; rfl)
    unfold Nd.val at hrun
    dsimp only at hrun
    have HP4 := Lib.hid hP4
    have HT4 := Lib.hid (((T2.out.trans (Trn.of HG1.out)).drew).trans (Trn.map hT4 (S := [g, b]) (by simp)))
    clear hP4 hT4
    go_wp2
    go_end0
    rw [HF2.out]
    exact ⟨rfl, HP4.out, HT4.out⟩
end
end Go.Proofs.YtamndllolppmoaaGreatDoor

namespace Go.Proofs.YtamndllolppmoaaGreatDoor
open Wd U Go.RowKit Go.ChangeShapes Go.WideShapes Go.Sort
set_option linter.unusedVariables false

/-! two effects, alike -/
def sameB (a b : Eff) : Bool := decide (a.kind = b.kind) && decide (a.ino = b.ino) && decide (a.dir = b.dir) && decide (a.dst = b.dst) && decide (a.page = b.page) && decide (a.size = b.size) && (a.name.toList == b.name.toList) && (a.other.toList == b.other.toList) && ((strOf a.data).toList == (strOf b.data).toList)
end Go.Proofs.YtamndllolppmoaaGreatDoor

/-
  The project's small functions of layer 9: within, node, place, reaches, Touches; strings.Clone as 'returns its text, some blocks more'.
-/
namespace Go.Proofs.YtamndllolppmoaaGreatDoor
open Wd U Go.RowKit Go.ChangeShapes Go.WideShapes Go.Sort
set_option linter.unusedVariables false

theorem Eff.Ok.at_ {e : Eff} {w w' : World} (h : e.Ok w w.heap.size) (b : Below w.heap.size w w') : e.Ok w' w'.heap.size := (h.below b).more b.size
theorem eWithin (x a b : Int) (w : World) : Calls Tryz.prog 106 #[.int .i64 x, .int .i64 a, .int .i64 b] w (Grows (.bool (decide (a ≤ x) && decide (x ≤ b))) w) := by
  by_cases h1 : a ≤ x
  · have q1 : decide (a ≤ x) = true := decide_eq_true h1
    by_cases h2 : x ≤ b
    · have q2 : decide (x ≤ b) = true := decide_eq_true h2
      rw [q1, q2]
      clear h1 h2
      go_enter Tryz.func106, Tryz.ntmps106
      go_wp2
      go_ret
      exact ⟨rfl, grow_none _⟩
    · have q2 : decide (x ≤ b) = false := decide_eq_false h2
      rw [q1, q2]
      clear h1 h2
      go_enter Tryz.func106, Tryz.ntmps106
      go_wp2
      go_ret
      exact ⟨rfl, grow_none _⟩
  · have q1 : decide (a ≤ x) = false := decide_eq_false h1
    rw [q1, Bool.false_and]
    clear h1
    go_enter Tryz.func106, Tryz.ntmps106
    go_wp2
    go_ret
    exact ⟨rfl, grow_none _⟩

theorem eNode (n : Int) (w : World) : Calls Tryz.prog 104 #[.int .i64 n] w (Grows (.bool (ndB n)) w) := by
  have e : (decide (1 ≤ n) && decide (n ≤ 1048576)) = ndB n := by unfold ndB; simp
  go_enter Tryz.func104, Tryz.ntmps104
  go_wp2_with fail
  refine (eWithin n 1 1048576 _).mono ?_
  rintro e' w1 ⟨rfl, hw⟩
  rw [e]
  go_wp2
  go_ret
  exact ⟨rfl, hw⟩

theorem ePlace (d : Int) (s : ByteArray) (hs : s.size ≤ 1000) (w : World) : Calls Tryz.prog 105 #[.int .i64 d, .string s] w (Grows (.bool (ndB d && nmB s)) w) := by
  have hb : (nameN s.toList == 0) = nmB s := by unfold nmB; rfl
  cases hd : ndB d
  · rw [Bool.false_and]
    go_enter Tryz.func105, Tryz.ntmps105
    go_wp2_with fail
    refine (eNode d _).mono ?_
    rintro e' w1 ⟨rfl, hw⟩
    rw [hd]
    go_wp2
    go_ret
    exact ⟨rfl, hw⟩
  · rw [Bool.true_and]
    obtain ⟨n, hn⟩ : ∃ n, nameN s.toList = n := ⟨_, rfl⟩
    rw [hn] at hb
    have HN := Lib.hid hn
    clear hn
    go_enter Tryz.func105, Tryz.ntmps105
    go_wp2_with fail
    refine (eNode d _).mono ?_
    rintro e' w1 ⟨rfl, hw⟩
    rw [hd]
    clear hd
    go_wp2_with fail
    refine (nCheck s hs _).mono ?_
    rintro e' w2 ⟨rfl, hw2⟩
    rw [HN.out]
    go_wp2
    go_ret
    exact ⟨rfl, grow_trans hw hw2⟩

/-- whether a file of that size may have that page -/
def rcB (page size : Int) : Bool := (decide (0 ≤ page) && decide (page ≤ 63)) && (decide (256 * page + 1 ≤ size) && decide (size ≤ 16384))
theorem eReaches (page size : Int) (w : World) : Calls Tryz.prog 107 #[.int .i64 page, .int .i64 size] w (Grows (.bool (rcB page size)) w) := by
  unfold rcB
  cases hp : (decide (0 ≤ page) && decide (page ≤ 63))
  · rw [Bool.false_and]
    go_enter Tryz.func107, Tryz.ntmps107
    go_wp2_with fail
    refine (eWithin page 0 63 _).mono ?_
    rintro e' w1 ⟨rfl, hw⟩
    rw [hp]
    go_wp2
    go_ret
    exact ⟨rfl, hw⟩
  · rw [Bool.true_and]
    simp at hp
    have g1 : wrap64 (256 * page) = 256 * page := by unfold wrap64; omega
    have g2 : wrap64 (256 * page + 1) = 256 * page + 1 := by unfold wrap64; omega
    have p0 : (decide (0 ≤ page) && decide (page ≤ 63)) = true := by simp; omega
    have P0 := Lib.hid p0
    clear hp p0
    go_enter Tryz.func107, Tryz.ntmps107
    go_wp2_with fail
    refine (eWithin page 0 63 _).mono ?_
    rintro e' w1 ⟨rfl, hw⟩
    rw [P0.out]
    go_wp2_with fail
    refine (eWithin size (256 * page + 1) 16384 _).mono ?_
    rintro e' w2 ⟨rfl, hw2⟩
    go_wp2
    go_ret
    exact ⟨rfl, grow_trans hw hw2⟩

end Go.Proofs.YtamndllolppmoaaGreatDoor
