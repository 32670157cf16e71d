import Derived.Test.YtbejbiogabpmfaaGreatG30
import Derived.Test.YtbejbiogabpmfaaGreatG26

/-! The project's directories: how many there are. -/
namespace Go.Proofs.YtbejbiogabpmfaaGreat
open Wd Ino Sm U Go.RowKit Go.ChangeShapes Go.WideShapes Go.Shelf
set_option linter.unusedVariables false
attribute [local go_sem] Oper.semAt_some
set_option maxRecDepth 100000
theorem row_hi {w : World} {base n : Nat} {v : Value} {l : List Nd} (h : OwnNs w base v l) : ∃ A c, v = .slice A l.length c ∧ Nds w w.heap.size A l ∧ (∀ b off, A = some ⟨b, off, none⟩ → b < w.heap.size) ∧ ∀ b off, A = some ⟨b, off, none⟩ → base ≤ b := by
  obtain ⟨A, c, rfl, hn⟩ := nds_of_row (n := n) (RowP.of h)
  refine ⟨A, c, rfl, hn, fun b off e => ?_, fun b off e => ?_⟩
  all_goals
    subst e
    rcases h.2 with ⟨h0, _⟩ | ⟨g, cap, cur, h0, hb, hh, _⟩
    · cases h0
    · injection h0 with h0 _ _
      injection h0 with h0
      injection h0 with h0
      subst h0
      first | exact (show Cells w b 51 cur from hh).lt | exact hb
theorem own_box {β : Type} (B g : Nat) (T : TypeId) (f : β → Array Value) : OwnFrom B (fun s W => Cells W g T (f s)) := Own.from (I := fun s W => Cells W g T (f s)) (fun s X Y row hs hg hr => (grownBy_keeps_cells hg hr hs rfl).trans hs) B
theorem Kq.set {q : Nat} {A : Option Addr} {p : Addr} (W : World) (u : Value) (hq : q ≠ p.block) (hA : ∀ b off, A = some ⟨b, off, none⟩ → b ≠ p.block) : Kq q A W (W.setCell p u) :=
  ⟨by simp [World.setCell], Below.heap_setCell W p u q hq, fun b off e => Below.heap_setCell W p u b (hA b off e)⟩
theorem Kq.grow {q : Nat} {A : Option Addr} {X Y : World} (h : Below X.heap.size X Y) (hq : q < X.heap.size) (hA : ∀ b off, A = some ⟨b, off, none⟩ → b < X.heap.size) : Kq q A X Y := Kq.below h hq hA
theorem lift_plain {L : List Nd} {ys : List (Mem L)} (h : ys.map Subtype.val = L) {l : List Nod} (hl : L.map Nd.plain = l) : l = ys.map (fun x => x.1.plain) := by
  have := congrArg (List.map Nd.plain) h
  rw [List.map_map, hl] at this
  exact this.symm
/-- a node's cells -/
def ndc (x : Nd) : Array Value := ncells x.ino x.kind x.links x.size x.up (.slice x.A x.pages.length x.ac) (.slice x.B x.names.length x.bc)
def dirsN (l : List Nod) : Nat := l.countP (fun n => decide (n.kind = 2))
section
variable {w : World} {base m g b : Nat} {S : Stt}
set_option maxHeartbeats 8000000 in
theorem pDirs_in (n0 : Nat) (hn : 3 ≤ n0) (h : PSt w base m g b S) (ha : AscS S.l) (hs : SmS S.l) (hl : S.l.length ≤ 1000) (hm : m < 999900) : CallsIn Fence.wide n0 Tryz.prog 170 #[SPtr g] w fun e w' => e = .returned (.int .i64 (dirsN S.l)) ∧ Below w.heap.size w w' := by
  have h1 : 1 ≤ n0 := by omega
  have KO := Lib.hid (fun wx (hb : Below w.heap.size w wx) => pInOrder h hb ha hs hl hm)
  obtain ⟨w1, hw1⟩ : ∃ w1, w.alloc (.cells #[.int .i64 0] 3) = w1 := ⟨_, rfl⟩
  have hb1 : Below w.heap.size w w1 := by rw [← hw1]; exact below_of_grown (World.grownBy_alloc w _ none)
  have hs1 : w1.heap.size = w.heap.size + 1 := by rw [← hw1]; simp
  have hc1 : Cells w1 w.heap.size 3 #[.int .i64 0] := by rw [← hw1]; exact Cells.new _ _ _
  have HB0 := Lib.hid (show Below w.heap.size w (w.alloc (.cells #[.int .i64 0] 3)) from below_of_grown (World.grownBy_alloc w _ none))
  have HB1 := Lib.hid hb1; have HS1 := Lib.hid hs1; have HW1 := Lib.hid hw1
  clear hw1
  unfold SPtr at *
  clear hs1
  refine callsIn_of_wp_marks Tryz.func170 rfl trivial ?_ rfl
  simp only [Tryz.ntmps170, List.size_toArray, List.length_cons, List.length_nil, Nat.reduceAdd, Nat.reduceSub, Array.replicate_succ, Array.replicate_zero, List.push_toArray, List.append_toArray, List.nil_append, List.cons_append]
  gi_wp2_with (refine ⟨trivial, ?_⟩; gi_at_call 57; refine (callsIn_wide.2 (KO.out _ HB0.out)).mono ?_; rintro e w2 ⟨q, Lk, v, rfl, hor, hb2⟩)
  rw [HW1.out] at hor hb2
  obtain ⟨hq, hcq, hro, hon, hpl⟩ := hor
  obtain ⟨A, c, rfl, hE, hA, hAb⟩ := row_hi (n := 0) hro
  have hm1 : Cells w2 w.heap.size 3 #[.int .i64 0] := hc1.below' hb2
  have hB2 : Below w.heap.size w w2 := hb1.trans (hb2.mono hb1.size)
  have hlen : Lk.length ≤ 1000 := by have := congrArg List.length hpl; rw [List.length_map] at this; omega
  have hs1 := HS1.out
  have hqg : q ≠ w.heap.size := by omega
  have hqc := hcq.cell 0
  simp only [List.getElem?_toArray, List.getElem?_cons_zero] at hqc
  have hAg : ∀ b off, A = some ⟨b, off, none⟩ → b ≠ w.heap.size := fun b off e => by have := hAb b off e; omega
  have HAG := Lib.hid hAg; have HA := Lib.hid hA; have HQ := Lib.hid hcq.lt; have HQG := Lib.hid hqg; have HB2 := Lib.hid hB2
  refine wp_inOrder (L := Lk) (q := q) (cap := c) (A := A) hn rfl rfl hqc hcq.lt hA hE hlen
    (fun pre W => Cells W w.heap.size 3 #[.int .i64 ((pre.countP (fun x => decide (x.1.kind = 2)) : Nat) : Int)] ∧ Below w.heap.size w W ∧ w2.heap.size ≤ W.heap.size)
    (OwnFrom.and (own_box _ _ _ (fun (pre : List (Mem Lk)) => #[.int .i64 ((pre.countP (fun x => decide (x.1.kind = 2)) : Nat) : Int)])) (OwnFrom.and (ownFrom_below (Nat.le_refl _) hB2.size) (fun s X Y row hs hg hr => Nat.le_trans hs hg.size)))
    ⟨hm1, hB2, Nat.le_refl _⟩
    (fun x a' W => ∃ Bx, w2.heap.size ≤ Bx ∧ Cells W Bx 51 (ndc x.1) ∧ a' = { tmps := #[.pointer (some ⟨g, 0, none⟩), undef, .int .i64 0, .pointer (some ⟨w.heap.size, 0, none⟩), undef, .pointer (some ⟨Bx, 0, none⟩), .pointer (some ⟨g, 0, none⟩), .func (.func 85) #[] #[.pointer (some ⟨q, 0, none⟩)], .int .i64 x.1.ino, x.1.val, undef, undef, undef, undef, undef, undef], defers := [] })
    (fun x a' _ X Y row hs hg hr => by obtain ⟨Bx, g1, g2, g3⟩ := hs; exact ⟨Bx, g1, (grownBy_keeps_cells hg (fun r e => (hr r e).2) g2 rfl).trans g2, g3⟩)
    ?assign ?body ?done
  case assign =>
    rintro lp pre ⟨⟨J, ki, l, t, u, A0, ac, P, B0, bc, N⟩, hx⟩ W K ⟨g0, hB, hsz⟩ hK
    have hK' := hK { tmps := #[.pointer (some ⟨g, 0, none⟩), undef, .int .i64 0, .pointer (some ⟨w.heap.size, 0, none⟩), undef, .pointer (some ⟨W.heap.size, 0, none⟩), .pointer (some ⟨g, 0, none⟩), .func (.func 85) #[] #[.pointer (some ⟨q, 0, none⟩)], .int .i64 J, Nd.val ⟨J, ki, l, t, u, A0, ac, P, B0, bc, N⟩, undef, undef, undef, undef, undef, undef], defers := [] } (W.alloc (.cells (ndc ⟨J, ki, l, t, u, A0, ac, P, B0, bc, N⟩) 51)) ((KeepsOthers.alloc _ _).from _)
      (Kq.grow (below_of_grown (World.grownBy_alloc W _ none)) (Nat.lt_of_lt_of_le HQ.out hsz) (fun b off e => Nat.lt_of_lt_of_le (HA.out b off e) hsz)) ⟨g0.alloc _, hB.alloc hB.size _, Nat.le_trans hsz (by simp)⟩ ⟨W.heap.size, hsz, Cells.new _ _ _, rfl⟩
    unfold Nd.val ndc ncells at hK'
    unfold Nd.val
    dsimp only at hK' ⊢
    clear hK
    gi_wp2
    exact hK'
  case body =>
    rintro lp pre ⟨⟨J, ki, l, t, u, A0, ac, P, B0, bc, N⟩, hx⟩ a' W hl ⟨g0, hB, hsz⟩ ⟨Bx, hBx, cX, rfl⟩ hlt
    unfold ndc at cX
    dsimp only at cX
    obtain ⟨z0, z1, z2, z3, z4, z5, z6⟩ := cells7 cX
    have c0 := g0.cell 0
    have f0 := g0.free 0
    simp only [List.getElem?_toArray, List.getElem?_cons_zero] at c0
    obtain ⟨k, hk⟩ : ∃ k : Nat, pre.countP (fun x => decide (x.1.kind = 2)) = k := ⟨_, rfl⟩
    rw [hk] at c0
    have hkl : k < 1000 := by have := List.countP_le_length (l := pre) (p := fun x => decide (x.1.kind = 2)); omega
    have HK := Lib.hid hk; have G0 := Lib.hid g0; have HB := Lib.hid hB; have HSZ := Lib.hid hsz
    clear hk g0 hB hsz cX
    by_cases h2 : ki = 2
    · have q2 : (ki == 2) = true := by simpa using h2
      have HC := Lib.hid (show (pre ++ [(⟨⟨J, ki, l, t, u, A0, ac, P, B0, bc, N⟩, hx⟩ : Mem Lk)]).countP (fun x => decide (x.1.kind = 2)) = k + 1 by rw [List.countP_append, HK.out]; simp [h2])
      clear h2
      gi_wp2
      refine ⟨(KeepsOthers.setCell _ _ _).from _, Kq.set W _ HQG.out HAG.out, ?_, HB.out.setCell (p := ⟨w.heap.size, 0, none⟩) (Nat.le_refl _) _, Nat.le_trans HSZ.out (by simp [World.setCell])⟩
      have h9 := G0.out.set 0 (.int .i64 ((k : Int) + 1))
      rw [HC.out]
      exact h9
    · have q2 : (ki == 2) = false := by simpa using h2
      have HC := Lib.hid (show (pre ++ [(⟨⟨J, ki, l, t, u, A0, ac, P, B0, bc, N⟩, hx⟩ : Mem Lk)]).countP (fun x => decide (x.1.kind = 2)) = pre.countP (fun x => decide (x.1.kind = 2)) by rw [List.countP_append]; simp [h2])
      clear h2
      gi_wp2
      exact ⟨KeepsFrom.refl _ _, Kq.refl _ _ _, by rw [HC.out]; exact G0.out, HB.out, HSZ.out⟩
  case done =>
    rintro D ys W hD hys ⟨g0, hB, hsz⟩ hK
    have c0 := g0.cell 0
    simp only [List.getElem?_toArray, List.getElem?_cons_zero] at c0
    gi_wp2
    refine ⟨by simp, .inl ⟨_, _, rfl, run_takeDeferred hK, ?_⟩⟩
    refine ⟨.int .i64 (dirsN S.l), ?_, rfl, hB.trans (belowK_b (w := w) (Nat.le_refl _) _ D _ _ (by have := hB2.size; omega) hK rfl rfl)⟩
    have hcnt : (ys.countP (fun x => decide (x.1.kind = 2))) = dirsN S.l := by
      unfold dirsN
      rw [lift_plain hys hpl, List.countP_map]
      rfl
    simp [results, Tryz.f170, go_sem, hcnt]
end
end Go.Proofs.YtbejbiogabpmfaaGreat

/-! Root and what is found from it, directory by directory, plainly. -/
namespace Go.Proofs.YtbejbiogabpmfaaGreat
open Wd Ino
set_option linter.unusedVariables false
/-- what stands in F once its first i directories have been gone through, and k names of the next one -/
structure Bf (S : Stt) (i : Nat) (k : Nat) (F : List Int) : Prop where
  nd : F.Pairwise (· ≠ ·)
  kind : ∀ x ∈ F, kindS S.l x = 2
  from_ : ∀ x ∈ F, x = 1 ∨ upS S.l x ∈ F.take i ∨ ∃ d, F[i]? = some d ∧ ∃ e ∈ (namesS S.l d).take k, e.n = x
  done : ∀ x ∈ F.take i, ∀ e ∈ namesS S.l x, kindS S.l e.n = 2 → e.n ∈ F
  part : ∀ d, F[i]? = some d → ∀ e ∈ (namesS S.l d).take k, kindS S.l e.n = 2 → e.n ∈ F
  one : 1 ∈ F
theorem Bf.start {S : Stt} (h : Inv S) : Bf S 0 0 [1] := by
  obtain ⟨r, hr, hk⟩ := h.root
  refine ⟨List.pairwise_singleton _ _, fun x hx => ?_, fun x hx => .inl (List.mem_singleton.1 hx), fun x hx => (by cases hx), fun d _ e he => (by cases he), List.mem_singleton.2 rfl⟩
  rw [List.mem_singleton.1 hx, kind_some hr, hk]
theorem Bf.len {S : Stt} {i k : Nat} {F : List Int} (h : Bf S i k F) : F.length ≤ S.l.length := by
  have := nodup_len F (S.l.map Nod.ino) h.nd (fun x hx => by
    obtain ⟨n, hn, _⟩ := at_of_kind (l := S.l) (i := x) (by rw [h.kind x hx]; decide)
    exact List.mem_map.2 ⟨n, atS_mem hn, atS_ino hn⟩)
  rwa [List.length_map] at this
theorem mem_take_next {α : Type} {l : List α} {k : Nat} {e x : α} (he : l[k]? = some e) : x ∈ l.take (k + 1) ↔ x ∈ l.take k ∨ x = e := by
  rw [take_two he, List.mem_append, List.mem_singleton]
/-- a name of no directory -/
theorem Bf.skip {S : Stt} {i k : Nat} {F : List Int} (h : Bf S i k F) {d : Int} (hd : F[i]? = some d) {e : Ent} (he : (namesS S.l d)[k]? = some e) (hk : kindS S.l e.n ≠ 2) : Bf S i (k + 1) F := by
  refine ⟨h.nd, h.kind, fun x hx => ?_, h.done, fun d' hd' e' he' hk' => ?_, h.one⟩
  · rcases h.from_ x hx with h1 | h1 | ⟨d', hd', e', he', h2⟩
    · exact .inl h1
    · exact .inr (.inl h1)
    · have : d' = d := by rw [hd] at hd'; exact (Option.some.inj hd').symm
      subst this
      exact .inr (.inr ⟨d', hd', e', (mem_take_next he).2 (.inl he'), h2⟩)
  · have : d' = d := by rw [hd] at hd'; exact (Option.some.inj hd').symm
    subst this
    rcases (mem_take_next he).1 he' with h1 | rfl
    · exact h.part d' hd e' h1 hk'
    · exact absurd hk' hk
theorem two_count {n : Int} {l : List Ent} {k : Nat} {e e' : Ent} (he : l[k]? = some e) (h' : e' ∈ l.take k) (h1 : e.n = n) (h2 : e'.n = n) : 2 ≤ countN n l := by
  have h3 : countN n (l.take (k + 1)) ≤ countN n l := by
    unfold countN
    exact List.Sublist.countP_le (List.take_sublist _ _)
  have h4 : 1 ≤ countN n (l.take k) := by
    unfold countN
    exact List.countP_pos_iff.2 ⟨e', h', by simpa using h2⟩
  rw [countN_snoc he, if_pos h1] at h3
  omega
theorem count_le_cnt {l : List Nod} {n : Int} {d : Nod} (hd : d ∈ l) : countN n d.names ≤ cntS l n := by
  unfold cntS
  induction l with
  | nil => cases hd
  | cons a l ih =>
    rw [List.map_cons, List.sum_cons]
    rcases List.mem_cons.1 hd with rfl | hd
    · omega
    · have := ih hd; omega
theorem names_of {S : Stt} {d : Int} (hk : kindS S.l d = 2) : ∃ n, atS S.l d = some n ∧ n ∈ S.l ∧ n.ino = d ∧ namesS S.l d = n.names := by
  obtain ⟨n, hn, _⟩ := at_of_kind (l := S.l) (i := d) (by rw [hk]; decide)
  exact ⟨n, hn, atS_mem hn, atS_ino hn, by unfold namesS; rw [getS_some hn]⟩
/-- a name of a directory that isn't there yet -/
theorem Bf.new {S : Stt} (iv : Inv S) {i k : Nat} {F : List Int} (h : Bf S i k F) {d : Int} (hd : F[i]? = some d) {e : Ent} (he : (namesS S.l d)[k]? = some e) (hk : kindS S.l e.n = 2) : Bf S i (k + 1) (F ++ [e.n]) := by
  have hiF : i < F.length := (List.getElem?_eq_some_iff.1 hd).1
  have hdF : d ∈ F := List.mem_of_getElem? hd
  obtain ⟨nd, hnd, hndm, hndi, hns⟩ := names_of (h.kind d hdF)
  have hem : e ∈ nd.names := by rw [← hns]; exact List.mem_of_getElem? he
  obtain ⟨n, hn, hup⟩ := iv.there nd hndm e hem
  rw [kind_some hn] at hk
  have hup := hup hk
  have hu : upS S.l e.n = d := by unfold upS; rw [getS_some hn, hup.2, hndi]
  have hnot : e.n ∉ F := by
    intro hx
    rcases h.from_ e.n hx with h1 | h1 | ⟨d', hd', e', he', h2⟩
    · exact hup.1 h1
    · rw [hu] at h1
      obtain ⟨j, hj⟩ := List.mem_iff_getElem?.1 h1
      have hji : j < i := by
        have := (List.getElem?_eq_some_iff.1 hj).1
        rw [List.length_take] at this; omega
      rw [List.getElem?_take_of_lt hji] at hj
      have := List.pairwise_iff_getElem.1 h.nd j i (by omega) hiF hji
      rw [(List.getElem?_eq_some_iff.1 hj).2, (List.getElem?_eq_some_iff.1 hd).2] at this
      exact this rfl
    · have : d' = d := by rw [hd] at hd'; exact (Option.some.inj hd').symm
      subst this
      have h3 := two_count he he' rfl h2
      rw [hns] at h3
      have h4 := count_le_cnt (n := e.n) hndm
      have h5 := iv.cnt n (atS_mem hn) (by rw [atS_ino hn]; exact hup.1)
      have h6 := (right_dir (iv.right n (atS_mem hn)) hk).2.2.1
      rw [atS_ino hn] at h5
      omega
  have ht : (F ++ [e.n]).take i = F.take i := List.take_append_of_le_length (by omega)
  have hg : (F ++ [e.n])[i]? = some d := by rw [List.getElem?_append_left hiF]; exact hd
  refine ⟨?_, fun x hx => ?_, fun x hx => ?_, fun x hx e' he' hk' => ?_, fun d' hd' e' he' hk' => ?_, List.mem_append_left _ h.one⟩
  · rw [List.pairwise_append]
    exact ⟨h.nd, List.pairwise_singleton _ _, fun a ha b hb => by rw [List.mem_singleton.1 hb]; exact fun e9 => hnot (e9 ▸ ha)⟩
  · rcases List.mem_append.1 hx with hx | hx
    · exact h.kind x hx
    · rw [List.mem_singleton.1 hx, kind_some hn]; exact hk
  · rw [ht]
    rcases List.mem_append.1 hx with hx | hx
    · rcases h.from_ x hx with h1 | h1 | ⟨d', hd', e', he', h2⟩
      · exact .inl h1
      · exact .inr (.inl h1)
      · have : d' = d := by rw [hd] at hd'; exact (Option.some.inj hd').symm
        subst this
        exact .inr (.inr ⟨d', hg, e', (mem_take_next he).2 (.inl he'), h2⟩)
    · exact .inr (.inr ⟨d, hg, e, (mem_take_next he).2 (.inr rfl), (List.mem_singleton.1 hx).symm⟩)
  · rw [ht] at hx
    exact List.mem_append_left _ (h.done x hx e' he' hk')
  · have : d' = d := by rw [hg] at hd'; exact (Option.some.inj hd').symm
    subst this
    rcases (mem_take_next he).1 he' with h1 | rfl
    · exact List.mem_append_left _ (h.part d' hd e' h1 hk')
    · exact List.mem_append_right _ (List.mem_singleton.2 rfl)
/-- all names of a directory -/
theorem Bf.turn {S : Stt} (iv : Inv S) {i : Nat} {F : List Int} {d : Int} (hd : F[i]? = some d) (h : Bf S i (namesS S.l d).length F) : Bf S (i + 1) 0 F := by
  have hdF : d ∈ F := List.mem_of_getElem? hd
  refine ⟨h.nd, h.kind, fun x hx => ?_, fun x hx e he hk => ?_, fun d' _ e he => (by cases he), h.one⟩
  · rw [take_two hd]
    rcases h.from_ x hx with h1 | h1 | ⟨d', hd', e', he', h2⟩
    · exact .inl h1
    · exact .inr (.inl (List.mem_append_left _ h1))
    · have : d' = d := by rw [hd] at hd'; exact (Option.some.inj hd').symm
      subst this
      obtain ⟨nd, hnd, hndm, hndi, hns⟩ := names_of (h.kind d' hdF)
      obtain ⟨n, hn, hup⟩ := iv.there nd hndm e' (by rw [← hns]; exact List.mem_of_mem_take he')
      have hk := h.kind x hx
      rw [← h2, kind_some hn] at hk
      have hu : upS S.l x = d' := by rw [← h2]; unfold upS; rw [getS_some hn, (hup hk).2, hndi]
      exact .inr (.inl (by rw [hu]; exact List.mem_append_right _ (List.mem_singleton.2 rfl)))
  · rw [take_two hd] at hx
    rcases List.mem_append.1 hx with hx | hx
    · exact h.done x hx e he hk
    · rw [List.mem_singleton] at hx
      subst hx
      exact h.part x hd e (by rw [List.take_length]; exact he) hk
theorem Bf.all {S : Stt} (iv : Inv S) {F : List Int} (h : Bf S F.length 0 F) : ∀ {k : Nat} {x : Int}, Rch S.l k x → x ∈ F
  | 0, x, hx => by have : x = 1 := hx; rw [this]; exact h.one
  | k + 1, x, hx => by
    have hin := Bf.all iv h hx.2.2
    obtain ⟨n, hn, _⟩ := at_of_kind (l := S.l) (i := x) (by rw [hx.2.1]; decide)
    have hkn : n.kind = 2 := by rw [← kind_some hn]; exact hx.2.1
    have h5 := iv.cnt n (atS_mem hn) (by rw [atS_ino hn]; exact hx.1)
    rw [(right_dir (iv.right n (atS_mem hn)) hkn).2.2.1, atS_ino hn] at h5
    have h6 : ∃ d ∈ S.l, ∃ e ∈ d.names, e.n = x := Classical.byContradiction fun hc => by
      have : cntS S.l x = 0 := by
        unfold cntS
        rw [List.sum_eq_zero_iff_forall_eq_nat]
        intro y hy
        obtain ⟨d, hd, rfl⟩ := List.mem_map.1 hy
        unfold countN
        rw [List.countP_eq_zero]
        intro e he h9
        exact hc ⟨d, hd, e, he, by simpa using h9⟩
      omega
    obtain ⟨d, hd, e, he, rfl⟩ := h6
    obtain ⟨n', hn', hup⟩ := iv.there d hd e he
    have : n' = n := by rw [hn] at hn'; exact (Option.some.inj hn').symm
    subst this
    have hu : upS S.l e.n = d.ino := by unfold upS; rw [getS_some hn]; exact (hup hkn).2
    rw [hu] at hin
    have hd2 : namesS S.l d.ino = d.names := by unfold namesS; rw [getS_some (atS_of_mem iv.asc hd)]
    exact h.done d.ino (by rw [List.take_length]; exact hin) e (by rw [hd2]; exact he) hx.2.1
theorem asc_nodup {l : List Nod} (h : AscS l) : (l.map Nod.ino).Pairwise (· ≠ ·) := by
  rw [List.pairwise_map]
  exact List.Pairwise.imp (fun hab => by omega) h
theorem Bf.end_ {S : Stt} (iv : Inv S) {F : List Int} (h : Bf S F.length 0 F) : F.length = dirsN S.l := by
  have hd : dirsN S.l = ((S.l.filter (fun n => decide (n.kind = 2))).map Nod.ino).length := by
    unfold dirsN
    rw [List.length_map, List.countP_eq_length_filter]
  rw [hd]
  have hm : ∀ x, x ∈ (S.l.filter (fun n => decide (n.kind = 2))).map Nod.ino ↔ kindS S.l x = 2 := fun x => by
    rw [List.mem_map]
    constructor
    · rintro ⟨n, hn, rfl⟩
      rw [List.mem_filter] at hn
      rw [kind_some (atS_of_mem iv.asc hn.1)]
      simpa using hn.2
    · intro hk
      obtain ⟨n, hn, _⟩ := at_of_kind (l := S.l) (i := x) (by rw [hk]; decide)
      exact ⟨n, List.mem_filter.2 ⟨atS_mem hn, by rw [← kind_some hn]; simpa using hk⟩, atS_ino hn⟩
  apply Nat.le_antisymm
  · exact nodup_len _ _ h.nd (fun x hx => (hm x).2 (h.kind x hx))
  · refine nodup_len _ _ ?_ (fun x hx => ?_)
    · exact List.Pairwise.sublist (List.filter_sublist.map _) (asc_nodup iv.asc)
    · obtain ⟨k, hk⟩ := iv.reach x ((hm x).1 hx)
      exact h.all iv hk
end Go.Proofs.YtbejbiogabpmfaaGreat

/-! The project's Words: of all nodes. -/
namespace Go.Proofs.YtbejbiogabpmfaaGreat
open Wd Ino Sm U Go.RowKit Go.ChangeShapes Go.WideShapes Go.Shelf
set_option linter.unusedVariables false
attribute [local go_sem] Oper.semAt_some
set_option maxRecDepth 100000
def wordsNod (n : Nod) : Nat := 7 + n.pages.length + wsum n.names
def wordsS (l : List Nod) : Nat := 2 + (l.map wordsNod).sum
theorem sum_le {α : Type} {f : α → Nat} {B : Nat} : ∀ (l : List α), (∀ x ∈ l, f x ≤ B) → (l.map f).sum ≤ l.length * B
  | [], _ => by simp
  | x :: l, h => by
    have h1 := h x List.mem_cons_self
    have h2 := sum_le l (fun y hy => h y (List.mem_cons_of_mem _ hy))
    rw [List.map_cons, List.sum_cons, List.length_cons, Nat.add_mul]; omega
theorem words_node {S : Stt} (hs : SmS S.l) {n : Nod} (h : n ∈ S.l) : wordsNod n ≤ 140000 := by
  have sm := hs n h
  have h1 := wsum_partM (l := n.names) sm.sz (Nat.le_trans sm.q (by decide)) n.names.length
  rw [List.take_length] at h1
  have h2 := sm.p
  unfold wordsNod
  omega
section
variable {w : World} {base m g b : Nat} {S : Stt}
set_option maxHeartbeats 8000000 in
theorem pWords_in (n0 : Nat) (hn : 3 ≤ n0) (h : PSt w base m g b S) (ha : AscS S.l) (hs : SmS S.l) (hl : S.l.length ≤ 1000) (hm : m < 999900) : CallsIn Fence.wide n0 Tryz.prog 28 #[SPtr g] w fun e w' => e = .returned (.int .i64 (wordsS S.l)) ∧ Below w.heap.size w w' := by
  have h1 : 1 ≤ n0 := by omega
  have KO := Lib.hid (fun wx (hb : Below w.heap.size w wx) => pInOrder h hb ha hs hl hm)
  have hfol : Tryz.prog.follows .mixedOrders = true := by kernel_rfl
  have KM := Lib.hid (pMade h)
  have HSM := Lib.hid hs
  unfold SPtr at *
  refine callsIn_of_wp_marks Tryz.func28 rfl trivial ?_ rfl
  simp only [Tryz.ntmps28, List.size_toArray, List.length_cons, List.length_nil, Nat.reduceAdd, Nat.reduceSub, Array.replicate_succ, Array.replicate_zero, List.push_toArray, List.append_toArray, List.nil_append, List.cons_append]
  gi_wp2_with (refine ⟨trivial, ?_⟩; gi_at_call 56; refine (callsIn_wide.2 (KM.out)).mono ?_; rintro e w0 ⟨rfl, hw0⟩)
  obtain ⟨w1, hw1⟩ : ∃ w1, w0.alloc (.cells #[.int .i64 2] 3) = w1 := ⟨_, rfl⟩
  have hb0 := grown_b hw0
  have hb01 : Below w0.heap.size w0 w1 := by rw [← hw1]; exact below_of_grown (World.grownBy_alloc w0 _ none)
  have hs1 : w1.heap.size = w0.heap.size + 1 := by rw [← hw1]; simp
  have hc1 : Cells w1 w0.heap.size 3 #[.int .i64 2] := by rw [← hw1]; exact Cells.new _ _ _
  have hb1 : Below w.heap.size w w1 := hb0.trans (hb01.mono hb0.size)
  have HB1 := Lib.hid hb1; have HB0 := Lib.hid hb0; have HW1 := Lib.hid hw1
  have KO1 := Lib.hid (KO.out _ HB1.out)
  rw [← hw1] at KO1
  clear hw1
  refine ⟨trivial, ?_⟩; gi_at_call 57; refine (callsIn_wide.2 KO1.out).mono ?_; rintro e w2 ⟨q, Lk, v, rfl, hor, hb2⟩
  rw [HW1.out] at hor hb2
  obtain ⟨hq, hcq, hro, hon, hpl⟩ := hor
  obtain ⟨A, c, rfl, hE, hA, hAb⟩ := row_hi (n := 0) hro
  have hm1 : Cells w2 w0.heap.size 3 #[.int .i64 2] := hc1.below' hb2
  have hB2 : Below w.heap.size w w2 := hb1.trans (hb2.mono hb1.size)
  have hlen : Lk.length ≤ 1000 := by have := congrArg List.length hpl; rw [List.length_map] at this; omega
  have hqg : q ≠ w0.heap.size := by omega
  have hqc := hcq.cell 0
  simp only [List.getElem?_toArray, List.getElem?_cons_zero] at hqc
  have hAg : ∀ b off, A = some ⟨b, off, none⟩ → b ≠ w0.heap.size := fun b off e => by have := hAb b off e; omega
  have HAG := Lib.hid hAg; have HA := Lib.hid hA; have HQ := Lib.hid hcq.lt; have HQG := Lib.hid hqg; have HB2 := Lib.hid hB2
  have HON := Lib.hid hon
  have HPL := Lib.hid hpl
  clear KO1 KM
  gi_wp2
  refine wp_inOrder (L := Lk) (q := q) (cap := c) (A := A) hn rfl rfl hqc hcq.lt hA hE hlen
    (fun pre W => Cells W w0.heap.size 3 #[.int .i64 ((2 + (pre.map (fun x => wordsNod x.1.plain)).sum : Nat) : Int)] ∧ Below w.heap.size w W ∧ w2.heap.size ≤ W.heap.size)
    (OwnFrom.and (own_box _ _ _ (fun (pre : List (Mem Lk)) => #[.int .i64 ((2 + (pre.map (fun x => wordsNod x.1.plain)).sum : Nat) : Int)])) (OwnFrom.and (ownFrom_below (Nat.le_refl _) hB2.size) (fun s X Y row hs hg hr => Nat.le_trans hs hg.size)))
    ⟨hm1, hB2, Nat.le_refl _⟩
    (fun x a' W => ∃ Bx, w2.heap.size ≤ Bx ∧ Cells W Bx 51 (ndc x.1) ∧ a' = { tmps := #[.pointer (some ⟨g, 0, none⟩), undef, .int .i64 0, .pointer (some ⟨w0.heap.size, 0, none⟩), undef, .pointer (some ⟨Bx, 0, none⟩), .pointer (some ⟨g, 0, none⟩), .bool true, .bool false, .pointer (some ⟨g, 0, none⟩), .func (.func 85) #[] #[.pointer (some ⟨q, 0, none⟩)], .int .i64 x.1.ino, x.1.val, undef, undef, undef, undef, undef], defers := [] })
    (fun x a' _ X Y row hs hg hr => by obtain ⟨Bx, g1, g2, g3⟩ := hs; exact ⟨Bx, g1, (grownBy_keeps_cells hg (fun r e => (hr r e).2) g2 rfl).trans g2, g3⟩)
    ?assign ?body ?done
  case assign =>
    rintro lp pre ⟨⟨J, ki, l, t, u, A0, ac, P, B0, bc, N⟩, hx⟩ W K ⟨g0, hB, hsz⟩ hK
    have hK' := hK { tmps := #[.pointer (some ⟨g, 0, none⟩), undef, .int .i64 0, .pointer (some ⟨w0.heap.size, 0, none⟩), undef, .pointer (some ⟨W.heap.size, 0, none⟩), .pointer (some ⟨g, 0, none⟩), .bool true, .bool false, .pointer (some ⟨g, 0, none⟩), .func (.func 85) #[] #[.pointer (some ⟨q, 0, none⟩)], .int .i64 J, Nd.val ⟨J, ki, l, t, u, A0, ac, P, B0, bc, N⟩, undef, undef, undef, undef, undef], defers := [] } (W.alloc (.cells (ndc ⟨J, ki, l, t, u, A0, ac, P, B0, bc, N⟩) 51)) ((KeepsOthers.alloc _ _).from _)
      (Kq.grow (below_of_grown (World.grownBy_alloc W _ none)) (Nat.lt_of_lt_of_le HQ.out hsz) (fun b off e => Nat.lt_of_lt_of_le (HA.out b off e) hsz)) ⟨g0.alloc _, hB.alloc hB.size _, Nat.le_trans hsz (by simp)⟩ ⟨W.heap.size, hsz, Cells.new _ _ _, rfl⟩
    unfold Nd.val ndc ncells at hK'
    unfold Nd.val
    dsimp only at hK' ⊢
    clear hK
    gi_wp2
    exact hK'
  case body =>
    rintro lp pre ⟨⟨J, ki, l, t, u, A0, ac, P, B0, bc, N⟩, hx⟩ a' W hl9 ⟨g0, hB, hsz⟩ ⟨Bx, hBx, cX, rfl⟩ hlt
    unfold ndc at cX
    dsimp only at cX
    obtain ⟨z0, z1, z2, z3, z4, z5, z6⟩ := cells7 cX
    have c0 := g0.cell 0
    simp only [List.getElem?_toArray, List.getElem?_cons_zero] at c0
    have hmem : Nd.plain ⟨J, ki, l, t, u, A0, ac, P, B0, bc, N⟩ ∈ S.l := by rw [← HPL.out]; exact List.mem_map_of_mem hx
    have hsm := HSM.out _ hmem
    have hwb := words_node HSM.out hmem
    have how := (HON.out _ hx).below hB
    have h1' : 1 ≤ n0 - 1 - 1 := by omega
    obtain ⟨k, hk⟩ : ∃ k : Nat, 2 + (pre.map (fun x => wordsNod x.1.plain)).sum = k := ⟨_, rfl⟩
    rw [hk] at c0 g0
    obtain ⟨d, hd⟩ : ∃ d : Nat, wordsNod (Nd.plain ⟨J, ki, l, t, u, A0, ac, P, B0, bc, N⟩) = d := ⟨_, rfl⟩
    have hkb : k ≤ 150000000 := by
      have h9 := sum_le (B := 140000) (f := fun x : Mem Lk => wordsNod x.1.plain) pre (fun x _ => words_node HSM.out (by rw [← HPL.out]; exact List.mem_map_of_mem x.2))
      have h10 : pre.length * 140000 ≤ 1000 * 140000 := Nat.mul_le_mul_right _ (by omega)
      omega
    rw [hd] at hwb
    have hw9 : IntKind.i64.wrap ((k : Int) + (d : Int)) = ((k + d : Nat) : Int) := by rw [IntKind.wrap_i64]; omega
    have HS := Lib.hid (show 2 + ((pre ++ [(⟨⟨J, ki, l, t, u, A0, ac, P, B0, bc, N⟩, hx⟩ : Mem Lk)]).map (fun x => wordsNod x.1.plain)).sum = k + d by rw [List.map_append, List.sum_append, ← hk, ← hd]; simp; omega)
    have KW := Lib.hid (fun wx (hb : Below W.heap.size W wx) => iWordsM ⟨J, ki, l, t, u, A0, ac, P, B0, bc, N⟩ wx (how.below hb).in_ ⟨Nat.le_trans hsm.q (by decide), hsm.p, hsm.sz⟩)
    have hdv : Nd.words ⟨J, ki, l, t, u, A0, ac, P, B0, bc, N⟩ = (d : Int) := by rw [← hd]; rfl
    rw [hdv] at KW
    have G0 := Lib.hid g0; have HB := Lib.hid hB; have HSZ := Lib.hid hsz
    have b0 : Below W.heap.size W W.drew := below_drewN (Below.refl _ _) 1
    unfold Nd.val at KW ⊢
    dsimp only at KW ⊢
    clear hk g0 hB hsz hmem hsm how hd hwb hdv cX
    gi_upto_region 6 with fail
    gi_region_with_o (refine ⟨trivial, ?_⟩; gi_at_call 58; refine (CallsIn.inRound lp (callsIn_wide.2 (KW.out _ b0))).mono ?_; rintro e w6 ⟨rfl, hw6⟩; have b6 := b0.trans (below_of_grown_of hw6); have c6 := (G0.out.below' b6).cell 0; have f6 := (G0.out.below' b6).free 0; simp only [List.getElem?_toArray, List.getElem?_cons_zero] at c6)
    all_goals
      have hset := (G0.out.below' b6).set 0 (.int .i64 ((k : Int) + (d : Int)))
      have HSET := Lib.hid hset
      have HB6 := Lib.hid b6
      clear hset b6 c6 f6 hw6
      gi_wp2
      refine ⟨(KeepsFrom.of_grownBy (grown_of_below HB6.out none) (fun j e => by cases e)).trans ((KeepsOthers.setCell _ _ _).from _), (Kq.grow HB6.out (Nat.lt_of_lt_of_le HQ.out HSZ.out) (fun b off e => Nat.lt_of_lt_of_le (HA.out b off e) HSZ.out)).trans (Kq.set _ _ HQG.out HAG.out), ?_, (HB.out.trans (HB6.out.mono HB.out.size)).setCell (p := ⟨w0.heap.size, 0, none⟩) HB0.out.size _, Nat.le_trans HSZ.out (Nat.le_trans HB6.out.size (by simp [World.setCell]))⟩
      rw [HS.out]
      first | exact HSET.out | (have h9 := HSET.out; rw [← hw9] at *; exact h9)
  case done =>
    rintro D ys W hD hys ⟨g0, hB, hsz⟩ hK
    have hcnt : 2 + (ys.map (fun x => wordsNod x.1.plain)).sum = wordsS S.l := by
      unfold wordsS
      rw [lift_plain hys hpl, List.map_map]
      rfl
    rw [hcnt] at g0
    have c0 := g0.cell 0
    simp only [List.getElem?_toArray, List.getElem?_cons_zero] at c0
    gi_wp2
    refine ⟨by simp, .inl ⟨_, _, rfl, run_takeDeferred hK, ?_⟩⟩
    refine ⟨.int .i64 (wordsS S.l), ?_, rfl, hB.trans (belowK_b (w := w) (Nat.le_refl _) _ D _ _ (by have := hB2.size; omega) hK rfl rfl)⟩
    simp [results, Tryz.f28, go_sem]
end
end Go.Proofs.YtbejbiogabpmfaaGreat
