import Derived.Test.YtamndllolppmoaaGreatDoorG14
import Derived.Test.YtamndllolppmoaaGreatDoorG15
import Derived.BigQuiet
import Derived.Deep.RegionWith
import Derived.Deep.RegionHeld3
import Derived.WalkMore
import Derived.Deep.CutRange
import Derived.Deep.DeepCutAuto

/-! The project's State: a node is made. -/
namespace Go.Proofs.YtamndllolppmoaaGreatDoor
open Wd Ino Sm Go.RowKit Go.ChangeShapes Go.WideShapes Go.Sort
set_option linter.unusedVariables false
set_option maxRecDepth 100000
/-- it tells whether it was done; the state is what it comes to -/
def BGo (o : Option Stt) (S : Stt) (base m g b : Nat) (w : World) (e : Ending) (w' : World) : Prop := e = .returned (.bool o.isSome) ∧ PSt w' base (m + 8) g b (o.getD S) ∧ Trn w w' [g, b]
/-- an effect's numbers and names within bounds -/
structure EfB (e : Eff) : Prop where
  ino : 1 ≤ e.ino ∧ e.ino ≤ 1048576
  kind : i64R e.kind
  dir : i64R e.dir
  dst : i64R e.dst
  page : i64R e.page
  size : i64R e.size
  name : e.name.size ≤ 1000
  other : e.other.size ≤ 1000
theorem EfB.ino' {e : Eff} (h : EfB e) : i64R e.ino := by have := h.ino; unfold i64R; omega
theorem at_app {l : List Nod} {n : Nod} (h : ∀ a ∈ l, a.ino < n.ino) : ∀ i, atS (l ++ [n]) i = if i = n.ino then some n else atS l i := by
  intro i
  rw [atS_app]
  by_cases e : i = n.ino
  · subst e
    rw [atS_none.2 (fun a ha => by have := h a ha; omega)]
    simp
  · rw [if_neg e, if_neg (fun h => e h.symm)]; simp
theorem SmS.app {l : List Nod} (h : SmS l) {n : Nod} (hn : SmN n) : SmS (l ++ [n]) := fun a ha => by
  rcases List.mem_append.1 ha with ha | ha
  · exact h a ha
  · rw [List.mem_singleton.1 ha]; exact hn
theorem SmN.new {i k d : Int} (hi : i64R i) (hk : i64R k) (hd : i64R d) : SmN (newNod i k d) := by
  refine ⟨by simp [newNod], by simp [newNod], by simp [newNod], hi, hk, ?_, ?_, ?_, by simp [newNod], by simp [newNod]⟩
  · show i64R 1; unfold i64R; decide
  · show i64R 0; unfold i64R; decide
  · unfold newNod newUp
    dsimp only
    split
    · exact hd
    · unfold i64R; decide
theorem PSt.setLast {w : World} {base m g b : Nat} {S : Stt} (h : PSt w base m g b S) (L : Int) : PSt (w.setCell ⟨g, 1, none⟩ (.int .i64 L)) base m g b ⟨S.l, L⟩ := by
  have hk : KeepC [77] w (w.setCell ⟨g, 1, none⟩ (.int .i64 L)) := fun q t cs ht hc => by
    have : q ≠ g := fun e => by
      subst e
      exact ht (by
        have : t = 77 := Decidable.byContradiction fun hne => hc.ne h.cells hne rfl
        rw [this]; exact List.mem_singleton.2 rfl)
    exact hc.far this _
  exact ⟨h.lo, h.lob, h.cells.set 1 (.int .i64 L), h.mp.keep hk (by decide) (by decide) (Below.heap_setCell w ⟨g, 1, none⟩ _ b h.ne)⟩
theorem free_at {l : List Nod} {d : Int} {s : ByteArray} (h : freeS l d s = true) : ∃ n, atS l d = some n ∧ n.kind = 2 ∧ hasN s n.names = false := by
  unfold freeS at h
  rw [Bool.and_eq_true] at h
  have hk := of_decide_eq_true h.1
  obtain ⟨n, h1, h2⟩ := at_of_kind (l := l) (i := d) (by rw [hk]; decide)
  refine ⟨n, h1, ?_, ?_⟩
  · unfold kindS at hk; rw [h2] at hk; exact hk
  · have := h.2; unfold namesS at this; rw [h2] at this; simpa using this
theorem below_of_grown_of {a w : World} (h : ∃ q os, w = grow (a.drewN q) os) : Below a.heap.size a w := by
  obtain ⟨q, os, rfl⟩ := h
  exact below_grow' _ _ _
section
variable {w : World} {base m g b : Nat} {S : Stt}
set_option maxHeartbeats 4000000 in
theorem pCreate (h : PSt w base m g b S) (hs : SmS S.l) (hm : m < 999900) (hlast : ∀ n ∈ S.l, n.ino ≤ S.last) (hl2 : i64R S.last) (e : Eff) (eb : EfB e) :
    Calls Tryz.prog 74 #[SPtr g, e.val] w (BGo (makeS S e) S base m g b w) := by
  have hfol : Tryz.prog.follows .mixedOrders = true := by kernel_rfl
  have hg1 := below_of_grown (World.grownBy_alloc w (.cells (effCells e) 50) none)
  have hc1 := Cells.new w 50 (effCells e)
  have h1 := h.below hg1
  have hq := h1.c1
  have KF := Lib.hid (fun n os => Grows.inAt (fun n os => pFree (h1.below (below_grow' _ n os)) hs e.dir eb.dir e.name) n os)
  have H1 := Lib.hid h1; have HG1 := Lib.hid hg1; have HC1 := Lib.hid hc1; have EB := Lib.hid eb; have HS := Lib.hid hs; have HM := Lib.hid hm; have HLL := Lib.hid hlast
  have hlt := hc1.lt
  obtain ⟨_, e1, e2, _, e4, _, e6, _, _⟩ := cells9 hc1
  have x1 := cell_grown (a := ⟨w.heap.size, 1, none⟩) hlt e1
  have x2 := cell_grown (a := ⟨w.heap.size, 2, none⟩) hlt e2
  have x4 := cell_grown (a := ⟨w.heap.size, 4, none⟩) hlt e4
  have x6 := cell_grown (a := ⟨w.heap.size, 6, none⟩) hlt e6
  clear e1 e2 e4 e6
  have y1 := cell_grown (a := ⟨g, 1, none⟩) h1.cells.lt hq
  obtain ⟨F, hF⟩ : ∃ F, freeS S.l e.dir e.name = F := ⟨_, rfl⟩
  have HF := Lib.hid hF
  have ei := eb.ino
  have w9 : wrap64 (e.ino - 1) = e.ino - 1 := by unfold wrap64; omega
  have HMK := Lib.hid (show makeS S e = if (F && decide (e.ino - 1 = S.last)) = true then some ⟨enterS (S.l ++ [newNod e.ino e.page e.dir]) e.dir e.name e.ino, e.ino⟩ else none by unfold makeS; rw [hF])
  rw [hF] at KF
  obtain ⟨kind, ino, dir, dst, page, size, name, other, A, cp, data⟩ := e
  unfold Eff.val
  unfold effCells at *
  dsimp only at *
  clear h hs hm hlast h1 hg1 hc1 eb hF hlt hq
  unfold SPtr at *
  obtain ⟨L, hL⟩ : ∃ L, S.last = L := ⟨_, rfl⟩
  have HL := Lib.hid hL
  rw [hL] at y1 HMK hl2
  clear hL
  have w8 : IntKind.i64.wrap (ino - 1) = ino - 1 := by rw [IntKind.wrap_i64]; unfold wrap64 at w9; omega
  have NO : ∀ (n : Nat) (os : Array Obj), makeS S ⟨kind, ino, dir, dst, page, size, name, other, A, cp, data⟩ = none → BGo (makeS S ⟨kind, ino, dir, dst, page, size, name, other, A, cp, data⟩) S base m g b w (.returned (.bool false)) (grow ((w.alloc (.cells #[.int .i64 kind, .int .i64 ino, .int .i64 dir, .int .i64 dst, .int .i64 page, .int .i64 size, .string name, .string other, .slice A data.length cp] 50)).drewN n) os) := fun n os he => by
    rw [he]
    exact ⟨rfl, (H1.out.below (below_grow' _ n os)).more (by omega), Trn.of (HG1.out.trans ((below_grow' _ n os).mono HG1.out.size))⟩
  cases F with
  | false =>
    go_enter Tryz.func74, Tryz.ntmps74
    go_upto_region 1 with fail
    refine wp_region_quiet_grown hfol (by kernel_rfl) ?_
    repeat (go_big_quiet_step (first | (go_at_call 110; (with_reducible exact KF.out _ _))))
    refine wpQuiet_nil ?_
    intro _ hw'
    obtain ⟨⟨nr, osr⟩, hw''⟩ := hw'
    subst hw''
    go_wp2
    go_ret
    exact NO nr osr (by rw [HMK.out]; rfl)
  | true =>
    by_cases hq : ino - 1 = L
    · have q1 : (ino - 1 != L) = false := by simpa using hq
      have HQ := Lib.hid hq
      clear hq
      go_enter Tryz.func74, Tryz.ntmps74
      go_upto_region 1 with fail
      refine wp_region_quiet_grown hfol (by kernel_rfl) ?_
      repeat (go_big_quiet_step (first | (go_at_call 110; (with_reducible exact KF.out _ _))))
      refine wpQuiet_nil ?_
      intro _ hw'
      obtain ⟨⟨nr, osr⟩, hw''⟩ := hw'
      subst hw''
      have e1 := x1 nr osr
      have e2 := x2 nr osr
      have e4 := x4 nr osr
      have e6 := x6 nr osr
      have H2 := Lib.hid (H1.out.below (below_grow' _ nr osr))
      have T2 := Lib.hid (Trn.of (S := [g, b]) (HG1.out.trans ((below_grow' _ nr osr).mono HG1.out.size)))
      have HC2 := Lib.hid (HC1.out.below' (below_grow' _ nr osr))
      clear x1 x2 x4 x6 y1 NO KF HG1 H1 HC1
      obtain ⟨w2, hw2⟩ : ∃ w2, grow ((w.alloc (.cells #[.int .i64 kind, .int .i64 ino, .int .i64 dir, .int .i64 dst, .int .i64 page, .int .i64 size, .string name, .string other, .slice A data.length cp] 50)).drewN nr) osr = w2 := ⟨_, rfl⟩
      rw [hw2] at e1 e2 e4 e6 H2 T2 HC2 ⊢
      clear hw2
      have c0 := H2.out.c0
      have HM9 : m < 1000000 := by have := HM.out; omega
      have HI9 : i64R ino := EB.out.ino'
      have HA9 := Lib.hid (at_app (n := newNod ino page dir) (fun a ha => by have h5 := HLL.out a ha; have h6 := HQ.out; have h7 := HL.out; show a.ino < ino; omega))
      have KN := Lib.hid (fun w => iNew ino page dir w)
      unfold nv at KN
      go_upto_region 3 with fail
      have b0 : Below w2.heap.size w2 w2.drew := below_drewN (Below.refl _ _) 1
      have s9 : ∀ w' : World, (∀ k, k < w2.heap.size → k ≠ b → w'.heap[k]? = w2.heap[k]?) → w'.cell? ⟨g, 0, none⟩ = some (.map (some b)) ∧ w'.cell? ⟨w.heap.size, 1, none⟩ = some (.int .i64 ino) ∧ w'.cell? ⟨w.heap.size, 2, none⟩ = some (.int .i64 dir) ∧ w'.cell? ⟨w.heap.size, 4, none⟩ = some (.int .i64 page) := fun w' hk => by
        have d1 : Cells w' g _ _ := (hk g H2.out.cells.lt (fun e => H2.out.ne e.symm)).trans H2.out.cells
        have d2 : Cells w' w.heap.size _ _ := (hk _ HC2.out.lt (fun e => by
          obtain ⟨es, cl, h5⟩ := (let ⟨G, hG, _⟩ := H2.out.mp; hG.block)
          have h6 : w2.heap[w.heap.size]? = _ := HC2.out
          rw [e, h5] at h6
          cases h6)).trans HC2.out
        exact ⟨d1.cell 0, d2.cell 1, d2.cell 2, d2.cell 4⟩
      have S9 := Lib.hid s9
      clear s9 c0 e1 e2 e4 e6
      go_region_held3 (fun w' => w'.cell? ⟨g, 0, none⟩ = some (.map (some b)) ∧ w'.cell? ⟨w.heap.size, 1, none⟩ = some (.int .i64 ino) ∧ w'.cell? ⟨w.heap.size, 2, none⟩ = some (.int .i64 dir) ∧ w'.cell? ⟨w.heap.size, 4, none⟩ = some (.int .i64 page))
        (first | exact S9.out _ (fun k hk _ => b0.block k hk) | exact S9.out _ (fun k hk _ => b3.block k hk) | exact S9.out _ (fun k hk hne => (turned_block HU4.out hne).trans (b3.block k hk)))
        (first
        | (go_at_call 43; (with_reducible refine (KN.out _).mono ?_); rintro e' w3 ⟨rfl, hw3⟩
           have b3 := b0.trans (below_of_grown_of hw3)
           obtain ⟨w4, hrun, hP4, hT4⟩ := (H2.out.below b3).store HM9 HI9 (x := ino) (n := ⟨ino, page, 1, 0, newUp page dir, none, 0, [], none, 0, []⟩) (OwnNd.zero _ _) (l' := S.l ++ [newNod ino page dir]) HA9.out
           unfold Nd.val at hrun
           dsimp only [List.length_nil] at hrun
           have HP4 := Lib.hid hP4
           have HU4 := Lib.hid hT4
           have HT4 := Lib.hid ((T2.out.trans (Trn.of b3)).trans (Trn.map hT4 (S := [g, b]) (List.mem_cons_of_mem _ (List.mem_singleton.2 rfl))))
           clear hP4 hT4 hw3))
      have hk4 := H2.out.keepC ((Trn.of b3).trans (Trn.map HU4.out (S := [g, b]) (List.mem_cons_of_mem _ (List.mem_singleton.2 rfl))))
      have hc4 := hk4 _ _ _ (by decide) HC2.out
      have hs5 : w4.frozen? ⟨g, 1, none⟩ = false := HP4.out.fr 1
      have hs6 := HP4.out.c1
      have h5 := HP4.out.setLast ino
      have hc5 := hc4.far (p := ⟨g, 1, none⟩) (HP4.out.cells.ne hc4 (by decide)).symm (.int .i64 ino)
      obtain ⟨_, f1, _, _, _, _, _, _, _⟩ := cells9 (e := ⟨kind, ino, dir, dst, page, size, name, other, A, cp, data⟩) hc4
      obtain ⟨_, g1, g2, _, _, _, g6, _, _⟩ := cells9 (e := ⟨kind, ino, dir, dst, page, size, name, other, A, cp, data⟩) hc5
      have H5 := Lib.hid h5
      have T5 := Lib.hid (HT4.out.trans (Trn.set w4 (p := ⟨g, 1, none⟩) (S := [g, b]) (List.mem_cons_self) (.int .i64 ino)))
      obtain ⟨n0, a0, k0, _⟩ := free_at HF.out
      have hA0 : atS (S.l ++ [newNod ino page dir]) dir = some n0 := by rw [atS_app, a0]; rfl
      have KE := Lib.hid (pEnter h5 (SmS.app HS.out (SmN.new EB.out.ino' EB.out.page EB.out.dir)) (by have := HM.out; omega) dir EB.out.dir hA0 name EB.out.name ino)
      have HX := Lib.hid (show makeS S ⟨kind, ino, dir, dst, page, size, name, other, A, cp, data⟩ = some ⟨enterS (S.l ++ [newNod ino page dir]) dir name ino, ino⟩ by rw [HMK.out, HQ.out]; simp)
      clear hk4 hc4 h5 hc5 a0 k0 hA0 hrun b3 b0 KN
      unfold SPtr at KE
      go_wp2_with fail
      refine (KE.out).mono ?_
      rintro e' w6 ⟨rfl, h6, t6⟩
      have H6 := Lib.hid h6; have T6 := Lib.hid (T5.out.trans t6)
      clear h6 t6
      go_wp2
      go_ret
      rw [HX.out]
      exact ⟨rfl, H6.out.more (by omega), T6.out⟩
    · have q1 : (ino - 1 != L) = true := by simpa using hq
      have HQ := Lib.hid (decide_eq_false hq)
      clear hq
      go_enter Tryz.func74, Tryz.ntmps74
      go_upto_region 1 with fail
      refine wp_region_quiet_grown hfol (by kernel_rfl) ?_
      repeat (go_big_quiet_step (first | (go_at_call 110; (with_reducible exact KF.out _ _))))
      refine wpQuiet_nil ?_
      intro _ hw'
      obtain ⟨⟨nr, osr⟩, hw''⟩ := hw'
      subst hw''
      go_wp2
      go_ret
      exact NO nr osr (by rw [HMK.out, HQ.out]; rfl)
end
end Go.Proofs.YtamndllolppmoaaGreatDoor

/-! The way up from a directory, and the project's Within. -/
namespace Go.Proofs.YtamndllolppmoaaGreatDoor
open Wd Ino Sm Go.RowKit Go.ChangeShapes Go.WideShapes Go.Sort
set_option linter.unusedVariables false
set_option maxRecDepth 100000
/-- k steps lead up to Root, from directory to directory -/
def Rch (l : List Nod) : Nat → Int → Prop
  | 0, i => i = 1
  | k + 1, i => i ≠ 1 ∧ kindS l i = 2 ∧ Rch l k (upS l i)
theorem Rch.uniq {l : List Nod} : ∀ {k k' : Nat} {i : Int}, Rch l k i → Rch l k' i → k = k'
  | 0, 0, _, _, _ => rfl
  | 0, k' + 1, i, h, h' => absurd h h'.1
  | k + 1, 0, i, h, h' => absurd h' h.1
  | k + 1, k' + 1, i, h, h' => by rw [Rch.uniq h.2.2 h'.2.2]
/-- the way from each directory ends -/
def WayUp (l : List Nod) : Prop := ∀ i, kindS l i = 2 → ∃ k, k < l.length ∧ Rch l k i
theorem way_more {l : List Nod} {d : Int} : ∀ {k n : Nat} {i : Int}, Rch l k i → k ≤ n → wayB l n i d = wayB l k i d
  | 0, 0, i, h, hn => rfl
  | 0, n + 1, i, h, hn => by
    have h' : i = 1 := h
    unfold wayB
    by_cases e : i = d
    · rw [if_pos e]; simp [e]
    · rw [if_neg e, if_pos (.inl h')]; simp [e]
  | k + 1, 0, i, h, hn => by omega
  | k + 1, n + 1, i, h, hn => by
    unfold wayB
    by_cases e : i = d
    · rw [if_pos e, if_pos e]
    · have hc : ¬ (i = 1 ∨ kindS l i ≠ 2) := fun hh => hh.elim h.1 (fun h2 => h2 h.2.1)
      rw [if_neg e, if_neg e, if_neg hc, if_neg hc]
      exact way_more h.2.2 (by omega)
noncomputable def depS (l : List Nod) (i : Int) : Nat := by
  classical exact if h : ∃ k, Rch l k i then h.choose else 0
theorem dep_eq {l : List Nod} {k : Nat} {i : Int} (h : Rch l k i) : depS l i = k := by
  unfold depS
  rw [dif_pos ⟨k, h⟩]
  exact Rch.uniq (Exists.choose_spec (⟨k, h⟩ : ∃ k, Rch l k i)) h
theorem way_step {l : List Nod} (hw : WayUp l) {i d : Int} (h1 : i ≠ d) (h2 : i ≠ 1) (h3 : kindS l i = 2) : withinS l i d = withinS l (upS l i) d ∧ depS l (upS l i) < depS l i := by
  obtain ⟨k, hk, h⟩ := hw i h3
  cases k with
  | zero => exact absurd h h2
  | succ k =>
    refine ⟨?_, ?_⟩
    · unfold withinS
      rw [way_more h (Nat.le_of_lt hk), way_more h.2.2 (by omega)]
      conv => lhs; unfold wayB
      rw [if_neg h1, if_neg (fun hh => hh.elim h2 (fun h4 => h4 h3))]
    · rw [dep_eq h, dep_eq h.2.2]; omega
theorem way_stop {l : List Nod} (hl : 0 < l.length) {i d : Int} (h1 : i ≠ d) (h2 : i = 1 ∨ kindS l i ≠ 2) : withinS l i d = false := by
  unfold withinS
  cases hn : l.length with
  | zero => omega
  | succ n => unfold wayB; rw [if_neg h1, if_pos h2]
theorem way_here (l : List Nod) (d : Int) : withinS l d d = true := by
  unfold withinS
  cases l.length with
  | zero => simp [wayB]
  | succ n => unfold wayB; rw [if_pos rfl]
section
variable {w : World} {base m g b : Nat} {S : Stt}
def WiRel (l : List Nod) (d : Int) (R : Bool) (w : World) (i : Value) (wr : World) : Prop := ∃ x : Int, i = .int .i64 x ∧ i64R x ∧ withinS l x d = R ∧ ∃ q os, wr = grow (w.drewN q) os
theorem pWithin (h : PSt w base m g b S) (hs : SmS S.l) (hw : WayUp S.l) (hpos : 0 < S.l.length) (i d : Int) (hi : i64R i) :
    Calls Tryz.prog 11 #[SPtr g, .int .i64 i, .int .i64 d] w (Grows (.bool (withinS S.l i d)) w) := by
  have KM := Lib.hid (pMade h)
  have H := Lib.hid h; have HS := Lib.hid hs; have HW := Lib.hid hw; have HP := Lib.hid hpos
  obtain ⟨R, hR⟩ : ∃ R, withinS S.l i d = R := ⟨_, rfl⟩
  have HR := Lib.hid hR
  rw [hR]
  have HI := Lib.hid hi
  clear h hs hw hpos hR hi
  unfold SPtr at *
  go_enter Tryz.func11, Tryz.ntmps11
  go_wp2_with fail
  refine (KM.out).mono ?_
  rintro e w1 ⟨rfl, hw1⟩
  have HG1 := Lib.hid hw1
  clear hw1 KM
  go_wp2_with fail
  go_loopw [1, 12] (fun i _ wr => WiRel S.l d R w i wr) (fun i _ _ => depS S.l (intOf i))
  case atStart => exact ⟨i, rfl, HI.out, HR.out, HG1.out⟩
  case round =>
    obtain ⟨x, rfl, hx, hwx, hg⟩ := hrel
    have HG := Lib.hid hg
    have h2 := H.out.below (grown_b hg)
    have HX := Lib.hid hx; have HWX := Lib.hid hwx
    by_cases e : x = d
    · have q0 : (x != d) = false := by simpa using e
      have HE := Lib.hid (show R = true by rw [← hwx, e]; exact way_here _ _)
      clear hg h2 e hwx hx
      go_wp2
      go_ret
      rw [HE.out]
      exact ⟨rfl, HG.out⟩
    · have q0 : (x != d) = true := by simpa using e
      have KI := Lib.hid (pIs h2 x 2 hx)
      have H2 := Lib.hid h2
      by_cases e1 : x = 1
      · have q1 : (x == 1) = true := by simpa using e1
        have HE := Lib.hid (show R = false by rw [← hwx]; exact way_stop HP.out e (.inl e1))
        clear hg h2 e e1 hwx hx
        go_wp2
        go_ret
        rw [HE.out]
        exact ⟨rfl, HG.out⟩
      · have q1 : (x == 1) = false := by simpa using e1
        by_cases e2 : kindS S.l x = 2
        · rw [decide_eq_true e2] at KI
          have HWS := Lib.hid (way_step HW.out e e1 e2)
          clear hg h2 e e1 e2 hwx hx
          unfold SPtr at KI
          go_wp2_with fail
          refine (KI.out).mono ?_
          rintro e' w2 ⟨rfl, hw2⟩
          have h3 := H2.out.below (grown_b hw2)
          have HG2 := Lib.hid (grow_trans HG.out hw2)
          obtain ⟨n, hn, ho, lk⟩ := h3.look HX.out
          have lk0 := lk w2 rfl
          have c0 := h3.c0
          have hsm := HS.out.get x
          obtain ⟨j, ki, l, t, u, A, ac, P, B, bc, N⟩ := n
          have hu : upS S.l x = u := by unfold upS; rw [← hn]; rfl
          have HU := Lib.hid (show i64R u by have := hsm.up; rw [← hn] at this; exact this)
          have HWS2 := HWS.out
          rw [hu] at HWS2
          have HWS3 := Lib.hid HWS2
          unfold Nd.val at lk0
          dsimp only at lk0
          clear h3 ho lk hn hsm hu hw2 HWS2 HWS
          go_wp2
          go_roundw
          case rel => exact ⟨u, rfl, HU.out, by rw [← HWS3.out.1]; exact HWX.out, HG2.out⟩
          case measure => exact HWS3.out.2
        · rw [decide_eq_false e2] at KI
          have HE := Lib.hid (show R = false by rw [← hwx]; exact way_stop HP.out e (.inr e2))
          clear hg h2 e e1 e2 hwx hx
          unfold SPtr at KI
          go_wp2_with fail
          refine (KI.out).mono ?_
          rintro e' w2 ⟨rfl, hw2⟩
          have HG2 := Lib.hid (grow_trans HG.out hw2)
          clear hw2
          go_wp2
          go_ret
          rw [HE.out]
          exact ⟨rfl, HG2.out⟩
end
end Go.Proofs.YtamndllolppmoaaGreatDoor

/-! The document's State: kind, named, put, cut. -/
namespace Go.Proofs.YtamndllolppmoaaGreatDoor
open Wd Ino Sm Go.RowKit Go.ChangeShapes Go.WideShapes Go.Sort
set_option linter.unusedVariables false
set_option maxRecDepth 100000
section
variable {w w' : World} {base g : Nat} {Ls : List Nd} {v : Value} {S : Stt}
theorem DSx.at_ (h : DSx w base g Ls v S) {i : Int} {n0 : Nod} (h0 : atS S.l i = some n0) : ∃ (n : Nd) (k gL c : Nat), Ls[k]? = some n ∧ n.plain = n0 ∧ atI S.l i = (k : Int) ∧ v = .slice (some ⟨gL, 0, none⟩) Ls.length c ∧ Ls.length ≤ c ∧ base ≤ gL ∧ k < Ls.length ∧ OwnNd w base n ∧
    ∀ j u, n.cells[j]? = some u → w.cell? ⟨gL, k * 7 + j, none⟩ = some u ∧ w.frozen? ⟨gL, k * 7 + j, none⟩ = false := by
  obtain ⟨h1, h2'⟩ := idx_some h0
  have h2 : (Ls.map Nd.plain)[idxS S.l i]? = some n0 := by rw [h.eq]; exact h2'
  rw [List.getElem?_map] at h2
  obtain ⟨n, h3, h4⟩ := Option.map_eq_some_iff.1 h2
  obtain ⟨A, c, rfl, hc, hF⟩ := h.form
  obtain ⟨gL, rfl, hb, hx⟩ := hF _ n h3
  exact ⟨n, _, gL, c, h3, h4, atI_some h0, rfl, hc, hb, (List.getElem?_eq_some_iff.1 h3).1, h.own n (List.mem_of_getElem? h3), hx⟩
theorem rKind (h : DSx w base g Ls v S) (hlen : Ls.length ≤ 1000) (i : Int) : Calls Tryz.prog 37 #[SPtr g, .int .i64 i] w (Grows (.int .i64 (kindS S.l i)) w) := by
  have KA := Lib.hid (rAt h hlen i)
  have H := Lib.hid h
  cases hi : atS S.l i with
  | none =>
    rw [atI_none hi] at KA
    have HK := Lib.hid (show kindS S.l i = 0 by unfold kindS getS; rw [hi]; rfl)
    rw [HK.out]
    clear h hi
    unfold SPtr at *
    go_enter Tryz.func37, Tryz.ntmps37
    go_wp2_with fail
    refine (KA.out).mono ?_
    rintro e w1 ⟨rfl, hw1⟩
    have HG := Lib.hid hw1
    clear hw1
    go_wp2
    go_ret
    exact ⟨rfl, HG.out⟩
  | some n0 =>
    obtain ⟨n, k, gL, c, h1, h2, h3, rfl, hc, hb, hk, ho, _⟩ := h.at_ hi
    have HK := Lib.hid (show kindS S.l i = n.kind by unfold kindS; rw [getS_some hi, ← h2]; rfl)
    rw [h3] at KA
    rw [HK.out]
    have HI := Lib.hid hi
    obtain ⟨j, ki, l, t, u, A0, ac, P, B, bc, N⟩ := n
    dsimp only
    have hlt2 : (k : Int) < (Ls.length : Int) := Int.ofNat_lt.2 hk
    have HK1 := Lib.hid h1
    clear h hi h1 h2 h3 ho HK
    unfold SPtr at *
    go_enter Tryz.func37, Tryz.ntmps37
    go_wp2_with fail
    refine (KA.out).mono ?_
    rintro e w1 ⟨rfl, hw1⟩
    have HG := Lib.hid hw1
    have h5 := H.out.below (grown_b hw1)
    have c0 := h5.c0
    obtain ⟨A', c', hv, _, hF⟩ := h5.form
    injection hv with hv1 hv2 hv3
    obtain ⟨gL', hA, _, hx⟩ := hF k _ HK1.out
    rw [hA] at hv1
    injection hv1 with hv1
    injection hv1 with hv1
    subst hv1
    have x1 := (hx 1 _ rfl).1
    dsimp only at x1
    clear hw1 h5 hv2 hv3 hA hx hF
    go_wp2
    go_ret
    exact ⟨rfl, HG.out⟩
def namedS (l : List Nod) (d : Int) (s : ByteArray) : Int := if kindS l d = 2 then inoN s (namesS l d) else 0
theorem DSx.row_cells {c gL k : Nat} {n : Nd} (h : DSx w base g Ls (.slice (some ⟨gL, 0, none⟩) Ls.length c) S) (h1 : Ls[k]? = some n) : ∀ j u, n.cells[j]? = some u → w.cell? ⟨gL, k * 7 + j, none⟩ = some u ∧ w.frozen? ⟨gL, k * 7 + j, none⟩ = false := by
  obtain ⟨A', c', hv, _, hF⟩ := h.form
  injection hv with hv1 hv2 hv3
  obtain ⟨gL', hA, _, hx⟩ := hF k _ h1
  rw [hA] at hv1
  injection hv1 with hv1
  injection hv1 with hv1
  subst hv1
  exact hx
set_option maxHeartbeats 4000000 in
theorem rNamed (h : DSx w base g Ls v S) (hlen : Ls.length ≤ 1000) (hs : SmS S.l) (d : Int) (s : ByteArray) : Calls Tryz.prog 38 #[SPtr g, .int .i64 d, .string s] w (Grows (.int .i64 (namedS S.l d s)) w) := by
  have hfol : Tryz.prog.follows .mixedOrders = true := by kernel_rfl
  have KK := Lib.hid (rKind h hlen d)
  have H := Lib.hid h
  by_cases hk2 : kindS S.l d = 2
  · obtain ⟨n0, hi, _⟩ := at_of_kind (l := S.l) (i := d) (by rw [hk2]; decide)
    obtain ⟨n, k, gL, c, h1, h2, h3, rfl, hc, hb, hk, ho, _⟩ := h.at_ hi
    have hN : namedS S.l d s = inoN s n.names := by unfold namedS namesS; rw [if_pos hk2, getS_some hi, ← h2]; rfl
    rw [hN]
    rw [hk2] at KK
    have hq : n.names.length ≤ 1000 := by have := hs n0 (atS_mem hi); rw [← h2] at this; exact Nat.le_trans this.q (by decide)
    have hlt2 : (k : Int) < (Ls.length : Int) := Int.ofNat_lt.2 hk
    have HK1 := Lib.hid h1
    have H3 := Lib.hid h3; have HO := Lib.hid ho; have HL := Lib.hid hlen
    clear h hi h2 h3 hk2 h1 ho hN hs
    unfold SPtr at *
    go_enter Tryz.func38, Tryz.ntmps38
    go_wp2_with fail
    refine (KK.out).mono ?_
    rintro e w1 ⟨rfl, hw1⟩
    have HG := Lib.hid hw1
    have h5 := H.out.below (grown_b hw1)
    have KA := Lib.hid (fun n os => Grows.inAt (fun n os => by have := rAt (h5.below (below_grow' w1 n os)) HL.out d; rw [H3.out] at this; exact this) n os)
    have hE := (HO.out.below (grown_b hw1)).ens.2
    have KF := Lib.hid (fun nn os => Grows.inAt (fun nn os => rFind (c := n.bc) (hE.below (below_grow' w1 nn os)) (below_grow' w1 nn os).size hq s) nn os)
    have c0 := cell_grown (a := ⟨g, 0, none⟩) h5.cells.lt h5.c0
    obtain ⟨j, ki, l, t, u, A0, ac, P, B, bc, N⟩ := n
    have hx6 := (h5.row_cells HK1.out 6 _ rfl).1
    dsimp only at hx6 KF
    have x6 := cell_grown (a := ⟨gL, k * 7 + 6, none⟩) (World.block_lt_of_cell? _ _ hx6) hx6
    dsimp only
    unfold SPtr at KA
    clear hw1 h5 hE hx6 KK
    go_upto_region 3 with fail
    refine wp_region_quiet_grown hfol (by kernel_rfl) ?_
    repeat (go_big_quiet_step (first | (go_at_call 14; (with_reducible exact KA.out _ _)) | (go_at_call 29; (with_reducible exact KF.out _ _))))
    refine wpQuiet_nil ?_
    intro _ hw'
    obtain ⟨⟨nr, osr⟩, hw''⟩ := hw'
    subst hw''
    have HG2 := Lib.hid (grow_trans HG.out (show ∃ q os, grow (w1.drewN nr) osr = grow (w1.drewN q) os from ⟨nr, osr, rfl⟩))
    go_wp2
    go_ret
    exact ⟨rfl, HG2.out⟩
  · have q0 : (kindS S.l d != 2) = true := by simpa using hk2
    have hN : namedS S.l d s = 0 := by unfold namedS; rw [if_neg hk2]
    rw [hN]
    obtain ⟨kk, hkk⟩ : ∃ kk, kindS S.l d = kk := ⟨_, rfl⟩
    rw [hkk] at KK q0
    clear h hk2 hN hkk hs
    unfold SPtr at *
    go_enter Tryz.func38, Tryz.ntmps38
    go_wp2_with fail
    refine (KK.out).mono ?_
    rintro e w1 ⟨rfl, hw1⟩
    have HG := Lib.hid hw1
    clear hw1
    go_wp2
    go_ret
    exact ⟨rfl, HG.out⟩
end
end Go.Proofs.YtamndllolppmoaaGreatDoor

/-! The document's State: put, cut. -/
namespace Go.Proofs.YtamndllolppmoaaGreatDoor
open Wd Ino Sm Go.RowKit Go.ChangeShapes Go.WideShapes Go.Sort
set_option linter.unusedVariables false
set_option maxRecDepth 100000
theorem flat_set {α : Type} {f : α → List Value} {K : Nat} (hK : ∀ a, (f a).length = K) {x x' : α} {j : Nat} {u : Value} (hj : j < K) (hx : f x' = (f x).set j u) : ∀ (l : List α) (k : Nat), l[k]? = some x → (l.set k x').flatMap f = (l.flatMap f).set (k * K + j) u := by
  intro l
  induction l with
  | nil => intro k h; simp at h
  | cons a l ih =>
    intro k h
    cases k with
    | zero =>
      simp at h
      subst h
      rw [List.set_cons_zero, List.flatMap_cons, List.flatMap_cons, hx, Nat.zero_mul, Nat.zero_add, List.set_append_left _ _ (by rw [hK]; exact hj)]
    | succ k =>
      rw [List.set_cons_succ, List.flatMap_cons, List.flatMap_cons, ih k (by simpa using h), List.set_append_right _ _ (by rw [hK, Nat.add_mul]; omega), hK]
      congr 2
      rw [Nat.add_mul]; omega
theorem mod_set {l : List Nod} (hp : AscS l) {i : Int} {f : Nod → Nod} {n : Nod} : ∀ {k : Nat}, l[k]? = some n → n.ino = i → modS l i f = l.set k (f n) := by
  induction l with
  | nil => intro k h; simp at h
  | cons a l ih =>
    have hp' := List.pairwise_cons.1 hp
    intro k h hn
    have e : modS (a :: l) i f = (if a.ino = i then f a else a) :: modS l i f := rfl
    rw [e]
    cases k with
    | zero =>
      simp at h
      subst h
      rw [if_pos hn, List.set_cons_zero]
      congr 1
      unfold modS
      conv => rhs; rw [← List.map_id l]
      refine List.map_congr_left fun b hb => ?_
      have := hp'.1 b hb
      rw [if_neg (by omega)]; rfl
    | succ k =>
      have h' : l[k]? = some n := by simpa using h
      have := hp'.1 n (List.mem_of_getElem? h')
      rw [if_neg (by omega), List.set_cons_succ, ih hp'.2 h' hn]
theorem KeepC.set' {w : World} {g : Nat} {T : TypeId} {cs : Array Value} (hc : Cells w g T cs) (i : Nat) (u : Value) : KeepC [T] w (w.setCell ⟨g, i, none⟩ u) := fun q t cs' ht hc' => hc'.far (fun e => ht (by
    have e' : q = g := e
    subst e'
    have : t = T := Decidable.byContradiction fun hne => hc'.ne hc hne rfl
    rw [this]; exact List.mem_singleton.2 rfl)) _
/-- it returns nothing; the state is S' -/
def DGo (S' : Stt) (base g : Nat) (Ls : List Nd) (w : World) (e : Ending) (w' : World) : Prop := e = .returned (.tuple #[]) ∧ ∃ Ls' v', DSx w' base g Ls' v' S' ∧ Ls'.length ≤ Ls.length ∧ Below base w w' ∧ KeepC [38, 45] w w'
section
variable {w w' : World} {base g : Nat} {Ls : List Nd} {v : Value} {S : Stt}
theorem DSx.blk {c gL k : Nat} (h : DSx w base g Ls (.slice (some ⟨gL, 0, none⟩) Ls.length c) S) (hk : k < Ls.length) : ∃ cur, Cells w gL 38 cur ∧ base ≤ gL := by
  rcases h.row.2 with ⟨h0, _⟩ | ⟨g', cap', cur, hv, hb, hh, _⟩
  · cases h0
  · injection hv with hv _ _
    injection hv with hv
    injection hv with hv
    subst hv
    exact ⟨cur, hh, hb⟩
theorem DSx.set {c gL k : Nat} {n n' : Nd} (h : DSx w base g Ls (.slice (some ⟨gL, 0, none⟩) Ls.length c) S) (hk : Ls[k]? = some n) (ha : AscS S.l) {f : Nod → Nod} (hf : n'.plain = f n.plain) {j : Nat} {u : Value} (hj : j < 7) (hx : n'.cells = n.cells.set j u) (ho : OwnNd w base n') :
    DSx (w.setCell ⟨gL, k * 7 + j, none⟩ u) base g (Ls.set k n') (.slice (some ⟨gL, 0, none⟩) Ls.length c) ⟨modS S.l n.ino f, S.last⟩ := by
  have hkl := (List.getElem?_eq_some_iff.1 hk).1
  obtain ⟨cur, hc, hb⟩ := h.blk hkl
  have hkc : KeepC [38] w (w.setCell ⟨gL, k * 7 + j, none⟩ u) := fun q t cs ht hcs => hcs.far (fun e => ht (by
    have e' : q = gL := e
    subst e'
    have : t = 38 := Decidable.byContradiction fun hne => hcs.ne hc hne rfl
    rw [this]; exact List.mem_singleton.2 rfl)) _
  refine ⟨h.lo, hkc _ _ _ (by decide) h.cells, ?_, fun m hm => ?_, ?_⟩
  · have h1 := ownK_set h.row (k * 7 + j) u
    rw [show ndvals (Ls.set k n') = (ndvals Ls).set (k * 7 + j) u from flat_set cells_len hj hx Ls k hk, List.length_set]
    exact h1
  · rcases List.mem_or_eq_of_mem_set hm with hm | rfl
    · exact (h.own m hm).keep hkc (by decide) (by decide)
    · exact ho.keep hkc (by decide) (by decide)
  · show (Ls.set k n').map Nd.plain = modS S.l n.ino f
    rw [List.map_set, h.eq, hf]
    refine (mod_set ha ?_ rfl).symm
    rw [← h.eq, List.getElem?_map, hk]; rfl
set_option maxHeartbeats 4000000 in
theorem rPutS (h : DSx w base g Ls v S) (hlen : Ls.length ≤ 1000) (hs : SmS S.l) (ha : AscS S.l) (d : Int) {n0 : Nod} (h0 : atS S.l d = some n0) (s : ByteArray) (hno : hasN s n0.names = false) (i : Int) :
    Calls Tryz.prog 94 #[SPtr g, .int .i64 d, .string s, .int .i64 i] w (DGo ⟨enterS S.l d s i, S.last⟩ base g Ls w) := by
  have KA := Lib.hid (rAt h hlen d)
  have hd : n0.ino = d := atS_ino h0
  obtain ⟨n, k, gL, c, h1, h2, h3, rfl, hc, hb, hk, ho, _⟩ := h.at_ h0
  rw [h3] at KA
  have hsm := hs n0 (atS_mem h0)
  rw [← h2] at hsm
  have hq : n.names.length ≤ 1000 := Nat.le_trans hsm.q (by decide)
  have hnn : hasN s n.names = false := by have := hno; rw [← h2] at this; exact this
  have H := Lib.hid h; have HK1 := Lib.hid h1; have HO := Lib.hid ho; have HA := Lib.hid ha; have HLT := Lib.hid hk
  have HD := Lib.hid (show n.ino = d by rw [← hd, ← h2]; rfl)
  have hlt2 : (k : Int) < (Ls.length : Int) := Int.ofNat_lt.2 hk
  clear h h0 h1 h2 h3 ho ha hs hd hk
  clear hno
  unfold SPtr at *
  go_enter Tryz.func94, Tryz.ntmps94
  go_wp2_with fail
  refine (KA.out).mono ?_
  rintro e w2 ⟨rfl, hw1⟩
  have hb2 := grown_b hw1
  have h5 := H.out.below hb2
  obtain ⟨hbc, hE2⟩ := (HO.out.below hb2).ens
  have KP := Lib.hid (fun wx (b : Below w2.heap.size w2 wx) => rPutO (c := n.bc) (hE2.below (by exact b)) b.size hbc hq s i hnn)
  obtain ⟨cur, hcl, hbl⟩ := h5.blk HLT.out
  have HB2 := Lib.hid hb2; have H5 := Lib.hid h5; have HCL := Lib.hid hcl; have HBL := Lib.hid hbl
  have hx6 := h5.row_cells HK1.out 6 _ rfl
  have HBASE := Lib.hid (show base ≤ w2.heap.size by have := h5.lo; have := h5.cells.lt; omega)
  have HX6 := Lib.hid hx6
  obtain ⟨J, ki, l, t, u, A0, ac, P, B, bc, N⟩ := n
  dsimp only at KP HX6 hbc hq hsm hE2 hx6
  have b0 : Below w2.heap.size w2 w2.drew := below_drewN (Below.refl _ _) 1
  have s9 : ∀ w' : World, (∀ q, q < w2.heap.size → q ≠ gL → w'.heap[q]? = w2.heap[q]?) → w'.cell? ⟨g, 0, none⟩ = some (.slice (some ⟨gL, 0, none⟩) Ls.length c) := fun w' hb' => by
    have d1 : Cells w' g _ _ := (hb' g H5.out.cells.lt (fun e => by subst e; exact H5.out.cells.ne HCL.out (by decide) rfl)).trans H5.out.cells
    exact d1.cell 0
  have S9 := Lib.hid s9
  have x6 := HX6.out.1
  have c0 := H5.out.c0
  clear hw1 hb2 h5 hcl hbl hx6 s9 KA hE2 hsm hbc
  go_upto_region 1 with fail
  go_region_with
    (first
    | (go_at_call 123; (with_reducible refine (KP.out _ b0).mono ?_); rintro e' w3 ⟨B3, bc3, rfl, hc3, ho3, hb3⟩; have b3 := b0.trans (hb3.mono b0.size); have c3 := S9.out _ (fun q hq _ => b3.block q hq); have HO3 := Lib.hid ho3; have y6 := (HCL.out.below' b3).cell (k * 7 + 6); rw [← HCL.out.cell (k * 7 + 6), HX6.out.1] at y6; have z6 := (HCL.out.below' b3).free (k * 7 + 6)))
  all_goals
    have h6 := (H5.out.below b3).set HK1.out HA.out (n' := ⟨J, ki, l, t, u, A0, ac, P, B3, bc3, putR s i N⟩) (f := putNm s i) rfl (j := 6) (u := .slice B3 (putR s i N).length bc3) (by decide) rfl
      ⟨((HO.out.below HB2.out).below b3).1, HO3.out.mono HBASE.out⟩
    dsimp only at h6
    rw [show J = d from HD.out] at h6
    have H6 := Lib.hid h6
    have HB6 := Lib.hid (show Below base w (w3.setCell ⟨gL, k * 7 + 6, none⟩ (.slice B3 (putR s i N).length bc3)) from ((HB2.out.trans (b3.mono HB2.out.size)).mono (by have := H.out.lo; have := H.out.cells.lt; omega)).setCell (p := ⟨gL, k * 7 + 6, none⟩) HBL.out _)
    have HKC := Lib.hid (show KeepC [38, 45] w (w3.setCell ⟨gL, k * 7 + 6, none⟩ (.slice B3 (putR s i N).length bc3)) from
      ((KeepC.of HB2.out).trans (KeepC.of b3)).trans ((KeepC.set' (HCL.out.below' b3) (k * 7 + 6) _).more (fun x hx => List.mem_cons.2 (.inl (List.mem_singleton.1 hx)))))
    clear h6 hc3 ho3 hb3 x6 y6 z6
    go_end0
    exact ⟨rfl, _, _, H6.out, (by rw [List.length_set]; exact Nat.le_refl _), HB6.out, HKC.out⟩
set_option maxHeartbeats 4000000 in
theorem rCutS (h : DSx w base g Ls v S) (hlen : Ls.length ≤ 1000) (hs : SmS S.l) (ha : AscS S.l) (d : Int) {n0 : Nod} (h0 : atS S.l d = some n0) (s : ByteArray) :
    Calls Tryz.prog 124 #[SPtr g, .int .i64 d, .string s] w (DGo ⟨leaveS S.l d s, S.last⟩ base g Ls w) := by
  have KA := Lib.hid (rAt h hlen d)
  have hd : n0.ino = d := atS_ino h0
  obtain ⟨n, k, gL, c, h1, h2, h3, rfl, hc, hb, hk, ho, _⟩ := h.at_ h0
  rw [h3] at KA
  have hsm := hs n0 (atS_mem h0)
  rw [← h2] at hsm
  have hq : n.names.length ≤ 1000 := Nat.le_trans hsm.q (by decide)
  have hnn := True.intro
  have H := Lib.hid h; have HK1 := Lib.hid h1; have HO := Lib.hid ho; have HA := Lib.hid ha; have HLT := Lib.hid hk
  have HD := Lib.hid (show n.ino = d by rw [← hd, ← h2]; rfl)
  have hlt2 : (k : Int) < (Ls.length : Int) := Int.ofNat_lt.2 hk
  clear h h0 h1 h2 h3 ho ha hs hd hk
  skip
  unfold SPtr at *
  go_enter Tryz.func124, Tryz.ntmps124
  go_wp2_with fail
  refine (KA.out).mono ?_
  rintro e w2 ⟨rfl, hw1⟩
  have hb2 := grown_b hw1
  have h5 := H.out.below hb2
  obtain ⟨hbc, hE2⟩ := (HO.out.below hb2).ens
  have KP := Lib.hid (fun wx (b : Below w2.heap.size w2 wx) => rDropO (c := n.bc) (hE2.below (by exact b)) b.size hq s)
  obtain ⟨cur, hcl, hbl⟩ := h5.blk HLT.out
  have HB2 := Lib.hid hb2; have H5 := Lib.hid h5; have HCL := Lib.hid hcl; have HBL := Lib.hid hbl
  have hx6 := h5.row_cells HK1.out 6 _ rfl
  have HBASE := Lib.hid (show base ≤ w2.heap.size by have := h5.lo; have := h5.cells.lt; omega)
  have HX6 := Lib.hid hx6
  obtain ⟨J, ki, l, t, u, A0, ac, P, B, bc, N⟩ := n
  dsimp only at KP HX6 hbc hq hsm hE2 hx6
  have b0 : Below w2.heap.size w2 w2.drew := below_drewN (Below.refl _ _) 1
  have s9 : ∀ w' : World, (∀ q, q < w2.heap.size → q ≠ gL → w'.heap[q]? = w2.heap[q]?) → w'.cell? ⟨g, 0, none⟩ = some (.slice (some ⟨gL, 0, none⟩) Ls.length c) := fun w' hb' => by
    have d1 : Cells w' g _ _ := (hb' g H5.out.cells.lt (fun e => by subst e; exact H5.out.cells.ne HCL.out (by decide) rfl)).trans H5.out.cells
    exact d1.cell 0
  have S9 := Lib.hid s9
  have x6 := HX6.out.1
  have c0 := H5.out.c0
  clear hw1 hb2 h5 hcl hbl hx6 s9 KA hE2 hsm hbc
  go_upto_region 1 with fail
  go_region_with
    (first
    | (go_at_call 145; (with_reducible refine (KP.out _ b0).mono ?_); rintro e' w3 ⟨B3, bc3, rfl, hc3, ho3, hb3⟩; have b3 := b0.trans (hb3.mono b0.size); have c3 := S9.out _ (fun q hq _ => b3.block q hq); have HO3 := Lib.hid ho3; have y6 := (HCL.out.below' b3).cell (k * 7 + 6); rw [← HCL.out.cell (k * 7 + 6), HX6.out.1] at y6; have z6 := (HCL.out.below' b3).free (k * 7 + 6)))
  all_goals
    have h6 := (H5.out.below b3).set HK1.out HA.out (n' := ⟨J, ki, l, t, u, A0, ac, P, B3, bc3, dropN s N⟩) (f := cutNm s) rfl (j := 6) (u := .slice B3 (dropN s N).length bc3) (by decide) rfl
      ⟨((HO.out.below HB2.out).below b3).1, HO3.out.mono HBASE.out⟩
    dsimp only at h6
    rw [show J = d from HD.out] at h6
    have H6 := Lib.hid h6
    have HB6 := Lib.hid (show Below base w (w3.setCell ⟨gL, k * 7 + 6, none⟩ (.slice B3 (dropN s N).length bc3)) from ((HB2.out.trans (b3.mono HB2.out.size)).mono (by have := H.out.lo; have := H.out.cells.lt; omega)).setCell (p := ⟨gL, k * 7 + 6, none⟩) HBL.out _)
    have HKC := Lib.hid (show KeepC [38, 45] w (w3.setCell ⟨gL, k * 7 + 6, none⟩ (.slice B3 (dropN s N).length bc3)) from
      ((KeepC.of HB2.out).trans (KeepC.of b3)).trans ((KeepC.set' (HCL.out.below' b3) (k * 7 + 6) _).more (fun x hx => List.mem_cons.2 (.inl (List.mem_singleton.1 hx)))))
    clear h6 hc3 ho3 hb3 x6 y6 z6
    go_end0
    exact ⟨rfl, _, _, H6.out, (by rw [List.length_set]; exact Nat.le_refl _), HB6.out, HKC.out⟩
end
end Go.Proofs.YtamndllolppmoaaGreatDoor
