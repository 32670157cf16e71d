import Derived.Test.YtbejbiogabpmfaaGreatG29
import Derived.Test.YtbejbiogabpmfaaGreatG26
import Derived.Test.YtbejbiogabpmfaaGreatG05
import Derived.Test.YtbejbiogabpmfaaGreatShelf
import Derived.RangeFuncNested
import Derived.RangeFuncBound
import Derived.RangeFuncCalls
import Derived.RangeFuncLeaves
import Derived.Shelf.Abstract
import Derived.Shelf.RegionOpen
import Derived.OwnWalkIn
import Derived.TacticsInMore
import Derived.LoopNIn
import Derived.LoopIn

/-! The law's Done: both states behind deeds. -/
namespace Go.Proofs.YtbejbiogabpmfaaGreat
open Wd Ino Sm U Go.RowKit Go.ChangeShapes Go.WideShapes Go.Sort
set_option linter.unusedVariables false
set_option maxRecDepth 100000
theorem Trn.keepC1 {w w' : World} {g : Nat} {T : TypeId} {cs : Array Value} (hc : Cells w g T cs) (t : Trn w w' [g]) : KeepC [T] w w' := fun b u cs' hu hc' => (t.block b hc'.lt (fun e => hu (by
    have e' : b = g := List.mem_singleton.1 e
    subst e'
    have : u = T := Decidable.byContradiction fun hne => hc'.ne hc hne rfl
    rw [this]; exact List.mem_singleton.2 rfl))).trans hc'
/-- the state behind deeds -/
def runD (l : List Dd) : Stt := l.foldl (fun S d => nextS S d.e d.ref) newStt
theorem inv_foldl (l : List Dd) : ∀ S, Inv S → Inv (l.foldl (fun S d => nextS S d.e d.ref) S) := by
  induction l with
  | nil => exact fun S h => h
  | cons d l ih => exact fun S h => ih _ (h.next d.e d.ref)
theorem Inv.runD (l : List Dd) : Inv (runD l) := inv_foldl l _ Inv.new
theorem num_foldl (l : List Dd) (hr : ∀ d ∈ l, i64R d.ref) : ∀ S k, Num k S → Num (k + l.length) (l.foldl (fun S d => nextS S d.e d.ref) S) := by
  induction l with
  | nil => exact fun S k h => h
  | cons d l ih =>
    intro S k h
    have := ih (fun x hx => hr x (List.mem_cons_of_mem _ hx)) _ _ (h.next d.e (hr d List.mem_cons_self))
    rw [List.length_cons, show k + (l.length + 1) = k + 1 + l.length by omega]
    exact this
theorem Num.runD (l : List Dd) (hr : ∀ d ∈ l, i64R d.ref) : Num l.length (runD l) := by
  have := num_foldl l hr _ _ Num.new
  rw [Nat.zero_add] at this
  exact this
theorem PSt.bx {w : World} {base m g b gx : Nat} {S : Stt} (h : PSt w base m g b S) {T : TypeId} {cs : Array Value} (hc : Cells w gx T cs) : b ≠ gx := by
  obtain ⟨G, hm, _⟩ := h.mp
  exact hm.cells hc
theorem PSt.far {w w' : World} {base m g b gx : Nat} {S : Stt} (h : PSt w base m g b S) {cs : Array Value} (hc : Cells w gx 75 cs) (t : Trn w w' [gx]) : PSt w' base m g b S :=
  h.keep (Trn.keepC1 hc t) (by decide) (by decide) (by decide) (t.block b h.blt (by simp; exact h.bx hc))
theorem DSx.far {w w' : World} {base m g b gx bx : Nat} {S S' : Stt} {Ls : List Nd} {v : Value} (h : DSx w bx gx Ls v S') (hp : PSt w base m g b S) (t : Trn w w' [g, b]) : DSx w' bx gx Ls v S' :=
  h.keep (hp.keepC t) (by decide) (by decide) (by decide) (by decide)
/-- both states, side by side, made since base -/
structure Two (w : World) (base m g b gx : Nat) (S S' : Stt) : Prop where
  p : PSt w base m g b S
  x : ∃ Ls v, DSx w base gx Ls v S'
theorem Two.below {w w' : World} {base m g b gx : Nat} {S S' : Stt} (h : Two w base m g b gx S S') (hb : Below w.heap.size w w') : Two w' base m g b gx S S' := ⟨h.p.below hb, let ⟨Ls, v, hx⟩ := h.x; ⟨Ls, v, hx.below hb⟩⟩
theorem Two.more {w : World} {base m m' g b gx : Nat} {S S' : Stt} (h : Two w base m g b gx S S') (hm : m ≤ m') : Two w base m' g b gx S S' := ⟨h.p.more hm, h.x⟩
theorem Two.base {w : World} {base m g b gx : Nat} {S S' : Stt} (h : Two w base m g b gx S S') : base ≤ w.heap.size := by
  have h1 := h.p.lo; have h2 := h.p.cells.lt; omega
theorem Two.mono {w : World} {base base' m g b gx : Nat} {S S' : Stt} (h : Two w base m g b gx S S') (hb : base' ≤ base) : Two w base' m g b gx S S' := by
  obtain ⟨p, Ls, v, x⟩ := h
  refine ⟨⟨Nat.le_trans hb p.lo, Nat.le_trans hb p.lob, p.cells, ?_⟩, Ls, v, ⟨Nat.le_trans hb x.lo, x.cells, ⟨x.row.1, ?_⟩, fun n hn => (x.own n hn).mono hb, x.eq⟩⟩
  · obtain ⟨G, h1, h2, h3⟩ := p.mp
    exact ⟨G, h1, h2, fun i n hn => (h3 i n hn).mono hb⟩
  · rcases x.row.2 with h3 | ⟨gg, cap, cur, h3, h4, h5⟩
    · exact .inl h3
    · exact .inr ⟨gg, cap, cur, h3, Nat.le_trans hb h4, h5⟩
def DoneGo (S : Stt) (m : Nat) (w : World) (e : Ending) (w' : World) : Prop := ∃ g b gx, e = .returned (.tuple #[SPtr g, SPtr gx]) ∧ Two w' w.heap.size m g b gx S S ∧ Below w.heap.size w w'
def DnRel (w : World) (l : List Dd) (g b gx : Nat) (i : Value) (wr : World) : Prop := ∃ k : Nat, k ≤ l.length ∧ i = .int .i64 k ∧ Two wr w.heap.size (1 + 8 * k) g b gx (runD (l.take k)) (runD (l.take k)) ∧ Below w.heap.size w wr
end Go.Proofs.YtbejbiogabpmfaaGreat

/-! The project's Get. -/
namespace Go.Proofs.YtbejbiogabpmfaaGreat
open Wd Ino Sm U Go.RowKit Go.ChangeShapes Go.WideShapes Go.Sort
set_option linter.unusedVariables false
set_option maxRecDepth 100000
def GetGo (S : Stt) (a : Int) (w : World) (e : Ending) (w' : World) : Prop := ∃ n : Nd, e = .returned (.tuple #[n.val, .bool (atS S.l a).isSome]) ∧ n.plain = getS S.l a ∧ OwnNd w' w.heap.size n ∧ Below w.heap.size w w'
section
variable {w : World} {base m g b : Nat} {S : Stt}
end
end Go.Proofs.YtbejbiogabpmfaaGreat

/-! The project's Turn. -/
namespace Go.Proofs.YtbejbiogabpmfaaGreat
open Wd Ino Sm U Go.RowKit Go.ChangeShapes Go.WideShapes Go.Sort
set_option linter.unusedVariables false
set_option maxRecDepth 100000
def turnOk (S : Stt) (a page old : Int) : Prop := old ≠ 0 ∧ ∃ K : Nat, page = (K : Int) ∧ (getS S.l a).pages[K]? = some old
def TurnGo (S : Stt) (a page old ref : Int) (base m g b : Nat) (w : World) (e : Ending) (w' : World) : Prop :=
  (turnOk S a page old → e = .returned (.bool true) ∧ PSt w' base (m + 8) g b ⟨modS S.l a (putNod page ref (getS S.l a).size), S.last⟩) ∧ (¬ turnOk S a page old → e = .returned (.bool false) ∧ PSt w' base (m + 8) g b S) ∧ Trn w w' [g, b]
section
variable {w : World} {base m g b : Nat} {S : Stt}
end
end Go.Proofs.YtbejbiogabpmfaaGreat

/-! The project's inOrder: all nodes in a row, by number. -/
namespace Go.Proofs.YtbejbiogabpmfaaGreat
open Wd Ino Sm U Go.Maps Go.RowKit Go.ChangeShapes Go.WideShapes Go.Sort Go.Shelf
set_option linter.unusedVariables false
set_option linter.unusedSimpArgs false
set_option maxRecDepth 100000
theorem sortsI (m : Nat) : AnyZI.SortsIn Tryz.prog Tryz.sortedA_ren Fence.wide m :=
  ⟨fun blk off cap ss W hH hblk hsz => callsIn_wide.2 (AnyM.slices_Sort_int Tryz.sortA blk off cap ss W hH hblk hsz),
   fun p cap W => callsIn_wide.2 (AnyM.slices_Sort_int_none Tryz.sortA p cap W)⟩
theorem rise_srt {ss : List Int} (h : ss.Nodup) : (ss.mergeSort leI).Pairwise (· < ·) := by
  have tr : ∀ a b c : Int, leI a b = true → leI b c = true → leI a c = true := fun a b c h1 h2 => by simp only [leI, decide_eq_true_eq] at *; exact Int.le_trans h1 h2
  have tot : ∀ a b : Int, (leI a b || leI b a) = true := fun a b => by simp only [leI, Bool.or_eq_true, decide_eq_true_eq]; exact Int.le_total a b
  have h1 := List.pairwise_mergeSort tr tot ss
  have h2 : (ss.mergeSort leI).Nodup := (List.mergeSort_perm ss leI).nodup_iff.2 h
  refine (h1.and h2).imp fun {a b} ⟨h3, h4⟩ => ?_
  simp only [leI, decide_eq_true_eq] at h3
  have : a ≠ b := h4
  omega
theorem rise_uniq : ∀ {l m : List Int}, l.Pairwise (· < ·) → m.Pairwise (· < ·) → (∀ x, x ∈ l ↔ x ∈ m) → l = m
  | [], [], _, _, _ => rfl
  | [], b :: m, _, _, h => absurd ((h b).2 List.mem_cons_self) (by simp)
  | a :: l, [], _, _, h => absurd ((h a).1 List.mem_cons_self) (by simp)
  | a :: l, b :: m, hl, hm, h => by
    have hl' := List.pairwise_cons.1 hl
    have hm' := List.pairwise_cons.1 hm
    have hab : a = b := by
      rcases List.mem_cons.1 ((h a).1 List.mem_cons_self) with h1 | h1
      · exact h1
      · rcases List.mem_cons.1 ((h b).2 List.mem_cons_self) with h2 | h2
        · exact h2.symm
        · have h3 := hm'.1 a h1
          have h4 := hl'.1 b h2
          omega
    subst hab
    refine congrArg _ (rise_uniq hl'.2 hm'.2 fun x => ⟨fun hx => ?_, fun hx => ?_⟩)
    · have h3 := hl'.1 x hx
      rcases List.mem_cons.1 ((h x).1 (List.mem_cons_of_mem _ hx)) with h1 | h1
      · omega
      · exact h1
    · have h3 := hm'.1 x hx
      rcases List.mem_cons.1 ((h x).2 (List.mem_cons_of_mem _ hx)) with h1 | h1
      · omega
      · exact h1
theorem keysM {w : World} {b n : Nat} {F : VFn} (h : Mv Tryz.prog 3 w b n F) : ∃ D : DataW Value, w.ownsMap Tryz.prog 3 HR b n D ∧ ∀ ss : List Int, ss.Perm (intKeys D) → (ss.mergeSort leI).Pairwise (· < ·) ∧ ∀ x, x ∈ ss.mergeSort leI ↔ (F x).isSome = true := by
  obtain ⟨D, h, v⟩ := h
  refine ⟨D, h, fun ss hp => ?_⟩
  have h' := h
  obtain ⟨es, clock, h1, F1, h2, rfl⟩ := h
  have ap := Maps.fit_apart keyedN F1
  have each : ∀ p ∈ es.toList.map (WideElems.rg (H := Value) Tryz.prog 3 HR), ∃ x, p.1 = .int .i64 x := by
    intro p hp
    obtain ⟨m, hm, rfl⟩ := List.mem_map.1 hp
    obtain ⟨y, hy⟩ := F1.reads m hm
    obtain ⟨x, _, ex, _⟩ := Maps.keyOf_int_inv Tryz.underlying3 (WideElems.rd_key hy)
    exact ⟨x, by rw [WideElems.rg_of hy, ex]⟩
  obtain ⟨es', e1, pw, hk⟩ := h'.entries keyedN
  injection e1 with e1
  rw [e1] at hp v
  have each' : ∀ p ∈ es', ∃ x, p.1 = .int .i64 x := fun p hp => by rw [← e1] at hp; exact each p (mem_sorted.1 hp)
  have hnd : (es'.map fun p => Go.intOf p.1).Nodup := by
    refine List.pairwise_map.2 (pw.imp_of_mem fun {p q} hp' hq' hne e => hne ?_)
    obtain ⟨a, ha⟩ := each' p hp'
    obtain ⟨b, hb⟩ := each' q hq'
    rw [ha, hb] at e ⊢
    exact congrArg _ e
  refine ⟨rise_srt (hp.nodup_iff.2 hnd), fun x => ?_⟩
  rw [List.mem_mergeSort, hp.mem_iff, ← (v x).1, has_eq, List.any_eq_true]
  show x ∈ es'.map (fun p => Go.intOf p.1) ↔ _
  rw [List.mem_map]
  constructor
  · rintro ⟨p, hp', rfl⟩
    obtain ⟨a, ha⟩ := each' p hp'
    exact ⟨p, hp', by rw [ha]; simp [Lit.sameKey, Go.intOf, KI]⟩
  · rintro ⟨p, hp', hs⟩
    obtain ⟨a, ha⟩ := each' p hp'
    rw [ha] at hs
    exact ⟨p, hp', by rw [ha]; simpa [Lit.sameKey, Go.intOf, KI] using hs⟩
section
variable {w : World} {base m g b : Nat} {S : Stt}
theorem order_keys {w : World} {base m g b : Nat} {S : Stt} (h : PSt w base m g b S) (ha : AscS S.l) : ∃ D : DataW Value, w.ownsMap Tryz.prog 3 HR b m D ∧ ∀ ss : List Int, ss.Perm (intKeys D) → ss.mergeSort leI = S.l.map Nod.ino := by
  obtain ⟨G, hm, hp, ho⟩ := h.mp
  obtain ⟨D, hD, hk⟩ := keysM hm
  refine ⟨D, hD, fun ss hss => ?_⟩
  obtain ⟨k1, k2⟩ := hk ss hss
  refine rise_uniq k1 (List.pairwise_map.2 ha) fun x => ?_
  rw [k2]
  unfold mval
  rw [Option.isSome_map]
  have hx := hp x
  have h2 : (G x).isSome = (atS S.l x).isSome := by rw [← hx, Option.isSome_map]
  rw [h2, List.mem_map]
  constructor
  · intro h3
    obtain ⟨n, hn⟩ := Option.isSome_iff_exists.1 h3
    exact ⟨n, atS_mem hn, atS_ino hn⟩
  · rintro ⟨n, hn, rfl⟩
    rw [atS_of_mem ha hn]; rfl
def OrdRow (W0 w0 : World) (base : Nat) (w : World) (q : Nat) (v : Value) (Lk : List Nd) (l : List Nod) : Prop := w0.heap.size ≤ q ∧ Cells w q 73 #[v] ∧ OwnNs w w0.heap.size v Lk ∧ (∀ n ∈ Lk, OwnNd W0 base n) ∧ Lk.map Nd.plain = l
def OrdGo (W0 : World) (l : List Nod) (base : Nat) (w : World) (e : Ending) (w' : World) : Prop := ∃ q Lk v, e = .returned (.func (.func 85) #[] #[.pointer (some ⟨q, 0, none⟩)]) ∧ OrdRow W0 w base w' q v Lk l ∧ Below w.heap.size w w'
def IoRel (W0 : World) (l : List Nod) (base : Nat) (w : World) (q : Nat) (i : Value) (wr : World) : Prop := ∃ (k : Nat) (Lk : List Nd) (v : Value), k ≤ l.length ∧ i = .int .i64 k ∧ OrdRow W0 w base wr q v Lk (l.take k) ∧ Below w.heap.size w wr
set_option maxHeartbeats 8000000 in
theorem pInOrder {W0 : World} (h0 : PSt W0 base m g b S) (hw0 : Below W0.heap.size W0 w) (ha : AscS S.l) (hs : SmS S.l) (hl : S.l.length ≤ 1000) (hm : m < 999900) : Calls Tryz.prog 57 #[SPtr g] w (OrdGo W0 S.l base w) := by
  have h := h0.below hw0
  obtain ⟨w1, hw1⟩ : ∃ w1, w.alloc (.cells #[.slice none 0 0] 73) = w1 := ⟨_, rfl⟩
  have hg1 : Below w.heap.size w w1 := by rw [← hw1]; exact below_of_grown (World.grownBy_alloc w _ none)
  have hc1 : Cells w1 w.heap.size 73 #[.slice none 0 0] := by rw [← hw1]; exact Cells.new _ _ _
  have HA := Lib.hid ha; have HS := Lib.hid hs; have HL := Lib.hid hl; have HM := Lib.hid hm; have HBASE := Lib.hid (show base ≤ w.heap.size by have := h.lo; have := h.cells.lt; omega)
  have H0 := Lib.hid h0; have HW0 := Lib.hid hw0; have H1 := Lib.hid (h.below hg1); have HG1 := Lib.hid hg1; have HC1 := Lib.hid hc1
  have c0 := (h.below hg1).c0
  have cK : ∀ mb W, Calls Tryz.prog 84 #[.map mb] W fun e w' => e = .returned (.func (.func 125) #[] #[.pointer (some ⟨W.heap.size, 0, none⟩)]) ∧ w' = W.alloc (.cells #[.map mb] 106) := fun mb W => (callsIn_wide (n := 5)).1 (AnyZI.keys_in Tryz.keysA Fence.wide 5 trivial rfl mb W)
  have cS : ∀ W, PSt W base m g b S → Calls Tryz.prog 83 #[.func (.func 125) #[] #[.pointer (some ⟨W.heap.size, 0, none⟩)]] (W.alloc (.cells #[.map (some b)] 106)) fun e w' => ∃ v, e = .returned v ∧ w'.ownsRow W.heap.size 3 1 v S.l.length ((S.l.map Nod.ino).map iv) ∧ Below W.heap.size W w' := by
    intro W hW
    obtain ⟨D0, hown, hkeys⟩ := order_keys hW ha
    have hsz := hown.size_le
    have hbl := hown.lt
    have hseq : SeqGives Fence.wide 2 Tryz.prog 125 #[.pointer (some ⟨W.heap.size, 0, none⟩)] encZ (fun ss => ss.Perm (intKeys D0)) (Maps.size D0) (W.alloc (.cells #[.map (some b)] 106)) :=
      AnyZI.keys_gives (ρ := Tryz.keysA_ren) { Tryz.keysA with } Fence.wide _ trivial rfl (by omega) W.heap.size b m D0 _ (by simp) (by simp) (by
        obtain ⟨es, clock, hb, Ft, hs, hD⟩ := hown
        exact ⟨es, clock, (Below.heap_alloc _ _ b hbl).trans hb, Ft, hs, hD⟩)
    have cS := AnyZI.sorted_in Tryz.sortedA Fence.wide 5 trivial trivial trivial trivial rfl (by omega) (sortsI _) (enters_of Tryz.func66 (by kernel_rfl) rfl) 125 #[.pointer (some ⟨W.heap.size, 0, none⟩)] trivial (enters_of Tryz.func125 (by kernel_rfl) rfl) _ _ (by unfold maxLen; omega) (by omega) _ hseq
    change CallsIn _ _ Tryz.prog 83 _ _ _ at cS
    refine ((callsIn_wide (n := 5)).1 cS).mono ?_
    rintro e w' ⟨v, ss, rfl, hS, hrow, _, hb⟩
    have hk := hkeys ss hS
    have hrow' := own_mono' hrow (by simp : W.heap.size ≤ _)
    have hlen : ss.length = S.l.length := by
      have := congrArg List.length hk
      rw [List.length_mergeSort, List.length_map] at this
      exact this
    refine ⟨v, rfl, ?_, ((Below.refl _ W).alloc (Nat.le_refl _) _).trans (hb.mono (by simp))⟩
    rw [← hk, ← hlen]
    exact hrow'
  have CK := Lib.hid cK; have CS := Lib.hid (cS _ H1.out)
  unfold SPtr
  clear h h0 hw0 ha hs hl hm hg1 hc1 cK cS
  go_enter Tryz.func57, Tryz.ntmps57
  go_wp2_with fail
  refine (CK.out _ _).mono ?_
  rintro e w2 ⟨rfl, rfl⟩
  go_wp2_with fail
  refine (CS.out).mono ?_
  rintro e w3 ⟨v, rfl, hown3, hb3⟩
  obtain ⟨A, c, rfl, _⟩ := Row.of_own hown3
  have H3 := Lib.hid (H1.out.below hb3); have HC3 := Lib.hid (HC1.out.below' hb3); have HB3 := Lib.hid (HG1.out.trans (hb3.mono HG1.out.size)); have HOW3 := Lib.hid hown3
  have hlb : S.l.length ≤ 1000 := HL.out
  clear hown3 hb3 CK CS c0 hw1
  go_wp2_with fail
  go_loopw [13] (fun i wr => IoRel W0 S.l base w w.heap.size i wr ∧ PSt wr base m g b S ∧ wr.ownsRow w1.heap.size 3 1 (.slice A S.l.length c) S.l.length ((S.l.map Nod.ino).map iv)) (fun i _ => S.l.length - (intOf i).toNat)
  case atStart => exact ⟨⟨0, [], _, Nat.zero_le _, rfl, ⟨Nat.le_refl _, HC3.out, World.ownsRow_nil _ _ _ _, fun n hn => (by simp at hn), rfl⟩, HB3.out⟩, H3.out, HOW3.out⟩
  case round =>
    obtain ⟨⟨k, Lk, vk, hk, rfl, ⟨hq, hcq, hro, hon, hpl⟩, hb⟩, hps, hints⟩ := hrel
    by_cases hlt : k < S.l.length
    · obtain ⟨n0, hn0⟩ : ∃ n, S.l[k]? = some n := ⟨_, List.getElem?_eq_getElem hlt⟩
      have hkl : (k : Int) < (S.l.length : Int) := Int.ofNat_lt.2 hlt
      have hmem := List.mem_of_getElem? hn0
      have hsm := HS.out n0 hmem
      obtain ⟨A1, c1, hv1, hrw⟩ := Row.of_own hints
      injection hv1 with hv1 _ hv3
      subst hv1 hv3
      obtain ⟨b1, o1, hA, _, hcell⟩ := hrw.2 (by omega)
      have cx : wr.cell? ⟨b1, o1 + k, none⟩ = some (.int .i64 n0.ino) := by
        rw [hcell k (by rw [List.length_map, List.length_map]; omega), List.getElem_map, List.getElem_map, (List.getElem?_eq_some_iff.1 hn0).2]; rfl
      subst hA
      obtain ⟨n, hn, ho, lk⟩ := H0.out.look hsm.ino
      have hnn : n.plain = n0 := hn.trans (getS_some (atS_of_mem HA.out hmem))
      have lk0 := lk wr.drew ((hb.block b (Nat.lt_of_lt_of_le H0.out.blt HW0.out.size)).trans (HW0.out.block b H0.out.blt))
      have c0 := hps.c0
      obtain ⟨Ak, ck, rfl, _, _⟩ := ownK_form (RowP.of hro)
      have y0 := hcq.cell 0
      have z0 := hcq.free 0
      simp only [List.getElem?_toArray, List.getElem?_cons_zero] at y0
      obtain ⟨J, ki, l, t, u, A0, ac, P, B0, bc, N⟩ := n
      unfold Nd.val at lk0
      dsimp only at lk0
      have g4 : Below wr.heap.size wr (wr.alloc (.cells #[.int .i64 J, .int .i64 ki, .int .i64 l, .int .i64 t, .int .i64 u, .slice A0 P.length ac, .slice B0 N.length bc] 51)) := below_of_grown (World.grownBy_alloc wr _ none)
      have b4 : Below wr.heap.size wr (wr.alloc (.cells #[.int .i64 J, .int .i64 ki, .int .i64 l, .int .i64 t, .int .i64 u, .slice A0 P.length ac, .slice B0 N.length bc] 51)).drew := g4.drew
      have y4 := (hcq.below' g4).cell 0
      simp only [List.getElem?_toArray, List.getElem?_cons_zero] at y4
      have HPS := Lib.hid hps; have HINTS := Lib.hid hints; have HCQ := Lib.hid hcq; have HRO := Lib.hid hro; have HON := Lib.hid hon; have HPL := Lib.hid hpl; have HB := Lib.hid hb; have HNN := Lib.hid hnn; have HN0 := Lib.hid hn0; have HO := Lib.hid ho; have B4 := Lib.hid b4
      have hro4 : OwnNs _ w.heap.size (.slice Ak Lk.length ck) Lk := hro.below b4
      have HRO4 := Lib.hid hro4
      have hlk : Lk.length ≤ 1000 := by have := congrArg List.length hpl; rw [List.length_map, List.length_take] at this; omega
      have HLK := Lib.hid hlk; have HLT := Lib.hid hlt
      have HSB := Lib.hid (show w.heap.size ≤ (wr.alloc (.cells #[.int .i64 J, .int .i64 ki, .int .i64 l, .int .i64 t, .int .i64 u, .slice A0 P.length ac, .slice B0 N.length bc] 51)).drew.heap.size from Nat.le_trans hb.size b4.size)
      clear hps hints hcq hro hon hpl hb hnn hn0 ho g4 b4 hro4 hlk lk hn hsm hmem hcell hrw hlt hk
      go_wp2_with fail
      go_region_law (first
        | (refine step_append_nds (by rfl) (.tmp 17) (.tmp 24) (by rfl) (m := [(Nd.mk J ki l t u A0 ac P B0 bc N)]) (by rfl) (by rfl) HRO4.out (nds_one wr (Nd.mk J ki l t u A0 ac P B0 bc N)) (by have := HLK.out; simp; omega) HSB.out ?_; intro v6 w6 hown6 hgr6 hat6
           have hc6 := (HCQ.out.below' B4.out).grown hgr6 (ne_own (HCQ.out.below' B4.out) HRO4.out (by decide))
           obtain ⟨A6, c6, rfl, _, _⟩ := ownK_form (RowP.of hown6)
           have y6 := hc6.cell 0
           have f6 := hc6.free 0))
      all_goals
        have hk6 := KeepC.grown HRO4.out hgr6
        have hks := KeepC.set hc6 0 (.slice A6 (Lk ++ [Nd.mk J ki l t u A0 ac P B0 bc N]).length c6)
        have hB4 : KeepC ([] : List TypeId) wr _ := KeepC.of B4.out
        have hP := HPS.out.below B4.out
        have hbb : b ≠ w.heap.size := by
          obtain ⟨G, hG, _⟩ := hP.mp
          exact hG.cells (HCQ.out.below' B4.out)
        have hb6 : (w6.setCell ⟨w.heap.size, 0, none⟩ (.slice A6 (Lk ++ [Nd.mk J ki l t u A0 ac P B0 bc N]).length c6)).heap[b]? = (wr.alloc (.cells #[.int .i64 J, .int .i64 ki, .int .i64 l, .int .i64 t, .int .i64 u, .slice A0 P.length ac, .slice B0 N.length bc] 51)).drew.heap[b]? := by
          rw [Below.heap_setCell _ _ _ b hbb]
          refine hgr6.block b hP.blt (fun e => ?_)
          obtain ⟨G, hG, _⟩ := hP.mp
          obtain ⟨es, clock, h9⟩ := hG.block
          rcases HRO4.out.2 with ⟨h0, _⟩ | ⟨g9, cap9, cur9, hv9, _, hh9, _⟩
          · rw [h0] at e; cases e
          · rw [hv9] at e
            injection e with e
            rw [e] at h9
            have hh9' : (wr.alloc (.cells #[.int .i64 J, .int .i64 ki, .int .i64 l, .int .i64 t, .int .i64 u, .slice A0 P.length ac, .slice B0 N.length bc] 51)).drew.heap[g9]? = some (.cells cur9 51 (0, 0)) := hh9
            rw [hh9'] at h9
            cases h9
        have hP6 := hP.keep (KeepC.trans (hk6.more (Us := [51, 73]) (fun x hx => by rw [List.mem_singleton.1 hx]; exact List.mem_cons_self)) (hks.more (Us := [51, 73]) (fun x hx => by rw [List.mem_singleton.1 hx]; exact List.mem_cons_of_mem _ (List.mem_singleton.2 rfl)))) (by decide) (by decide) (by decide) hb6
        have hI6 := hks.own (by decide) (hk6.own (by decide) (hB4.own (by simp) HINTS.out))
        have hR6 : OwnNs _ w.heap.size _ _ := hks.own (by decide) hown6
        have hln : (Lk ++ [Nd.mk J ki l t u A0 ac P B0 bc N]).length = Lk.length + 1 := by simp
        have hON6 : ∀ x ∈ Lk ++ [Nd.mk J ki l t u A0 ac P B0 bc N], OwnNd W0 base x := fun x hx => by
          rcases List.mem_append.1 hx with hx | hx
          · exact HON.out x hx
          · rw [List.mem_singleton.1 hx]
            exact HO.out
        have hPL6 : (Lk ++ [Nd.mk J ki l t u A0 ac P B0 bc N]).map Nd.plain = S.l.take (k + 1) := by
          rw [take_snocE HN0.out, List.map_append, HPL.out]; congr 1; show [Nd.plain _] = _; rw [HNN.out]
        have hBB6 : Below w.heap.size w (w6.setCell ⟨w.heap.size, 0, none⟩ (.slice A6 (Lk ++ [Nd.mk J ki l t u A0 ac P B0 bc N]).length c6)) := ((HB.out.trans (B4.out.mono HB.out.size)).grown hgr6 HSB.out (fun q hq => own_base HRO4.out q hq)).setCell (p := ⟨w.heap.size, 0, none⟩) (Nat.le_refl _) _
        have hC6 := hc6.set 0 (.slice A6 (Lk ++ [Nd.mk J ki l t u A0 ac P B0 bc N]).length c6)
        rw [hln] at hP6 hI6 hR6 hBB6 hC6
        have HP6 := Lib.hid hP6; have HI6 := Lib.hid hI6; have HR6 := Lib.hid hR6; have HON6 := Lib.hid hON6; have HPL6 := Lib.hid hPL6; have HBB6 := Lib.hid hBB6; have HC6 := Lib.hid hC6
        clear hP6 hI6 hR6 hON6 hPL6 hBB6 hC6 hb6 hbb hP hB4 hks hk6 hc6 hown6 hgr6 hat6 y6 f6 lk0 hln
        go_wp2
        go_roundw
        case rel => exact ⟨⟨k + 1, _, _, HLT.out, by go_num, ⟨Nat.le_refl _, HC6.out, HR6.out, HON6.out, HPL6.out⟩, HBB6.out⟩, HP6.out, HI6.out⟩
        case measure => simp [intOf]; have := HLT.out; omega
    · obtain rfl : k = S.l.length := by omega
      have HOR := Lib.hid (show OrdRow W0 w base wr w.heap.size vk Lk S.l from ⟨hq, hcq, hro, hon, by rw [List.take_length] at hpl; exact hpl⟩)
      have HB := Lib.hid hb
      clear hq hcq hro hon hpl hb hps hints hk hlt
      go_wp2
      go_ret
      exact ⟨w.heap.size, Lk, vk, rfl, HOR.out, HB.out⟩
end
end Go.Proofs.YtbejbiogabpmfaaGreat

/-! What the project's inOrder hands to a loop's body: the nodes, by number. -/
namespace Go.Proofs.YtbejbiogabpmfaaGreat
open Wd Ino Sm U Go.RowKit Go.ChangeShapes Go.WideShapes Go.Shelf
set_option linter.unusedVariables false
attribute [local go_sem] Oper.semAt_some
set_option maxRecDepth 100000
theorem nds_of_row {w : World} {base n : Nat} {v : Value} {l : List Nd} (h : RowP w base 51 7 v l.length (ndvals l)) : ∃ A c, v = .slice A l.length c ∧ Nds w w.heap.size A l := by
  rcases h.2 with ⟨rfl, h0⟩ | ⟨g, cap, cur, rfl, _, hh, hc, hm, _, ht⟩
  · obtain rfl : l = [] := List.eq_nil_of_length_eq_zero h0
    exact ⟨none, 0, rfl, fun hn => absurd hn (by simp)⟩
  · refine ⟨_, cap, rfl, fun _ => ⟨g, 0, rfl, (show Cells w g 51 cur from hh).lt, fun j e hj k x hk => ?_⟩⟩
    have h1 := flat_at cells_len l j k e x hj hk
    have h2 : cur.toList[j * 7 + k]? = some x := by
      have h3 : (ndvals l)[j * 7 + k]? = some x := h1
      rw [← ht] at h3
      rw [← h3]
      have := (List.getElem?_eq_some_iff.1 h3).1
      rw [List.getElem?_take_of_lt (by rw [List.length_take] at this; omega)]
    rw [(show Cells w g 51 cur from hh).cell (0 + (j * 7 + k)), Nat.zero_add, ← Array.getElem?_toList]
    exact h2
theorem Nds.below {w w' : World} {hi : Nat} {A : Option Addr} {l : List Nd} (h : Nds w hi A l) (hb : Below hi w w') : Nds w' hi A l := fun hn => by
  obtain ⟨b, off, e, hB, hx⟩ := h hn
  exact ⟨b, off, e, hB, fun j d hj k x hk => (hb.cell (p := ⟨b, _, none⟩) hB).trans (hx j d hj k x hk)⟩
theorem Nds.more {w : World} {hi hi' : Nat} {A : Option Addr} {l : List Nd} (h : Nds w hi A l) (hb : hi ≤ hi') : Nds w hi' A l := fun hn => by
  obtain ⟨b, off, e, hB, hx⟩ := h hn
  exact ⟨b, off, e, Nat.lt_of_lt_of_le hB hb, hx⟩
theorem nds_cells {w : World} {hi : Nat} {A : Option Addr} {l : List Nd} (h : Nds w hi A l) {k : Nat} {n : Nd} (hk : l[k]? = some n) : ∃ b off, A = some ⟨b, off, none⟩ ∧ b < hi ∧
    w.cell? ⟨b, off + k * 7, none⟩ = some (.int .i64 n.ino) ∧ w.cell? ⟨b, off + k * 7 + 1, none⟩ = some (.int .i64 n.kind) ∧ w.cell? ⟨b, off + k * 7 + 2, none⟩ = some (.int .i64 n.links) ∧ w.cell? ⟨b, off + k * 7 + 3, none⟩ = some (.int .i64 n.size) ∧
    w.cell? ⟨b, off + k * 7 + 4, none⟩ = some (.int .i64 n.up) ∧ w.cell? ⟨b, off + k * 7 + 5, none⟩ = some (.slice n.A n.pages.length n.ac) ∧ w.cell? ⟨b, off + k * 7 + 6, none⟩ = some (.slice n.B n.names.length n.bc) := by
  obtain ⟨b, off, rfl, hb, hx⟩ := h (by have := (List.getElem?_eq_some_iff.1 hk).1; omega)
  have g := hx k n hk
  exact ⟨b, off, rfl, hb, g 0 _ rfl, g 1 _ rfl, g 2 _ rfl, g 3 _ rfl, g 4 _ rfl, g 5 _ rfl, g 6 _ rfl⟩
theorem take_len {α : Type} (l : List α) {k : Nat} (hk : k ≤ l.length) : (l.take k).length = k := by rw [List.length_take]; omega
/-- what a loop's body keeps of the row that it is handed -/
def Kq (q : Nat) (A : Option Addr) (W W' : World) : Prop := W.heap.size ≤ W'.heap.size ∧ W'.heap[q]? = W.heap[q]? ∧ ∀ b off, A = some ⟨b, off, none⟩ → W'.heap[b]? = W.heap[b]?
theorem Kq.refl (q : Nat) (A : Option Addr) (W : World) : Kq q A W W := ⟨Nat.le_refl _, rfl, fun _ _ _ => rfl⟩
theorem Kq.trans {q : Nat} {A : Option Addr} {X Y Z : World} (h : Kq q A X Y) (k : Kq q A Y Z) : Kq q A X Z := ⟨Nat.le_trans h.1 k.1, k.2.1.trans h.2.1, fun b off e => (k.2.2 b off e).trans (h.2.2 b off e)⟩
theorem Kq.below {q : Nat} {A : Option Addr} {X Y : World} {B : Nat} (h : Below B X Y) (hq : q < B) (hA : ∀ b off, A = some ⟨b, off, none⟩ → b < B) : Kq q A X Y := ⟨h.size, h.block _ hq, fun b off e => h.block _ (hA b off e)⟩
theorem Kq.nds {q : Nat} {A : Option Addr} {X Y : World} {hi hi' : Nat} {l : List Nd} (h : Kq q A X Y) (hn : Nds X hi A l) (hh : hi ≤ hi') : Nds Y hi' A l := fun h0 => by
  obtain ⟨b, off, e, hB, hx⟩ := hn h0
  have hb := h.2.2 b off e
  exact ⟨b, off, e, Nat.lt_of_lt_of_le hB hh, fun j d hj k x hk => by
    have := hx j d hj k x hk
    unfold World.cell? at this ⊢
    rw [hb]; exact this⟩
theorem Kq.put {q : Nat} {A : Option Addr} {w : World} (hq : q < w.heap.size) (hA : ∀ b off, A = some ⟨b, off, none⟩ → b < w.heap.size) (W : World) (l : Nat) (o o' : Obj) (hl : w.heap.size ≤ l) (h : W.heap[l]? = some o) (_ : o.isCells = false) (_ : o.isWalk = false) : Kq q A W (W.putObj l o') :=
  ⟨(grownBy_putObj' W l o').size, World.putObj_heap_other (by omega), fun b off e => World.putObj_heap_other (by have := hA b off e; omega)⟩
set_option maxHeartbeats 4000000 in
theorem io_in (F : Fence) (n : Nat) (h7 : F.fn 85) (hro : F.round = none) (hn : 1 ≤ n) (lp q : Nat) (A : Option Addr) (cap : Nat) (l : List Nd) (hm : l.length ≤ 1000) (J Jx : List Nd → World → Prop)
    (hY : ∀ pre (x : Nd) W, J pre W → pre.length < l.length → l[pre.length]? = some x → YieldAt F (n - 1) Tryz.prog lp #[.int .i64 x.ino, x.val] W fun e W' =>
      (e = .returned (.bool true) ∧ J (pre ++ [x]) W' ∧ Kq q A W W') ∨ (e = .returned (.bool false) ∧ Jx (pre ++ [x]) W'))
    (hJ : ∀ pre W o, J pre W → J pre (W.alloc o))
    (W : World) (hq : W.cell? ⟨q, 0, none⟩ = some (.slice A l.length cap)) (hqn : q < W.heap.size) (hE : Nds W W.heap.size A l) (h0 : J [] W) :
    CallsIn F n Tryz.prog 85 #[.func (.yield lp) #[] #[], .pointer (some ⟨q, 0, none⟩)] W fun e W' => (∃ v, e = .returned v) ∧
      (J l W' ∨ (∃ k, k ≤ l.length ∧ Jx (l.take k) W')) := by
  refine callsIn_of_wp Tryz.func85 rfl h7 ?_ hro
  simp only [Tryz.ntmps85, List.size_toArray, List.length_cons, List.length_nil, Nat.reduceAdd, Nat.reduceSub, Array.replicate_succ, Array.replicate_zero, List.push_toArray, List.append_toArray, List.nil_append, List.cons_append]
  gi_wp2
  gi_loopw [7] (fun i wr => ∃ k : Nat, k ≤ l.length ∧ i = .int .i64 (k : Int) ∧ J (l.take k) wr ∧ Kq q A W wr) (fun i _ => l.length - (intOf i).toNat)
  case atStart => exact ⟨0, Nat.zero_le _, by simp, h0, Kq.refl _ _ _⟩
  case round =>
    obtain ⟨k, hk, rfl, hJs, hnx⟩ := hrel
    by_cases hlt : k < l.length
    · obtain ⟨e, he⟩ : ∃ e, l[k]? = some e := ⟨_, List.getElem?_eq_getElem hlt⟩
      have hs := take_snocE he
      obtain ⟨b, off, rfl, hbB, x0, x1, x2, x3, x4, x5, x6⟩ := nds_cells (hnx.nds hE hnx.1) he
      obtain ⟨J0, ki, lk, t, u, A0, ac, P, B0, bc, N⟩ := e
      dsimp only at x0 x1 x2 x3 x4 x5 x6
      obtain ⟨w3, hw3⟩ : ∃ w3, wr.alloc (.cells #[.int .i64 J0, .int .i64 ki, .int .i64 lk, .int .i64 t, .int .i64 u, .slice A0 P.length ac, .slice B0 N.length bc] 51) = w3 := ⟨_, rfl⟩
      have hc3 : Cells w3 wr.heap.size 51 (ncells J0 ki lk t u (.slice A0 P.length ac) (.slice B0 N.length bc)) := by rw [← hw3]; exact Cells.new _ _ _
      have hb3 : Below wr.heap.size wr w3 := by rw [← hw3]; exact below_of_grown (World.grownBy_alloc wr _ none)
      have hJ3 : J (l.take k) w3 := by rw [← hw3]; exact hJ _ _ _ hJs
      obtain ⟨z0, z1, z2, z3, z4, z5, z6⟩ := cells7 hc3
      have hl2 : (l.take k).length = k := take_len l hk
      obtain ⟨fn, tmps, assign, body, hy, hR⟩ := hY _ ⟨J0, ki, lk, t, u, A0, ac, P, B0, bc, N⟩ w3 hJ3 (by rw [hl2]; exact hlt) (by rw [hl2]; exact he)
      unfold Nd.val at hy
      dsimp only at hy
      have HS := Lib.hid hs; have HLT := Lib.hid hlt; have HB3 := Lib.hid (hnx.trans (Kq.below hb3 (Nat.lt_of_lt_of_le hqn hnx.1) (fun b9 off9 e9 => by cases e9; exact hbB)))
      have hkl : (k : Int) < (l.length : Int) := by omega
      have hm2 : (k : Int) < 1000 := by omega
      clear hs he hc3 hb3 hJ3 hJs hk hlt
      gi_wp2
      refine hR.mono ?_
      rintro e W3 (⟨rfl, hJ4, hk4⟩ | ⟨rfl, hJx4⟩)
      · gi_wp2
        go_roundw
        case rel => exact ⟨k + 1, HLT.out, by go_num, by rw [HS.out]; exact hJ4, HB3.out.trans hk4⟩
        case measure => simp [intOf]; have := HLT.out; omega
      · gi_wp2
        refine bodyPost_ret (results_none rfl _ _ _) rfl ?_
        exact ⟨⟨_, rfl⟩, .inr ⟨k + 1, HLT.out, by rw [HS.out]; exact hJx4⟩⟩
    · obtain rfl : k = l.length := by omega
      rw [List.take_length] at hJs
      gi_wp2
      go_end0
      exact ⟨⟨_, rfl⟩, .inl hJs⟩
end Go.Proofs.YtbejbiogabpmfaaGreat

/-! A loop over the project's inOrder that goes through all nodes. -/
namespace Go.Proofs.YtbejbiogabpmfaaGreat
open Wd Ino Sm U Go.RowKit Go.ChangeShapes Go.WideShapes Go.Shelf
set_option linter.unusedVariables false
set_option maxRecDepth 100000
abbrev Mem (L : List Nd) := {x : Nd // x ∈ L}
theorem io_seq {L : List Nd} {n0 : Nat} (h2 : 2 ≤ n0) {w : World} {q cap : Nat} {A : Option Addr} (hq : w.cell? ⟨q, 0, none⟩ = some (.slice A L.length cap)) (hqw : q < w.heap.size) (hA : ∀ b off, A = some ⟨b, off, none⟩ → b < w.heap.size) (hE : Nds w w.heap.size A L) (hm : L.length ≤ 1000) :
    SeqStopsK Fence.wide (n0 - 1) Tryz.prog 85 #[.pointer (some ⟨q, 0, none⟩)] (fun x : Mem L => #[Value.int .i64 x.1.ino, x.1.val]) (Kq q A) (fun xs => xs.map Subtype.val = L) (fun pre => ∃ k, k ≤ L.length ∧ pre.map Subtype.val = L.take k) L.length w := by
  intro lp J Jx W hW hJ hJx hY h0
  have hk : Kq q A w W := Kq.below hW hqw hA
  have hq2 : W.cell? ⟨q, 0, none⟩ = some (.slice A L.length cap) := (hW.cell (p := ⟨q, 0, none⟩) hqw).trans hq
  refine (io_in Fence.wide (n0 - 1) trivial rfl (by omega) lp q A cap L hm (fun pre W => ∃ p : List (Mem L), p.map Subtype.val = pre ∧ J p W) (fun pre W => ∃ p : List (Mem L), p.map Subtype.val = pre ∧ Jx p W) ?_ ?_ W hq2 (Nat.lt_of_lt_of_le hqw hW.size) (hk.nds hE hW.size) ⟨[], rfl, h0⟩).mono ?_
  · rintro pre x W1 ⟨p, hp, hj⟩ hlt hx
    have hpl : p.length < L.length := by rw [← hp, List.length_map] at hlt; exact hlt
    obtain ⟨fn, tmps, assign, body, hy, hR⟩ := hY p ⟨x, List.mem_of_getElem? hx⟩ W1 hj hpl
    refine ⟨fn, tmps, assign, body, hy, hR.mono fun e W' he => ?_⟩
    rcases he with ⟨h1, h2, h3⟩ | ⟨h1, h2⟩
    · exact .inl ⟨h1, ⟨_, by rw [List.map_append, hp]; rfl, h2⟩, h3⟩
    · exact .inr ⟨h1, ⟨_, by rw [List.map_append, hp]; rfl, h2⟩⟩
  · rintro pre W1 o ⟨p, hp, hj⟩
    exact ⟨p, hp, hJ _ _ _ none hj (World.grownBy_alloc W1 o none) (fun r e => by cases e)⟩
  · rintro e W' ⟨hv, hj | ⟨k, hk2, hj⟩⟩
    · obtain ⟨p, hp, hj⟩ := hj
      exact ⟨hv, .inl ⟨p, hp, hj⟩⟩
    · obtain ⟨p, hp, hj⟩ := hj
      exact ⟨hv, .inr ⟨p, ⟨k, hk2, hp⟩, hj⟩⟩
/-- a loop over all nodes, by number, whose body never ends it -/
theorem wp_inOrder {L : List Nd} {n0 : Nat} (h3 : 3 ≤ n0) {w : World} {q cap : Nat} {A : Option Addr} {g : Operand} {ps : Array Tmp} {assign body : Code} {Q : Exit → Act → World → Prop} {a : Act}
    (hg : a.eval g = .func (.func 85) #[] #[.pointer (some ⟨q, 0, none⟩)]) (hps : ps.size = 2)
    (hq : w.cell? ⟨q, 0, none⟩ = some (.slice A L.length cap)) (hqw : q < w.heap.size) (hA : ∀ b off, A = some ⟨b, off, none⟩ → b < w.heap.size) (hE : Nds w w.heap.size A L) (hm : L.length ≤ 1000)
    (I : List (Mem L) → World → Prop) (hI : OwnFrom w.heap.size I) (h0 : I [] w) (Ax : Mem L → Act → World → Prop) (hAx : ∀ x a', OwnFrom w.heap.size (fun (_ : Unit) W => Ax x a' W))
    (hassign : ∀ (l : Nat) (pre : List (Mem L)) (x : Mem L) (W : World) (K : Act → World → Prop), I pre W → (∀ a' W', KeepsFrom w.heap.size W W' → Kq q A W W' → I pre W' → Ax x a' W' → K a' W') →
      assign.wpIn (Fence.wide.inRound l) (n0 - 1 - 1) Tryz.prog (Exit.then K (fun _ _ _ => False)) { tmps := (ps.zip #[Value.int .i64 x.1.ino, x.1.val]).foldl (fun t (p, v) => t.setIfInBounds p v) a.tmps, defers := [] } W)
    (hbody : ∀ (l : Nat) (pre : List (Mem L)) (x : Mem L) (a' : Act) (W : World), w.heap.size ≤ l → I pre W → Ax x a' W → pre.length < L.length → body.wpIn (Fence.wide.inRound l) (n0 - 1 - 1) Tryz.prog (ownPostG w.heap.size (Kq q A) I (fun _ _ _ => False) (pre ++ [x]) W) a' W)
    (hdone : ∀ (D : Nat) (xs : List (Mem L)) (W : World), w.heap.size ≤ D → xs.map Subtype.val = L → I xs W → W.heap[D]? = some (.deferred (some [])) → Q .normal { a with defers := { target := .collected D, args := #[] } :: a.defers } W) :
    (Code.rangeFunc g ps assign body).wpIn Fence.wide n0 Tryz.prog Q a w :=
  wpIn_rangeFunc_ownH rfl (by omega) (gf := 85) (lb := #[.pointer (some ⟨q, 0, none⟩)]) hg trivial (enters_of Tryz.func85 (by kernel_rfl) rfl)
    (io_seq (n0 := n0) (by omega) hq hqw hA hE hm) (fun h k => h.trans k) (fun W l o o' hl h hc hw => Kq.put hqw hA W l o o' hl h hc hw) (Below.refl _ _) (fun x => by rw [hps]; rfl) I (fun _ _ _ => False) hI (fun c s W W' row hs _ _ => hs) h0 Ax hAx
    hassign (fun l pre x a' W hl _ hi hax hlt => hbody l pre x a' W hl hi hax hlt) hdone (fun D c pre W _ _ hx _ => hx.elim)
end Go.Proofs.YtbejbiogabpmfaaGreat
