import Derived.Test.YtbejbiogabpmfaaGreatG22
import Derived.Deep.RegionLawGrows
import Derived.Test.YtbejbiogabpmfaaGreatG20
import Derived.Test.YtbejbiogabpmfaaGreatG17

/-! The document's State: a node goes. -/
namespace Go.Proofs.YtbejbiogabpmfaaGreat
open Wd Ino Sm Go.RowKit Go.ChangeShapes Go.WideShapes Go.Sort
set_option linter.unusedVariables false
set_option maxRecDepth 100000
theorem rm_split {l : List Nod} (hp : AscS l) {i : Int} : ∀ {k : Nat} {n : Nod}, l[k]? = some n → n.ino = i → rmS l i = l.take k ++ l.drop (k + 1) := by
  induction l with
  | nil => intro k n h; simp at h
  | cons a l ih =>
    have hp' := List.pairwise_cons.1 hp
    intro k n h hn
    have e : rmS (a :: l) i = if a.ino = i then rmS l i else a :: rmS l i := by
      unfold rmS
      rw [List.filter_cons]
      by_cases h : a.ino = i <;> simp [h]
    rw [e]
    cases k with
    | zero =>
      simp at h
      subst h
      rw [if_pos hn]
      have e3 : rmS l i = l := by
        unfold rmS
        refine List.filter_eq_self.2 fun b hb => ?_
        have := hp'.1 b hb
        simp; omega
      rw [e3]; simp
    | succ k =>
      have h' : l[k]? = some n := by simpa using h
      have := hp'.1 n (List.mem_of_getElem? h')
      rw [if_neg (by omega), ih hp'.2 h' hn]; simp
theorem step_append_none {P : Program} {ops : Array Oper} {o : Oper} {a : Act} {w : World} {K : Act → World → Prop} {Q : Exit → Act → World → Prop} {E : Prop}
    (hg : o.guard = none) (s x : Operand) (t : TypeId) (hop : o.op = Op.call { callee := Callee.builtin Builtin.append, args := #[s, x], argTypes := #[t, t] })
    (e : TypeId) (z : Value) (size bytes : Nat) (ht : P.underlying t = some (.slice e)) (hi : (P.info? e).map (fun i => (i.zero, i.size, i.bytes)) = some (some z, size, bytes))
    (ad : Addr) (n c : Nat) (hs : a.eval s = .slice (some ad) n c) (hnc : n ≤ c) (A : Option Addr) (c2 : Nat) (hx : a.eval x = .slice A 0 c2)
    (h : K (a.put o.dst (.slice (some ad) n c)) w) : if Region.wanted o (yielded ops a.tmps) = true then Oper.wp P o a w K Q else E := by
  have hw : Region.wanted o (yielded ops a.tmps) = true := by simp [Region.wanted, hg]
  rw [if_pos hw]
  obtain ⟨i, i1, i2, i3, i4⟩ := info_parts hi
  have hrun : (Builtin.append_ #[t, t] o.type #[.slice (some ad) n c, .slice A 0 c2]).run P w = .ok (.slice (some ad) n c) w := by
    cases A <;> simp [Builtin.append_, run_underlying ht, Go.sizeOf, typeInfo, i1, Builtin.lenOf, Builtin.firstCells, hnc, storeCells, loadCells, loadCellsFrom]
  unfold Oper.wp execOp
  simp only [hop, resolve, invoke, builtin, Sem.run_bind, Sem.run_pure, Result.andThen_ok, List.map_toArray, List.map_cons, List.map_nil, hs, hx, hrun]
  exact h
section
variable {w w' : World} {base g : Nat} {Ls : List Nd} {v : Value} {S : Stt}
theorem DSx.room {A : Option Addr} {n c : Nat} (h : DSx w base g Ls (.slice A n c) S) : c ≤ maxLen := by
  rcases h.row.2 with ⟨h0, _⟩ | ⟨g', cap', cur, hv, hb, hh, h1, h2, _⟩
  · injection h0 with _ _ h0; rw [h0]; unfold maxLen; omega
  · injection hv with _ _ hv; rw [hv]; exact h2
theorem DSx.cut {gL c k : Nat} (h : DSx w base g Ls (.slice (some ⟨gL, 0, none⟩) Ls.length c) S) (hk : k ≤ Ls.length) : RowP w base 51 7 (.slice (some ⟨gL, 0, none⟩) k k) k (ndvals (Ls.take k)) := by
  refine ⟨by rw [ndvals_len, List.length_take]; omega, ?_⟩
  rcases h.row.2 with ⟨h0, _⟩ | ⟨g', cap', cur, hv, hb, hh, h1, h2, hs, ht⟩
  · cases h0
  · injection hv with hv _ hc
    injection hv with hv
    injection hv with hv
    subst hv hc
    refine .inr ⟨gL, k, cur, rfl, hb, hh, Nat.le_refl _, by omega, by omega, ?_⟩
    have e : ndvals Ls = ndvals (Ls.take k) ++ ndvals (Ls.drop k) := by rw [← ndvals_append, List.take_append_drop]
    have h3 : (cur.toList.take (Ls.length * 7)).take (k * 7) = (ndvals Ls).take (k * 7) := by rw [ht]
    rw [List.take_take, Nat.min_eq_left (by omega)] at h3
    rw [h3, e, List.take_append_of_le_length (by rw [ndvals_len, List.length_take]; omega)]
    exact List.take_of_length_le (by rw [ndvals_len, List.length_take]; omega)
theorem own_mono' {w : World} {b1 b2 sz n : Nat} {e : TypeId} {v : Value} {xs : List Value} (h : w.ownsRow b1 e sz v n xs) (hb : b2 ≤ b1) : w.ownsRow b2 e sz v n xs := by
  refine ⟨h.1, ?_⟩
  rcases h.2 with h2 | ⟨g, cap, cur, h2, h3, h4⟩
  · exact .inl h2
  · exact .inr ⟨g, cap, cur, h2, Nat.le_trans hb h3, h4⟩
theorem DSx.putRow {Ls' : List Nd} {v' : Value} {l' : List Nod} (h : DSx w base g Ls v S) (hr : RowP w base 51 7 v' Ls'.length (ndvals Ls')) (ho : ∀ n ∈ Ls', OwnNd w base n) (he : Ls'.map Nd.plain = l') : DSx (w.setCell ⟨g, 0, none⟩ v') base g Ls' v' ⟨l', S.last⟩ := by
  have hk := KeepC.set h.cells 0 v'
  exact ⟨h.lo, h.cells.set 0 v', hk.rowP (by decide) hr, fun n hn => (ho n hn).keep hk (by decide) (by decide), he⟩
set_option maxHeartbeats 8000000 in
theorem rRemoveT (h : DSx w base g Ls v S) (hlen : Ls.length ≤ 1000) (ha : AscS S.l) (i : Int) {n0 : Nod} (h0 : atS S.l i = some n0) :
    Calls Tryz.prog 106 #[SPtr g, .int .i64 i] w (fun e w' => DGo ⟨rmS S.l i, S.last⟩ base g Ls w e w' ∧ Trn w w' [g]) := by
  have KA := Lib.hid (rAt h hlen i)
  obtain ⟨n, k, gL, c, h1, h2, h3, rfl, hc, hb, hk, ho, _⟩ := h.at_ h0
  rw [h3] at KA
  have hSk : S.l[k]? = some n0 := by rw [← h.eq, List.getElem?_map, h1]; exact congrArg some h2
  have HRM := Lib.hid (rm_split ha hSk (atS_ino h0))
  have HEQ := Lib.hid (show (Ls.take k ++ Ls.drop (k + 1)).map Nd.plain = S.l.take k ++ S.l.drop (k + 1) by rw [List.map_append, List.map_take, List.map_drop, h.eq])
  have H := Lib.hid h
  have hm := h.room
  have hlt2 : (k : Int) < (Ls.length : Int) := Int.ofNat_lt.2 hk
  have i1 : (0 : Int) ≤ (k : Int) := by omega
  have i3 : (Ls.length : Int) ≤ (c : Int) := by omega
  have i4 : (k : Int) ≤ (c : Int) := by omega
  have q1 : IntKind.i64.wrap ((k : Int) + 1) = (k : Int) + 1 := by rw [IntKind.wrap_i64]; omega
  have q2 : wrap64 ((k : Int) + 1) = (k : Int) + 1 := by unfold wrap64; omega
  have i5 : (0 : Int) ≤ (k : Int) + 1 := by omega
  have i6 : (k : Int) + 1 ≤ (Ls.length : Int) := by omega
  have hm2 : c ≤ 9223372036854775807 := by unfold maxLen at hm; omega
  have HLE := Lib.hid hlen
  clear h h0 h1 h2 h3 ho ha hSk
  unfold SPtr at *
  go_enter Tryz.func106, Tryz.ntmps106
  go_wp2_with fail
  refine (KA.out).mono ?_
  rintro e w2 ⟨rfl, hw1⟩
  have hb2 := grown_b hw1
  have h5 := H.out.below hb2
  have c0 := h5.c0
  have fz := h5.cells.free 0
  have HB2 := Lib.hid hb2; have H5 := Lib.hid h5
  have HBASE := Lib.hid (show base ≤ w.heap.size by have := H.out.lo; have := H.out.cells.lt; omega)
  by_cases hlast : k + 1 = Ls.length
  · have hz : Ls.length - (k + 1) = 0 := by omega
    have HD := Lib.hid (show (Ls.take k ++ Ls.drop (k + 1)) = Ls.take k by rw [List.drop_of_length_le (by omega)]; simp)
    have HLT := Lib.hid (show (Ls.take k).length = k by rw [List.length_take]; omega)
    have HKL := Lib.hid (show k ≤ Ls.length by omega)
    clear hw1 hb2 h5 hlast
    go_wp2_with fail
    go_region_law (first
      | (refine step_append_none (by rfl) (.tmp 15) (.tmp 22) 73 (by rfl) 51 (nv 0 0 0 0 0 (.slice none 0 0) (.slice none 0 0)) 7 88 Tryz.underlying73 infoNd ⟨gL, 0, none⟩ k k (by rfl) (Nat.le_refl _) (if c = k + 1 then some ⟨gL, 0, none⟩ else some ⟨gL, (k + 1) * 7, none⟩) (c - (k + 1)) (by rfl) ?_))
    all_goals
      have hD := (H5.out).putRow (Ls' := Ls.take k) (by rw [HLT.out]; exact H5.out.cut HKL.out) (fun n hn => H5.out.own n (List.mem_of_mem_take hn)) (by rw [← HD.out, HEQ.out, ← HRM.out])
      have HDD := Lib.hid (show DSx (w2.setCell ⟨g, 0, none⟩ (.slice (some ⟨gL, 0, none⟩) k k)).drew base g (Ls.take k) (.slice (some ⟨gL, 0, none⟩) k k) ⟨rmS S.l i, S.last⟩ from hD.below (Below.refl _ _).drew)
      have HBB := Lib.hid (show Below base w (w2.setCell ⟨g, 0, none⟩ (.slice (some ⟨gL, 0, none⟩) k k)).drew from ((HB2.out.mono HBASE.out).setCell (p := ⟨g, 0, none⟩) H5.out.lo _).drew)
      have HLN := Lib.hid (show (Ls.take k).length ≤ Ls.length by rw [HLT.out]; exact HKL.out)
      have HKC := Lib.hid (show KeepC [51, 75] w (w2.setCell ⟨g, 0, none⟩ (.slice (some ⟨gL, 0, none⟩) k k)).drew from
        (((KeepC.of HB2.out).trans ((KeepC.set H5.out.cells 0 _).more (fun x hx => List.mem_cons_of_mem _ hx))).trans (KeepC.of (Below.refl _ _).drew)))
      have HTN := Lib.hid (show Trn w (w2.setCell ⟨g, 0, none⟩ (.slice (some ⟨gL, 0, none⟩) k k)).drew [g] from ((Trn.of HB2.out).trans (Trn.set w2 (p := ⟨g, 0, none⟩) (by simp) _)).drew)
      clear hD
      go_wp2
      all_goals go_end0
      all_goals exact ⟨⟨rfl, _, _, HDD.out, HLN.out, HBB.out, HKC.out⟩, HTN.out⟩
  · obtain ⟨m, hm9⟩ : ∃ m, m = Ls.length - (k + 1) := ⟨_, rfl⟩
    have hm0 : 0 < m := by omega
    have hck : ¬ c = k + 1 := by omega
    obtain ⟨i0, hi0, hz0, hz1, hz2⟩ := info_parts infoNd
    have HI := Lib.hid hi0; have HZ0 := Lib.hid hz0; have HZ1 := Lib.hid hz1; have HZ2 := Lib.hid hz2
    have HMM := Lib.hid hm9
    have hFL := H5.out.form
    have LENT := Lib.hid (show (ndvals (Ls.take k)).length = k * 7 by rw [ndvals_len, List.length_take]; omega)
    have LEND := Lib.hid (show (ndvals (Ls.drop (k + 1))).length = m * 7 by rw [ndvals_len, List.length_drop, hm9])
    have cell_at : ∀ J u, (ndvals Ls)[J]? = some u → w2.drew.cell? ⟨gL, J, none⟩ = some u := fun J u hJ => (ownK_cell H5.out.row hJ).1
    have HOLDS := Lib.hid (show ∀ (j : Nat) (u : Value), (ndvals (Ls.take k))[j]? = some u → w2.drew.cell? ((⟨gL, 0, none⟩ : Addr).add j) = some u from fun j u hu => by
      have e : (⟨gL, 0, none⟩ : Addr).add j = ⟨gL, j, none⟩ := by unfold Addr.add; split <;> simp_all
      rw [e]
      refine cell_at j u ?_
      have e2 : ndvals Ls = ndvals (Ls.take k) ++ ndvals (Ls.drop k) := by rw [← ndvals_append, List.take_append_drop]
      rw [e2, List.getElem?_append_left (List.getElem?_eq_some_iff.1 hu).1]; exact hu)
    have ROWC := Lib.hid (show ∀ (j : Nat) (u : Value), (ndvals (Ls.drop (k + 1)))[j]? = some u → w2.drew.cell? ((⟨gL, (k + 1) * 7, none⟩ : Addr).add j) = some u from fun j u hu => by
      have e : (⟨gL, (k + 1) * 7, none⟩ : Addr).add j = ⟨gL, (k + 1) * 7 + j, none⟩ := by unfold Addr.add; split <;> simp_all
      rw [e]
      refine cell_at _ u ?_
      have e2 : ndvals Ls = ndvals (Ls.take (k + 1)) ++ ndvals (Ls.drop (k + 1)) := by rw [← ndvals_append, List.take_append_drop]
      rw [e2, List.getElem?_append_right (by rw [ndvals_len, List.length_take]; omega), ndvals_len, List.length_take, Nat.min_eq_left (by omega), Nat.add_sub_cancel_left]
      exact hu)
    have ONES := Lib.hid (show ∀ u ∈ ndvals (Ls.drop (k + 1)), u.oneCell' = true from fun u hu => by
      unfold ndvals at hu
      obtain ⟨n, _, hn⟩ := List.mem_flatMap.1 hu
      exact one7 n u hn)
    have CQ := Lib.hid (fun w5 (hg5 : w2.drew.grownBy w5 none) => (H5.out.below (show Below w2.heap.size w2 w5 from (below_drewN (Below.refl _ _) 1 : Below w2.heap.size w2 w2.drew).trans (below_of_grown hg5))))
    have hm1 : Ls.length - (k + 1) = m := hm9.symm
    have hle := HLE.out
    clear hw1 hb2 h5 hlast hFL cell_at hm9 hi0 hz0 hz1 hz2
    go_wp2_with fail
    go_region_law (first
      | (refine step_append_grows (by rfl) (.tmp 15) (.tmp 22) 73 (by rfl) 51 i0 (nv 0 0 0 0 0 (.slice none 0 0) (.slice none 0 0)) 7 88 Tryz.underlying73 HI.out HZ0.out HZ1.out HZ2.out (by rfl) (by decide) (some ⟨gL, 0, none⟩) k k (ndvals (Ls.take k)) (by rfl) (fun h => by cases h) LENT.out (fun b h => by injection h with h; subst h; exact HOLDS.out) ⟨gL, (k + 1) * 7, none⟩ m (c - (k + 1)) (ndvals (Ls.drop (k + 1))) (by rfl) LEND.out ROWC.out ONES.out (by omega) (by unfold maxLen; omega) (by omega) ?_; intro v5 w5 hown5 hgr5
         obtain ⟨A5, c5, rfl, _, _⟩ := ownK_form (RowP.of hown5)
         have y5 := (CQ.out w5 hgr5).c0
         have f5 := (CQ.out w5 hgr5).cells.free 0))
    all_goals
      have hln : (Ls.take k ++ Ls.drop (k + 1)).length = k + m := by rw [List.length_append, List.length_take, List.length_drop]; have := HMM.out; omega
      have hb5 : Below w2.heap.size w2 w5 := (below_drewN (Below.refl _ _) 1 : Below w2.heap.size w2 w2.drew).trans (below_of_grown hgr5)
      have hr5 : RowP w5 base 51 7 (.slice A5 (k + m) c5) (Ls.take k ++ Ls.drop (k + 1)).length (ndvals (Ls.take k ++ Ls.drop (k + 1))) := by
        rw [hln, ndvals_append]
        exact RowP.of (own_mono' hown5 (Nat.le_trans HBASE.out HB2.out.size))
      have hD := ((CQ.out w5 hgr5)).putRow (Ls' := Ls.take k ++ Ls.drop (k + 1)) hr5 (fun n hn => by
        refine (H5.out.own n ?_).below hb5
        rcases List.mem_append.1 hn with hn | hn
        · exact List.mem_of_mem_take hn
        · exact List.mem_of_mem_drop hn) (by rw [HEQ.out, ← HRM.out])
      have HDD := Lib.hid hD
      have HBB := Lib.hid (show Below base w (w5.setCell ⟨g, 0, none⟩ (.slice A5 (k + m) c5)) from ((HB2.out.mono HBASE.out).trans (hb5.mono (Nat.le_trans HBASE.out HB2.out.size))).setCell (p := ⟨g, 0, none⟩) H5.out.lo _)
      have HLN := Lib.hid (show (Ls.take k ++ Ls.drop (k + 1)).length ≤ Ls.length by rw [hln]; have := HMM.out; omega)
      have HKC := Lib.hid (show KeepC [51, 75] w (w5.setCell ⟨g, 0, none⟩ (.slice A5 (k + m) c5)) from
        ((KeepC.of HB2.out).trans (KeepC.of hb5)).trans ((KeepC.set (CQ.out w5 hgr5).cells 0 _).more (fun x hx => List.mem_cons_of_mem _ hx)))
      have HTN := Lib.hid (show Trn w (w5.setCell ⟨g, 0, none⟩ (.slice A5 (k + m) c5)) [g] from ((Trn.of HB2.out).trans (Trn.of hb5)).trans (Trn.set w5 (p := ⟨g, 0, none⟩) (by simp) _))
      clear hD hr5 hb5 hln y5 f5 hown5 hgr5
      go_wp2
      go_end0
      exact ⟨⟨rfl, _, _, HDD.out, HLN.out, HBB.out, HKC.out⟩, HTN.out⟩
theorem rRemove (h : DSx w base g Ls v S) (hlen : Ls.length ≤ 1000) (ha : AscS S.l) (i : Int) {n0 : Nod} (h0 : atS S.l i = some n0) :
    Calls Tryz.prog 106 #[SPtr g, .int .i64 i] w (DGo ⟨rmS S.l i, S.last⟩ base g Ls w) := (rRemoveT h hlen ha i h0).mono fun _ _ h => h.1
end
end Go.Proofs.YtbejbiogabpmfaaGreat

/-! The document's State: what has a name loses it. -/
namespace Go.Proofs.YtbejbiogabpmfaaGreat
open Wd Ino Sm Go.RowKit Go.ChangeShapes Go.WideShapes Go.Sort
set_option linter.unusedVariables false
set_option maxRecDepth 100000
def OGo (b : Bool) (S' S : Stt) (base g : Nat) (Ls : List Nd) (w : World) (e : Ending) (w' : World) : Prop := e = .returned (.bool b) ∧ ∃ Ls' v', DSx w' base g Ls' v' (if b = true then S' else S) ∧ Ls'.length ≤ Ls.length ∧ Below base w w' ∧ KeepC [51, 75] w w'
def offB (l : List Nod) (d : Int) (s : ByteArray) (i k : Int) : Bool := decide (namedS l d s = i) && (decide (kindS l i = k) && (!decide (i = 0) && (!decide (k = 2) || (decide (namesS l i = []) && !decide (i = 1)))))
def offS (l : List Nod) (d : Int) (s : ByteArray) (i k : Int) : List Nod := if k = 2 then rmS (leaveS l d s) i else modS (leaveS l d s) i lessLk
theorem AscS.leave {l : List Nod} (h : AscS l) (d : Int) (s : ByteArray) : AscS (leaveS l d s) := asc_mod h (fun _ => rfl)
theorem idx_mod {l : List Nod} {i j : Int} {f : Nod → Nod} (hf : ∀ n, (f n).ino = n.ino) : idxS (modS l i f) j = idxS l j := by
  unfold idxS modS
  rw [List.findIdx_map]
  congr 1
  funext n
  show decide ((if n.ino = i then f n else n).ino = j) = decide (n.ino = j)
  split
  · rw [hf]
  · rfl
theorem atI_mod {l : List Nod} {i j : Int} {f : Nod → Nod} (hf : ∀ n, (f n).ino = n.ino) : atI (modS l i f) j = atI l j := by
  unfold atI; rw [idx_mod hf, modS_len]
section
variable {w w' : World} {base g : Nat} {Ls : List Nd} {v : Value} {S : Stt}
set_option maxHeartbeats 8000000 in
theorem rOff (h : DSx w base g Ls v S) (hlen : Ls.length ≤ 1000) (hs : SmS S.l) (ha : AscS S.l) (hlk : ∀ n ∈ S.l, 0 ≤ n.links ∧ n.links ≤ 16) (d : Int) (s : ByteArray) (i k : Int) (hk : k = 1 ∨ k = 2) :
    Calls Tryz.prog 103 #[SPtr g, .int .i64 d, .string s, .int .i64 i, .int .i64 k] w (OGo (offB S.l d s i k) ⟨offS S.l d s i k, S.last⟩ S base g Ls w) := by
  have KN := Lib.hid (rNamed h hlen hs d s)
  have KK := Lib.hid (fun wx (hb : ∃ q os, wx = grow (w.drewN q) os) => rKind (h.below (grown_b hb)) hlen i)
  have KA := Lib.hid (fun wx (hb : ∃ q os, wx = grow (w.drewN q) os) => rAt (h.below (grown_b hb)) hlen i)
  have H := Lib.hid h; have HLE := Lib.hid hlen; have HS := Lib.hid hs; have HA := Lib.hid ha
  have HBASE := Lib.hid (show base ≤ w.heap.size by have := h.lo; have := h.cells.lt; omega)
  obtain ⟨N0, hN0⟩ : ∃ N, namedS S.l d s = N := ⟨_, rfl⟩
  obtain ⟨K0, hK0⟩ : ∃ N, kindS S.l i = N := ⟨_, rfl⟩
  have HO := Lib.hid (show offB S.l d s i k = (decide (N0 = i) && (decide (K0 = k) && (!decide (i = 0) && (!decide (k = 2) || (decide (namesS S.l i = []) && !decide (i = 1)))))) by unfold offB; rw [hN0, hK0])
  have NO : offB S.l d s i k = false → ∀ wx, (∃ q os, wx = grow (w.drewN q) os) → OGo (offB S.l d s i k) ⟨offS S.l d s i k, S.last⟩ S base g Ls w (.returned (.bool false)) wx := fun he wx hg => by
    rw [he]
    exact ⟨rfl, Ls, v, by rw [if_neg (by decide)]; exact H.out.below (grown_b hg), Nat.le_refl _, (grown_b hg).mono HBASE.out, KeepC.of (grown_b hg)⟩
  have HNO := Lib.hid NO
  have HN0 := Lib.hid hN0; have HK0 := Lib.hid hK0
  rw [hN0] at KN
  rw [hK0] at KK
  clear h hs ha hN0 hK0 NO hlen
  unfold SPtr at *
  go_enter Tryz.func103, Tryz.ntmps103
  go_wp2_with fail
  refine (KN.out).mono ?_
  rintro e w1 ⟨rfl, hw1⟩
  have HG1 := Lib.hid hw1
  clear hw1 KN
  by_cases e1 : N0 = i
  · have q1 : (N0 != i) = false := by simpa using e1
    have KK1 := Lib.hid (KK.out _ HG1.out)
    rw [decide_eq_true e1, Bool.true_and] at HO
    have HE1 := Lib.hid e1
    clear e1
    go_wp2_with fail
    refine (KK1.out).mono ?_
    rintro e w2 ⟨rfl, hw2⟩
    have HG2 := Lib.hid (grow_trans HG1.out hw2)
    clear hw2 KK1
    by_cases e2 : K0 = k
    · have q2 : (K0 != k) = false := by simpa using e2
      rw [decide_eq_true e2, Bool.true_and] at HO
      have HE2 := Lib.hid e2
      clear e2
      by_cases e3 : i = 0
      · have q3 : (i == 0) = true := by simpa using e3
        rw [decide_eq_true e3] at HO
        clear e3
        go_wp2
        go_ret
        exact HNO.out (by rw [HO.out]; rfl) _ HG2.out
      · have q3 : (i == 0) = false := by simpa using e3
        rw [decide_eq_false e3, Bool.not_false, Bool.true_and] at HO
        obtain ⟨n1, b1, b2⟩ := at_of_kind (l := S.l) (i := i) (by rw [HK0.out, HE2.out]; omega)
        have hkd : kindS S.l d = 2 := by
          have h1 := HN0.out
          unfold namedS at h1
          by_cases hk2 : kindS S.l d = 2
          · exact hk2
          · rw [if_neg hk2] at h1; exact absurd (h1.trans HE1.out).symm e3
        obtain ⟨n0, d1, d2⟩ := at_of_kind (l := S.l) (i := d) (by rw [hkd]; decide)
        have KA2 := Lib.hid (KA.out _ HG2.out)
        have D2 := H.out.below (grown_b HG2.out)
        obtain ⟨n, kx, gL, c, h1, h2, h3, hv, hc, hb, hkx, ho, _⟩ := D2.at_ b1
        subst hv
        rw [h3] at KA2
        have HB1 := Lib.hid b1; have HD1 := Lib.hid d1; have HN1 := Lib.hid h1; have HP1 := Lib.hid h2; have H3 := Lib.hid h3
        have hlt2 : (kx : Int) < (Ls.length : Int) := Int.ofNat_lt.2 hkx
        have HNM := Lib.hid (show namesS S.l i = n.names by unfold namesS; rw [b2, ← h2]; rfl)
        have HDD2 := Lib.hid D2
        clear e3 b1 b2 d1 d2 hkd h1 h2 h3 ho hb D2 KA KK
        go_wp2_with fail
        refine (KA2.out).mono ?_
        rintro e w3 ⟨rfl, hw3⟩
        have HG3 := Lib.hid (grow_trans HG2.out hw3)
        have D3 := HDD2.out.below (grown_b hw3)
        have HD3 := Lib.hid D3
        have c0 := D3.c0
        clear hw3 KA2
        by_cases hk2 : k = 2
        · have q4 : (k == 2) = true := by simpa using hk2
          rw [decide_eq_true hk2, Bool.not_true, Bool.false_or, HNM.out] at HO
          obtain ⟨J, ki, l, t, u, A0, ac, P, B, bc, N⟩ := n
          have x6 := (D3.row_cells HN1.out 6 _ rfl).1
          dsimp only at x6 HO
          by_cases hn : 0 < N.length
          · obtain ⟨nl, hnl⟩ : ∃ nl, N.length = nl := ⟨_, rfl⟩
            have hnl0 : 0 < nl := by omega
            have q5 : decide ((0 : Int) < (nl : Int)) = true := decide_eq_true (by omega)
            have q5n : decide (0 < nl) = true := decide_eq_true hnl0
            rw [hnl] at x6
            rw [show decide (N = []) = false from decide_eq_false (fun h => by rw [h] at hn; simp at hn)] at HO
            clear D3 hk2 hn hnl
            go_wp2
            go_ret
            exact HNO.out (by rw [HO.out]; rfl) _ HG3.out
          · have hn0 : N = [] := List.eq_nil_of_length_eq_zero (by omega)
            subst hn0
            rw [show decide (([] : List Ent) = []) = true from rfl, Bool.true_and] at HO
            have q5 : decide ((0 : Int) < (([] : List Ent).length : Int)) = false := by decide
            by_cases hi1 : i = 1
            · have q6 : (i == 1) = true := by simpa using hi1
              rw [decide_eq_true hi1] at HO
              clear D3 hk2 hn hi1
              go_wp2
              go_ret
              exact HNO.out (by rw [HO.out]; rfl) _ HG3.out
            · have q6 : (i == 1) = false := by simpa using hi1
              rw [decide_eq_false hi1, Bool.not_false] at HO
              have KC := Lib.hid (rCutS D3 HLE.out HS.out HA.out d HD1.out s)
              have HOS := Lib.hid (show offS S.l d s i k = rmS (leaveS S.l d s) i by unfold offS; rw [if_pos hk2])
              obtain ⟨n2, m1, _⟩ := at_leave (d := d) (s := s) HB1.out
              have HM1 := Lib.hid m1
              unfold SPtr at KC
              clear D3 hk2 hn hi1 m1
              go_wp2_with fail
              refine (KC.out).mono ?_
              rintro e w4 ⟨rfl, L4, v4, D4, hl4, hb4, hk4⟩
              have HK4 := Lib.hid ((KeepC.of (Ts := [51, 75]) (grown_b HG3.out)).trans hk4)
              clear hk4
              have KR := Lib.hid (rRemove D4 (Nat.le_trans hl4 HLE.out) (HA.out.leave d s) i HM1.out)
              have HL4 := Lib.hid hl4; have HB4 := Lib.hid ((grown_b HG3.out).mono HBASE.out |>.trans hb4)
              unfold SPtr at KR
              clear D4 hl4 hb4 KC
              go_wp2_with fail
              refine (KR.out).mono ?_
              rintro e w5 ⟨rfl, L5, v5, D5, hl5, hb5, hk5⟩
              have HK5 := Lib.hid (HK4.out.trans hk5)
              clear hk5
              have HD5 := Lib.hid D5; have HL5 := Lib.hid (Nat.le_trans hl5 HL4.out); have HB5 := Lib.hid (HB4.out.trans hb5)
              clear D5 hl5 hb5 KR
              go_wp2
              go_ret
              rw [HO.out]
              exact ⟨rfl, L5, v5, by rw [if_pos rfl, HOS.out]; exact HD5.out, HL5.out, HB5.out, HK5.out⟩
        · have q4 : (k == 2) = false := by simpa using hk2
          rw [decide_eq_false hk2, Bool.not_false, Bool.true_or] at HO
          have KC := Lib.hid (rCutS D3 HLE.out HS.out HA.out d HD1.out s)
          have HOS := Lib.hid (show offS S.l d s i k = modS (leaveS S.l d s) i lessLk by unfold offS; rw [if_neg hk2])
          obtain ⟨n2, m1, m2, _⟩ := at_leave (d := d) (s := s) HB1.out
          have hlk1 := hlk n1 (atS_mem HB1.out)
          rw [← m2] at hlk1
          have HM1 := Lib.hid m1; have HLK := Lib.hid hlk1
          unfold SPtr at KC
          clear D3 hk2 m1 m2 hlk1
          go_wp2_with fail
          refine (KC.out).mono ?_
          rintro e w4 ⟨rfl, L4, v4, D4, hl4, hb4, hk4⟩
          have HK4 := Lib.hid ((KeepC.of (Ts := [51, 75]) (grown_b HG3.out)).trans hk4)
          clear hk4
          obtain ⟨n4, kx4, gL4, c4, p1, p2, p3, hv4, _, hbb4, hkx4, ho4, _⟩ := D4.at_ HM1.out
          subst hv4
          have hkk : kx4 = kx := by
            have h5 : atI (leaveS S.l d s) i = atI S.l i := by unfold leaveS; exact atI_mod (fun _ => rfl)
            rw [p3, H3.out] at h5
            omega
          subst hkk
          have hlt4 : (kx4 : Int) < (L4.length : Int) := Int.ofNat_lt.2 hkx4
          have cc0 := D4.c0
          obtain ⟨J, ki, l, t, u, A0, ac, P, B, bc, N⟩ := n4
          have x2 := D4.row_cells p1 2 _ rfl
          have x21 := x2.1
          have x22 := x2.2
          dsimp only at x21
          have hlks := HLK.out
          rw [← p2] at hlks
          dsimp only [Nd.plain] at hlks
          have w9 : wrap64 (l - 1) = l - 1 := by unfold wrap64; omega
          have hJ : J = i := by
            have h6 := atS_ino HM1.out
            rw [← p2] at h6
            exact h6
          have D5 := D4.set p1 (HA.out.leave d s) (n' := ⟨J, ki, l - 1, t, u, A0, ac, P, B, bc, N⟩) (f := lessLk) rfl (j := 2) (u := .int .i64 (l - 1)) (by decide) rfl ho4
          dsimp only at D5
          rw [hJ] at D5
          have HD5 := Lib.hid D5
          have HL5 := Lib.hid (show (L4.set kx4 ⟨i, ki, l - 1, t, u, A0, ac, P, B, bc, N⟩).length ≤ Ls.length by rw [List.length_set]; exact hl4)
          have HB5 := Lib.hid (show Below base w (w4.setCell ⟨gL4, kx4 * 7 + 2, none⟩ (.int .i64 (l - 1))) from ((grown_b HG3.out).mono HBASE.out |>.trans hb4).setCell (p := ⟨gL4, kx4 * 7 + 2, none⟩) hbb4 _)
          obtain ⟨cur4, hcur4, _⟩ := D4.blk hkx4
          have HK5 := Lib.hid (HK4.out.trans ((KeepC.set hcur4 (kx4 * 7 + 2) (.int .i64 (l - 1))).more (Us := [51, 75]) (fun x hx => List.mem_cons.2 (.inl (List.mem_singleton.1 hx)))))
          clear hcur4 D4 D5 hl4 hb4 KC p1 p2 p3 x2 hlks hJ ho4 hbb4
          go_wp2
          go_ret
          rw [HO.out]
          exact ⟨rfl, _, _, by rw [if_pos rfl, HOS.out]; exact HD5.out, HL5.out, HB5.out, HK5.out⟩
    · have q2 : (K0 != k) = true := by simpa using e2
      rw [decide_eq_false e2] at HO
      clear e2
      go_wp2
      go_ret
      exact HNO.out (by rw [HO.out]; rfl) _ HG2.out
  · have q1 : (N0 != i) = true := by simpa using e1
    rw [decide_eq_false e1] at HO
    clear e1
    go_wp2
    go_ret
    exact HNO.out (by rw [HO.out]; rfl) _ HG1.out
end
end Go.Proofs.YtbejbiogabpmfaaGreat

/-! The document's State: Within. -/
namespace Go.Proofs.YtbejbiogabpmfaaGreat
open Wd Ino Sm Go.RowKit Go.ChangeShapes Go.WideShapes Go.Sort
set_option linter.unusedVariables false
set_option maxRecDepth 100000
section
variable {w w' : World} {base g : Nat} {Ls : List Nd} {v : Value} {S : Stt}
def RwRel (l : List Nod) (d : Int) (R : Bool) (w : World) (x i : Value) (wr : World) : Prop := ∃ (c : Nat) (y : Int), c ≤ l.length ∧ i = .int .i64 c ∧ x = .int .i64 y ∧ withinS l y d = R ∧ (kindS l y = 2 → ∃ k, k + c < l.length ∧ Rch l k y) ∧ ∃ q os, wr = grow (w.drewN q) os
theorem up_ne {l : List Nod} {k : Nat} {x : Int} (h : Rch l k x) (h1 : x ≠ 1) : upS l x ≠ x := by
  cases k with
  | zero => exact absurd h h1
  | succ k =>
    intro e
    have h2 := h.2.2
    rw [e] at h2
    have := Rch.uniq h h2
    omega
set_option maxHeartbeats 4000000 in
theorem rWithin (h : DSx w base g Ls v S) (hlen : Ls.length ≤ 1000) (hw : WayUp S.l) (hpos : 0 < S.l.length) (hup : upS S.l 1 = 1) (i d : Int) :
    Calls Tryz.prog 147 #[SPtr g, .int .i64 i, .int .i64 d] w (Grows (.bool (withinS S.l i d)) w) := by
  have hfol : Tryz.prog.follows .mixedOrders = true := by kernel_rfl
  have H := Lib.hid h
  have HL := Lib.hid h.len; have HP := Lib.hid hpos; have HW := Lib.hid hw; have HU := Lib.hid hup; have HLE := Lib.hid hlen
  obtain ⟨A, cp, rfl, hc, _⟩ := h.form
  have c0 := h.c0
  obtain ⟨R, hR⟩ : ∃ R, withinS S.l i d = R := ⟨_, rfl⟩
  have HR := Lib.hid hR
  rw [hR]
  have HI := Lib.hid (show kindS S.l i = 2 → ∃ k, k + 0 < S.l.length ∧ Rch S.l k i from fun hk => by obtain ⟨k, h1, h2⟩ := hw i hk; exact ⟨k, by omega, h2⟩)
  clear h hc hw hpos hup hR hlen
  unfold SPtr
  go_enter Tryz.func147, Tryz.ntmps147
  go_wp2
  go_loopw [1, 12] (fun x i wr => RwRel S.l d R w x i wr) (fun _ i _ => Ls.length - (intOf i).toNat)
  case atStart => exact ⟨0, i, Nat.zero_le _, rfl, rfl, HR.out, HI.out, grow_none _⟩
  case round =>
    obtain ⟨c, x, hcl, rfl, rfl, hwx, hrc, hg⟩ := hrel
    have HG := Lib.hid hg
    have h2 := H.out.below (grown_b hg)
    have HWX := Lib.hid hwx; have HRC := Lib.hid hrc
    rw [HL.out] at hcl
    by_cases hlt : c < Ls.length
    · have hlt2 : (c : Int) < (Ls.length : Int) := Int.ofNat_lt.2 hlt
      have hc9 : c < 1000 := by have := HLE.out; omega
      by_cases e : x = d
      · have q0 : (x == d) = true := by simpa using e
        have HE := Lib.hid (show R = true by rw [← hwx, e]; exact way_here _ _)
        clear hg h2 e hwx hrc hcl
        go_wp2
        go_ret
        rw [HE.out]
        exact ⟨rfl, HG.out⟩
      · have q0 : (x == d) = false := by simpa using e
        have KK := Lib.hid (fun n os => Grows.inAt (fun n os => rKind (h2.below (below_grow' wr n os)) HLE.out x) n os)
        by_cases e2 : kindS S.l x = 2
        · rw [e2] at KK
          obtain ⟨n0, hi, _⟩ := at_of_kind (l := S.l) (i := x) (by rw [e2]; decide)
          obtain ⟨n, k, gL, cp', h1, h2n, h3, hv, _, _, hk, ho, _⟩ := h2.at_ hi
          injection hv with hv1 hv2 hv3
          subst hv1 hv3
          have hx4 := (h2.row_cells h1 4 _ rfl).1
          have x4 := cell_grown (a := ⟨gL, k * 7 + 4, none⟩) (World.block_lt_of_cell? _ _ hx4) hx4
          have y0 := cell_grown (a := ⟨g, 0, none⟩) h2.cells.lt h2.c0
          have KA := Lib.hid (fun n os => Grows.inAt (fun n os => by have := rAt (h2.below (below_grow' wr n os)) HLE.out x; rw [h3] at this; exact this) n os)
          have hlt3 : (k : Int) < (Ls.length : Int) := Int.ofNat_lt.2 hk
          have hu : upS S.l x = n.up := by unfold upS; rw [getS_some hi, ← h2n]; rfl
          obtain ⟨kd, hkd, hrch⟩ := hrc e2
          obtain ⟨J, ki, l, t, u, A0, ac, P, B, bc, N⟩ := n
          dsimp only at x4 hu
          have HH2 := Lib.hid h2; have HK1 := Lib.hid h1; have H3 := Lib.hid h3
          by_cases e1 : x = 1
          · have q1 : (u == x) = true := by
              rw [← hu, e1, HU.out]; rfl
            have HE := Lib.hid (show R = false by rw [← hwx]; exact way_stop HP.out e (.inl e1))
            clear hg h2 e e1 e2 hwx hrc hcl hi h1 h2n h3 hk ho hx4 hu hkd hrch hlt c0
            unfold SPtr at KK KA
            go_upto_region 5 with fail
            refine wp_region_quiet_grown hfol (by kernel_rfl) ?_
            repeat (go_big_quiet_step (first | (go_at_call 100; (with_reducible exact KK.out _ _)) | (go_at_call 99; (with_reducible exact KA.out _ _))))
            refine wpQuiet_nil ?_
            intro _ hw'
            obtain ⟨⟨nr, osr⟩, hw''⟩ := hw'
            subst hw''
            have HG2 := Lib.hid (grow_trans HG.out (show ∃ q os, grow (wr.drewN nr) osr = grow (wr.drewN q) os from ⟨nr, osr, rfl⟩))
            go_wp2
            go_ret
            rw [HE.out]
            exact ⟨rfl, HG2.out⟩
          · have q1 : (u == x) = false := by
              have := up_ne hrch e1
              rw [hu] at this
              simpa using this
            have HWS := Lib.hid (show withinS S.l u d = R by rw [← hwx, (way_step HW.out e e1 e2).1, hu])
            have HRS := Lib.hid (show kindS S.l u = 2 → ∃ k, k + (c + 1) < S.l.length ∧ Rch S.l k u from fun _ => by
              cases kd with
              | zero => exact absurd hrch e1
              | succ kd =>
                have := hrch.2.2
                rw [hu] at this
                exact ⟨kd, by omega, this⟩)
            clear hg h2 e e1 e2 hwx hrc hcl hi h1 h2n h3 hk ho hx4 hu hkd hrch c0
            unfold SPtr at KK KA
            go_upto_region 5 with fail
            refine wp_region_quiet_grown hfol (by kernel_rfl) ?_
            repeat (go_big_quiet_step (first | (go_at_call 100; (with_reducible exact KK.out _ _)) | (go_at_call 99; (with_reducible exact KA.out _ _))))
            refine wpQuiet_nil ?_
            intro _ hw'
            obtain ⟨⟨nr, osr⟩, hw''⟩ := hw'
            subst hw''
            have hb2 := below_grow' wr nr osr
            have HG2 := Lib.hid (grow_trans HG.out (show ∃ q os, grow (wr.drewN nr) osr = grow (wr.drewN q) os from ⟨nr, osr, rfl⟩))
            have h5 := HH2.out.below hb2
            have hx4 := (h5.row_cells HK1.out 4 _ rfl).1
            dsimp only at hx4
            obtain ⟨w5, hw5⟩ : ∃ w5, grow (wr.drewN nr) osr = w5 := ⟨_, rfl⟩
            rw [hw5] at h5 hx4 HG2 ⊢
            have x4 := cell_grown (a := ⟨gL, k * 7 + 4, none⟩) (World.block_lt_of_cell? _ _ hx4) hx4
            have y0 := cell_grown (a := ⟨g, 0, none⟩) h5.cells.lt h5.c0
            have KA := Lib.hid (fun n os => Grows.inAt (fun n os => by have := rAt (h5.below (below_grow' w5 n os)) HLE.out x; rw [H3.out] at this; exact this) n os)
            unfold SPtr at KA
            clear hb2 h5 hx4 hw5 KK
            go_upto_region 7 with fail
            refine wp_region_quiet_grown hfol (by kernel_rfl) ?_
            repeat (go_big_quiet_step (first | (go_at_call 99; (with_reducible exact KA.out _ _))))
            refine wpQuiet_nil ?_
            intro _ hw'
            obtain ⟨⟨nr2, osr2⟩, hw''⟩ := hw'
            subst hw''
            have HG3 := Lib.hid (grow_trans HG2.out (show ∃ q os, grow (w5.drewN nr2) osr2 = grow (w5.drewN q) os from ⟨nr2, osr2, rfl⟩))
            have HCL := Lib.hid (show c + 1 ≤ S.l.length by rw [HL.out]; omega)
            go_wp2
            go_roundw
            case rel => exact ⟨c + 1, u, HCL.out, by go_num, rfl, HWS.out, HRS.out, HG3.out⟩
            case measure => simp [intOf]; omega
        · have q1 : (kindS S.l x != 2) = true := by simpa using e2
          have HE := Lib.hid (show R = false by rw [← hwx]; exact way_stop HP.out e (.inr e2))
          obtain ⟨kk, hkk⟩ : ∃ kk, kindS S.l x = kk := ⟨_, rfl⟩
          rw [hkk] at KK q1
          clear hg h2 e e2 hwx hrc hcl hkk
          unfold SPtr at KK
          go_upto_region 5 with fail
          refine wp_region_quiet_grown hfol (by kernel_rfl) ?_
          repeat (go_big_quiet_step (first | (go_at_call 100; (with_reducible exact KK.out _ _))))
          refine wpQuiet_nil ?_
          intro _ hw'
          obtain ⟨⟨nr, osr⟩, hw''⟩ := hw'
          subst hw''
          have HG2 := Lib.hid (grow_trans HG.out (show ∃ q os, grow (wr.drewN nr) osr = grow (wr.drewN q) os from ⟨nr, osr, rfl⟩))
          go_wp2
          go_ret
          rw [HE.out]
          exact ⟨rfl, HG2.out⟩
    · obtain rfl : c = Ls.length := by omega
      have e2 : kindS S.l x ≠ 2 := fun hk => by
        obtain ⟨k, h1, _⟩ := hrc hk
        rw [HL.out] at h1
        omega
      by_cases e : x = d
      · have q0 : (x == d) = true := by simpa using e
        have HE := Lib.hid (show R = true by rw [← hwx, e]; exact way_here _ _)
        clear hg h2 e hwx hrc hcl e2
        go_wp2
        go_ret
        rw [HE.out]
        exact ⟨rfl, HG.out⟩
      · have q0 : (x == d) = false := by simpa using e
        have HE := Lib.hid (show R = false by rw [← hwx]; exact way_stop HP.out e (.inr e2))
        clear hg h2 e hwx hrc hcl e2
        go_wp2
        go_ret
        rw [HE.out]
        exact ⟨rfl, HG.out⟩
end
end Go.Proofs.YtbejbiogabpmfaaGreat
