import Derived.Test.YtnijffgdapfgpaaWd
import Derived.Test.YtnijffgdapfgpaaApp
import Derived.Test.YtnijffgdapfgpaaGrow
import Derived.ArgAppend
/-! A row of structs whose first places may have been cut off: its slice may begin within its block. -/
namespace Go.Proofs.Ytnijffgdapfgpaa
open Wd Go.Maps Go.RowKit Go.ChangeShapes Go.WideShapes Go.Sort
set_option linter.unusedVariables false
def OffRow (w : World) (B : Nat) (T : TypeId) (k : Nat) (v : Value) (n : Nat) (xs : List Value) : Prop :=
  xs.length = n * k ∧ ((v = .slice none 0 0 ∧ n = 0) ∨ ∃ (g off cap : Nat) (cur : Array Value), v = .slice (some ⟨g, off, none⟩) n cap ∧ B ≤ g ∧ Cells w g T cur ∧ n ≤ cap ∧ cap ≤ maxLen ∧ off + cap * k ≤ cur.size ∧ ∀ (j : Nat) (u : Value), xs[j]? = some u → cur[off + j]? = some u)
section
variable {P : Program} {w w' : World} {B B' k n : Nat} {T : TypeId} {v : Value} {xs : List Value}
theorem OffRow.nil (w : World) (B : Nat) (T : TypeId) (k : Nat) : OffRow w B T k (.slice none 0 0) 0 [] := ⟨by simp, .inl ⟨rfl, rfl⟩⟩
theorem OffRow.of_own (h : w.ownsRow B T k v n xs) : OffRow w B T k v n xs := by
  refine ⟨h.1, ?_⟩
  rcases h.2 with h2 | ⟨g, cap, cur, rfl, hg, hh, h1, h2, h3, h4⟩
  · exact .inl h2
  · refine .inr ⟨g, 0, cap, cur, rfl, hg, hh, h1, h2, by omega, fun j u hj => ?_⟩
    rw [← h4, List.getElem?_take] at hj
    split at hj
    · rw [Nat.zero_add, ← Array.getElem?_toList]; exact hj
    · cases hj
theorem OffRow.mono (h : OffRow w B T k v n xs) (hb : B' ≤ B) : OffRow w B' T k v n xs := by
  refine ⟨h.1, ?_⟩
  rcases h.2 with h2 | ⟨g, off, cap, cur, rfl, hg, r⟩
  · exact .inl h2
  · exact .inr ⟨g, off, cap, cur, rfl, Nat.le_trans hb hg, r⟩
theorem OffRow.keep (h : OffRow w B T k v n xs) (hk : ∀ g cs, Cells w g T cs → w'.heap[g]? = w.heap[g]?) : OffRow w' B T k v n xs := by
  refine ⟨h.1, ?_⟩
  rcases h.2 with h2 | ⟨g, off, cap, cur, rfl, hg, hh, r⟩
  · exact .inl h2
  · exact .inr ⟨g, off, cap, cur, rfl, hg, (hk g cur hh).trans hh, r⟩
theorem OffRow.below (h : OffRow w B T k v n xs) (hb : Below w.heap.size w w') : OffRow w' B T k v n xs := h.keep fun g cs hg => hb.block g hg.lt
theorem OffRow.shape (h : OffRow w B T k v n xs) : ∃ A c, v = .slice A n c ∧ n ≤ c ∧ c ≤ maxLen := by
  rcases h.2 with ⟨rfl, rfl⟩ | ⟨g, off, cap, cur, rfl, hg, hh, h1, h2, _⟩
  · exact ⟨_, _, rfl, Nat.le_refl _, Nat.zero_le _⟩
  · exact ⟨_, _, rfl, h1, h2⟩
theorem OffRow.blk (h : OffRow w B T k v n xs) : ∀ g, v.ownBlock = some g → B ≤ g ∧ ∃ cur, Cells w g T cur := by
  intro g hg
  rcases h.2 with ⟨rfl, rfl⟩ | ⟨g', off, cap, cur, rfl, hB, hh, _⟩
  · cases hg
  · injection hg with e; subst e; exact ⟨hB, cur, hh⟩
/-- what an append of one more keeps -/
structure OffKept (w w' : World) (B : Nat) (T : TypeId) : Prop where
  below : Below B w w'
  size : w.heap.size ≤ w'.heap.size
  other : ∀ g T' cs, T' ≠ T → Cells w g T' cs → w'.heap[g]? = w.heap[g]?
theorem OffKept.cells (h : OffKept w w' B T) {g : Nat} {T' : TypeId} {cs : Array Value} (hc : Cells w g T' cs) (hT : T' ≠ T) : Cells w' g T' cs := (h.other g T' cs hT hc).trans hc
theorem OffKept.off {T' : TypeId} (h : OffKept w w' B T) (hc : OffRow w B' T' k v n xs) (hT : T' ≠ T) : OffRow w' B' T' k v n xs := hc.keep fun g cs hg => h.other g T' cs hT hg
theorem offkept_of (h : OffRow w B T k v n xs) (hg : w.grownBy w' v.ownBlock) (hB : B ≤ w.heap.size) : OffKept w w' B T := by
  refine ⟨⟨hg.os, hg.tape, hg.output, hg.size, fun i hi => hg.block i (Nat.lt_of_lt_of_le hi hB) fun e => ?_⟩, hg.size, fun g T' cs hT hc => hg.block g hc.lt fun e => ?_⟩
  · have := (h.blk i e.symm).1; omega
  · obtain ⟨_, cur, hh⟩ := h.blk g e.symm
    exact hc.ne hh hT rfl
theorem run_append_off (t ty e : TypeId) (z : Value) (size bytes : Nat) (ht : P.underlying t = some (.slice e)) (hi : (P.info? e).map (fun i => (i.zero, i.size, i.bytes)) = some (some z, size, bytes)) (hzs : z.cells.size = size) (hsz : 0 < size)
    (h : OffRow w B e size v n xs) (g : Nat) (us : List Value) (hus : us.length = size) (hc : Cells w g e us.toArray) (h1 : ∀ u ∈ us, u.oneCell' = true) (hn : n ≤ 100000) (hby : bytes ≤ 1000000) (hbase : B ≤ w.heap.size) :
    ∃ v' w', (Builtin.append_ #[t, t] ty #[v, .slice (some ⟨g, 0, none⟩) 1 1]).run P w = .ok v' w' ∧ OffRow w' B e size v' (n + 1) (xs ++ us) ∧ OffKept w w' B e := by
  obtain ⟨i, i1, i2, i3, i4⟩ := info_parts hi
  have hadd : ∀ (b o j : Nat), (⟨b, o, none⟩ : Addr).add j = ⟨b, o + j, none⟩ := fun b o j => by unfold Addr.add; split <;> simp_all
  have hnews : ∀ j u, us[j]? = some u → w.cell? ((⟨g, 0, none⟩ : Addr).add j) = some u := fun j u hj => by
    rw [hadd, hc.cell, Nat.zero_add]; simpa using hj
  have hbb : (n + 1) * bytes ≤ 140737488355328 := Nat.le_trans (Nat.mul_le_mul (show n + 1 ≤ 100001 by omega) hby) (by decide)
  have h63 : n + 1 ≤ maxLen := by unfold maxLen; omega
  have hl : us.length = 1 * size := by omega
  have hlen : (xs ++ us).length = (n + 1) * size := by rw [List.length_append, h.1, hus, Nat.add_mul]; omega
  rcases h.2 with ⟨rfl, rfl⟩ | ⟨q, off, cap, cur, rfl, hB, hh, hnc, hcm, hfit, hx⟩
  · have hx0 : xs = [] := List.eq_nil_of_length_eq_zero (by have := h.1; simpa using this)
    subst hx0
    obtain ⟨v', w', h2, h3, h4, _⟩ := run_append_own_at (P := P) w B t ty e i z size bytes ht i1 i2 i3 i4 hzs hsz (.slice none 0 0) 0 [] (World.ownsRow_nil w B e size) ⟨g, 0, none⟩ 1 1 us hl hnews h1 (by omega) (by omega) hbase
    exact ⟨v', w', h2, OffRow.of_own h3, offkept_of h h4 hbase⟩
  · by_cases hroom : n + 1 ≤ cap
    · have hmul : (n + 1) * size ≤ cap * size := Nat.mul_le_mul_right _ hroom
      rw [Nat.add_mul, Nat.one_mul] at hmul
      have hf := run_firstCells_some (P := P) w i.size 1 ⟨g, 0, none⟩ 1 1 us (by rw [i3]; exact hl) hnews
      have hst := run_storeCells_at (P := P) q (off + n * size) e us 0 cur w hh (by omega) h1
      refine ⟨.slice (some ⟨q, off, none⟩) (n + 1) cap, w.setRow q (cur.toList.take (off + n * size) ++ us ++ cur.toList.drop (off + n * size + us.length)).toArray, ?_, ⟨hlen, .inr ⟨q, off, cap, _, rfl, hB, setRow_heap w q cur _ e _ hh, hroom, hcm, ?_, ?_⟩⟩, ?_⟩
      · simp only [Nat.add_zero] at hst
        rw [i3] at hf
        simp [Builtin.append_, run_underlying ht, Go.sizeOf, typeInfo, i1, i3, Builtin.lenOf, hroom, hf, hadd, hst]
      · simp only [List.size_toArray, List.length_append, List.length_take, List.length_drop, Array.length_toList]
        omega
      · intro j u hj
        have hjl : j < (xs ++ us).length := (List.getElem?_eq_some_iff.1 hj).1
        rw [List.length_append] at hjl
        have hxl := h.1
        rw [List.getElem?_toArray]
        by_cases hjx : j < xs.length
        · rw [List.getElem?_append_left hjx] at hj
          have := hx j u hj
          rw [List.append_assoc, List.getElem?_append_left (by rw [List.length_take, Array.length_toList]; omega), List.getElem?_take_of_lt (by omega), Array.getElem?_toList]
          exact this
        · rw [List.getElem?_append_right (by omega)] at hj
          have ltk : (cur.toList.take (off + n * size)).length = off + n * size := by rw [List.length_take, Array.length_toList]; omega
          rw [List.append_assoc, List.getElem?_append_right (by rw [ltk]; omega), ltk, List.getElem?_append_left (by omega), show off + j - (off + n * size) = j - xs.length by omega]
          exact hj
      · refine offkept_of h ⟨rfl, rfl, rfl, by simp, fun i hi hne => setRow_other w q i _ fun e => hne (by rw [e]; rfl)⟩ hbase
    · obtain ⟨v', w', h2, h3, h4⟩ := run_append_arg_grows (P := P) w t ty e i z size bytes ht i1 i2 i3 i4 hzs hsz ⟨q, off, none⟩ n cap xs h.1 (fun j u hj => by rw [hadd, hh.cell]; exact hx j u hj) ⟨g, 0, none⟩ 1 1 us hl hnews (by omega) h63 hbb
      refine ⟨v', w', h2, (OffRow.of_own h3).mono hbase, ⟨⟨h4.os, h4.tape, h4.output, h4.size, fun i hi => h4.block i (by omega) (by simp)⟩, h4.size, fun g T' cs hT hc => h4.block g hc.lt (by simp)⟩⟩
theorem step_append_off {ops : Array Oper} {o : Oper} {a : Act} {K : Act → World → Prop} {Q : Exit → Act → World → Prop} {E : Prop} (hgd : o.guard = none) (s x : Operand) (t : TypeId)
    (ho : o.op = .call { callee := .builtin .append, args := #[s, x], argTypes := #[t, t] }) (e : TypeId) (z : Value) (size bytes : Nat) (ht : P.underlying t = some (.slice e)) (hi : (P.info? e).map (fun i => (i.zero, i.size, i.bytes)) = some (some z, size, bytes)) (hzs : z.cells.size = size) (hsz : 0 < size)
    (hs : a.eval s = v) (h : OffRow w B e size v n xs) (g : Nat) (us : List Value) (hx : a.eval x = .slice (some ⟨g, 0, none⟩) 1 1) (hus : us.length = size) (hc : Cells w g e us.toArray) (h1 : ∀ u ∈ us, u.oneCell' = true) (hn : n ≤ 100000) (hby : bytes ≤ 1000000) (hbase : B ≤ w.heap.size)
    (k : ∀ v' w', OffRow w' B e size v' (n + 1) (xs ++ us) → OffKept w w' B e → K (a.put o.dst v') w') :
    if Region.wanted o (yielded ops a.tmps) = true then Oper.wp P o a w K Q else E := by
  have hw : Region.wanted o (yielded ops a.tmps) = true := by simp [Region.wanted, hgd]
  rw [if_pos hw]
  obtain ⟨v', w', hrun, h2, h3⟩ := run_append_off (P := P) t o.type e z size bytes ht hi hzs hsz h g us hus hc h1 hn hby hbase
  unfold Oper.wp execOp
  simp only [ho, resolve, invoke, builtin, Sem.run_bind, Sem.run_pure, Result.andThen_ok, List.map_toArray, List.map_cons, List.map_nil, hs, hx, hrun]
  exact k v' w' h2 h3
theorem wpList_append_off {ops : Array Oper} {rest : List Oper} {o : Oper} {a : Act} {Q : Exit → Act → World → Prop} (hgd : o.guard = none) (s x : Operand) (t : TypeId)
    (ho : o.op = .call { callee := .builtin .append, args := #[s, x], argTypes := #[t, t] }) (e : TypeId) (z : Value) (size bytes : Nat) (ht : P.underlying t = some (.slice e)) (hi : (P.info? e).map (fun i => (i.zero, i.size, i.bytes)) = some (some z, size, bytes)) (hzs : z.cells.size = size) (hsz : 0 < size)
    (hs : a.eval s = v) (h : OffRow w B e size v n xs) (g : Nat) (us : List Value) (hx : a.eval x = .slice (some ⟨g, 0, none⟩) 1 1) (hus : us.length = size) (hc : Cells w g e us.toArray) (h1 : ∀ u ∈ us, u.oneCell' = true) (hn : n ≤ 100000) (hby : bytes ≤ 1000000) (hbase : B ≤ w.heap.size)
    (k : ∀ v' w', OffRow w' B e size v' (n + 1) (xs ++ us) → OffKept w w' B e → wpList P ops Q rest (a.put o.dst v') w') : wpList P ops Q (o :: rest) a w := by
  refine wpList_plain hgd fun _ hK => ?_
  obtain ⟨v', w', hrun, h2, h3⟩ := run_append_off (P := P) t o.type e z size bytes ht hi hzs hsz h g us hus hc h1 hn hby hbase
  unfold Oper.wp execOp
  simp only [ho, resolve, invoke, builtin, Sem.run_bind, Sem.run_pure, Result.andThen_ok, List.map_toArray, List.map_cons, List.map_nil, hs, hx, hrun]
  exact hK _ _ (k v' w' h2 h3)
/-- the first place cut off -/
theorem run_slice_off {t e : TypeId} {i : TypeInfo} (he : P.elem t = e) (ht : P.underlying t = some (.slice e)) (hi : P.info? e = some i) (hsz : i.size = k) (h : OffRow w B T k v (n + 1) xs) :
    ∃ A c, (∀ W : World, (Instr.slice t v (some (.int .i64 1)) none none).run P W = .ok (.slice A n c) W) ∧ OffRow w B T k (.slice A n c) n (xs.drop k) ∧ (Value.slice A n c).ownBlock = v.ownBlock := by
  have hlen : (xs.drop k).length = n * k := by rw [List.length_drop, h.1, Nat.add_mul]; omega
  have hs : ∀ W, (sizeOf e).run P W = .ok k W := fun W => by simp [sizeOf, typeInfo, hi, hsz]
  rcases h.2 with ⟨rfl, h0⟩ | ⟨q, off, cap, cur, rfl, hB, hh, hnc, hcm, hfit, hx⟩
  · omega
  · refine ⟨if cap = 1 then some ⟨q, off, none⟩ else (some (⟨q, off, none⟩ : Addr)).map (·.add (1 * k)), cap - 1, fun W => ?_, ⟨hlen, .inr ⟨q, if cap = 1 then off else off + k, cap - 1, cur, ?_, hB, hh, by omega, by omega, ?_, ?_⟩⟩, ?_⟩
    · rw [run_slice_l (P := P) (t := t) (a := some ⟨q, off, none⟩) (len := n + 1) (cap := cap) (ht := by rw [he]; exact ht) (kl := .i64) (l := (1 : Int)) (h0 := by omega) (h1 := by omega), he, hs]
      rfl
    · split
      · rfl
      · simp only [Option.map_some, Nat.one_mul]
        congr 2
        unfold Addr.add; split <;> simp_all
    · split
      · next e1 => subst e1; simp only [Nat.sub_self, Nat.zero_mul, Nat.one_mul] at *; omega
      · have e2 : cap = (cap - 1) + 1 := by omega
        have e3 : cap * k = (cap - 1) * k + k := by rw [e2, Nat.add_mul, Nat.one_mul, Nat.add_sub_cancel]
        omega
    · intro j u hj
      rw [List.getElem?_drop] at hj
      have := hx _ u hj
      split
      · next e1 =>
        have hjl := (List.getElem?_eq_some_iff.1 hj).1
        rw [h.1] at hjl
        have : n = 0 := by omega
        subst this
        omega
      · rw [show off + k + j = off + (k + j) by omega]; exact this
    · split <;> simp [Value.ownBlock]
      unfold Addr.add; split <;> rfl
end
end Go.Proofs.Ytnijffgdapfgpaa
