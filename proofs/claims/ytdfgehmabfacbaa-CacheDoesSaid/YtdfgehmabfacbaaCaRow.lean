import Derived.Test.YtdfgehmabfacbaaCaAw
import Derived.Deep.RegionLawGrows
/-! The law's own numbers: a row of ints that is its own, or full. -/
namespace Go.Proofs.Ytdfgehmabfacbaa
open Wd Sm Go.Maps Go.RowKit Go.ChangeShapes Go.WideShapes Go.Sort
set_option linter.unusedVariables false
set_option maxRecDepth 100000
abbrev iz (x : Int) : Value := .int .i64 x
theorem infoZ : (Try.prog.info? 3).map (fun i => (i.zero, i.size, i.bytes)) = some (some (.int .i64 0), 1, 8) := by kernel_rfl
theorem ones_iz (l : List Int) : ∀ u ∈ l.map iz, u.oneCell' = true := fun u hu => by
  obtain ⟨x, _, rfl⟩ := List.mem_map.1 hu
  rfl
/-- ints that a law keeps: a row of its own, or one that has no room -/
def IdR (w : World) (B : Nat) (v : Value) (l : List Int) : Prop :=
  w.ownsRow B 3 1 v l.length (l.map iz) ∨ ∃ q cs, v = .slice (some ⟨q, 0, none⟩) l.length l.length ∧ B ≤ q ∧ Cells w q 3 cs ∧ ∀ (j : Nat) (x : Int), l[j]? = some x → cs[j]? = some (iz x)
theorem own_keepI {w w' : World} {base n sz : Nat} {e : TypeId} {v : Value} {xs : List Value} (h : w.ownsRow base e sz v n xs) (hk : ∀ g cs, Cells w g e cs → w'.heap[g]? = w.heap[g]?) : w'.ownsRow base e sz v n xs := by
  refine ⟨h.1, ?_⟩
  rcases h.2 with h2 | ⟨g, cap, cur, hv, hg, hc, r⟩
  · exact .inl h2
  · exact .inr ⟨g, cap, cur, hv, hg, (hk g cur hc).trans hc, r⟩
section
variable {w w' : World} {B : Nat} {v : Value} {l : List Int}
theorem IdR.keep (h : IdR w B v l) (hk : ∀ g cs, Cells w g 3 cs → w'.heap[g]? = w.heap[g]?) : IdR w' B v l := by
  rcases h with h | ⟨q, cs, e, hB, hc, hx⟩
  · exact .inl (own_keepI h hk)
  · exact .inr ⟨q, cs, e, hB, (hk q cs hc).trans hc, hx⟩
theorem IdR.below (h : IdR w B v l) (hb : Below w.heap.size w w') : IdR w' B v l := h.keep fun g cs hg => hb.block g hg.lt
theorem IdR.nil (w : World) (B : Nat) : IdR w B (.slice none 0 0) [] := .inl ⟨rfl, .inl ⟨rfl, rfl⟩⟩
/-- what both are -/
theorem IdR.form (h : IdR w B v l) (hl : l.length ≤ 1000) : (v = .slice none 0 0 ∧ l = []) ∨ ∃ (q c : Nat) (cs : Array Value), v = .slice (some ⟨q, 0, none⟩) l.length c ∧ l.length ≤ c ∧ c ≤ maxLen ∧ B ≤ q ∧ Cells w q 3 cs ∧ ∀ (j : Nat) (x : Int), l[j]? = some x → cs[j]? = some (iz x) := by
  rcases h with ⟨h1, h2⟩ | ⟨q, cs, e, hB, hc, hx⟩
  · rcases h2 with ⟨rfl, h0⟩ | ⟨g, cap, cur, rfl, hg, hc, r1, r2, r3, r4⟩
    · exact .inl ⟨rfl, List.eq_nil_of_length_eq_zero h0⟩
    · refine .inr ⟨g, cap, cur, rfl, r1, r2, hg, hc, fun j x hx => ?_⟩
      have h3 : (l.map iz)[j]? = some (iz x) := by rw [List.getElem?_map, hx]; rfl
      rw [← r4, List.getElem?_take] at h3
      split at h3
      · simpa using h3
      · cases h3
  · exact .inr ⟨q, l.length, cs, e, Nat.le_refl _, by unfold maxLen; omega, hB, hc, hx⟩
theorem IdR.row (h : IdR w B v l) (hl : l.length ≤ 1000) : ∃ A c, v = .slice A l.length c ∧ Row w w.heap.size A l.length (l.map iz) := by
  rcases h.form hl with ⟨rfl, rfl⟩ | ⟨q, c, cs, rfl, _, _, _, hc, hx⟩
  · exact ⟨none, 0, rfl, Row.nil⟩
  · refine ⟨some ⟨q, 0, none⟩, c, rfl, by rw [List.length_map], fun _ => ⟨q, 0, rfl, hc.lt, fun j hj => ?_⟩⟩
    rw [List.length_map] at hj
    rw [hc.cell, Nat.zero_add, hx j l[j] (List.getElem?_eq_getElem hj)]
    simp
theorem zrow_tail {q c k : Nat} {cs : Array Value} {B : Nat} (hh : Cells w q 3 cs) (hx : ∀ (j : Nat) (x : Int), l[j]? = some x → cs[j]? = some (iz x)) (hk : k ≤ l.length) (hc : l.length ≤ c) (hb : w'.heap[q]? = w.heap[q]?) (hB : q < B) :
    Row w' B (if c = k then some ⟨q, 0, none⟩ else some ⟨q, k, none⟩) (l.length - k) ((l.drop k).map iz) := by
  refine ⟨by rw [List.length_map, List.length_drop], fun hp => ?_⟩
  rw [if_neg (by omega)]
  refine ⟨q, k, rfl, hB, fun j hj => ?_⟩
  have hj2 : k + j < l.length := by rw [List.length_map, List.length_drop] at hj; omega
  have h2 : Cells w' q 3 cs := hb.trans hh
  rw [h2.cell, hx (k + j) l[k + j] (List.getElem?_eq_getElem hj2)]
  simp
theorem zrow_head {q k : Nat} {cs : Array Value} (hh : Cells w q 3 cs) (hx : ∀ (j : Nat) (x : Int), l[j]? = some x → cs[j]? = some (iz x)) (hb : w'.heap[q]? = w.heap[q]?) :
    ∀ (j : Nat) (u : Value), ((l.take k).map iz)[j]? = some u → w'.cell? ((⟨q, 0, none⟩ : Addr).add j) = some u := by
  intro j u hu
  have e : (⟨q, 0, none⟩ : Addr).add j = ⟨q, j, none⟩ := by unfold Addr.add; split <;> simp_all
  have h2 : Cells w' q 3 cs := hb.trans hh
  rw [List.getElem?_map, Option.map_eq_some_iff] at hu
  obtain ⟨x, hx1, rfl⟩ := hu
  rw [List.getElem?_take] at hx1
  split at hx1
  · rw [e, h2.cell, hx j x hx1]
  · cases hx1
theorem zrow_cells {w : World} {B q p m : Nat} {xs : List Value} (h : Row w B (some ⟨q, p, none⟩) m xs) : ∀ (j : Nat) (u : Value), xs[j]? = some u → w.cell? ((⟨q, p, none⟩ : Addr).add j) = some u := by
  intro j u hu
  obtain ⟨hj, rfl⟩ := List.getElem?_eq_some_iff.1 hu
  obtain ⟨b, off, e, _, hc⟩ := h.2 (by rw [← h.1]; omega)
  injection e with e
  injection e with e1 e2
  subst e1 e2
  have e : (⟨q, p, none⟩ : Addr).add j = ⟨q, p + j, none⟩ := by unfold Addr.add; split <;> simp_all
  rw [e, hc j hj]
theorem step_append_none {P : Program} {ops : Array Oper} {o : Oper} {a : Act} {w : World} {K : Act → World → Prop} {Q : Exit → Act → World → Prop} {E : Prop}
    (hg : o.guard = none) (s x : Operand) (t : TypeId) (hop : o.op = Op.call { callee := Callee.builtin Builtin.append, args := #[s, x], argTypes := #[t, t] })
    (e : TypeId) (z : Value) (size bytes : Nat) (ht : P.underlying t = some (.slice e)) (hi : (P.info? e).map (fun i => (i.zero, i.size, i.bytes)) = some (some z, size, bytes))
    (ad : Addr) (n c : Nat) (hs : a.eval s = .slice (some ad) n c) (hnc : n ≤ c) (A : Option Addr) (c2 : Nat) (hx : a.eval x = .slice A 0 c2)
    (h : K (a.put o.dst (.slice (some ad) n c)) w) : if Region.wanted o (yielded ops a.tmps) = true then Oper.wp P o a w K Q else E := by
  have hw : Region.wanted o (yielded ops a.tmps) = true := by simp [Region.wanted, hg]
  rw [if_pos hw]
  obtain ⟨i, i1, i2, i3, i4⟩ := info_parts hi
  have hrun : (Builtin.append_ #[t, t] o.type #[.slice (some ad) n c, .slice A 0 c2]).run P w = .ok (.slice (some ad) n c) w := by
    cases A <;> simp [Builtin.append_, run_underlying ht, Go.sizeOf, typeInfo, i1, Builtin.lenOf, Builtin.firstCells, hnc, storeCells, loadCells, loadCellsFrom]
  unfold Oper.wp execOp
  simp only [hop, resolve, invoke, builtin, Sem.run_bind, Sem.run_pure, Result.andThen_ok, List.map_toArray, List.map_cons, List.map_nil, hs, hx, hrun]
  exact h
/-- append of one to either -/
theorem wpList_append_id {ops : Array Oper} {rest : List Oper} {o : Oper} {a : Act} {Q : Exit → Act → World → Prop} (hgd : o.guard = none) (s x : Operand)
    (ho : o.op = .call { callee := .builtin .append, args := #[s, x], argTypes := #[22, 22] })
    (hs : a.eval s = v) (h : IdR w B v l) (hl : l.length ≤ 1000) (hBw : B ≤ w.heap.size)
    (g : Nat) (y : Int) (hx : a.eval x = .slice (some ⟨g, 0, none⟩) 1 1) (hg : Cells w g 3 #[iz y])
    (k : ∀ v' w', IdR w' B v' (l ++ [y]) → Below B w w' → (∀ q cs T, T ≠ 3 → Cells w q T cs → w'.heap[q]? = w.heap[q]?) → (∀ q, (∀ T cs, ¬ Cells w q T cs) → q < w.heap.size → w'.heap[q]? = w.heap[q]?) → w.heap.size ≤ w'.heap.size → wpList Try.prog ops Q rest (a.put o.dst v') w') : wpList Try.prog ops Q (o :: rest) a w := by
  have hone : ∀ u ∈ [iz y], u.oneCell' = true := fun u hu => by rw [List.mem_singleton.1 hu]; rfl
  have hr : Row w w.heap.size (some ⟨g, 0, none⟩) 1 [iz y] := by
    refine ⟨rfl, fun _ => ⟨g, 0, rfl, hg.lt, fun j hj => ?_⟩⟩
    obtain rfl : j = 0 := by simpa using hj
    rw [hg.cell]; rfl
  rcases h with h | ⟨q, cs, rfl, hB, hc, hxs⟩
  · refine wpList_append_row w hgd s x 22 ho B 3 (.int .i64 0) 8 Try.underlying22 infoZ rfl v l.length (l.map iz) hs h _ _ 1 1 [iz y] hx hr hone (by unfold maxLen; omega) (by omega) hBw ?_
    intro v' w' hown hgr hat
    have hown' : w'.ownsRow B 3 1 v' (l ++ [y]).length ((l ++ [y]).map iz) := by rw [List.length_append, List.map_append]; exact hown
    have hown2 := own_base h
    refine k v' w' (.inl hown') ((Below.refl B w).grown hgr hBw (fun q hq => hown2 q hq)) (fun q cs T hT hq => hgr.block q hq.lt fun e => ?_) (fun q hq hlt => hgr.block q hlt fun e => ?_) hgr.size
    · rcases h.2 with ⟨rfl, _⟩ | ⟨g', cap, cur, rfl, _, hcc, _⟩
      · cases e
      · injection e with e
        subst e
        exact hq.ne hcc hT rfl
    · rcases h.2 with ⟨rfl, _⟩ | ⟨g', cap, cur, rfl, _, hcc, _⟩
      · cases e
      · injection e with e
        subst e
        exact hq _ _ hcc
  · obtain ⟨i0, hi0, hz0, hz1, hz2⟩ := info_parts infoZ
    refine wpList_plain hgd fun K hK => ?_
    have hst := step_append_grows (P := Try.prog) (ops := ops) (o := o) (a := a) (w := w) (K := K) (Q := Q) (E := False) hgd s x 22 ho 3 i0 (.int .i64 0) 1 8 Try.underlying22 hi0 hz0 hz1 hz2 (by rfl) (by decide) (some ⟨q, 0, none⟩) l.length l.length (l.map iz) hs (fun h => by cases h) (by simp)
      (fun b hb => by
        injection hb with hb
        subst hb
        have := zrow_head (w' := w) (k := l.length) hc hxs rfl
        rwa [List.take_length] at this) ⟨g, 0, none⟩ 1 1 [iz y] hx rfl (zrow_cells hr) hone (by omega) (by unfold maxLen; omega) (by omega)
      (fun v' w' hown hgr => hK _ _ (k v' w' (.inl (own_mono_c (by rw [List.length_append, List.map_append]; exact hown) hBw)) ((Below.refl B w).grown hgr hBw (fun q hq => by cases hq)) (fun q cs T _ hq => hgr.block q hq.lt fun e => by cases e) (fun q _ hlt => hgr.block q hlt fun e => by cases e) hgr.size))
    have hw : Region.wanted o (yielded ops a.tmps) = true := by simp [Region.wanted, hgd]
    rw [if_pos hw] at hst
    exact hst
end
end Go.Proofs.Ytdfgehmabfacbaa
