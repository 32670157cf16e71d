import Derived.Test.YtcimmfhbffofjaaRcOf
namespace Go.Proofs.Ytcimmfhbffofjaa
open Wd U Go.ChangeShapes Go.WideShapes Go.RowKit Go.Sort
set_option linter.unusedVariables false
set_option linter.unusedSimpArgs false

/-! records, one behind the other -/
def goodP (p : Eff × Int) : Prop := recB p.1 p.2 = true ∧ p.1.data = zer p.1.kind
def allW (ps : List (Eff × Int)) : List Nat := ps.flatMap (fun p => recW p.1 p.2)
theorem allW_cons (p : Eff × Int) (ps : List (Eff × Int)) : allW (p :: ps) = recW p.1 p.2 ++ allW ps := by unfold allW; rw [List.flatMap_cons]
theorem allW_snoc (ps : List (Eff × Int)) (p : Eff × Int) : allW (ps ++ [p]) = allW ps ++ recW p.1 p.2 := by unfold allW; simp [List.flatMap_append]
theorem all_strip {ps : List (Eff × Int)} : ∀ {qs : List (Eff × Int)} {rest : List Nat}, (∀ p ∈ ps, goodP p) → (∀ p ∈ qs, goodP p) → allW qs = allW ps ++ rest → ∃ rs, (∀ p ∈ rs, goodP p) ∧ rest = allW rs := by
  induction ps with
  | nil => intro qs rest _ hq h; exact ⟨qs, hq, by rw [h]; rfl⟩
  | cons p ps ih =>
    intro qs rest hp hq h
    rw [allW_cons, List.append_assoc] at h
    have gp := hp p (List.mem_cons_self)
    cases qs with
    | nil =>
      have h1 := congrArg List.length h
      rw [List.length_append, recW_len] at h1
      have := manyR_le (check_in (recB_parts gp.1).1)
      simp [allW] at h1
      omega
    | cons q qs =>
      rw [allW_cons] at h
      have gq := hq q (List.mem_cons_self)
      exact ih (fun x hx => hp x (List.mem_cons_of_mem _ hx)) (fun x hx => hq x (List.mem_cons_of_mem _ hx)) (rec_inj gq.1 gp.1 h).2.2
theorem all_no {ps : List (Eff × Int)} {l rest : List Nat} (hp : ∀ p ∈ ps, goodP p) (hl : l = allW ps ++ rest) (hr : rest ≠ []) (hno : ∀ (x : Eff) (r : Int) (t : List Nat), recB x r = true → x.data = zer x.kind → rest ≠ recW x r ++ t) : ∀ qs, (∀ p ∈ qs, goodP p) → l ≠ allW qs := by
  intro qs hq h
  obtain ⟨rs, hrs, he⟩ := all_strip hp hq (h.symm.trans hl)
  cases rs with
  | nil => exact hr he
  | cons p rs =>
    rw [allW_cons] at he
    have g := hrs p (List.mem_cons_self)
    exact hno p.1 p.2 _ g.1 g.2 he
theorem all_len {ps : List (Eff × Int)} (hp : ∀ p ∈ ps, goodP p) : ps.length ≤ (allW ps).length := by
  induction ps with
  | nil => exact Nat.zero_le _
  | cons p ps ih =>
    rw [allW_cons, List.length_append, recW_len]
    have := manyR_le (check_in (recB_parts (hp p (List.mem_cons_self)).1).1)
    have := ih (fun x hx => hp x (List.mem_cons_of_mem _ hx))
    simp only [List.length_cons]
    omega
/-- the same records but for where their bytes lie -/
theorem all_same {ps : List (Eff × Int)} : ∀ {qs : List (Eff × Int)}, (∀ p ∈ ps, goodP p) → (∀ p ∈ qs, goodP p) → allW ps = allW qs → ps.map (fun p => (core p.1, p.2)) = qs.map (fun p => (core p.1, p.2)) := by
  induction ps with
  | nil =>
    intro qs _ hq h
    cases qs with
    | nil => rfl
    | cons q qs =>
      have h1 := congrArg List.length h
      rw [allW_cons, List.length_append, recW_len] at h1
      have := manyR_le (check_in (recB_parts (hq q (List.mem_cons_self)).1).1)
      simp [allW] at h1
      omega
  | cons p ps ih =>
    intro qs hp hq h
    have gp := hp p (List.mem_cons_self)
    cases qs with
    | nil =>
      have h1 := congrArg List.length h
      rw [allW_cons, List.length_append, recW_len] at h1
      have := manyR_le (check_in (recB_parts gp.1).1)
      simp [allW] at h1
      omega
    | cons q qs =>
      have gq := hq q (List.mem_cons_self)
      rw [allW_cons, allW_cons] at h
      obtain ⟨e1, e2, e3⟩ := rec_inj gp.1 gq.1 h
      have := ih (fun x hx => hp x (List.mem_cons_of_mem _ hx)) (fun x hx => hq x (List.mem_cons_of_mem _ hx)) e3
      simp only [List.map_cons]
      rw [e1, e2, this]

/-! what a block of another kind keeps -/
def KeepT (T : TypeId) (w w' : World) : Prop := ∀ (b : Nat) (t : TypeId) (cs : Array Value), t ≠ T → Cells w b t cs → Cells w' b t cs
theorem keep_own {w w' : World} {base n sz : Nat} {T : TypeId} {v : Value} {xs : List Value} (h : w.ownsRow base T sz v n xs) (hg : w.grownBy w' v.ownBlock) : KeepT T w w' := by
  intro b t cs ht hc
  refine hc.grown hg fun e => ?_
  rcases h.2 with ⟨rfl, _⟩ | ⟨g', cap, cur, rfl, _, hh, _⟩
  · cases e
  · have : b = g' := by simpa [Value.ownBlock] using e
    exact hc.ne (show Cells w g' T cur from hh) ht this
theorem KeepT.own {w w' : World} {T e : TypeId} (h : KeepT T w w') {base n sz : Nat} {v : Value} {xs : List Value} (ho : w.ownsRow base e sz v n xs) (he : e ≠ T) : w'.ownsRow base e sz v n xs := by
  rcases ho with ⟨hl, ho⟩
  refine ⟨hl, ?_⟩
  rcases ho with ho | ⟨g, cap, cur, hv, hg, hh, h1⟩
  · exact .inl ho
  · exact .inr ⟨g, cap, cur, hv, hg, h g e cur he hh, h1⟩
theorem KeepT.ty {w w' : World} {T : TypeId} (h : KeepT T w w') {x : Eff} (ht : x.Ty w) (hT : 5 ≠ T) : x.Ty w' := fun b off e hn => by
  obtain ⟨cs, hc⟩ := ht b off e hn
  exact ⟨cs, h _ _ _ hT hc⟩
theorem KeepT.ok {w w' : World} {T : TypeId} (h : KeepT T w w') {x : Eff} (ok : x.Ok w w.heap.size) (ht : x.Ty w) (hT : 5 ≠ T) (hs : w.heap.size ≤ w'.heap.size) : x.Ok w' w'.heap.size := by
  refine ⟨ok.kind, ok.ino, ok.dir, ok.dst, ok.page, ok.size, ok.name, ok.other, ok.bytes, ?_, ok.le, ok.cap⟩
  refine ⟨ok.row.1, fun hn => ?_⟩
  obtain ⟨b, off, e, hb, hx⟩ := ok.row.2 hn
  obtain ⟨cs, hc⟩ := ht b off e hn
  have hc' := h _ _ _ hT hc
  refine ⟨b, off, e, Nat.lt_of_lt_of_le hb hs, fun j hj => ?_⟩
  rw [hc'.cell (off + j), ← hc.cell (off + j)]
  exact hx j hj
def effVals (ps : List (Eff × Int)) : List Value := ps.flatMap (fun p => p.1.vals)
theorem effVals_len (ps : List (Eff × Int)) : (effVals ps).length = ps.length * 9 := by
  induction ps with
  | nil => rfl
  | cons p ps ih => unfold effVals at *; rw [List.flatMap_cons, List.length_append, ih]; simp [Eff.vals]; omega
theorem effVals_snoc (ps : List (Eff × Int)) (p : Eff × Int) : effVals (ps ++ [p]) = effVals ps ++ p.1.vals := by unfold effVals; simp [List.flatMap_append]
theorem effVals_at : ∀ (ps : List (Eff × Int)) (j k : Nat) (p : Eff × Int) (x : Value), ps[j]? = some p → p.1.vals[k]? = some x → (effVals ps)[j * 9 + k]? = some x := by
  intro ps
  induction ps with
  | nil => intro j k p x hj; simp at hj
  | cons q ps ih =>
    intro j k p x hj hk
    have hlen : q.1.vals.length = 9 := rfl
    have e : effVals (q :: ps) = q.1.vals ++ effVals ps := by unfold effVals; rw [List.flatMap_cons]
    rw [e]
    cases j with
    | zero =>
      simp at hj
      subst hj
      have : k < q.1.vals.length := (List.getElem?_eq_some_iff.1 hk).1
      rw [Nat.zero_mul, Nat.zero_add, List.getElem?_append_left this]
      exact hk
    | succ j =>
      rw [List.getElem?_append_right (by rw [hlen]; omega), hlen, show (j + 1) * 9 + k - 9 = j * 9 + k by omega]
      exact ih j k p x (by simpa using hj) hk
theorem effs_of_own {w : World} {base : Nat} {v : Value} {ps : List (Eff × Int)} (h : w.ownsRow base 24 9 v ps.length (effVals ps)) (hok : ∀ p ∈ ps, p.1.Ok w w.heap.size) : ∃ A c, v = .slice A ps.length c ∧ ps.length ≤ c ∧ c ≤ maxLen ∧ Effs w w.heap.size A (ps.map (·.1)) := by
  rcases h.2 with ⟨rfl, h0⟩ | ⟨g, cap, cur, rfl, _, hh, hc, hm, _, ht⟩
  · obtain rfl : ps = [] := List.eq_nil_of_length_eq_zero h0
    exact ⟨none, 0, rfl, Nat.le_refl _, Nat.zero_le _, ⟨fun hn => absurd hn (by simp), fun e he => by simp at he⟩⟩
  · refine ⟨_, cap, rfl, hc, hm, ⟨fun _ => ⟨g, 0, rfl, lt_of_block hh, fun j e hj k x hk => ?_⟩, fun e he => ?_⟩⟩
    · rw [List.getElem?_map] at hj
      cases hp : ps[j]? with
      | none => rw [hp] at hj; cases hj
      | some p =>
        rw [hp] at hj
        obtain rfl : p.1 = e := Option.some.inj hj
        have hx := effVals_at ps j k p x hp hk
        rw [← ht] at hx
        have hcell : w.cell? ⟨g, 0 + (j * 9 + k), none⟩ = cur[0 + (j * 9 + k)]? := cell_of_row w g _ cur _ (0, 0) hh
        rw [hcell, Nat.zero_add, ← Array.getElem?_toList]
        rw [List.getElem?_take] at hx
        split at hx
        · exact hx
        · cases hx
    · obtain ⟨p, hp, rfl⟩ := List.mem_map.1 he
      exact hok p hp
end Go.Proofs.Ytcimmfhbffofjaa
