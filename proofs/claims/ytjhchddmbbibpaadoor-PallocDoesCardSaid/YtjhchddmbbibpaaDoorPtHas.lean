import Derived.Test.YtjhchddmbbibpaaDoorPaList
import Derived.Test.YtjhchddmbbibpaaDoorApp
import Derived.Test.YtjhchddmbbibpaaDoorGrow
namespace Go.Proofs.YtjhchddmbbibpaaDoor
open Wd Pa Go.ChangeShapes Go.WideShapes Go.RowKit Go.Sort
set_option linter.unusedVariables false
def iv (x : Nat) : Value := .int .i64 x
/-- a row of ints, from its block's beginning on -/
def IRow (w : World) (B : Nat) (v : Value) (xs : List Nat) : Prop :=
  (v = .slice none 0 0 ∧ xs = []) ∨ ∃ (q c : Nat) (cs : Array Value), v = .slice (some ⟨q, 0, none⟩) xs.length c ∧ xs.length ≤ c ∧ c ≤ maxLen ∧ B ≤ q ∧ Cells w q 3 cs ∧ ∀ (j x : Nat), xs[j]? = some x → cs[j]? = some (iv x)
theorem IRow.keep {w w' : World} {B : Nat} {v : Value} {xs : List Nat} (h : IRow w B v xs) (hk : ∀ g cs, Cells w g 3 cs → w'.heap[g]? = w.heap[g]?) : IRow w' B v xs := by
  rcases h with h | ⟨q, c, cs, hv, hc, hm, hB, hh, hx⟩
  · exact .inl h
  · exact .inr ⟨q, c, cs, hv, hc, hm, hB, (hk q cs hh).trans hh, hx⟩
theorem IRow.below {w w' : World} {B : Nat} {v : Value} {xs : List Nat} (h : IRow w B v xs) (hb : Below w.heap.size w w') : IRow w' B v xs := h.keep fun g cs hc => hb.block g hc.lt
theorem IRow.of_own {w : World} {B : Nat} {v : Value} {xs : List Nat} {n : Nat} (hn : xs.length = n) (h : w.ownsRow B 3 1 v n (xs.map iv)) : IRow w B v xs := by
  subst hn
  rcases h.2 with ⟨rfl, h0⟩ | ⟨g, cap, cur, rfl, hb, hh, h1, h2, hs, ht⟩
  · exact .inl ⟨rfl, List.eq_nil_of_length_eq_zero h0⟩
  · refine .inr ⟨g, cap, cur, rfl, h1, h2, hb, hh, fun j x hj => ?_⟩
    rw [Nat.mul_one] at ht
    have hjn : j < xs.length := (List.getElem?_eq_some_iff.1 hj).1
    have e : (xs.map iv)[j]? = some (iv x) := by rw [List.getElem?_map, hj]; rfl
    rw [← ht, List.getElem?_take_of_lt hjn] at e
    simpa using e
theorem IRow.row {w : World} {B : Nat} {v : Value} {xs : List Nat} (h : IRow w B v xs) : ∃ A c, v = .slice A xs.length c ∧ Row w w.heap.size A xs.length (xs.map iv) := by
  rcases h with ⟨rfl, rfl⟩ | ⟨q, c, cs, rfl, hc, hm, _, hh, hx⟩
  · exact ⟨none, 0, rfl, Row.nil⟩
  · refine ⟨_, c, rfl, by simp, fun hp => ⟨q, 0, rfl, hh.lt, fun j hj => ?_⟩⟩
    have hj' : j < xs.length := by simpa using hj
    rw [Nat.zero_add, hh.cell, hx j xs[j] (List.getElem?_eq_getElem hj')]
    simp
/-- the document's pages: the struct at g, its list -/
structure TkV (w : World) (B g n : Nat) (l : List Nat) (v : Value) : Prop where
  c : Cells w g 36 #[.int .i64 n, v]
  r : IRow w B v l
  gB : B ≤ g
section
variable {w w' : World} {B g n : Nat} {l : List Nat} {v : Value}
theorem TkV.below (h : TkV w B g n l v) (hb : Below w.heap.size w w') : TkV w' B g n l v := ⟨h.c.below' hb, h.r.below hb, h.gB⟩
theorem TkV.c0 (h : TkV w B g n l v) : w.cell? ⟨g, 0, none⟩ = some (.int .i64 n) := by rw [h.c.cell]; rfl
theorem TkV.c1 (h : TkV w B g n l v) : w.cell? ⟨g, 1, none⟩ = some v := by rw [h.c.cell]; rfl
/-- all but the struct and ints stay -/
theorem TkV.keep (h : TkV w B g n l v) (h1 : w'.heap[g]? = w.heap[g]?) (hk : ∀ q cs, Cells w q 3 cs → w'.heap[q]? = w.heap[q]?) : TkV w' B g n l v := ⟨h1.trans h.c, h.r.keep hk, h.gB⟩
theorem TkV.grown {r : Nat} {T : TypeId} {cs : Array Value} (h : TkV w B g n l v) (hb : w.grownBy w' (some r)) (hr : Cells w r T cs) (h1 : T ≠ 36) (h2 : T ≠ 3) : TkV w' B g n l v :=
  h.keep (hb.block g h.c.lt (fun e => h1 (by
    obtain rfl : g = r := Option.some.inj e
    exact Classical.byContradiction fun hne => hr.ne h.c hne rfl)))
    fun q cs hc => hb.block q hc.lt (fun e => h2 (by
      obtain rfl : q = r := Option.some.inj e
      exact Classical.byContradiction fun hne => hr.ne hc hne rfl))
/-- is it one of them? -/
def hasB (l : List Nat) (i : Int) : Bool := decide (∃ x ∈ l, (x : Int) = i)
def HasRel (l : List Nat) (i : Int) (W : World) (iv_ : Value) (w : World) : Prop := ∃ k : Nat, k ≤ l.length ∧ iv_ = .int .i64 k ∧ (∀ t (y : Nat), t < k → l[t]? = some y → (y : Int) ≠ i) ∧ w = W
set_option maxRecDepth 100000 in
set_option maxHeartbeats 400000 in
theorem thas_is (h : TkV w B g n l v) (hl : l.length ≤ 1048576) (i : Int) : Calls Tryd.prog 15 #[.pointer (some ⟨g, 0, none⟩), .int .i64 i] w fun e w' => e = .returned (.bool (hasB l i)) ∧ w = w' := by
  obtain ⟨A, c, rfl, hr⟩ := h.r.row
  have c1 := h.c1
  have HR := Lib.hid hr
  clear hr h
  go_enter Tryd.func15, Tryd.ntmps15
  go_wp2
  go_loopw [12] (fun i_ wr => HasRel l i w i_ wr) (fun i_ _ => l.length - (intOf i_).toNat)
  case atStart => exact ⟨0, Nat.zero_le _, rfl, fun t y h => by omega, rfl⟩
  case round =>
    obtain ⟨k, hk, rfl, hno, rfl⟩ := hrel
    have HNO := Lib.hid hno
    clear hno
    by_cases hlt : k < l.length
    · obtain ⟨b1, o1, x, rfl, _, gx, cx⟩ := HR.out.get hlt
      have hlt2 : (k : Int) < (l.length : Int) := Int.ofNat_lt.2 hlt
      have GX := Lib.hid gx
      unfold iv at cx
      clear gx
      by_cases he : (x : Int) = i
      · have t1 : ((x : Int) == i) = true := by simpa using he
        have HE := Lib.hid (show hasB l i = true from decide_eq_true ⟨x, List.mem_of_getElem? GX.out, he⟩)
        clear he
        go_wp2
        go_ret
        exact ⟨by rw [HE.out]; rfl, rfl⟩
      · have t1 : ((x : Int) == i) = false := by simpa using he
        have HE := Lib.hid he
        clear he
        go_wp2
        go_roundw
        case rel =>
          refine ⟨k + 1, by omega, by go_num, fun t y ht hy => ?_, rfl⟩
          by_cases e : t = k
          · subst e
            rw [GX.out] at hy
            cases hy
            exact HE.out
          · exact HNO.out t y (by omega) hy
        case measure => simp [intOf]; omega
    · obtain rfl : k = l.length := by omega
      have HE := Lib.hid (show hasB l i = false from decide_eq_false (by
        rintro ⟨x, hx, e⟩
        obtain ⟨t, ht, hx⟩ := List.getElem_of_mem hx
        exact HNO.out t x ht (by rw [List.getElem?_eq_getElem ht, hx]) e))
      go_wp2
      go_ret
      exact ⟨by rw [HE.out]; rfl, rfl⟩
end
end Go.Proofs.YtjhchddmbbibpaaDoor
