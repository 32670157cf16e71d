import Derived.Test.YtanjikflljdjcaaDoorGrow
namespace U
open Go Wd Go.RowKit

/-- a word of 64 bits -/
def wd (n : Nat) : Value := .int .u64 (n : Int)
def Small (l : List Nat) : Prop := ∀ x ∈ l, x < 18446744073709551616
theorem Small.at {l : List Nat} (h : Small l) {j x : Nat} (hx : l[j]? = some x) : x < 18446744073709551616 := h x (List.mem_of_getElem? hx)
theorem Small.take {l : List Nat} (h : Small l) (n : Nat) : Small (l.take n) := fun x hx => h x (List.mem_of_mem_take hx)
theorem Small.drop {l : List Nat} (h : Small l) (n : Nat) : Small (l.drop n) := fun x hx => h x (List.mem_of_mem_drop hx)
theorem Small.append {l m : List Nat} (h : Small l) (k : Small m) : Small (l ++ m) := fun x hx => (List.mem_append.1 hx).elim (h x) (k x)
theorem take_one {α : Type} {l : List α} {k : Nat} {x : α} (h : l[k]? = some x) : l.take (k + 1) = l.take k ++ [x] := by
  rw [List.take_add_one, h]; rfl
theorem oneW (l : List Nat) : ∀ u ∈ l.map wd, u.oneCell' = true := by
  intro u hu
  obtain ⟨b, _, rfl⟩ := List.mem_map.1 hu
  rfl
/-- a row of words, as the statement opens it -/
theorem row_words {w : World} {B : Nat} {A : Option Addr} {l : List Int} (h : Row w B A l.length (l.map (Value.int .u64))) (hok : ∀ y ∈ l, (Lit.int .u64 y).wf = true) :
    ∃ m : List Nat, m.length = l.length ∧ Small m ∧ Row w B A m.length (m.map wd) := by
  have hb : ∀ y ∈ l, 0 ≤ y ∧ y < 18446744073709551616 := by
    intro y hy
    have h : IntKind.u64.min ≤ y ∧ y ≤ IntKind.u64.max := by simpa [Lit.wf] using hok y hy
    have m1 : IntKind.u64.min = 0 := by decide
    have m2 : IntKind.u64.max = 18446744073709551615 := by decide
    omega
  refine ⟨l.map Int.toNat, by simp, ?_, ?_⟩
  · intro x hx
    obtain ⟨y, hy, rfl⟩ := List.mem_map.1 hx
    have := hb y hy; omega
  · have e : (l.map Int.toNat).map wd = l.map (Value.int .u64) := by
      rw [List.map_map]
      refine List.map_congr_left fun y hy => ?_
      have := hb y hy
      show Value.int .u64 ((y.toNat : Nat) : Int) = _
      rw [Int.toNat_of_nonneg this.1]
    rw [e, List.length_map]
    exact h
/-- a block of words -/
def WRow (w : World) (g : Nat) (t : TypeId) (ws : List Nat) : Prop := Cells w g t (ws.map wd).toArray
theorem WRow.cell {w : World} {g : Nat} {t : TypeId} {ws : List Nat} (h : WRow w g t ws) {j c : Nat} (hx : ws[j]? = some c) : w.cell? ⟨g, j, none⟩ = some (.int .u64 (c : Int)) := by
  rw [Cells.cell h]; simp [hx, wd]
theorem WRow.set {w : World} {g : Nat} {t : TypeId} {ws : List Nat} (h : WRow w g t ws) (j c : Nat) : WRow (w.setCell ⟨g, j, none⟩ (.int .u64 (c : Int))) g t (ws.set j c) := by
  have := Cells.set h j (.int .u64 (c : Int))
  unfold WRow
  rw [List.map_set, ← List.setIfInBounds_toArray]
  exact this
theorem WRow.row {w : World} {g n B : Nat} {t : TypeId} {ws : List Nat} (h : WRow w g t ws) (hn : ws.length = n) (hg : g < B) : Row w B (some ⟨g, 0, none⟩) n (ws.map wd) := by
  have := Row.of_cells (B := B) h hg
  rw [show (List.map wd ws).toArray.size = n by rw [List.size_toArray, List.length_map]; exact hn] at this
  exact this
/-- a part of a row, from its beginning on -/
theorem row_take {w : World} {B n k : Nat} {A : Option Addr} {xs : List Value} (h : Row w B A n xs) (hk : k ≤ n) : Row w B A k (xs.take k) := by
  refine ⟨by rw [List.length_take, h.1]; omega, fun hk0 => ?_⟩
  obtain ⟨b, off, e, hb, hc⟩ := h.2 (by omega)
  refine ⟨b, off, e, hb, fun j hj => ?_⟩
  rw [List.length_take] at hj
  rw [List.getElem_take]
  exact hc j (by omega)

/-- FNV's step -/
@[irreducible] def more (s w : Nat) : Nat := (s ^^^ w) * 1099511628211 % 18446744073709551616
@[irreducible] def start : Nat := 14695981039346656037
theorem start_val : Value.int .u64 14695981039346656037 = .int .u64 ((start : Nat) : Int) := by unfold start; rfl
theorem start_lt : start < 18446744073709551616 := by unfold start; omega
def sum (l : List Nat) : Nat := l.foldl more start
theorem sum_nil : start = sum [] := by unfold sum; rw [List.foldl_nil]
theorem sum_snoc (l : List Nat) (x : Nat) : sum (l ++ [x]) = more (sum l) x := by unfold sum; rw [List.foldl_append, List.foldl_cons, List.foldl_nil]
theorem more_lt (s w : Nat) : more s w < 18446744073709551616 := by unfold more; exact Nat.mod_lt _ (by omega)
theorem run_lt : ∀ (l : List Nat) (s : Nat), s < 18446744073709551616 → l.foldl more s < 18446744073709551616 := by
  intro l
  induction l with
  | nil => intro s h; rw [List.foldl_nil]; exact h
  | cons a l ih => intro s h; rw [List.foldl_cons]; exact ih _ (more_lt s a)
theorem sum_lt (l : List Nat) : sum l < 18446744073709551616 := by
  unfold sum
  exact run_lt l _ start_lt
theorem mul_inj {x y : Nat} (hx : x < 18446744073709551616) (hy : y < 18446744073709551616) (h : x * 1099511628211 % 18446744073709551616 = y * 1099511628211 % 18446744073709551616) : x = y := by
  have inv : ∀ z, z < 18446744073709551616 → z * 1099511628211 % 18446744073709551616 * 14886173955864302971 % 18446744073709551616 = z := by
    intro z hz
    rw [Nat.mod_mul_mod, Nat.mul_assoc]
    have e : 1099511628211 * 14886173955864302971 = 18446744073709551616 * 887285111055 + 1 := by omega
    rw [e, Nat.mul_add, ← Nat.mul_assoc, Nat.mul_comm z 18446744073709551616, Nat.mul_assoc, Nat.mul_one, Nat.mul_add_mod, Nat.mod_eq_of_lt hz]
  rw [← inv x hx, h, inv y hy]
theorem xor_lt {x y : Nat} (hx : x < 18446744073709551616) (hy : y < 18446744073709551616) : x ^^^ y < 18446744073709551616 := Nat.xor_lt_two_pow (n := 64) hx hy
theorem more_left {s t w : Nat} (hs : s < 18446744073709551616) (ht : t < 18446744073709551616) (hw : w < 18446744073709551616) (h : more s w = more t w) : s = t := by
  unfold more at h
  have := mul_inj (xor_lt hs hw) (xor_lt ht hw) h
  have e := congrArg (· ^^^ w) this
  simpa [Nat.xor_assoc] using e
theorem more_right {s v w : Nat} (hs : s < 18446744073709551616) (hv : v < 18446744073709551616) (hw : w < 18446744073709551616) (h : more s v = more s w) : v = w := by
  unfold more at h
  have := mul_inj (xor_lt hs hv) (xor_lt hs hw) h
  have e := congrArg (s ^^^ ·) this
  simpa [← Nat.xor_assoc] using e
theorem run_left {l : List Nat} (hl : Small l) : ∀ {s t : Nat}, s < 18446744073709551616 → t < 18446744073709551616 → l.foldl more s = l.foldl more t → s = t := by
  induction l with
  | nil => intro s t _ _ h; exact h
  | cons a l ih =>
    intro s t hs ht h
    have := ih (fun x hx => hl x (by simp [hx])) (more_lt s a) (more_lt t a) h
    exact more_left hs ht (hl a (by simp)) this
/-- a word that is another one gives another sum -/
theorem sum_set {l : List Nat} {i v w : Nat} (hl : Small l) (hv : l[i]? = some v) (hw : w < 18446744073709551616) (hne : v ≠ w) : sum (l.set i w) ≠ sum l := by
  intro h
  have hlt := (List.getElem?_eq_some_iff.1 hv).1
  have e1 : l = l.take i ++ v :: l.drop (i + 1) := by
    have := (List.getElem?_eq_some_iff.1 hv).2
    rw [← this, List.getElem_cons_drop, List.take_append_drop]
  have e2 : l.set i w = l.take i ++ w :: l.drop (i + 1) := by
    rw [List.set_eq_take_append_cons_drop, if_pos hlt]
  rw [e2] at h
  conv at h => rhs; rw [e1]
  unfold sum at h
  rw [List.foldl_append, List.foldl_append, List.foldl_cons, List.foldl_cons] at h
  have hs : (l.take i).foldl more start < 18446744073709551616 := run_lt _ _ start_lt
  have := run_left (hl.drop (i + 1)) (more_lt _ _) (more_lt _ _) h
  exact hne (more_right hs hw (hl.at hv) this).symm
end U
