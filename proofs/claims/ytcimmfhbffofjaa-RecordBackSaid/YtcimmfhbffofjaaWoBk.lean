import Derived.Test.YtcimmfhbffofjaaWoTx
namespace Go.Proofs.Ytcimmfhbffofjaa
open Wd U Go.ChangeShapes Go.WideShapes Go.RowKit Go.Sort
set_option linter.unusedVariables false

/-! there and back -/
theorem strOf_bsOf (s : ByteArray) : strOf (bsOf s) = s := by
  unfold strOf bsOf
  rw [List.map_map]
  have h := foldl_push_byteCells s.data.toList ByteArray.empty
  have e : (List.map ((fun x : Nat => (x : Int)) ∘ fun x : UInt8 => x.toNat) s.data.toList) = s.data.toList.map (fun b => (b.toNat : Int)) := rfl
  rw [e, h]
  have e0 : ByteArray.empty.data = #[] := rfl
  have e2 : (ByteArray.empty.data ++ s.data.toList.toArray) = s.data := by rw [e0]; simp
  rw [e2]
def encT (s : ByteArray) : List Nat := [s.size] ++ pk (bsOf s)
def encs (l : List ByteArray) : List Nat := l.flatMap encT
theorem encT_len {s : ByteArray} (h : s.size ≤ 100) : (encT s).length ≤ 14 := by
  unfold encT
  rw [List.length_append, List.length_singleton, pk_len, bsOf_len]
  unfold need; omega
theorem encs_len {l : List ByteArray} (h : ∀ s ∈ l, s.size ≤ 100) : (encs l).length ≤ 14 * l.length := by
  induction l with
  | nil => simp [encs]
  | cons s l ih =>
    have h1 := encT_len (h s (by simp))
    have h2 := ih fun t ht => h t (by simp [ht])
    unfold encs at *
    rw [List.flatMap_cons, List.length_append, List.length_cons]
    omega
theorem encs_small {l : List ByteArray} (h : ∀ s ∈ l, s.size ≤ 100) : Small (encs l) := by
  intro x hx
  obtain ⟨s, hs, hx⟩ := List.mem_flatMap.1 hx
  unfold encT at hx
  rcases List.mem_append.1 hx with hx | hx
  · have := h s hs
    rw [List.mem_singleton] at hx
    omega
  · exact pk_small (bsOf_bytes s) x hx
theorem encs_snoc {l : List ByteArray} {j : Nat} {s : ByteArray} (h : l[j]? = some s) : encs (l.take (j + 1)) = encs (l.take j) ++ [s.size] ++ pk (bsOf s) := by
  rw [List.take_add_one, h]
  unfold encs
  rw [List.flatMap_append]
  simp [encT]
theorem encs_drop {l : List ByteArray} {j : Nat} {s : ByteArray} (h : l[j]? = some s) : encs (l.drop j) = s.size :: (pk (bsOf s) ++ encs (l.drop (j + 1))) := by
  obtain ⟨hj, rfl⟩ := List.getElem?_eq_some_iff.1 h
  rw [List.drop_eq_getElem_cons hj]
  unfold encs
  rw [List.flatMap_cons]
  simp [encT]
theorem back_text {s : ByteArray} (h : s.size ≤ 100) (rest : List Nat) : textOk 100 (s.size :: (pk (bsOf s) ++ rest)) = true ∧ textV 100 (s.size :: (pk (bsOf s) ++ rest)) = s ∧ textX 100 (s.size :: (pk (bsOf s) ++ rest)) = rest ∧ textB 100 (s.size :: (pk (bsOf s) ++ rest)) false = false := by
  have hk : (pk (bsOf s)).length = need s.size := by rw [pk_len, bsOf_len]
  have ht : (pk (bsOf s) ++ rest).take (need s.size) = pk (bsOf s) := by rw [← hk, List.take_left]
  have hd : (pk (bsOf s) ++ rest).drop (need s.size) = rest := by rw [← hk, List.drop_left]
  have hm : mayU (pk (bsOf s)) (s.size : Int) = true := by rw [← bsOf_len s]; exact mayU_pk (bsOf_bytes s)
  have ok : textOk 100 (s.size :: (pk (bsOf s) ++ rest)) = true := by
    rw [textOk_cons, ht, hm, List.length_append, hk]
    have h1 : s.size ≤ topN := by unfold topN; omega
    have h2 : (s.size : Int) ≤ 100 := by omega
    simp [h1, h2]
  refine ⟨ok, ?_, ?_, ?_⟩
  · unfold textV
    rw [ok]
    show strOf (bytesOf ((pk (bsOf s) ++ rest).take (need s.size)) s.size) = s
    have := bytes_pk (bsOf_bytes s)
    rw [bsOf_len] at this
    rw [ht, this, strOf_bsOf]
  · unfold textX; rw [ok]; exact hd
  · unfold textB; rw [ok]; rfl
theorem back_num {x : Nat} (h : x ≤ topN) (rest : List Nat) : numV (x :: rest) = x ∧ numX (x :: rest) = rest ∧ numB (x :: rest) false = false := by
  have ok : numOk (x :: rest) = true := decide_eq_true h
  unfold numV numX numB
  rw [ok]
  exact ⟨rfl, rfl, rfl⟩
def okI (y : Int) : Prop := 0 ≤ y ∧ y ≤ 4611686018427387904
theorem small_ints {n : List Int} (h : ∀ y ∈ n, okI y) : Small (n.map Int.toNat) := by
  intro x hx
  obtain ⟨y, hy, rfl⟩ := List.mem_map.1 hx
  have := h y hy
  unfold okI at this
  omega
def Back1 (W : World) (g : Nat) (l : List ByteArray) (idx : Value) (w : World) : Prop := ∃ j : Nat, j ≤ l.length ∧ idx = .int .i64 j ∧ (∀ s ∈ l.take j, s.size ≤ 100) ∧ WrSt W g (encs (l.take j)) w
def Back2 (W : World) (g : Nat) (l : List ByteArray) (n : List Int) (idx : Value) (w : World) : Prop := ∃ j : Nat, j ≤ n.length ∧ idx = .int .i64 j ∧ (∀ y ∈ n.take j, okI y) ∧ WrSt W g (encs l ++ (n.take j).map Int.toNat) w
def Back3 (W : World) (g : Nat) (l : List ByteArray) (ns : List Nat) (idx : Value) (w : World) : Prop := ∃ j : Nat, j ≤ l.length ∧ idx = .int .i64 j ∧ RdSt W g (encs (l.drop j) ++ ns) false w
def Back4 (W : World) (g : Nat) (n : List Int) (idx : Value) (w : World) : Prop := ∃ j : Nat, j ≤ n.length ∧ idx = .int .i64 j ∧ RdSt W g ((n.drop j).map Int.toNat) false w
end Go.Proofs.Ytcimmfhbffofjaa
