import Derived.Test.YtanjikflljdjcaaDoorU64
namespace U
/-- the word of some bytes, the first one lowest -/
def val : List Nat → Nat
  | [] => 0
  | x :: t => x + 256 * val t
def Bytes (b : List Nat) : Prop := ∀ x ∈ b, x < 256
theorem Bytes.at {l : List Nat} (h : Bytes l) {j x : Nat} (hx : l[j]? = some x) : x < 256 := h x (List.mem_of_getElem? hx)
theorem Bytes.take {l : List Nat} (h : Bytes l) (n : Nat) : Bytes (l.take n) := fun x hx => h x (List.mem_of_mem_take hx)
theorem Bytes.drop {l : List Nat} (h : Bytes l) (n : Nat) : Bytes (l.drop n) := fun x hx => h x (List.mem_of_mem_drop hx)
def chunk (b : List Nat) (i : Nat) : List Nat := (b.drop (8 * i)).take 8
def need (n : Nat) : Nat := (n + 7) / 8
def pk (b : List Nat) : List Nat := (List.range (need b.length)).map (fun i => val (chunk b i))
theorem pk_len (b : List Nat) : (pk b).length = need b.length := by unfold pk; simp
theorem pk_get (b : List Nat) (i : Nat) : (pk b)[i]? = if i < need b.length then some (val (chunk b i)) else none := by
  unfold pk
  rw [List.getElem?_map]
  by_cases h : i < need b.length
  · rw [if_pos h, List.getElem?_range h]; rfl
  · rw [if_neg h, List.getElem?_eq_none (by simp; omega)]; rfl
theorem val_snoc (c : List Nat) (x : Nat) : val (c ++ [x]) = val c + 256 ^ c.length * x := by
  induction c with
  | nil => simp [val]
  | cons a c ih =>
    simp only [List.cons_append, val, ih, List.length_cons, Nat.pow_succ]
    rw [Nat.mul_add, ← Nat.mul_assoc, Nat.mul_comm 256 (256 ^ c.length)]
    omega
theorem val_lt {c : List Nat} (h : Bytes c) : val c < 256 ^ c.length := by
  induction c with
  | nil => simp [val]
  | cons a c ih =>
    have h1 := ih (fun x hx => h x (by simp [hx]))
    have h2 := h a (by simp)
    simp only [val, List.length_cons, Nat.pow_succ]
    omega
theorem chunk_len (b : List Nat) (i : Nat) : (chunk b i).length = min 8 (b.length - 8 * i) := by unfold chunk; simp
theorem chunk_old {b : List Nat} {i : Nat} (x : Nat) (h : i < b.length / 8) : chunk (b ++ [x]) i = chunk b i := by
  unfold chunk
  rw [List.drop_append_of_le_length (by omega), List.take_append_of_le_length (by rw [List.length_drop]; omega)]
theorem chunk_new {b : List Nat} (x : Nat) : chunk (b ++ [x]) (b.length / 8) = chunk b (b.length / 8) ++ [x] := by
  unfold chunk
  rw [List.drop_append_of_le_length (by omega), List.take_of_length_le (by rw [List.length_append, List.length_drop]; simp; omega), List.take_of_length_le (by rw [List.length_drop]; omega)]
theorem pow_le {k : Nat} (h : k < 8) : 256 ^ k ≤ 72057594037927936 := by
  have : 256 ^ k ≤ 256 ^ 7 := Nat.pow_le_pow_right (by omega) (by omega)
  simpa using this
/-- one byte more -/
theorem pk_step {b : List Nat} (hb : Bytes b) {x : Nat} (hx : x < 256) : ∃ v, (if b.length % 8 = 0 then pk b ++ [0] else pk b)[b.length / 8]? = some v ∧ v + 256 ^ (b.length % 8) * x < 18446744073709551616 ∧
    pk (b ++ [x]) = (if b.length % 8 = 0 then pk b ++ [0] else pk b).set (b.length / 8) (v + 256 ^ (b.length % 8) * x) := by
  have hcl : (chunk b (b.length / 8)).length = b.length % 8 := by rw [chunk_len]; omega
  have hvl : val (chunk b (b.length / 8)) < 256 ^ (b.length % 8) := by
    rw [← hcl]; exact val_lt ((hb.drop _).take _)
  have hpl := pow_le (k := b.length % 8) (by omega)
  have hsum : val (chunk b (b.length / 8)) + 256 ^ (b.length % 8) * x < 18446744073709551616 := by
    have h1 : 256 ^ (b.length % 8) * x ≤ 256 ^ (b.length % 8) * 255 := Nat.mul_le_mul_left _ (by omega)
    omega
  by_cases h : b.length % 8 = 0
  · rw [if_pos h]
    have hv0 : val (chunk b (b.length / 8)) = 0 := by rw [h] at hvl; simpa using hvl
    have hn : need b.length = b.length / 8 := by unfold need; omega
    refine ⟨0, ?_, by omega, ?_⟩
    · rw [List.getElem?_append_right (by rw [pk_len]; omega), pk_len, hn]; simp
    · apply List.ext_getElem?
      intro j
      rw [pk_get, List.getElem?_set]
      have hn2 : need (b ++ [x]).length = b.length / 8 + 1 := by unfold need; simp; omega
      rw [hn2]
      by_cases hj : b.length / 8 = j
      · subst hj
        rw [if_pos (by omega), if_pos rfl, if_pos (by rw [List.length_append, pk_len, hn]; simp), chunk_new, val_snoc, hcl, hv0]
      · rw [if_neg hj]
        by_cases hj2 : j < b.length / 8
        · rw [if_pos (by omega), List.getElem?_append_left (by rw [pk_len]; omega), pk_get, if_pos (by omega), chunk_old x hj2]
        · rw [if_neg (by omega), List.getElem?_eq_none (by rw [List.length_append, pk_len, hn]; simp; omega)]
  · rw [if_neg h]
    have hn : need b.length = b.length / 8 + 1 := by unfold need; omega
    refine ⟨val (chunk b (b.length / 8)), ?_, hsum, ?_⟩
    · rw [pk_get, if_pos (by omega)]
    · apply List.ext_getElem?
      intro j
      rw [pk_get, List.getElem?_set]
      have hn2 : need (b ++ [x]).length = b.length / 8 + 1 := by unfold need; simp; omega
      rw [hn2]
      by_cases hj : b.length / 8 = j
      · subst hj
        rw [if_pos (by omega), if_pos rfl, if_pos (by rw [pk_len]; omega), chunk_new, val_snoc, hcl]
      · rw [if_neg hj]
        by_cases hj2 : j < b.length / 8
        · rw [if_pos (by omega), pk_get, if_pos (by omega), chunk_old x hj2]
        · rw [if_neg (by omega), pk_get, if_neg (by omega)]
theorem pk_small {b : List Nat} (hb : Bytes b) : Small (pk b) := by
  intro y hy
  obtain ⟨i, hi, rfl⟩ := List.mem_map.1 hy
  have h1 := val_lt ((hb.drop (8 * i)).take 8)
  have h2 : ((b.drop (8 * i)).take 8).length ≤ 8 := by simp; omega
  have h3 : 256 ^ ((b.drop (8 * i)).take 8).length ≤ 256 ^ 8 := Nat.pow_le_pow_right (by omega) h2
  show val ((b.drop (8 * i)).take 8) < _
  simp only [show (256 : Nat) ^ 8 = 18446744073709551616 from by decide] at h3
  omega

/-- the bytes that words stand for -/
def bytesOf (l : List Nat) (n : Nat) : List Nat := (List.range n).map (fun i => (l[i / 8]?.getD 0) / 256 ^ (i % 8) % 256)
theorem bytesOf_len (l : List Nat) (n : Nat) : (bytesOf l n).length = n := by unfold bytesOf; simp
theorem bytesOf_bytes (l : List Nat) (n : Nat) : Bytes (bytesOf l n) := by
  intro y hy
  obtain ⟨i, _, rfl⟩ := List.mem_map.1 hy
  exact Nat.mod_lt _ (by omega)
theorem bytesOf_snoc (l : List Nat) (n : Nat) : bytesOf l (n + 1) = bytesOf l n ++ [(l[n / 8]?.getD 0) / 256 ^ (n % 8) % 256] := by
  unfold bytesOf
  rw [List.range_succ, List.map_append]; rfl
/-- whether words are the Pack of so many bytes -/
def mayU (l : List Nat) (n : Int) : Bool := decide (0 ≤ n) && decide (need n.toNat = l.length) && decide (pk (bytesOf l n.toNat) = l)
end U
