import Derived.Test.YtjopeephohdmlaaPk
namespace U
/-! words whose room is there ahead, laid byte by byte -/
def padW (b : List Nat) (k : Nat) : List Nat := (List.range (need b.length)).map (fun j => val (chunk (b.take k) j))
theorem padW_len (b : List Nat) (k : Nat) : (padW b k).length = need b.length := by unfold padW; simp
theorem padW_get (b : List Nat) (k j : Nat) : (padW b k)[j]? = if j < need b.length then some (val (chunk (b.take k) j)) else none := by
  unfold padW
  rw [List.getElem?_map]
  by_cases h : j < need b.length
  · rw [if_pos h, List.getElem?_range h]; rfl
  · rw [if_neg h, List.getElem?_eq_none (by simp; omega)]; rfl
theorem chunk_far {b : List Nat} {j : Nat} (h : b.length ≤ 8 * j) : chunk b j = [] := by unfold chunk; rw [List.drop_eq_nil_of_le h]; rfl
theorem padW_zero (b : List Nat) : padW b 0 = List.replicate (need b.length) 0 := by
  apply List.ext_getElem?
  intro j
  rw [padW_get, List.getElem?_replicate, List.take_zero, chunk_far (by simp)]
  rfl
theorem padW_all (b : List Nat) : padW b b.length = pk b := by
  apply List.ext_getElem?
  intro j
  rw [padW_get, pk_get, List.take_length]
theorem padW_step {b : List Nat} (hb : Bytes b) {k x : Nat} (hx : b[k]? = some x) :
    ∃ v, (padW b k)[k / 8]? = some v ∧ v < 256 ^ (k % 8) ∧ v + x * 256 ^ (k % 8) < 18446744073709551616 ∧ padW b (k + 1) = (padW b k).set (k / 8) (v + x * 256 ^ (k % 8)) := by
  have hk : k < b.length := (List.getElem?_eq_some_iff.1 hx).1
  have hxb := hb.at hx
  have hl : (b.take k).length = k := by rw [List.length_take]; omega
  have ht : b.take (k + 1) = b.take k ++ [x] := by rw [List.take_add_one, hx]; rfl
  have hcl : (chunk (b.take k) (k / 8)).length = k % 8 := by rw [chunk_len, hl]; omega
  have hv : val (chunk (b.take k) (k / 8)) < 256 ^ (k % 8) := by
    have := val_lt (c := chunk (b.take k) (k / 8)) (((hb.take k).drop _).take _)
    rw [hcl] at this
    exact this
  have hn : k / 8 < need b.length := by unfold need; omega
  have hpl := pow_le (k := k % 8) (by omega)
  refine ⟨_, by rw [padW_get, if_pos hn], hv, ?_, ?_⟩
  · have h1 : x * 256 ^ (k % 8) ≤ 255 * 256 ^ (k % 8) := Nat.mul_le_mul_right _ (by omega)
    omega
  · apply List.ext_getElem?
    intro j
    rw [padW_get, List.getElem?_set, padW_len, padW_get]
    by_cases hj : k / 8 = j
    · subst hj
      rw [if_pos hn, if_pos rfl, if_pos hn, ht]
      have := chunk_new (b := b.take k) x
      rw [hl] at this
      rw [this, val_snoc, hcl, Nat.mul_comm]
    · rw [if_neg hj]
      by_cases hjn : j < need b.length
      · rw [if_pos hjn, if_pos hjn]
        by_cases hj2 : j < k / 8
        · rw [ht, chunk_old x (by rw [hl]; exact hj2)]
        · rw [chunk_far (b := b.take (k + 1)) (by rw [List.length_take]; omega), chunk_far (b := b.take k) (by rw [List.length_take]; omega)]
      · rw [if_neg hjn, if_neg hjn]
theorem or_mul' (a b i : Nat) (h : a < 2 ^ i) : a ||| (b * 2 ^ i) = a + b * 2 ^ i := by
  rw [Nat.or_comm, ← Nat.shiftLeft_eq, ← Nat.shiftLeft_add_eq_or_of_lt h, Nat.add_comm]
theorem pow_two (r : Nat) : 2 ^ (r * 8) = 256 ^ r := by rw [Nat.mul_comm, Nat.pow_mul]
/-- the bytes of packed words -/
theorem bytes_pk {b : List Nat} (hb : Bytes b) : bytesOf (pk b) b.length = b := by
  apply List.ext_getElem?
  intro j
  unfold bytesOf
  rw [List.getElem?_map]
  by_cases hj : j < b.length
  · rw [List.getElem?_range hj]
    have hn : j / 8 < need b.length := by unfold need; omega
    show some (((pk b)[j / 8]?.getD 0) / 256 ^ (j % 8) % 256) = b[j]?
    rw [pk_get, if_pos hn, Option.getD_some]
    have hc : (chunk b (j / 8))[j % 8]? = b[j]? := by
      unfold chunk
      rw [List.getElem?_take_of_lt (by omega), List.getElem?_drop]
      congr 1
      omega
    rw [← hc]
    have hbc : Bytes (chunk b (j / 8)) := (hb.drop _).take _
    have hlt : j % 8 < (chunk b (j / 8)).length := by rw [chunk_len]; omega
    rw [List.getElem?_eq_getElem hlt]
    congr 1
    generalize chunk b (j / 8) = c at hbc hlt
    generalize j % 8 = i at hlt
    clear hc hn hj
    induction c generalizing i with
    | nil => simp at hlt
    | cons y c ih =>
      have hy : y < 256 := hbc y (by simp)
      cases i with
      | zero => show (y + 256 * val c) / 256 ^ 0 % 256 = y; rw [Nat.pow_zero, Nat.div_one]; omega
      | succ i =>
        have hlt' : i < c.length := by simpa using hlt
        have := ih (fun z hz => hbc z (by simp [hz])) i hlt'
        show (y + 256 * val c) / 256 ^ (i + 1) % 256 = c[i]
        rw [Nat.pow_succ, Nat.mul_comm (256 ^ i) 256, ← Nat.div_div_eq_div_mul, show (y + 256 * val c) / 256 = val c by omega]
        exact this
  · rw [List.getElem?_eq_none (by simp; omega), List.getElem?_eq_none (by omega)]; rfl
theorem mayU_pk {b : List Nat} (hb : Bytes b) : mayU (pk b) b.length = true := by
  unfold mayU
  rw [Int.toNat_natCast, bytes_pk hb, pk_len]
  simp
end U
