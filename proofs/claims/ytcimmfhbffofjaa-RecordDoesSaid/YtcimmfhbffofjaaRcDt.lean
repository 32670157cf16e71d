import Derived.Test.YtcimmfhbffofjaaRcTx
import Derived.Test.YtcimmfhbffofjaaMB
namespace Go.Proofs.Ytcimmfhbffofjaa
open Wd U Go.ChangeShapes Go.WideShapes Go.RowKit Go.Sort
set_option linter.unusedVariables false

/-! the document's text at a place of words -/
def dtx (l : List Nat) (p : Int) : ByteArray × Int :=
  if 0 ≤ p ∧ textOk 24 (l.drop p.toNat) = true then (textV 24 (l.drop p.toNat), p + 1 + (need ((l.drop p.toNat).headD 0) : Nat)) else (⟨#[]⟩, -1)
def TextAt (l : List Nat) (p : Int) (W : World) (e : Ending) (w : World) : Prop := e = .returned (.tuple #[.string (dtx l p).1, .int .i64 (dtx l p).2]) ∧ Below W.heap.size W w
theorem TextAt.no {l : List Nat} {p : Int} {W w : World} (h : ¬ (0 ≤ p ∧ textOk 24 (l.drop p.toNat) = true)) (hb : Below W.heap.size W w) : TextAt l p W (.returned (.tuple #[.string ⟨#[]⟩, .int .i64 (-1)])) w := by
  unfold TextAt dtx
  rw [if_neg h]
  exact ⟨rfl, hb⟩
theorem row_sub {w : World} {B b off L lo k : Nat} {xs : List Nat} {X : Prop} [Decidable X] (h : Row w B (some ⟨b, off, none⟩) L (xs.map wd)) (hk : lo + k ≤ L) (hX : X → k = 0) :
    Row w B (if X then (some ⟨b, off, none⟩ : Option Addr) else some ⟨b, off + lo, none⟩) k (((xs.drop lo).take k).map wd) := by
  have hl : xs.length = L := by have := h.1; rw [List.length_map] at this; exact this
  refine ⟨by rw [List.length_map, List.length_take, List.length_drop]; omega, fun h0 => ?_⟩
  have hx : ¬ X := fun x => by have := hX x; omega
  rw [if_neg hx]
  obtain ⟨b', off', e, hb, hc⟩ := h.2 (by omega)
  cases e
  refine ⟨b, off + lo, rfl, hb, fun j hj => ?_⟩
  have hj' : j < k := by rw [List.length_map, List.length_take] at hj; omega
  have := hc (lo + j) (by rw [List.length_map]; omega)
  rw [Nat.add_assoc, this]
  congr 1
  simp
set_option maxRecDepth 100000 in
theorem dText_neg (l : List Nat) (L : Nat) (p : Int) (hp : p < 0) (A : Option Addr) (c : Nat) (w : World) : Calls Try.prog 33 #[.slice A L c, .int .i64 p] w (TextAt l p w) := by
  have q : decide (p < 0) = true := decide_eq_true hp
  have H := Lib.hid hp
  clear hp
  go_enter Try.func33, Try.ntmps33
  go_wp2
  go_ret2
  exact TextAt.no (fun h => by have := H.out; omega) (Below.refl _ _)
set_option maxRecDepth 100000 in
theorem dText_past (l : List Nat) (L p : Nat) (hL : l.length = L) (hp : L ≤ p) (hp1 : p ≤ 1000) (A : Option Addr) (c : Nat) (w : World) : Calls Try.prog 33 #[.slice A L c, .int .i64 (p : Int)] w (TextAt l (p : Int) w) := by
  have q : decide ((p : Int) < 0) = false := decide_eq_false (by omega)
  have q2 : decide (L ≤ p) = true := decide_eq_true (by omega)
  have H := Lib.hid hp; have HL := Lib.hid hL
  clear hp hL
  go_enter Try.func33, Try.ntmps33
  go_wp2
  go_ret2
  exact TextAt.no (fun h => by
    have e : (l.drop (p : Int).toNat) = [] := List.drop_eq_nil_of_le (by rw [HL.out, Int.toNat_natCast]; exact H.out)
    rw [e] at h
    exact absurd h.2 (by simp [textOk])) (Below.refl _ _)
set_option maxRecDepth 100000 in
set_option maxHeartbeats 4000000 in
theorem dText_in (l : List Nat) (L p : Nat) (hL : l.length = L) (hl : Small l) (hle : L ≤ 100) (hp : p < L) (A : Option Addr) (c B : Nat) (hc : L ≤ c) (hcm : c ≤ maxLen) (w : World) (hB : B ≤ w.heap.size) (hr : Row w B A L (l.map wd)) : Calls Try.prog 33 #[.slice A L c, .int .i64 (p : Int)] w (TextAt l (p : Int) w) := by
  obtain ⟨b, off, x, rfl, hb, hx, cx⟩ := hr.get hp
  have hxl := hl.at hx
  have hdrop : l.drop p = x :: l.drop (p + 1) := by
    obtain ⟨h1, h2⟩ := List.getElem?_eq_some_iff.1 hx
    rw [List.drop_eq_getElem_cons h1, h2]
  obtain ⟨t, ht⟩ : ∃ t, l.drop (p + 1) = t := ⟨_, rfl⟩
  rw [ht] at hdrop
  have htl : t.length = L - p - 1 := by rw [← ht, List.length_drop, hL]; omega
  have q : decide ((p : Int) < 0) = false := decide_eq_false (by omega)
  have q2 : decide (L ≤ p) = false := decide_eq_false (by omega)
  have hcm' : c ≤ 9223372036854775807 := by unfold maxLen at hcm; omega
  have cx2 : w.cell? ⟨b, off + p, none⟩ = some (.int .u64 (x : Int)) := cx
  have HD := Lib.hid hdrop; have HT := Lib.hid ht; have HTL := Lib.hid htl; have HR := Lib.hid hr; have HL := Lib.hid hL; have HS := Lib.hid hl
  clear hx cx hdrop ht htl hr hL hl
  by_cases h24 : 24 < x
  · have q3 : decide ((x : Int) > 24) = true := decide_eq_true (by omega)
    have H24 := Lib.hid h24
    clear h24
    go_enter Try.func33, Try.ntmps33
    go_wp2
    go_ret2
    exact TextAt.no (fun h => by
      have h := h.2
      rw [Int.toNat_natCast, HD.out, textOk_cons] at h
      simp only [Bool.and_eq_true, decide_eq_true_eq] at h
      have := H24.out
      omega) (Below.refl _ _)
  · have q3 : decide ((x : Int) > 24) = false := decide_eq_false (by omega)
    obtain ⟨k, hk⟩ : ∃ k, need x = k := ⟨_, rfl⟩
    have hk2 : ((x : Int) + 7) / 8 = (k : Int) := by rw [← hk]; unfold need; omega
    have hk3 : k ≤ 3 := by rw [← hk]; unfold need; omega
    have HK := Lib.hid hk
    clear hk
    by_cases hkk : L - p - 1 < k
    · have q4 : decide ((L : Int) - (p : Int) - 1 < (k : Int)) = true := decide_eq_true (by omega)
      have HKK := Lib.hid hkk
      clear hkk
      go_enter Try.func33, Try.ntmps33
      go_wp2
      go_ret2
      exact TextAt.no (fun h => by
        have h := h.2
        rw [Int.toNat_natCast, HD.out, textOk_cons, HK.out, HTL.out] at h
        simp only [Bool.and_eq_true, decide_eq_true_eq] at h
        have := HKK.out
        omega) (Below.refl _ _)
    · have q4 : decide ((L : Int) - (p : Int) - 1 < (k : Int)) = false := decide_eq_false (by omega)
      have hkk' : p + 1 + k ≤ L := by omega
      clear hkk
      obtain ⟨u, hu⟩ : ∃ u, mayU (t.take k) (x : Int) = u := ⟨_, rfl⟩
      have HU := Lib.hid hu
      clear hu
      go_enter Try.func33, Try.ntmps33
      have hsub : ∀ (X : Prop) [Decidable X], (X → k = 0) → Row w w.heap.size (if X then (some ⟨b, off, none⟩ : Option Addr) else some ⟨b, off + (p + 1), none⟩) k ((t.take k).map wd) := fun X _ hX => by
        have := row_sub (lo := p + 1) (k := k) (HR.out.more hB) (by omega) hX
        rw [HT.out] at this
        exact this
      have hA := hsub False (fun h => h.elim)
      rw [if_neg (fun h => h)] at hA
      have hB2 : k = 0 → Row w w.heap.size (some ⟨b, off, none⟩) k ((t.take k).map wd) := fun h => by
        have := hsub True (fun _ => h)
        rw [if_pos trivial] at this
        exact this
      have HA := Lib.hid hA; have HB2 := Lib.hid hB2
      have HTS := Lib.hid (show Small (t.take k) from by rw [← HT.out]; exact (HS.out.drop (p + 1)).take k)
      have HTK := Lib.hid (show (t.take k).length = k from by rw [List.length_take, HTL.out]; omega)
      have HNO := Lib.hid (show u = false → ¬ (0 ≤ (p : Int) ∧ textOk 24 (l.drop (p : Int).toNat) = true) from fun hu h => by
        have h := h.2
        rw [Int.toNat_natCast, HD.out, textOk_cons, HK.out, HU.out, hu, Bool.and_false] at h
        cases h)
      have HYES := Lib.hid (show u = true → dtx l (p : Int) = (strOf (bytesOf (t.take k) x), (p : Int) + 1 + (k : Int)) from fun hu => by
        unfold dtx
        rw [Int.toNat_natCast, HD.out]
        have ok : textOk 24 (x :: t) = true := by
          rw [textOk_cons, HK.out, HU.out, hu, HTL.out, Bool.and_true, Bool.and_eq_true, Bool.and_eq_true]
          exact ⟨⟨decide_eq_true (by unfold topN; omega), decide_eq_true (by omega)⟩, decide_eq_true (by omega)⟩
        rw [if_pos ⟨by omega, ok⟩]
        unfold textV
        rw [ok]
        show (strOf (bytesOf (t.take (need x)) x), (p : Int) + 1 + (need x : Nat)) = _
        rw [HK.out])
      clear hsub hA hB2 hb
      by_cases hcp : c = p + 1
      · have HK0 := Lib.hid (show k = 0 from by omega)
        cases u
        · go_wp2_with (first
            | (go_at_call 47; refine (refUnpack_any (t.take k) k (x : Int) HTK.out HTS.out (by omega) false HU.out _ _ _ (by first | exact HA.out | exact HB2.out HK0.out)).mono ?_; rintro e' w2 ⟨A2, c2, k2, rfl, hk2, hr2, hb2⟩; have HBB := Lib.hid hb2; clear hk2 hr2 hb2))
          go_ret2
          exact TextAt.no (HNO.out (by simp)) HBB.out
        · go_wp2_with (first
            | (go_at_call 47; refine (refUnpack_any (t.take k) k (x : Int) HTK.out HTS.out (by omega) true HU.out _ _ _ (by first | exact HA.out | exact HB2.out HK0.out)).mono ?_; rintro e' w2 ⟨A2, c2, k2, rfl, hk2, hr2, hb2⟩; have HBB := Lib.hid hb2; obtain rfl : k2 = x := (by simpa using hk2); have hr2 : Row w2 w2.heap.size A2 k2 ((bytesOf (t.take k) k2).map bt) := (by have := hr2 rfl; rw [Int.toNat_natCast] at this; exact this); have hcv : (convert 22 9 (.slice A2 k2 c2)).run Try.prog w2 = .ok (.string (strOf (bytesOf (t.take k) k2))) w2 := run_bytes_row w2 A2 k2 c2 w2.heap.size _ (bytesOf_len _ _) hr2; clear hk2 hr2 hb2))
          go_ret2
          unfold TextAt
          rw [HYES.out (by simp)]
          exact ⟨rfl, HBB.out⟩
      · have HK0 := Lib.hid (show True from trivial)
        cases u
        · go_wp2_with (first
            | (go_at_call 47; refine (refUnpack_any (t.take k) k (x : Int) HTK.out HTS.out (by omega) false HU.out _ _ _ (by first | exact HA.out | exact HB2.out HK0.out)).mono ?_; rintro e' w2 ⟨A2, c2, k2, rfl, hk2, hr2, hb2⟩; have HBB := Lib.hid hb2; clear hk2 hr2 hb2))
          go_ret2
          exact TextAt.no (HNO.out (by simp)) HBB.out
        · go_wp2_with (first
            | (go_at_call 47; refine (refUnpack_any (t.take k) k (x : Int) HTK.out HTS.out (by omega) true HU.out _ _ _ (by first | exact HA.out | exact HB2.out HK0.out)).mono ?_; rintro e' w2 ⟨A2, c2, k2, rfl, hk2, hr2, hb2⟩; have HBB := Lib.hid hb2; obtain rfl : k2 = x := (by simpa using hk2); have hr2 : Row w2 w2.heap.size A2 k2 ((bytesOf (t.take k) k2).map bt) := (by have := hr2 rfl; rw [Int.toNat_natCast] at this; exact this); have hcv : (convert 22 9 (.slice A2 k2 c2)).run Try.prog w2 = .ok (.string (strOf (bytesOf (t.take k) k2))) w2 := run_bytes_row w2 A2 k2 c2 w2.heap.size _ (bytesOf_len _ _) hr2; clear hk2 hr2 hb2))
          go_ret2
          unfold TextAt
          rw [HYES.out (by simp)]
          exact ⟨rfl, HBB.out⟩
theorem dText_any (l : List Nat) (L : Nat) (hL : l.length = L) (hl : Small l) (hle : L ≤ 100) (p : Int) (hp : p ≤ 1000) (A : Option Addr) (c B : Nat) (hc : L ≤ c) (hcm : c ≤ maxLen) (w : World) (hB : B ≤ w.heap.size) (hr : Row w B A L (l.map wd)) : Calls Try.prog 33 #[.slice A L c, .int .i64 p] w (TextAt l p w) := by
  by_cases h0 : p < 0
  · exact dText_neg l L p h0 A c w
  · obtain ⟨n, rfl⟩ : ∃ n : Nat, p = (n : Int) := ⟨p.toNat, by omega⟩
    by_cases h1 : L ≤ n
    · exact dText_past l L n hL h1 (by omega) A c w
    · exact dText_in l L n hL hl hle (by omega) A c B hc hcm w hB hr
theorem dtx_range (l : List Nat) (p : Int) (h : p ≤ 1000) : (dtx l p).1.size ≤ 24 ∧ -1 ≤ (dtx l p).2 ∧ (dtx l p).2 ≤ 1010 := by
  unfold dtx
  split
  · rename_i h1
    refine ⟨textV_size 24 _, by show -1 ≤ p + 1 + (need _ : Nat); omega, ?_⟩
    show p + 1 + (need _ : Nat) ≤ 1010
    have h2 := h1.2
    cases hd : l.drop p.toNat with
    | nil =>
      show p + 1 + ((need 0 : Nat) : Int) ≤ 1010
      unfold need
      omega
    | cons x t =>
      rw [hd, textOk_cons] at h2
      simp only [Bool.and_eq_true, decide_eq_true_eq] at h2
      have := h2.1.1.2
      show p + 1 + ((need x : Nat) : Int) ≤ 1010
      unfold need
      omega
  · exact ⟨Nat.zero_le _, by omega, by omega⟩
theorem dtx_back {l : List Nat} {p : Nat} {s : ByteArray} {t : List Nat} (h : l.drop p = encT s ++ t) (hs : s.size ≤ 24) : dtx l (p : Int) = (s, ((p + (encT s).length : Nat) : Int)) ∧ l.drop (p + (encT s).length) = t := by
  have e : l.drop p = s.size :: (pk (bsOf s) ++ t) := by rw [h]; unfold encT; simp
  obtain ⟨b1, b2, b3⟩ := back_text' (m := 24) (by omega) (by omega) t (s := s)
  refine ⟨?_, ?_⟩
  · unfold dtx
    rw [Int.toNat_natCast, e, if_pos ⟨by omega, b1⟩, b2, encT_length]
    show (s, (p : Int) + 1 + ((need s.size : Nat) : Int)) = _
    congr 1
    omega
  · rw [← List.drop_drop, h, List.drop_left]
end Go.Proofs.Ytcimmfhbffofjaa
