import Derived.Test.YtamndllolppmoaaGreatH06
import Derived.Test.YtamndllolppmoaaGreatG27
import Derived.Test.YtamndllolppmoaaGreatG28
import Derived.ProofKit
import Derived.OpenShut
import Derived.Carry
import Derived.SizedLaws
import Derived.Deep.Slices
import Derived.Deep.Grids
import Derived.Lib.SmallJoins
import Derived.Laws.Cover2
import Derived.Test.YtamndllolppmoaaGreatG00

/-! The law ImageApart. -/
namespace Go.Proofs.YtamndllolppmoaaGreat
open Wd Ino Sm U Go.RowKit Go.ChangeShapes Go.WideShapes Go.Sort
set_option linter.unusedVariables false
set_option maxRecDepth 100000
theorem flat_most {α : Type} {f : α → List Nat} {B : Nat} : ∀ (l : List α), (∀ x ∈ l, (f x).length ≤ B) → (l.flatMap f).length ≤ l.length * B := by
  intro l
  induction l with
  | nil => intro _; simp
  | cons a l ih =>
    intro h
    have h1 := h a (by simp)
    have h2 := ih (fun x hx => h x (by simp [hx]))
    rw [List.flatMap_cons, List.length_append, List.length_cons, Nat.add_mul]
    omega
theorem imgW_most {S : Stt} {k : Nat} (hs : SmS S.l) (hn : Num k S) (hk : k ≤ 30) : (imgW S).length ≤ 200000 := by
  have h1 : ∀ n ∈ S.l, (nodeW n).length ≤ 5000 := by
    intro n hm
    have a1 := (hs n hm).p
    have a2 := hn.nm n hm
    have a3 : (n.names.flatMap nameW).length ≤ n.names.length * 127 := flat_most _ (fun e he => by
      have := (hs n hm).sz e he
      unfold nameW
      rw [List.length_append, List.length_append, pk_len, bsOf_lenW]
      unfold need
      simp
      omega)
    have a4 : n.names.length * 127 ≤ 30 * 127 := Nat.mul_le_mul_right _ (by omega)
    unfold nodeW hdrZ
    simp only [List.length_append, List.length_map, List.length_cons, List.length_nil]
    omega
  have h2 := flat_most S.l h1
  have h3 := hn.len
  have h4 : S.l.length * 5000 ≤ 31 * 5000 := Nat.mul_le_mul_right _ (by omega)
  unfold imgW
  simp only [List.length_append, List.length_cons, List.length_nil]
  omega
theorem sealed_eq (S T : Stt) (hS : SmS S.l) (hT : SmS T.l) (h1 : i64R S.last) (h2 : i64R T.last) : decide (imgW S ++ [sum (imgW S)] = imgW T ++ [sum (imgW T)]) = decide (S = T) := by
  by_cases h : S = T
  · rw [h]; simp
  · rw [decide_eq_false h]
    apply decide_eq_false
    intro hh
    exact h (imgW_inj hS hT h1 h2 (List.append_inj' hh rfl).1)
theorem inv_last {S : Stt} (h : Inv S) : i64R S.last ∧ S.last ≠ 0 := by
  obtain ⟨n, hn, _⟩ := h.root
  have h1 := h.last n (atS_mem hn)
  have h2 := atS_ino hn
  have h3 := h.most
  unfold i64R
  constructor
  · constructor <;> omega
  · omega
set_option maxHeartbeats 16000000 in
theorem apart_law {w : World} {A A2 : Option Addr} {c c2 : Nat} {l m : List Dd} (h : Dds w w.heap.size A l) (hsz : l.length * 112 ≤ 140737488351232) (h2 : Dds w w.heap.size A2 m) (hsz2 : m.length * 112 ≤ 140737488351232) : Calls Tryz.prog 7 #[.slice A l.length c, .slice A2 m.length c2] w (TrueB w) := by
  have hfol : Tryz.prog.follows .mixedOrders = true := by kernel_rfl
  have KA := Lib.hid (imAwake_true w)
  have HD := Lib.hid h; have HSZ := Lib.hid hsz; have HD2 := Lib.hid h2; have HSZ2 := Lib.hid hsz2
  obtain ⟨F1, hF1⟩ : ∃ F, fewD l = F := ⟨_, rfl⟩
  obtain ⟨F2, hF2⟩ : ∃ F, fewD m = F := ⟨_, rfl⟩
  have HF1 := Lib.hid hF1; have HF2 := Lib.hid hF2
  clear h hsz h2 hsz2 hF1 hF2
  go_enter Tryz.func7, Tryz.ntmps7
  go_wp2_with fail
  refine (KA.out).mono ?_
  rintro e w1 ⟨rfl, hb1⟩
  have B1 := Lib.hid hb1
  have KF := Lib.hid (few_law (c := c) ((HD.out.below B1.out).more B1.out.size) HSZ.out)
  clear hb1 KA
  go_wp2_with fail
  refine (KF.out).mono ?_
  rintro e w2 ⟨rfl, hb2⟩
  have B2 := Lib.hid (B1.out.trans (hb2.mono B1.out.size))
  clear hb2 KF
  rw [HF1.out]
  cases F1 with
  | false =>
    go_wp2
    go_ret
    exact ⟨rfl, B2.out⟩
  | true =>
  have KF := Lib.hid (few_law (c := c2) ((HD2.out.below B2.out).more B2.out.size) HSZ2.out)
  go_wp2_with fail
  refine (KF.out).mono ?_
  rintro e w3 ⟨rfl, hb3⟩
  have B3 := Lib.hid (B2.out.trans (hb3.mono B2.out.size))
  clear hb3 KF
  rw [HF2.out]
  cases F2 with
  | false =>
    go_wp2
    go_ret
    exact ⟨rfl, B3.out⟩
  | true =>
  have HL := Lib.hid (fewD_iff.1 HF1.out).2
  have HL2 := Lib.hid (fewD_iff.1 HF2.out).2
  have KD := Lib.hid (done_law (c := c) ((HD.out.below B3.out).more B3.out.size) HF1.out)
  go_wp2_with fail
  refine (KD.out).mono ?_
  rintro e w5 ⟨g, b, gx, rfl, two, hb5⟩
  have B5 := Lib.hid (B3.out.trans (hb5.mono B3.out.size))
  have TW := Lib.hid two
  have KD2 := Lib.hid (done_law (c := c2) ((HD2.out.below B5.out).more B5.out.size) HF2.out)
  clear two hb5 KD
  unfold SPtr
  go_wp2_with fail
  refine (KD2.out).mono ?_
  rintro e w6 ⟨g', b', gx', rfl, two2, hb6⟩
  have B6 := Lib.hid (B5.out.trans (hb6.mono B5.out.size))
  have TW2 := Lib.hid two2
  have TW1 := Lib.hid (TW.out.below hb6)
  clear two2 hb6 KD2 TW
  unfold SPtr
  have iv1 := Inv.runD l
  have nm1 := Num.runD l (fun x hx => (HD.out.ok x hx).ref)
  have iv2 := Inv.runD m
  have nm2 := Num.runD m (fun x hx => (HD2.out.ok x hx).ref)
  have tw1 := TW1.out
  have tw2 := TW2.out
  obtain ⟨S, hS⟩ : ∃ S, runD l = S := ⟨_, rfl⟩
  obtain ⟨T, hT⟩ : ∃ T, runD m = T := ⟨_, rfl⟩
  rw [hS] at iv1 nm1 tw1
  rw [hT] at iv2 nm2 tw2
  have hl := HL.out
  have hl2 := HL2.out
  have sm1 := iv1.smN nm1 (by omega)
  have sm2 := iv2.smN nm2 (by omega)
  have mo1 := imgW_most sm1 nm1 hl
  have mo2 := imgW_most sm2 nm2 hl2
  have E := Lib.hid (sealed_eq S T sm1 sm2 (inv_last iv1).1 (inv_last iv2).1)
  have P1 := PF.inv tw1.p iv1 nm1 (by omega) (by omega)
  have P2 := PF.inv tw2.p iv2 nm2 (by omega) (by omega)
  have KP1 := Lib.hid (iPutAll P1 (inv_last iv1).2 mo1)
  have KP2 := Lib.hid (fun wx (hb : Below w6.heap.size w6 wx) => iPutAll (P2.below hb) (inv_last iv2).2 mo2)
  obtain ⟨Ls1, v1, X1⟩ := tw1.x
  obtain ⟨Ls2, v2, X2⟩ := tw2.x
  have KX := Lib.hid (fun wx (hb : Below w6.heap.size w6 wx) => rSameA (X1.below hb) (X2.below hb) (by rw [← X1.len]; have := nm1.len; omega) (by rw [← X2.len]; have := nm2.len; omega) sm1)
  have KS := Lib.hid (fun (wx : World) (A C : Option Addr) (c d B : Nat) hx hy => sameWords_any (imgW S ++ [sum (imgW S)]) (imgW T ++ [sum (imgW T)]) ((imgW S).length + 1) ((imgW T).length + 1) (by rw [List.length_append]; rfl) (by rw [List.length_append]; rfl) (by omega) A C c d B wx hx hy)
  clear iv1 nm1 iv2 nm2 tw1 tw2 hS hT hl hl2 sm1 sm2 mo1 mo2 P1 P2 X1 X2 TW1 TW2 HD HD2 HSZ HSZ2 HL HL2
  unfold SPtr at KP1 KP2 KX
  go_wp2_with fail
  refine (KP1.out).mono ?_
  rintro e w7 ⟨g7, cap7, cs7, rfl, hc7, ht7, _, hb7, _⟩
  have R7 := Lib.hid (sealed_row hc7 ht7 (by rw [List.length_map, List.length_append]; rfl))
  have B67 := Lib.hid hb7
  have KP8 := Lib.hid (KP2.out _ hb7)
  clear hc7 ht7 hb7 KP1 KP2
  go_wp2_with fail
  refine (KP8.out).mono ?_
  rintro e w8 ⟨g8, cap8, cs8, rfl, hc8, ht8, _, hb8, _⟩
  have R8 := Lib.hid (sealed_row hc8 ht8 (by rw [List.length_map, List.length_append]; rfl))
  have B68 := Lib.hid (B67.out.trans (hb8.mono B67.out.size))
  have R7' := Lib.hid ((R7.out.below hb8).more hb8.size)
  have KS8 := Lib.hid (KS.out w8 _ _ cap7 cap8 _ R7'.out R8.out)
  clear hc8 ht8 hb8 KP8 KS R7
  go_wp2_with fail
  refine (KS8.out).mono ?_
  rintro e w9 ⟨rfl, hw9⟩
  have B69 := Lib.hid (B68.out.trans ((grown_b hw9).mono B68.out.size))
  have KX9 := Lib.hid (KX.out _ B69.out)
  clear hw9 KS8 KX
  rw [E.out]
  go_wp2_with fail
  refine (KX9.out).mono ?_
  rintro e w10 ⟨rfl, hw10⟩
  have B10 := Lib.hid (B6.out.trans ((B69.out.trans ((grown_b hw10).mono B69.out.size)).mono B6.out.size))
  clear hw10 KX9
  have q9 : (decide (S = T) == decide (S = T)) = true := by simp
  obtain ⟨R, hR⟩ : ∃ R, decide (S = T) = R := ⟨_, rfl⟩
  rw [hR] at q9 ⊢
  clear hR
  go_wp2
  go_ret
  exact ⟨by simp, B10.out⟩
end Go.Proofs.YtamndllolppmoaaGreat

namespace Wd
open Go Go.RowKit Go.ChangeShapes Go.WideShapes Go.ChangeAt

section
variable {H : Type} {enc : TypeId × Value → H} {P : Program}
variable {w : World} {base : Nat} {spare : Nat → Bool} {held : Bool}

/-- a slice of one-cell elements, opened as a row, with its room -/
theorem open_rowc {α : Type} [Inhabited α] {f : α → Value} {ok : α → Prop} {r : Reach} {b0 : Nat} {t e : TypeId} {v : Value} {d : DataW H} {p : List MemPlace} (ht : P.underlying t = some (.slice e)) (hc : P.cellsOf e = 1)
    (hel : ∀ n v x, DataW.trod enc P w base spare held n e [v] = some x → ∃ y, v = f y ∧ ok y)
    (hv : Value.okWide P w r b0 t v) (h : DataW.Trod enc P w base spare held t v d p) :
    ∃ (A : Option Addr) (c : Nat) (l : List α), v = .slice A l.length c ∧ Row w w.heap.size A l.length (l.map f) ∧ (∀ y ∈ l, ok y) ∧ l.length ≤ maxLen ∧ l.length ≤ c ∧ c ≤ maxLen := by
  obtain ⟨a0, len, cap, rfl⟩ := okWide_slice ht hv
  obtain ⟨fuel, hf⟩ := h
  rcases Go.Deep.open_slice1 ht hc hf with ⟨hcs, _⟩ | ⟨a, len', cap', m, n, V, D, Pl, hcs, _, hl, hmc, hmm, _, hx⟩
  · simp [Value.cells] at hcs
    obtain ⟨rfl, rfl, rfl⟩ := hcs
    exact ⟨none, 0, [], rfl, Row.nil, (by simp), by simp, by simp, by simp⟩
  · simp [Value.cells] at hcs
    obtain ⟨rfl, rfl, rfl⟩ := hcs
    have hle : len ≤ m := by rw [hmm]; split <;> omega
    have each : ∀ i, i < len → ∃ y, V i = f y ∧ ok y := fun i hi => hel _ _ _ (hx i (by omega)).2
    obtain ⟨Y, hY⟩ := Go.Deep.choose_lt (n := len) (p := fun i y => V i = f y ∧ ok y) each
    refine ⟨some a, cap, (List.range len).map Y, by simp, ⟨by simp, fun hn => ?_⟩, ?_, by simp; omega, by simp; omega, hmc⟩
    · simp only [List.length_map, List.length_range] at hn
      obtain ⟨b, off, spot⟩ := a
      have hc0 := (hx 0 (by omega)).1
      have hs : spot = none := by simpa [Addr.add] using World.cell?_spot hc0
      subst hs
      refine ⟨b, off, rfl, ?_, fun j hj => ?_⟩
      · simpa [Addr.add] using World.block_lt_of_cell? _ _ hc0
      · simp at hj
        have := (hx j (by omega)).1
        rw [(hY j hj).1] at this
        have e : (⟨b, off, none⟩ : Addr).add j = ⟨b, off + j, none⟩ := by unfold Addr.add; split <;> simp_all
        rw [e] at this
        simpa using this
    · intro y hy
      obtain ⟨i, hi, rfl⟩ := List.mem_map.1 hy
      exact (hY i (List.mem_range.1 hi)).2
end
end Wd
