import Derived.Test.YtajmboolgekdeaaInRy
import Derived.Test.YtajmboolgekdeaaInRr
import Derived.Test.YtajmboolgekdeaaTrue
namespace Go.Proofs.Ytajmboolgekdeaa
open Wd Ino Go.RowKit Go.ChangeShapes Go.WideShapes Go.Sort
set_option linter.unusedVariables false
set_option maxRecDepth 100000

/-! whether a node is small; the law's example -/
def fewB (n : Nd) : Bool := decide (∀ e ∈ n.names, e.s.size ≤ 100) && (decide (n.pages.length ≤ 100) && decide (n.names.length ≤ 30))
theorem fewB_iff {n : Nd} : fewB n = true ↔ n.Few := by
  unfold fewB
  constructor
  · intro h
    simp at h
    exact ⟨h.2.2, h.2.1, h.1⟩
  · rintro ⟨h1, h2, h3⟩
    simp
    exact ⟨h3, h2, h1⟩
set_option maxHeartbeats 4000000 in
theorem lFew (n : Nd) (w : World) (h : n.In w) (hm : n.names.length ≤ maxLen) : Calls Try.prog 7 #[n.val] w (Tells (.bool (fewB n)) w) := by
  obtain ⟨i, ki, l, s, u, A, ac, P, B, bc, N⟩ := n
  have he := h.ens
  dsimp only at he hm
  unfold maxLen at hm
  have hc := Cells.new w 25 (ncells i ki l s u (.slice A P.length ac) (.slice B N.length bc))
  obtain ⟨c0, c1, c2, c3, c4, c5, c6⟩ := cells7 hc
  have HC := Lib.hid hc
  have H := Lib.hid he
  have HB0 := Lib.hid ((Below.refl w.heap.size w).alloc (Nat.le_refl _) (.cells (ncells i ki l s u (.slice A P.length ac) (.slice B N.length bc)) 25))
  obtain ⟨F, hF⟩ : ∃ F, fewB ⟨i, ki, l, s, u, A, ac, P, B, bc, N⟩ = F := ⟨_, rfl⟩
  rw [hF]
  have HF := Lib.hid hF
  unfold Nd.val
  dsimp only
  obtain ⟨W2, hW2⟩ : ∃ W2, w.alloc (.cells (ncells i ki l s u (.slice A P.length ac) (.slice B N.length bc)) 25) = W2 := ⟨_, rfl⟩
  rw [hW2] at HC HB0 c5 c6
  unfold ncells at hW2
  have HW := Lib.hid hW2
  clear hc he hF h c0 c1 c2 c3 c4 hW2
  go_enter Try.func7, Try.ntmps7
  go_upto_region 1 with fail
  rw [HW.out]
  clear HW
  go_wp2
  go_loopw [8] (fun v wr => ∃ k : Nat, k ≤ N.length ∧ v = .int .i64 k ∧ (∀ e ∈ N.take k, e.s.size ≤ 100) ∧ Below W2.heap.size W2 wr) (fun v _ => N.length - (intOf v).toNat)
  case atStart => exact ⟨0, Nat.zero_le _, rfl, by simp, Below.refl _ _⟩
  case round =>
    obtain ⟨k, hk, rfl, hall, hb⟩ := hrel
    have HA := Lib.hid hall; have HB := Lib.hid hb
    clear hall c5 c6
    by_cases hlt : k < N.length
    · obtain ⟨e, hek⟩ : ∃ e, N[k]? = some e := ⟨_, List.getElem?_eq_getElem hlt⟩
      obtain ⟨b1, o1, rfl, _, x0, x1⟩ := ens_cells ((H.out.below HB0.out).below (hb.mono HB0.out.size)) hek
      have hlt2 : (k : Int) < (N.length : Int) := Int.ofNat_lt.2 hlt
      have HE := Lib.hid hek
      clear hek hb
      by_cases q : 100 < e.s.size
      · obtain rfl : F = false := by
          cases F
          · rfl
          · have := (fewB_iff.1 HF.out).size e (List.mem_of_getElem? HE.out); omega
        have q2 : decide (100 < (e.s.size : Int)) = true := decide_eq_true (by omega)
        go_wp2
        go_ret
        exact ⟨rfl, HB0.out.trans ((HB.out.alloc HB.out.size _).mono HB0.out.size)⟩
      · have q2 : decide (100 < (e.s.size : Int)) = false := decide_eq_false (by omega)
        have HN := Lib.hid (show e.s.size ≤ 100 by omega)
        clear q
        go_wp2
        go_roundw
        case rel =>
          refine ⟨k + 1, by omega, by go_num, ?_, HB.out.alloc HB.out.size _⟩
          intro x hx
          rw [List.take_add_one, HE.out] at hx
          rcases List.mem_append.1 hx with h | h
          · exact HA.out x h
          · obtain rfl : x = e := by simpa using h
            exact HN.out
        case measure => simp [intOf]; omega
    · obtain rfl : k = N.length := by omega
      obtain ⟨c0, c1, c2, c3, c4, c5, c6⟩ := cells7 (HC.out.below' hb)
      have hall := HA.out
      rw [List.take_length] at hall
      have hfe : F = (decide ((P.length : Int) ≤ 100) && decide ((N.length : Int) ≤ 30)) := by
        rw [← HF.out]
        unfold fewB
        dsimp only
        rw [decide_eq_true hall, Bool.true_and]
        congr 1
        · exact decide_eq_decide.2 (by omega)
        · exact decide_eq_decide.2 (by omega)
      have HFE := Lib.hid hfe
      clear hall hfe HA hb c0 c1 c2 c3 c4
      cases q1 : decide ((P.length : Int) ≤ 100)
      · go_wp2
        go_ret
        exact ⟨by rw [HFE.out, q1]; rfl, HB0.out.trans (HB.out.mono HB0.out.size)⟩
      · go_wp2
        go_ret
        exact ⟨by rw [HFE.out, q1, Bool.true_and]; rfl, HB0.out.trans (HB.out.mono HB0.out.size)⟩
theorem right_two : rightB 2 1 1 0 0 0 0 = true := by decide
set_option maxHeartbeats 4000000 in
theorem lAwake (w : World) : Calls Try.prog 6 #[] w (TrueB w) := by
  have KN := Lib.hid (fun w => iNew 2 1 1 w)
  have KD := Lib.hid (fun w => iNeed_is 257 (by unfold i64R; omega) w)
  have KR := Lib.hid (fun w => iRight 2 1 1 0 0 none none 0 0 0 0 (by unfold i64R; omega) w)
  rw [right_two] at KR
  rw [show newUp 1 1 = 0 from rfl] at KN
  rw [show needP 257 = 2 from rfl] at KD
  unfold nv at KN KR
  go_enter Try.func6, Try.ntmps6
  go_wp2_with fail
  refine (KN.out _).mono ?_
  rintro e w1 hg
  obtain ⟨rfl, b1⟩ := hg.below
  have B1 := Lib.hid b1
  clear hg b1
  go_wp2_with fail
  refine (KD.out _).mono ?_
  rintro e w2 ⟨rfl, rfl⟩
  go_wp2_with fail
  refine (KR.out _).mono ?_
  rintro e w3 hg
  obtain ⟨rfl, b3⟩ := hg.below
  have B3 := Lib.hid (B1.out.trans ((((Below.refl w1.heap.size w1).alloc (Nat.le_refl _) _).trans (b3.mono (by simp))).mono B1.out.size))
  clear hg b3
  go_wp2
  go_ret
  exact ⟨rfl, B3.out⟩
/-- a node in rows of its own is a node -/
theorem own_form {w : World} {base : Nat} {e : TypeId} {sz n c : Nat} {A : Option Addr} {xs : List Value} (h : w.ownsRow base e sz (.slice A n c) n xs) : n ≤ c ∧ c ≤ maxLen := by
  rcases h.2 with ⟨h0, hn⟩ | ⟨g, cap, cur, hv, _, _, h1, h2, _⟩
  · injection h0 with _ _ hc
    rw [hc, hn]
    exact ⟨Nat.le_refl _, Nat.zero_le _⟩
  · injection hv with _ _ hc
    rw [hc]
    exact ⟨h1, h2⟩
theorem OwnN.in_ {w : World} {base : Nat} {V : Value} {i k l s u : Int} {P : List Int} {N : List Ent} {A : Option Addr} {ac : Nat} {B : Option Addr} {bc : Nat} (h : OwnN w base V i k l s u P N A ac B bc) : (Nd.mk i k l s u A ac P B bc N).In w := by
  obtain ⟨A', c', e, hr⟩ := h.pages.row
  injection e with e
  subst e
  obtain ⟨B', d', e, _, he⟩ := h.names.form
  injection e with e
  subst e
  exact ⟨hr, he⟩
theorem OwnN.ok {w : World} {base : Nat} {V : Value} {i k l s u : Int} {P : List Int} {N : List Ent} {A : Option Addr} {ac : Nat} {B : Option Addr} {bc : Nat} (h : OwnN w base V i k l s u P N A ac B bc)
    (h0 : i64R i) (h1 : i64R k) (h2 : i64R l) (h3 : i64R s) (h4 : i64R u) (hp : ∀ x ∈ P, i64R x) (hn : ∀ e ∈ N, e.Ok) : (Nd.mk i k l s u A ac P B bc N).Ok w w.heap.size := by
  have a := own_form h.pages
  have b := own_form h.names
  exact ⟨h0, h1, h2, h3, h4, h.in_.row, hp, Nat.le_trans a.1 a.2, a.1, a.2, h.in_.ens, hn, Nat.le_trans b.1 b.2⟩
theorem OwnN.val_ {w : World} {base : Nat} {V : Value} {i k l s u : Int} {P : List Int} {N : List Ent} {A : Option Addr} {ac : Nat} {B : Option Addr} {bc : Nat} (h : OwnN w base V i k l s u P N A ac B bc) : V = (Nd.mk i k l s u A ac P B bc N).val := h.val
end Go.Proofs.Ytajmboolgekdeaa
