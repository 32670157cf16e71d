import Derived.Test.YtjhchddmbbibpaaDoorPtOps
namespace Go.Proofs.YtjhchddmbbibpaaDoor
open Wd Pa Go.ChangeShapes Go.WideShapes Go.RowKit Go.Sort
set_option linter.unusedVariables false
def TNewRel (g N : Nat) (l : List Int) (w0 w : World) (i : Value) (wr : World) : Prop := ∃ k : Nat, k ≤ l.length ∧ i = .int .i64 k ∧ TkB w0 wr g N (usedOf N (l.take k)) ∧ Below w.heap.size w wr
theorem usedOf_dom (N : Nat) (l : List Int) : ∀ i, usedOf N l i = true → 1 ≤ i ∧ i ≤ N := by
  intro i hi
  unfold usedOf at hi
  have := of_decide_eq_true hi
  exact ⟨this.1, this.2.1⟩
theorem usedOf_old {N : Nat} {l : List Int} {x : Int} (h : usedOf N l x.toNat = true) (hx : 1 ≤ x) : usedOf N l = usedOf N (l ++ [x]) := by
  funext q
  unfold usedOf at h ⊢
  have h := of_decide_eq_true h
  rw [decide_eq_decide]
  simp only [List.mem_append, List.mem_singleton]
  constructor
  · rintro ⟨a, b, c⟩; exact ⟨a, b, .inl c⟩
  · rintro ⟨a, b, c | c⟩
    · exact ⟨a, b, c⟩
    · have : x.toNat = q := by omega
      rw [this] at h
      exact h
section
variable {w0 w : World} {n : Int} {l : List Int} {A : Option Addr} {c N : Nat}
set_option maxRecDepth 100000 in
set_option maxHeartbeats 1000000 in
theorem tkb_new (hb : Below w0.heap.size w0 w) (hN : N = many n) (hl : Row w w.heap.size A l.length (l.map (Value.int .i64))) (hle : l.length ≤ 1000) :
    Calls Tryd.prog 9 #[.int .i64 n, .slice A l.length c] w fun e w' => ∃ g, e = .returned (.pointer (some ⟨g, 0, none⟩)) ∧ TkB w0 w' g N (usedOf N l) ∧ Below w.heap.size w w' := by
  have HR := Lib.hid hl
  have HN := Lib.hid hN
  have hle2 : N ≤ 1048576 := by rw [hN]; unfold many; omega
  have P0 : TkB w0 (w.alloc (.cells #[.int .i64 N, .slice none 0 0] 36)) w.heap.size N (usedOf N []) := by
    refine ⟨⟨.slice none 0 0, ⟨Cells.new _ _ _, .inl ⟨rfl, ?_⟩, hb.size⟩⟩, hb.alloc hb.size _, usedOf_dom _ _, hle2⟩
    rw [usedOf_nil]
    apply List.eq_nil_iff_forall_not_mem.2
    intro a ha
    have := (mem_upto.1 ha).2
    cases this
  have HP := Lib.hid P0
  have HB2 := Lib.hid (show Below w.heap.size w (w.alloc (.cells #[.int .i64 N, .slice none 0 0] 36)) from (Below.refl _ _).alloc (Nat.le_refl _) _)
  clear hl hN P0 hb
  go_enter Tryd.func9, Tryd.ntmps9
  obtain ⟨m, hm⟩ : ∃ m, m = max n 0 := ⟨_, rfl⟩
  have HM := Lib.hid hm
  clear hm
  go_upto_if 9 with fail
  go_cut [0] from 9 to 9 (fun c wx => c = .int .i64 m ∧ wx = w)
  case first =>
    have hm := HM.out
    clear HP HB2 HN
    by_cases h1 : n < 0
    · go_wp2
      all_goals go_meet
      all_goals exact ⟨by rw [Value.int.injEq]; exact ⟨rfl, by omega⟩, rfl⟩
    · go_wp2
      all_goals go_meet
      all_goals exact ⟨by rw [Value.int.injEq]; exact ⟨rfl, by omega⟩, rfl⟩
  case rest =>
  obtain ⟨rfl, rfl⟩ := hcut
  go_upto_if 11 with fail
  go_cut [0] from 11 to 11 (fun c wx => c = .int .i64 (N : Nat) ∧ wx = wc)
  case first =>
    have hcase : (1048576 < m → (N : Int) = 1048576) ∧ (¬ 1048576 < m → (N : Int) = m) := by
      have hm := HM.out
      have hN := HN.out
      unfold many at hN
      omega
    have HCASE := Lib.hid hcase
    clear HP HB2 hcase
    by_cases h1 : 1048576 < m
    · go_wp2
      all_goals go_meet
      all_goals exact ⟨by rw [HCASE.out.1 h1], rfl⟩
    · go_wp2
      all_goals go_meet
      all_goals exact ⟨by rw [HCASE.out.2 h1], rfl⟩
  case rest =>
  obtain ⟨rfl, rfl⟩ := hcut
  go_upto_region 7 with fail
  have hP := HP.out; have hB2 := HB2.out
  have hq : wc.heap.size = wc.heap.size := rfl
  obtain ⟨g, hg⟩ : ∃ g, wc.heap.size = g := ⟨_, rfl⟩
  have HR2 := Lib.hid (fun (wr : World) (hb : Below wc.heap.size wc wr) => HR.out.below hb)
  have HG := Lib.hid hg
  obtain ⟨w2, hw2⟩ : ∃ w2, wc.alloc (Obj.cells #[Value.int IntKind.i64 ↑N, Value.slice none 0 0] 36) = w2 := ⟨_, rfl⟩
  rw [hw2] at hP hB2 ⊢
  rw [hg] at hP ⊢
  have HP2 := Lib.hid hP; have HB3 := Lib.hid hB2
  clear hP hB2 hw2 hg HP HB2 HM HN hq
  go_loopw [17] (fun i wr => TNewRel g N l w0 wc i wr) (fun i _ => l.length - (intOf i).toNat)
  case atStart => exact ⟨0, Nat.zero_le _, rfl, HP2.out, HB3.out⟩
  case round =>
    obtain ⟨k, hk, rfl, hP, hb⟩ := hrel
    have HP := Lib.hid hP; have HB := Lib.hid hb
    by_cases hlt : k < l.length
    · obtain ⟨b1, o1, x, rfl, _, gx, cx⟩ := (HR2.out wr hb).get hlt
      have hlt2 : (k : Int) < (l.length : Int) := Int.ofNat_lt.2 hlt
      have GX := Lib.hid gx
      by_cases hx : x < 1 ∨ (N : Int) < x ∨ usedOf N (l.take k) x.toNat = true
      · have KU := Lib.hid (tkb_use_no hP x hx)
        have hnext : usedOf N (l.take (k + 1)) = usedOf N (l.take k) := by
          rw [take_snoc gx]
          by_cases h1 : 1 ≤ x ∧ x ≤ N
          · rcases hx with h | h | h
            · omega
            · omega
            · exact (usedOf_old h h1.1).symm
          · exact (usedOf_out h1).symm
        have HN := Lib.hid hnext
        clear hx hnext gx hP hb
        go_wp2_with (go_at_call 24; refine KU.out.mono ?_; rintro e w1 ⟨rfl, rfl⟩)
        go_roundw
        case rel => exact ⟨k + 1, by omega, by go_num, by rw [HN.out]; exact HP.out, HB.out⟩
        case measure => simp [intOf]; omega
      · have h1 : ¬ x < 1 := fun h => hx (.inl h)
        have h2 : ¬ (N : Int) < x := fun h => hx (.inr (.inl h))
        have h3 : usedOf N (l.take k) x.toNat = false := by
          cases hu : usedOf N (l.take k) x.toNat with
          | false => rfl
          | true => exact absurd (.inr (.inr hu)) hx
        obtain ⟨j, hj⟩ : ∃ j : Nat, x = (j : Int) + 1 := ⟨(x - 1).toNat, by omega⟩
        have KU := Lib.hid (tkb_use hP (j + 1) (by omega) (by omega) (by rw [show x.toNat = j + 1 by omega] at h3; exact h3))
        rw [show ((j + 1 : Nat) : Int) = x by omega] at KU
        have hnext : put (usedOf N (l.take k)) (j + 1) true = usedOf N (l.take (k + 1)) := by
          rw [take_snoc gx, usedOf_in (by omega), ← hj]
        rw [hnext] at KU
        have hgl : wc.heap.size ≤ g := by rw [HG.out]; exact Nat.le_refl _
        clear hx hnext gx hP hb h1 h2 h3 hj
        go_wp2_with (go_at_call 24; refine KU.out.mono ?_; rintro e w1 ⟨rfl, t1, g1⟩; have T1 := Lib.hid t1; have G1 := Lib.hid g1; clear t1 g1)
        go_roundw
        case rel => exact ⟨k + 1, by omega, by go_num, T1.out, HB.out.grown G1.out HB.out.size (by intro q hq; cases hq; exact hgl)⟩
        case measure => simp [intOf]; omega
    · obtain rfl : k = l.length := by omega
      rw [List.take_length] at hP
      have HP3 := Lib.hid hP
      clear hP hb HP
      go_wp2
      go_ret
      exact ⟨g, rfl, HP3.out, HB.out⟩
end
end Go.Proofs.YtjhchddmbbibpaaDoor
