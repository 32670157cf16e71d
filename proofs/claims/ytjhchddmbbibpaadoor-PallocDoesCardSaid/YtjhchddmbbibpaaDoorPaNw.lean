import Derived.Test.YtjhchddmbbibpaaDoorPaTk
import Derived.Test.YtjhchddmbbibpaaDoorApp
namespace Go.Proofs.YtjhchddmbbibpaaDoor
open Wd Pa Go.ChangeShapes Go.WideShapes Go.RowKit Go.Sort
set_option linter.unusedVariables false
theorem infoW2 : (Tryd.prog.info? 49).map (fun i => (i.zero, i.size, i.bytes)) = some (some (.int .u64 0), 1, 8) := by kernel_rfl
/-- how many pages there are -/
def many (n : Int) : Nat := min (max n 0).toNat 1048576
/-- which of them are used -/
def usedOf (N : Nat) (l : List Int) : Nat → Bool := fun q => decide (1 ≤ q ∧ q ≤ N ∧ (q : Int) ∈ l)
theorem usedOf_nil (N : Nat) : usedOf N [] = fun _ => false := by funext q; simp [usedOf]
theorem usedOf_in {N : Nat} {l : List Int} {j : Nat} (h : j < N) : put (usedOf N l) (j + 1) true = usedOf N (l ++ [(j : Int) + 1]) := by
  funext q
  unfold put usedOf
  by_cases e : q = j + 1
  · subst e
    rw [if_pos rfl, eq_comm, decide_eq_true_eq]
    exact ⟨by omega, by omega, by simp⟩
  · rw [if_neg e, decide_eq_decide]
    simp only [List.mem_append, List.mem_singleton]
    constructor
    · rintro ⟨a, b, c⟩; exact ⟨a, b, .inl c⟩
    · rintro ⟨a, b, c | c⟩
      · exact ⟨a, b, c⟩
      · omega
theorem usedOf_out {N : Nat} {l : List Int} {x : Int} (h : ¬ (1 ≤ x ∧ x ≤ N)) : usedOf N l = usedOf N (l ++ [x]) := by
  funext q
  unfold usedOf
  rw [decide_eq_decide]
  simp only [List.mem_append, List.mem_singleton]
  constructor
  · rintro ⟨a, b, c⟩; exact ⟨a, b, .inl c⟩
  · rintro ⟨a, b, c | c⟩
    · exact ⟨a, b, c⟩
    · omega
theorem take_snoc {α : Type} {l : List α} {k : Nat} {x : α} (h : l[k]? = some x) : l.take (k + 1) = l.take k ++ [x] := by
  rw [List.take_add_one, h]; rfl
/-- pages have been made, in blocks that are new -/
def NewR (N : Nat) (U : Nat → Bool) (w : World) (e : Ending) (w' : World) : Prop := ∃ f ws, e = .returned f.ptr ∧ PgAt w' w.heap.size f N U ws ∧ Below w.heap.size w w'
def NewRel (f : Pp) (N : Nat) (l : List Int) (w : World) (i : Value) (wr : World) : Prop := ∃ k ws, k ≤ l.length ∧ i = .int .i64 (k : Nat) ∧ PgAt wr w.heap.size f N (usedOf N (l.take k)) ws ∧ Below w.heap.size w wr
section
variable {w : World} {n : Int} {l : List Int} {A : Option Addr} {c N : Nat}
set_option maxRecDepth 100000 in
set_option maxHeartbeats 1000000 in
theorem new_is (hT : Tb w) (hB : 0 < w.heap.size) (hN : N = many n) (hl : Row w w.heap.size A l.length (l.map (Value.int .i64))) (hle : l.length ≤ 1000) : Calls Tryd.prog 8 #[.int .i64 n, .slice A l.length c] w (NewR N (usedOf N l) w) := by
  have HT := Lib.hid hT
  have HR := Lib.hid hl
  have HN := Lib.hid hN
  have hle2 : N ≤ 1048576 := by rw [hN]; unfold many; omega
  obtain ⟨K, hK⟩ : ∃ K, K = (N + 63) / 64 := ⟨_, rfl⟩
  have hmk := fun (w : World) => make_row (P := Tryd.prog) 46 49 (.int .u64 0) 8 Tryd.underlying46 infoW2 rfl K (by omega) (by omega) w
  rw [show (K : Int) = ((N : Int) + 64 - 1) / 64 by omega] at hmk
  simp only [List.toArray_replicate] at hmk
  have HK := Lib.hid hK
  have P0 : PgAt ((w.alloc (.cells (Array.replicate K (Value.int .u64 0)) 49)).alloc (.cells #[.int .i64 N, .slice (some ⟨w.heap.size, 0, none⟩) K K] 48)) w.heap.size ⟨w.heap.size + 1, w.heap.size, K, []⟩ N (usedOf N []) (List.replicate K 0) := by
    have b2 : Below w.heap.size w ((w.alloc (.cells (Array.replicate K (Value.int .u64 0)) 49)).alloc (.cells #[.int .i64 N, .slice (some ⟨w.heap.size, 0, none⟩) K K] 48)) := ((Below.refl _ _).alloc (Nat.le_refl _) _).alloc (by simp) _
    refine ⟨?_, ?_, ?_, hle2, ?_, by simp, by simp, hB, hT.below b2 hB⟩
    · have := Cells.new (w.alloc (.cells (Array.replicate K (Value.int .u64 0)) 49)) 48 #[.int .i64 N, .slice (some ⟨w.heap.size, 0, none⟩) K K]
      simp only [World.size_alloc] at this
      simpa using this
    · have := (Cells.new w 49 (Array.replicate K (Value.int .u64 0))).alloc (.cells #[.int .i64 N, .slice (some ⟨w.heap.size, 0, none⟩) K K] 48)
      rw [List.append_nil, List.map_replicate, List.toArray_replicate]
      exact this
    · rw [usedOf_nil, hK]; exact wds_zero N
    · simp
  have HP := Lib.hid P0
  have HB2 := Lib.hid (show Below w.heap.size w ((w.alloc (.cells (Array.replicate K (Value.int .u64 0)) 49)).alloc (.cells #[.int .i64 N, .slice (some ⟨w.heap.size, 0, none⟩) K K] 48)) from ((Below.refl _ _).alloc (Nat.le_refl _) _).alloc (by simp) _)
  clear hT hl hN hK P0
  go_enter Tryd.func8, Tryd.ntmps8
  go_upto_region 1 with fail
  go_cut [0] from 8 to 10 (fun c wx => c = .int .i64 (N : Nat) ∧ wx = w)
  case first =>
    have hN := HN.out
    unfold many at hN
    clear hmk HK HP HB2
    by_cases h1 : n ≤ 0
    · have e : (N : Int) = 0 := by omega
      have hmx : max n 0 = 0 := by omega
      clear hN HN
      go_wp2
      all_goals go_meet
      all_goals exact ⟨by rw [Value.int.injEq]; exact ⟨rfl, by omega⟩, rfl⟩
    · by_cases h2 : n ≤ 1048576
      · have e : (N : Int) = n := by omega
        clear hN HN
        go_wp2
        all_goals go_meet
        all_goals exact ⟨by rw [Value.int.injEq]; exact ⟨rfl, by omega⟩, rfl⟩
      · have e : (N : Int) = 1048576 := by omega
        clear hN HN
        go_wp2
        all_goals go_meet
        all_goals exact ⟨by rw [Value.int.injEq]; exact ⟨rfl, by omega⟩, rfl⟩
  case rest =>
  obtain ⟨rfl, rfl⟩ := hcut
  go_upto_region 4 with fail
  have hP := HP.out; have hB2 := HB2.out
  clear HP HB2 hmk HK HT
  have hg : wc.heap.size < wc.heap.size + 1 := Nat.lt_succ_self _
  obtain ⟨f, hf⟩ : ∃ f : Pp, f = ⟨wc.heap.size + 1, wc.heap.size, K, []⟩ := ⟨_, rfl⟩
  rw [← hf] at hP
  rw [show (Value.pointer (some ⟨wc.heap.size + 1, 0, none⟩)) = .pointer (some ⟨f.g, 0, none⟩) by rw [hf]]
  obtain ⟨w2, hw2⟩ : ∃ w2, ((wc.alloc (Obj.cells (Array.replicate K (Value.int IntKind.u64 0)) 49)).alloc (Obj.cells #[Value.int IntKind.i64 ↑N, Value.slice (some ⟨wc.heap.size, 0, none⟩) K K] 48)) = w2 := ⟨_, rfl⟩
  rw [hw2] at hP hB2 ⊢
  have HP := Lib.hid hP; have HB2 := Lib.hid hB2
  clear hP hB2 hw2 hf hg
  go_loopw [21] (fun i wr => NewRel f N l wc i wr) (fun i _ => l.length - (intOf i).toNat)
  case atStart => exact ⟨0, _, Nat.zero_le _, rfl, HP.out, HB2.out⟩
  case round =>
    obtain ⟨k, ws, hk, rfl, hP, hb⟩ := hrel
    have HP := Lib.hid hP; have HB := Lib.hid hb
    by_cases hlt : k < l.length
    · obtain ⟨b1, o1, x, rfl, _, gx, cx⟩ := (HR.out.below hb).get hlt
      have hlt2 : (k : Int) < (l.length : Int) := Int.ofNat_lt.2 hlt
      have GX := Lib.hid gx
      by_cases hx : 1 ≤ x ∧ x ≤ N
      · obtain ⟨j, hj⟩ : ∃ j : Nat, x = (j : Int) + 1 := ⟨(x - 1).toNat, by omega⟩
        have hjn : j < N := by omega
        obtain ⟨v, hv⟩ : ∃ v, v = j / 64 := ⟨_, rfl⟩
        obtain ⟨kk, hkk⟩ : ∃ kk, kk = j % 64 := ⟨_, rfl⟩
        obtain ⟨m, hm⟩ : ∃ m, m = 2 ^ kk := ⟨_, rfl⟩
        have KM := Lib.hid (may_is hP x true (by rw [eq_comm, decide_eq_true_eq]; exact hx))
        have KV := Lib.hid (fun W => word_is j v x hj (by omega) hv W)
        have KB := Lib.hid (fun W => bit_is j kk m x hj (by omega) hkk hm W)
        obtain ⟨xx, y, z, cy, i1, hvl, hor, -, hw, -, -⟩ := hP.page hjn hv hkk hm
        rw [usedOf_in hjn, ← hj, ← take_snoc gx] at hw
        have cW := hP.cW
        have fz := hP.words.free v
        have HD := Lib.hid hw; have HVL := Lib.hid hvl
        have HGR := Lib.hid (set_grown wr f.h v (.int .u64 y) 1)
        unfold Pp.ptr at KM
        clear hw hvl hv hkk hm hj hjn hx hP hb gx
        obtain ⟨wo, rfl⟩ : ∃ wo : World, wo = wr := ⟨_, rfl⟩
        go_wp2_with (go_at_call 21; refine KM.out.mono ?_; rintro e w1 ⟨rfl, rfl⟩)
        go_upto_region 7 with fail
        refine wp_region_still_tail 12 (by kernel_rfl) (by kernel_rfl) ?_
        simp only [List.take_succ_cons, List.take_zero, List.drop_succ_cons, List.drop_zero]
        repeat (first | still_step | still_call (still_eq (KV.out _)) | still_call (still_eq (KB.out _)))
        try refine wpStill_nil ?_
        change wpList _ _ _ _ _ wo.drew
        have HW2 := Lib.hid (show PgAt wo.drew wc.heap.size f N _ ws from HP.out.drewN 1)
        have HG2 := Lib.hid (show wo.grownBy (wo.drew.setCell ⟨f.h, v, none⟩ (.int .u64 y)) (some f.h) from HGR.out)
        obtain ⟨w3, hw3⟩ : ∃ w3, wo.drew = w3 := ⟨_, rfl⟩
        rw [hw3] at HW2 HG2 ⊢
        have fz := HW2.out.words.free v
        have cx2 : w3.cell? ⟨f.h, v, none⟩ = some (.int .u64 xx) := by rw [← hw3]; exact cy
        clear cy cW hw3
        go_wp2
        go_roundw
        case rel => exact ⟨k + 1, _, by omega, by go_num, HW2.out.set HD.out HVL.out, HB.out.grown HG2.out HB.out.size (by intro q hq; cases hq; exact HP.out.hB)⟩
        case measure => simp [intOf]; omega
      · have KM := Lib.hid (may_is hP x false (by rw [eq_comm, decide_eq_false_iff_not]; exact hx))
        rw [usedOf_out hx, ← take_snoc gx] at hP
        have HP2 := Lib.hid hP
        unfold Pp.ptr at KM
        clear hP HP hx gx hb
        obtain ⟨wo, rfl⟩ : ∃ wo : World, wo = wr := ⟨_, rfl⟩
        go_wp2_with (go_at_call 21; refine KM.out.mono ?_; rintro e w1 ⟨rfl, rfl⟩)
        go_roundw
        case rel => exact ⟨k + 1, _, by omega, by go_num, HP2.out, HB.out⟩
        case measure => simp [intOf]; omega
    · obtain rfl : k = l.length := by omega
      rw [List.take_length] at hP
      have HP2 := Lib.hid hP
      clear hP hb HP
      go_wp2
      go_ret
      exact ⟨f, ws, rfl, HP2.out, HB.out⟩
end
end Go.Proofs.YtjhchddmbbibpaaDoor
