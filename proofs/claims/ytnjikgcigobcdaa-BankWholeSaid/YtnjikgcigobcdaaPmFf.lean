import Derived.Test.YtnjikgcigobcdaaPmFe
import Derived.WalkLawsBesides
namespace Go.Proofs.Ytnjikgcigobcdaa
open Wd Pm Go.Maps Go.RowKit
set_option linter.unusedVariables false

theorem flush_dev {w : World} {f : Fp} {σ : St} (h : Dev w f σ) (hev : σ.ev < 4611686018427387904) (i : Int) : Calls Try.prog 57 #[f.ptr, .int .i64 i] w fun e w' =>
    e = .returned (.int .i64 (σ.tried (hasL σ.n i) (·.send i)).2) ∧ Goes w f (σ.tried (hasL σ.n i) (·.send i)).1 w' := by
  have hp : f.ptr = .pointer (some ⟨f.p, 0, none⟩) := rfl
  have nle := h.good.nle
  have h3 := (h.alloc (.cells #[.pointer (some ⟨f.p, 0, none⟩)] 26)).alloc (.cells #[.int .i64 i] 3)
  have B3 : Below w.heap.size w ((w.alloc (.cells #[.pointer (some ⟨f.p, 0, none⟩)] 26)).alloc (.cells #[.int .i64 i] 3)) := ((Below.refl _ _).alloc (Nat.le_refl _) _).alloc (by simp) _
  have BH := Lib.hid B3
  clear B3
  unfold St.tried
  rw [hp]
  by_cases he : refErr σ.dead (hasL σ.n i) = 0
  · rw [if_pos he]
    obtain ⟨ed, eh⟩ := refErr_ok he
    have hi := hasL_iff.1 eh
    have hq : (refErr σ.dead (hasL σ.n i) != 0) = false := by simpa using he
    have k1 := (Cells.new w 26 #[.pointer (some ⟨f.p, 0, none⟩)]).alloc (.cells #[.int .i64 i] 3)
    have k2 := Cells.new (w.alloc (.cells #[.pointer (some ⟨f.p, 0, none⟩)] 26)) 3 #[.int .i64 i]
    simp only [World.size_alloc] at k2
    have K1 := Lib.hid k1
    have K2 := Lib.hid k2
    have O1 := Lib.hid (h.out (Nat.le_refl _))
    have O2 := Lib.hid (h.out (k := w.heap.size + 1) (by omega))
    clear he ed eh k1 k2
    by_cases ha : σ.ar = 1
    · rw [if_pos ha]
      clear hp
      have HA := Lib.hid ha
      clear ha
      go_enter Try.func57, Try.ntmps57
      go_wp2
      go_quiet ((first | (go_at_call 71; exact quiet_eq (hasLine_dev (h3.drewN _) i)) | (go_at_call 62; exact quiet_eq (refusal_dev (h3.drewN _) _))))
      go_wp2_with (go_at_call 68; refine (event_fail (h3.drewN _) HA.out _).mono ?_; rintro e w' ⟨rfl, hG⟩)
      go_ret
      exact ⟨rfl, hG.from (below_drewN BH.out _)⟩
    · rw [if_neg ha]
      have HA := Lib.hid ha
      clear ha
      go_enter Try.func57, Try.ntmps57
      go_wp2
      go_quiet ((first | (go_at_call 71; exact quiet_eq (hasLine_dev (h3.drewN _) i)) | (go_at_call 62; exact quiet_eq (refusal_dev (h3.drewN _) _))))
      go_wp2_with fail
      refine (event_flush (h3.drewN _) HA.out hev w.heap.size (w.heap.size + 1) (σ2 := σ.drained.send i) rfl (fun w1 t1 d1 => flush1_dev d1 _ _ i (by omega) ?_ ?_ O1.out O2.out)).mono ?_
      · exact (K1.out.drewN _).turn' O1.out t1
      · exact (K2.out.drewN _).turn' O2.out t1
      rintro e w' ⟨rfl, hG⟩
      go_wp2
      go_ret
      exact ⟨rfl, hG.from (below_drewN BH.out _)⟩
  · rw [if_neg he]
    have hq := refErr_no he
    clear he hp
    go_enter Try.func57, Try.ntmps57
    go_wp2
    go_quiet ((first | (go_at_call 71; exact quiet_eq (hasLine_dev (h3.drewN _) i)) | (go_at_call 62; exact quiet_eq (refusal_dev (h3.drewN _) _))))
    go_wp2
    go_ret
    exact ⟨rfl, f, h3.drewN _, rfl, fun k hk => .inl hk, grown_turn BH.out _⟩

theorem fence_dev {w : World} {f : Fp} {σ : St} (h : Dev w f σ) (hev : σ.ev < 4611686018427387904) : Calls Try.prog 58 #[f.ptr] w fun e w' =>
    e = .returned (.int .i64 (σ.tried true St.persist).2) ∧ Goes w f (σ.tried true St.persist).1 w' := by
  have hmf : ∀ (fn : Fn) (first cap : Array Value) (w : World), (Instr.makeFunc fn first cap).run Try.prog w = .ok (.func fn first cap) w := fun _ _ _ _ => rfl
  have hp : f.ptr = .pointer (some ⟨f.p, 0, none⟩) := rfl
  unfold St.tried
  rw [hp]
  by_cases he : refErr σ.dead true = 0
  · rw [if_pos he]
    have hq : (refErr σ.dead true != 0) = false := by simpa using he
    clear he
    by_cases ha : σ.ar = 1
    · rw [if_pos ha]
      clear hp
      have HA := Lib.hid ha
      clear ha
      go_enter Try.func58, Try.ntmps58
      go_wp2_with (first | (go_at_call 62; refine (refusal_dev h _).mono ?_; rintro e w' ⟨rfl, rfl⟩) | (go_at_call 68; refine (event_fail h HA.out _).mono ?_; rintro e w' ⟨rfl, hG⟩))
      go_ret
      exact ⟨rfl, hG⟩
    · rw [if_neg ha]
      have HA := Lib.hid ha
      clear ha hp
      go_enter Try.func58, Try.ntmps58
      go_wp2_with (first | (go_at_call 62; refine (refusal_dev h _).mono ?_; rintro e w' ⟨rfl, rfl⟩) | fail)
      refine (event_fence h HA.out hev (σ2 := σ.drained.persist) rfl (fun w1 t1 d1 => persist_dev d1)).mono ?_
      rintro e w' ⟨rfl, hG⟩
      go_wp2
      go_ret
      exact ⟨rfl, hG⟩
  · rw [if_neg he]
    have hq := refErr_no he
    clear he hp
    go_enter Try.func58, Try.ntmps58
    go_wp2_with (first | (go_at_call 62; refine (refusal_dev h _).mono ?_; rintro e w' ⟨rfl, rfl⟩) | fail)
    go_ret
    exact ⟨rfl, Goes.refl h⟩

/-- a new device of n words -/
def St.fresh (n : Nat) : St := ⟨n, fun _ => 0, fun _ => none, fun _ => none, 0, 0, false⟩
def clampN (n : Int) : Nat := (min (max n 0) 33554432).toNat
/-- a device has been made, of blocks that are new -/
def MadeDev (w : World) (σ : St) (e : Ending) (w' : World) : Prop := ∃ f, e = .returned f.ptr ∧ Dev w' f σ ∧ (∀ k ∈ f.blocks, w.heap.size ≤ k) ∧ Below w.heap.size w w'
theorem infoU : (Try.prog.info? 49).map (fun i => (i.zero, i.size, i.bytes)) = some (some (.int .u64 0), 1, 8) := by kernel_rfl
theorem new_dev (n : Int) (w : World) : Calls Try.prog 19 #[.int .i64 n] w (MadeDev w (.fresh (clampN n))) := by
  have hmm := @run_makeMap Try.prog
  have hc : (clampN n : Int) = min (max n 0) 33554432 := by unfold clampN; omega
  have hle : clampN n ≤ 33554432 := by omega
  have hmk := fun (w : World) => make_row (P := Try.prog) 22 49 (.int .u64 0) 8 Try.underlying22 infoU rfl (clampN n) (by omega) (by omega) w
  rw [hc] at hmk
  go_enter Try.func19, Try.ntmps19
  go_wp2
  go_ret
  have e0 : (St.fresh (clampN n)).row = Array.replicate (clampN n) (.int .u64 0) := by
    apply Array.ext_getElem?
    intro j
    by_cases hj : j < clampN n
    · rw [St.row_at (St.fresh (clampN n)) j hj]
      simp [hj, St.fresh]
    · simp [St.row, St.fresh, hj]
  have k0 := Cells.new (((w.alloc (.cells (Array.replicate (clampN n) (.int .u64 0)) 49)).alloc (.map #[] 0)).alloc (.map #[] 0)) 73 #[.slice (some ⟨w.heap.size, 0, none⟩) (clampN n) (clampN n), .map (some (w.heap.size + 1)), .map (some (w.heap.size + 1 + 1)), .int .i64 0, .int .i64 0, .bool false]
  have k1 := (((Cells.new w 49 (Array.replicate (clampN n) (.int .u64 0))).alloc (.map #[] 0)).alloc (.map #[] 0)).alloc (.cells #[.slice (some ⟨w.heap.size, 0, none⟩) (clampN n) (clampN n), .map (some (w.heap.size + 1)), .map (some (w.heap.size + 1 + 1)), .int .i64 0, .int .i64 0, .bool false] 73)
  have m1 := ((Mp.made (w.alloc (.cells (Array.replicate (clampN n) (.int .u64 0)) 49)) Try.prog 3 49).kept (World.grownBy_alloc _ (.map #[] 0) none) (by simp)).kept (World.grownBy_alloc _ (.cells #[.slice (some ⟨w.heap.size, 0, none⟩) (clampN n) (clampN n), .map (some (w.heap.size + 1)), .map (some (w.heap.size + 1 + 1)), .int .i64 0, .int .i64 0, .bool false] 73) none) (by simp)
  have m2 := (Mp.made ((w.alloc (.cells (Array.replicate (clampN n) (.int .u64 0)) 49)).alloc (.map #[] 0)) Try.prog 3 49).kept (World.grownBy_alloc _ (.cells #[.slice (some ⟨w.heap.size, 0, none⟩) (clampN n) (clampN n), .map (some (w.heap.size + 1)), .map (some (w.heap.size + 1 + 1)), .int .i64 0, .int .i64 0, .bool false] 73) none) (by simp)
  simp only [World.size_alloc] at k0 m1 m2
  rw [← e0] at k1
  refine ⟨⟨w.heap.size + 1 + 1 + 1, w.heap.size, w.heap.size + 1, w.heap.size + 1 + 1, clampN n, #[]⟩, rfl, ⟨k0, ?_, m1.mono (Nat.zero_le _), m2.mono (Nat.zero_le _), by simp, ?_⟩, ?_, ?_⟩
  · rw [← e0, Array.append_empty]; exact k1
  · exact ⟨hle, fun x _ _ => (by decide : (Lit.int .u64 0).wf = true), (fun x c h => by cases h), (fun x c h => by cases h), ⟨by simp [St.fresh], by simp [St.fresh]⟩, ⟨by simp [St.fresh], by simp [St.fresh]⟩⟩
  · intro k hk; simp [Fp.blocks] at hk; omega
  · exact ((((Below.refl _ _).alloc (Nat.le_refl _) _).alloc (by simp) _).alloc (by simp; omega) _).alloc (by simp; omega) _
end Go.Proofs.Ytnjikgcigobcdaa
