import Derived.Test.YtnjikgcigobcdaaPmDo
import Derived.Deep.QuietTactic
import Derived.BigQuiet
namespace Go.Proofs.Ytnjikgcigobcdaa
open Wd Pm Go.Maps Go.RowKit
set_option linter.unusedVariables false

theorem Dev.drewN {w : World} {f : Fp} {σ : St} (h : Dev w f σ) (n : Nat) : Dev (w.drewN n) f σ := h
/-- a call that may be refused, or meet failing power -/
@[irreducible] def St.tried (σ : St) (there : Bool) (go : St → St) : St × Int :=
  if refErr σ.dead there = 0 then (if σ.ar = 1 then ({ σ with ar := 0, dead := true }, 5) else ((go σ.drained).counted, 0)) else (σ, refErr σ.dead there)

theorem store1_dev {w : World} {f : Fp} {σ : St} (h : Dev w f σ) (a b c : Nat) (i v : Int) (hi : 0 ≤ i ∧ i < σ.n) (hv : U64 v) (ca : w.cell? ⟨a, 0, none⟩ = some f.ptr) (cb : w.cell? ⟨b, 0, none⟩ = some (.int .i64 i)) (cc : w.cell? ⟨c, 0, none⟩ = some (.int .u64 v)) :
    Calls Try.prog 69 #[.pointer (some ⟨a, 0, none⟩), .pointer (some ⟨b, 0, none⟩), .pointer (some ⟨c, 0, none⟩)] w fun e w' => e = .returned (.tuple #[]) ∧ Goes w f (σ.hold i v) w' := by
  have hp : f.ptr = .pointer (some ⟨f.p, 0, none⟩) := rfl
  rw [hp] at ca
  clear hp
  go_enter Try.func69, Try.ntmps69
  go_wp2_with (go_at_call 70; refine (hold_dev h i v hi hv).mono ?_; rintro e w' ⟨rfl, hG⟩)
  go_end0
  exact ⟨rfl, hG⟩

theorem refErr_no {d b : Bool} (h : ¬ refErr d b = 0) : (refErr d b != 0) = true := by simpa using h
theorem refErr_ok {d b : Bool} (h : refErr d b = 0) : d = false ∧ b = true := by
  unfold refErr at h
  cases d <;> cases b <;> simp at h ⊢

theorem grown_turn {w w' : World} {S : List Nat} (h : Below w.heap.size w w') (k : Nat) : Turn w (w'.drewN k) S := Turn.ofBelow (below_drewN h k)

theorem _root_.Wd.Cells.turn' {w w' : World} {g : Nat} {T : TypeId} {cs : Array Value} {S : List Nat} (h : Cells w g T cs) (hn : g ∉ S) (t : Turn w w' S) : Cells w' g T cs := (t.block g h.lt hn).trans h
theorem Goes.from {w w0 w' : World} {f : Fp} {σ' : St} (g : Goes w0 f σ' w') (b : Below w.heap.size w w0) : Goes w f σ' w' := by
  obtain ⟨f', d, e, n, t⟩ := g
  exact ⟨f', d, e, fun k hk => by
    rcases n k hk with h | h
    · exact .inl h
    · exact .inr (Nat.le_trans b.size h), (Turn.ofBelow b).trans t (fun x hx => .inl hx)⟩
theorem Dev.out {w : World} {f : Fp} {σ : St} (h : Dev w f σ) {k : Nat} (hk : w.heap.size ≤ k) : k ∉ f.blocks := by
  have := h.lt
  simp [Fp.blocks]; omega

/-- a world of three variables more, and some draws -/
theorem store_dev {w : World} {f : Fp} {σ : St} (h : Dev w f σ) (hev : σ.ev < 4611686018427387904) (i v : Int) (hv : U64 v) : Calls Try.prog 56 #[f.ptr, .int .i64 i, .int .u64 v] w fun e w' =>
    e = .returned (.int .i64 (σ.tried (hasW σ.n i) (·.hold i v)).2) ∧ Goes w f (σ.tried (hasW σ.n i) (·.hold i v)).1 w' := by
  have hp : f.ptr = .pointer (some ⟨f.p, 0, none⟩) := rfl
  have h3 := ((h.alloc (.cells #[.pointer (some ⟨f.p, 0, none⟩)] 26)).alloc (.cells #[.int .i64 i] 3)).alloc (.cells #[.int .u64 v] 49)
  have B3 : Below w.heap.size w (((w.alloc (.cells #[.pointer (some ⟨f.p, 0, none⟩)] 26)).alloc (.cells #[.int .i64 i] 3)).alloc (.cells #[.int .u64 v] 49)) := (((Below.refl _ _).alloc (Nat.le_refl _) _).alloc (by simp) _).alloc (by simp; omega) _
  have BH := Lib.hid B3
  clear B3
  unfold St.tried
  rw [hp]
  by_cases he : refErr σ.dead (hasW σ.n i) = 0
  · rw [if_pos he]
    obtain ⟨ed, eh⟩ := refErr_ok he
    have hi := hasW_iff.1 eh
    have hq : (refErr σ.dead (hasW σ.n i) != 0) = false := by simpa using he
    have k1 := ((Cells.new w 26 #[.pointer (some ⟨f.p, 0, none⟩)]).alloc (.cells #[.int .i64 i] 3)).alloc (.cells #[.int .u64 v] 49)
    have k2 := (Cells.new (w.alloc (.cells #[.pointer (some ⟨f.p, 0, none⟩)] 26)) 3 #[.int .i64 i]).alloc (.cells #[.int .u64 v] 49)
    have k3 := Cells.new ((w.alloc (.cells #[.pointer (some ⟨f.p, 0, none⟩)] 26)).alloc (.cells #[.int .i64 i] 3)) 49 #[.int .u64 v]
    simp only [World.size_alloc] at k2 k3
    have K1 := Lib.hid k1
    have K2 := Lib.hid k2
    have K3 := Lib.hid k3
    have O1 := Lib.hid (h.out (Nat.le_refl _))
    have O2 := Lib.hid (h.out (k := w.heap.size + 1) (by omega))
    have O3 := Lib.hid (h.out (k := w.heap.size + 1 + 1) (by omega))
    clear he ed eh k1 k2 k3
    by_cases ha : σ.ar = 1
    · rw [if_pos ha]
      clear hp
      have HA := Lib.hid ha
      clear ha
      go_enter Try.func56, Try.ntmps56
      go_wp2
      go_quiet ((first | (go_at_call 63; exact quiet_eq (hasWord_dev (h3.drewN _) i)) | (go_at_call 62; exact quiet_eq (refusal_dev (h3.drewN _) _))))
      go_wp2_with (go_at_call 68; refine (event_fail (h3.drewN _) HA.out _).mono ?_; rintro e w' ⟨rfl, hG⟩)
      go_ret
      exact ⟨rfl, hG.from (below_drewN BH.out _)⟩
    · rw [if_neg ha]
      have HA := Lib.hid ha
      clear ha
      go_enter Try.func56, Try.ntmps56
      go_wp2
      go_quiet ((first | (go_at_call 63; exact quiet_eq (hasWord_dev (h3.drewN _) i)) | (go_at_call 62; exact quiet_eq (refusal_dev (h3.drewN _) _))))
      go_wp2_with fail
      refine (event_store (h3.drewN _) HA.out hev w.heap.size (w.heap.size + 1) (w.heap.size + 1 + 1) (σ2 := σ.drained.hold i v) rfl (fun w1 t1 d1 => store1_dev d1 _ _ _ i v hi hv ?_ ?_ ?_)).mono ?_
      · exact ((K1.out.drewN _).turn' O1.out t1).cell 0
      · exact ((K2.out.drewN _).turn' O2.out t1).cell 0
      · exact ((K3.out.drewN _).turn' O3.out t1).cell 0
      rintro e w' ⟨rfl, hG⟩
      go_wp2
      go_ret
      exact ⟨rfl, hG.from (below_drewN BH.out _)⟩
  · rw [if_neg he]
    have hq := refErr_no he
    clear he hp
    go_enter Try.func56, Try.ntmps56
    go_wp2
    go_quiet ((first | (go_at_call 63; exact quiet_eq (hasWord_dev (h3.drewN _) i)) | (go_at_call 62; exact quiet_eq (refusal_dev (h3.drewN _) _))))
    go_wp2
    go_ret
    exact ⟨rfl, f, h3.drewN _, rfl, fun k hk => .inl hk, grown_turn BH.out _⟩
end Go.Proofs.Ytnjikgcigobcdaa
