import Derived.Test.YtcimmfhbffofjaaEfSam
import Derived.RegionTactic
import Derived.BigRegion
/-
  The project's just: what of an effect its kind has.
-/
namespace Go.Proofs.Ytcimmfhbffofjaa
open Wd U Go.RowKit Go.ChangeShapes Go.WideShapes Go.Sort
set_option linter.unusedVariables false
set_option maxRecDepth 100000
set_option linter.unusedSimpArgs false

def Eff.just (e : Eff) : Eff :=
  if e.kind = 1 then ⟨e.kind, e.ino, e.dir, 0, e.page, 0, e.name, ⟨#[]⟩, none, 0, []⟩
  else if e.kind = 2 ∨ e.kind = 3 ∨ e.kind = 4 then ⟨e.kind, e.ino, e.dir, 0, 0, 0, e.name, ⟨#[]⟩, none, 0, []⟩
  else if e.kind = 5 then ⟨e.kind, e.ino, e.dir, e.dst, 0, 0, e.name, e.other, none, 0, []⟩
  else if e.kind = 6 then ⟨e.kind, e.ino, 0, 0, 0, e.size, ⟨#[]⟩, ⟨#[]⟩, none, 0, []⟩
  else if e.kind = 7 then ⟨e.kind, e.ino, 0, 0, e.page, e.size, ⟨#[]⟩, ⟨#[]⟩, e.A, e.cp, e.data⟩
  else ⟨e.kind, e.ino, 0, 0, 0, 0, ⟨#[]⟩, ⟨#[]⟩, none, 0, []⟩

set_option maxRecDepth 100000 in
set_option maxHeartbeats 4000000 in
theorem eJust (e : Eff) (w : World) : Calls Try.prog 36 #[e.val] w (Grows e.just.val w) := by
  obtain ⟨kind, ino, dir, dst, page, size, name, other, A, cp, data⟩ := e
  by_cases h1 : kind = 1
  · have q1 : (kind == 1) = true := by simpa using h1
    have hj : (Eff.just ⟨kind, ino, dir, dst, page, size, name, other, A, cp, data⟩) = ⟨kind, ino, dir, 0, page, 0, name, ⟨#[]⟩, none, 0, []⟩ := by unfold Eff.just; simp [h1]
    rw [hj]
    clear hj h1
    unfold Eff.val
    go_enter Try.func36, Try.ntmps36
    go_wp2
    go_region
    all_goals go_wp2
    all_goals
      exact bodyPost_ret (v := .agg #[.int .i64 kind, .int .i64 ino, .int .i64 dir, .int .i64 0, .int .i64 page, .int .i64 0, .string name, .string ⟨#[]⟩, .slice none 0 0]) (by simp [results, Try.results36, go_sem]) rfl ⟨rfl, grow_drewN (grow_alloc (grow_alloc (grow_one _ _) _) _) 1⟩
  · have q1 : (kind == 1) = false := by simpa using h1
    by_cases h2 : kind = 2
    · have q2 : (kind == 2) = true := by simpa using h2
      have hj : (Eff.just ⟨kind, ino, dir, dst, page, size, name, other, A, cp, data⟩) = ⟨kind, ino, dir, 0, 0, 0, name, ⟨#[]⟩, none, 0, []⟩ := by unfold Eff.just; simp [h1, h2]
      rw [hj]
      clear hj h1 h2
      unfold Eff.val
      go_enter Try.func36, Try.ntmps36
      go_wp2
      go_region
      all_goals go_wp2
      all_goals
        exact bodyPost_ret (v := .agg #[.int .i64 kind, .int .i64 ino, .int .i64 dir, .int .i64 0, .int .i64 0, .int .i64 0, .string name, .string ⟨#[]⟩, .slice none 0 0]) (by simp [results, Try.results36, go_sem]) rfl ⟨rfl, grow_drewN (grow_alloc (grow_alloc (grow_one _ _) _) _) 1⟩
    · have q2 : (kind == 2) = false := by simpa using h2
      by_cases h3 : kind = 3
      · have q3 : (kind == 3) = true := by simpa using h3
        have hj : (Eff.just ⟨kind, ino, dir, dst, page, size, name, other, A, cp, data⟩) = ⟨kind, ino, dir, 0, 0, 0, name, ⟨#[]⟩, none, 0, []⟩ := by unfold Eff.just; simp [h1, h2, h3]
        rw [hj]
        clear hj h1 h2 h3
        unfold Eff.val
        go_enter Try.func36, Try.ntmps36
        go_wp2
        go_region
        all_goals go_wp2
        all_goals
          exact bodyPost_ret (v := .agg #[.int .i64 kind, .int .i64 ino, .int .i64 dir, .int .i64 0, .int .i64 0, .int .i64 0, .string name, .string ⟨#[]⟩, .slice none 0 0]) (by simp [results, Try.results36, go_sem]) rfl ⟨rfl, grow_drewN (grow_alloc (grow_alloc (grow_one _ _) _) _) 1⟩
      · have q3 : (kind == 3) = false := by simpa using h3
        by_cases h4 : kind = 4
        · have q4 : (kind == 4) = true := by simpa using h4
          have hj : (Eff.just ⟨kind, ino, dir, dst, page, size, name, other, A, cp, data⟩) = ⟨kind, ino, dir, 0, 0, 0, name, ⟨#[]⟩, none, 0, []⟩ := by unfold Eff.just; simp [h1, h2, h3, h4]
          rw [hj]
          clear hj h1 h2 h3 h4
          unfold Eff.val
          go_enter Try.func36, Try.ntmps36
          go_wp2
          go_region
          all_goals go_wp2
          all_goals
            exact bodyPost_ret (v := .agg #[.int .i64 kind, .int .i64 ino, .int .i64 dir, .int .i64 0, .int .i64 0, .int .i64 0, .string name, .string ⟨#[]⟩, .slice none 0 0]) (by simp [results, Try.results36, go_sem]) rfl ⟨rfl, grow_drewN (grow_alloc (grow_alloc (grow_one _ _) _) _) 1⟩
        · have q4 : (kind == 4) = false := by simpa using h4
          by_cases h5 : kind = 5
          · have q5 : (kind == 5) = true := by simpa using h5
            have hj : (Eff.just ⟨kind, ino, dir, dst, page, size, name, other, A, cp, data⟩) = ⟨kind, ino, dir, dst, 0, 0, name, other, none, 0, []⟩ := by unfold Eff.just; simp [h1, h2, h3, h4, h5]
            rw [hj]
            clear hj h1 h2 h3 h4 h5
            unfold Eff.val
            go_enter Try.func36, Try.ntmps36
            go_wp2
            go_region
            all_goals go_wp2
            all_goals
              exact bodyPost_ret (v := .agg #[.int .i64 kind, .int .i64 ino, .int .i64 dir, .int .i64 dst, .int .i64 0, .int .i64 0, .string name, .string other, .slice none 0 0]) (by simp [results, Try.results36, go_sem]) rfl ⟨rfl, grow_drewN (grow_alloc (grow_alloc (grow_one _ _) _) _) 1⟩
          · have q5 : (kind == 5) = false := by simpa using h5
            by_cases h6 : kind = 6
            · have q6 : (kind == 6) = true := by simpa using h6
              have hj : (Eff.just ⟨kind, ino, dir, dst, page, size, name, other, A, cp, data⟩) = ⟨kind, ino, 0, 0, 0, size, ⟨#[]⟩, ⟨#[]⟩, none, 0, []⟩ := by unfold Eff.just; simp [h1, h2, h3, h4, h5, h6]
              rw [hj]
              clear hj h1 h2 h3 h4 h5 h6
              unfold Eff.val
              go_enter Try.func36, Try.ntmps36
              go_wp2
              exact bodyPost_ret (v := .agg #[.int .i64 kind, .int .i64 ino, .int .i64 0, .int .i64 0, .int .i64 0, .int .i64 size, .string ⟨#[]⟩, .string ⟨#[]⟩, .slice none 0 0]) (by simp [results, Try.results36, go_sem]) rfl ⟨rfl, grow_alloc (grow_alloc (grow_one _ _) _) _⟩
            · have q6 : (kind == 6) = false := by simpa using h6
              by_cases h7 : kind = 7
              · have q7 : (kind == 7) = true := by simpa using h7
                have hj : (Eff.just ⟨kind, ino, dir, dst, page, size, name, other, A, cp, data⟩) = ⟨kind, ino, 0, 0, page, size, ⟨#[]⟩, ⟨#[]⟩, A, cp, data⟩ := by unfold Eff.just; simp [h1, h2, h3, h4, h5, h6, h7]
                rw [hj]
                clear hj h1 h2 h3 h4 h5 h6 h7
                unfold Eff.val
                go_enter Try.func36, Try.ntmps36
                go_wp2
                go_region
                all_goals go_wp2
                all_goals
                  exact bodyPost_ret (v := .agg #[.int .i64 kind, .int .i64 ino, .int .i64 0, .int .i64 0, .int .i64 page, .int .i64 size, .string ⟨#[]⟩, .string ⟨#[]⟩, .slice A data.length cp]) (by simp [results, Try.results36, go_sem]) rfl ⟨rfl, grow_drewN (grow_alloc (grow_alloc (grow_one _ _) _) _) 1⟩
              · have q7 : (kind == 7) = false := by simpa using h7
                have hj : (Eff.just ⟨kind, ino, dir, dst, page, size, name, other, A, cp, data⟩) = ⟨kind, ino, 0, 0, 0, 0, ⟨#[]⟩, ⟨#[]⟩, none, 0, []⟩ := by unfold Eff.just; simp [h1, h2, h3, h4, h5, h6, h7]
                rw [hj]
                clear hj h1 h2 h3 h4 h5 h6 h7
                unfold Eff.val
                go_enter Try.func36, Try.ntmps36
                go_wp2
                exact bodyPost_ret (v := .agg #[.int .i64 kind, .int .i64 ino, .int .i64 0, .int .i64 0, .int .i64 0, .int .i64 0, .string ⟨#[]⟩, .string ⟨#[]⟩, .slice none 0 0]) (by simp [results, Try.results36, go_sem]) rfl ⟨rfl, grow_alloc (grow_alloc (grow_one _ _) _) _⟩
end Go.Proofs.Ytcimmfhbffofjaa
