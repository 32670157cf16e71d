import Derived.Test.YtcmgngjafnpnoaaFdX
namespace Go.Proofs.Ytcmgngjafnpnoaa
open Wd Go.RowKit Go.ChangeShapes Go.WideShapes Go.ChangeAt Go.Deep Go.Sort
set_option linter.unusedVariables false
set_option maxRecDepth 100000
theorem info27 : (Try.prog.info? 27).map (·.size) = some 3 := by kernel_rfl
theorem idx_at {T : List Opn} {j : Nat} {o : Opn} (hk : T[j]? = some o) (hj : j < 16) (w : World) : (Instr.index 28 (.agg (ocells T).toArray) (.int .i64 (j : Int))).run Try.prog w = .ok o.val w := by
  have he := ocells_ext hk
  have hs : (sizeOf 27).run Try.prog w = .ok 3 w := by
    have h := info27
    cases hq : Try.prog.info? 27 with
    | none => rw [hq] at h; cases h
    | some i => rw [hq] at h; simp at h; simp [sizeOf, typeInfo, hq, h]
  have ha : (isAgg 27).run Try.prog w = .ok true w := by
    unfold isAgg
    rw [Sem.run_bind, run_underlying Try.underlying27 w]
    rfl
  unfold Instr.index
  have he2 : (List.take 3 (List.drop (j * 3) (ocells T))).toArray = #[.int .i64 o.ino, .int .i64 o.off, .int .i64 o.fl] := by rw [← he]; simp
  simp [run_underlying Try.underlying28, asIntOf, part, Result.andThen, hs, ha, go_sem]
  rw [if_pos hj, he2]
  rfl
end Go.Proofs.Ytcmgngjafnpnoaa
