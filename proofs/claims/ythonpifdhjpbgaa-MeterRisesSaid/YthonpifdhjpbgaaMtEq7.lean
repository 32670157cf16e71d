import Derived.Test.YthonpifdhjpbgaaMtCount
import Derived.Laws.StructEq
namespace Go.Proofs.Ythonpifdhjpbgaa
open Wd So Go.ChangeShapes Go.WideShapes Go.RowKit

theorem eq7 (a0 a1 a2 a3 a4 a5 a6 : Int) (w : World) : Sem.run Try.prog (Op.equalIn 10000 33 (.agg #[.int .i64 a0, .int .i64 a1, .int .i64 a2, .int .i64 a3, .int .i64 a4, .int .i64 a5, .int .i64 a6]) (.agg #[.int .i64 a0, .int .i64 a1, .int .i64 a2, .int .i64 a3, .int .i64 a4, .int .i64 a5, .int .i64 a6])) w = .ok true w := by
  have h1 : ∀ (a : Int) (w : World), Sem.run Try.prog (Op.equalIn 9999 3 (.int .i64 a) (.int .i64 a)) w = .ok true w := fun a w => by
    have := run_equalIn_int (P := Try.prog) w 9998 3 .i64 .i64 a a Try.underlying3
    rw [beq_self_eq_true] at this
    exact this
  rw [show (10000 : Nat) = 9999 + 1 from rfl, Op.equalIn]
  simp only [Sem.run_bind, run_underlying Try.underlying33, Result.andThen_ok]
  simp [Std.Legacy.Range.forIn_eq_forIn_range', Std.Legacy.Range.size, List.range', h1, go_sem]
end Go.Proofs.Ythonpifdhjpbgaa
