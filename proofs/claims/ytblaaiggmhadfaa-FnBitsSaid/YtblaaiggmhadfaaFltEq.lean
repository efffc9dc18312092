/- '==' and '!=' on floating-point numbers. -/
import Derived.Test.YtblaaiggmhadfaaRows
import Derived.Laws.StructEq
import Derived.WalkKit
namespace Go.Proofs.Ytblaaiggmhadfaa
open Go.RowKit
theorem flt_equal (n x N X : Int) (w : World) : (Op.equalIn 10000 25 (.agg #[.int .i64 n, .int .i64 x]) (.agg #[.int .i64 N, .int .i64 X])).run Try.prog w = .ok (n == N && x == X) w := by
  rw [show (10000 : Nat) = 9998 + 1 + 1 from rfl, run_equalIn_agg w (9998 + 1) 25 _ _ (by kernel_rfl) (by kernel_rfl)]
  simp [Op.eqFields, Program.fieldsOf, Try.underlying25, Try.underlying3, go_sem]
  by_cases h : n = N <;> by_cases k : x = X <;> simp [h, k]
theorem flt_eql (n x N X : Int) (w : World) : (binOp .eql 25 (.agg #[.int .i64 n, .int .i64 x]) (.agg #[.int .i64 N, .int .i64 X])).run Try.prog w = .ok (.bool (n == N && x == X)) w := by
  rw [run_eql_struct, flt_equal]; rfl
theorem flt_neq (n x N X : Int) (w : World) : (binOp .neq 25 (.agg #[.int .i64 n, .int .i64 x]) (.agg #[.int .i64 N, .int .i64 X])).run Try.prog w = .ok (.bool (!(n == N && x == X))) w := by
  rw [run_neq_struct, flt_equal]; rfl
end Go.Proofs.Ytblaaiggmhadfaa
