/- '==' and '!=' on decimal numbers. -/
import Derived.Test.YtgfebmnlcihpnaaRows
import Derived.Laws.StructEq
import Derived.WalkKit
namespace Go.Proofs.Ytgfebmnlcihpnaa
open Go.RowKit
theorem dec_equal (n x N X : Int) (w : World) : (Op.equalIn 10000 34 (.agg #[.int .i64 n, .int .i64 x]) (.agg #[.int .i64 N, .int .i64 X])).run Try.prog w = .ok (n == N && x == X) w := by
  rw [show (10000 : Nat) = 9998 + 1 + 1 from rfl, run_equalIn_agg w (9998 + 1) 34 _ _ (by kernel_rfl) (by kernel_rfl)]
  simp [Op.eqFields, Program.fieldsOf, Try.underlying34, Try.underlying3, go_sem]
  by_cases h : n = N <;> by_cases k : x = X <;> simp [h, k]
theorem dec_eql (n x N X : Int) (w : World) : (binOp .eql 34 (.agg #[.int .i64 n, .int .i64 x]) (.agg #[.int .i64 N, .int .i64 X])).run Try.prog w = .ok (.bool (n == N && x == X)) w := by
  rw [run_eql_struct, dec_equal]; rfl
theorem dec_neq (n x N X : Int) (w : World) : (binOp .neq 34 (.agg #[.int .i64 n, .int .i64 x]) (.agg #[.int .i64 N, .int .i64 X])).run Try.prog w = .ok (.bool (!(n == N && x == X))) w := by
  rw [run_neq_struct, dec_equal]; rfl
end Go.Proofs.Ytgfebmnlcihpnaa
