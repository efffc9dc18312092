/- '==' and '!=' on heads. -/
import Derived.Test.YtblaaiggmhadfaaDoorRows
import Derived.Laws.StructEq
import Derived.WalkKit
namespace Go.Proofs.YtblaaiggmhadfaaDoor
open Go.RowKit
theorem hd_equal (n x y N X Y : Int) (w : World) : (Op.equalIn 10000 25 (.agg #[.int .i64 n, .int .i64 x, .int .i64 y]) (.agg #[.int .i64 N, .int .i64 X, .int .i64 Y])).run Tryd.prog w = .ok (n == N && (x == X && y == Y)) w := by
  rw [show (10000 : Nat) = 9998 + 1 + 1 from rfl, run_equalIn_agg w (9998 + 1) 25 _ _ (by kernel_rfl) (by kernel_rfl)]
  simp [Op.eqFields, Program.fieldsOf, Tryd.underlying25, Tryd.underlying3, go_sem]
  by_cases h : n = N <;> by_cases k : x = X <;> by_cases j : y = Y <;> simp [h, k, j]
theorem hd_eql (n x y N X Y : Int) (w : World) : (binOp .eql 25 (.agg #[.int .i64 n, .int .i64 x, .int .i64 y]) (.agg #[.int .i64 N, .int .i64 X, .int .i64 Y])).run Tryd.prog w = .ok (.bool (n == N && (x == X && y == Y))) w := by
  rw [run_eql_struct, hd_equal]; rfl
theorem hd_neq (n x y N X Y : Int) (w : World) : (binOp .neq 25 (.agg #[.int .i64 n, .int .i64 x, .int .i64 y]) (.agg #[.int .i64 N, .int .i64 X, .int .i64 Y])).run Tryd.prog w = .ok (.bool (!(n == N && (x == X && y == Y)))) w := by
  rw [run_neq_struct, hd_equal]; rfl
end Go.Proofs.YtblaaiggmhadfaaDoor
