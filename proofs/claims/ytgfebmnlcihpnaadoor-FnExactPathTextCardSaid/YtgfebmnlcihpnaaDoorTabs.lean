/- What a row's list of package-level variables gives: the library's table holds its numbers, the two errors of strconv are set. -/
import Derived.Test.YtgfebmnlcihpnaaDoorRows
import Derived.Lib.LaidTab
import Derived.Lib.ItoaNum
import Derived.Stop.LaidErr
import Derived.MakeChecks
namespace Go.Proofs.YtgfebmnlcihpnaaDoor
theorem gPow : Tryd.prog.globalNamed "internal/strconv.uint64pow10" = some 0 := by kernel_rfl
theorem gPowType : (Tryd.prog.globals[0]?).map (·.type) = some 137 := by kernel_rfl
theorem cellsPow : Tryd.prog.cellsOf 137 = 20 := by kernel_rfl
theorem cellsU64 : Tryd.prog.cellsOf 131 = 1 := by kernel_rfl
theorem tabs_pow10 {a b : String × DataW Unit} {r : List (String × DataW Unit)} {W : World} (h : laidMet Tryd.prog (a :: b :: ("internal/strconv.uint64pow10", Rows.laid_internal_strconv_uint64pow10) :: r) W) : Lib.TabIs Tryd.prog W "internal/strconv.uint64pow10" .u64 Lib.pow10Tab :=
  Lib.tabIs_of_head (rest := r) gPow gPowType Tryd.underlying137 Tryd.underlying131 cellsU64 cellsPow h.tail.tail
end Go.Proofs.YtgfebmnlcihpnaaDoor
