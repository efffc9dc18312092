/- A law's floating-point number handed to the program: the conversion, the comparison. -/
import Derived.Test.YtjfjbocaplpdfaaDoorFltOk
namespace Go.Proofs.YtjfjbocaplpdfaaDoor
open Go.RowKit
theorem toflt_any (n x : Int) (w : World) : Calls Tryd.prog 23 #[.agg #[.int .i64 n, .int .i64 x]] w fun e w' => e = .returned (.agg #[.int .i64 n, .int .i64 x]) ∧ Below w.heap.size w w' := by
  go_enter Tryd.func23, Tryd.ntmps23
  go_wp2
  refine bodyPost_ret (v := .agg #[.int .i64 n, .int .i64 x]) (by simp [results, Tryd.results23, go_sem]) rfl ⟨rfl, ?_⟩
  exact (((Below.refl _ _).alloc (Nat.le_refl _) _).alloc (by simp) _).alloc (by simp; omega) _
end Go.Proofs.YtjfjbocaplpdfaaDoor
