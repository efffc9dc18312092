/- A law's head handed to the program: the conversion, the comparison. -/
import Derived.Test.YtblaaiggmhadfaaDoorHead
namespace Go.Proofs.YtblaaiggmhadfaaDoor
open Go.RowKit
theorem tohead_any (h : Hd) (w : World) : Calls Tryd.prog 19 #[h.val] w fun e w' => e = .returned h.val ∧ Below w.heap.size w w' := by
  obtain ⟨k, n, x⟩ := h
  go_enter Tryd.func19, Tryd.ntmps19
  go_wp2
  refine bodyPost_ret (v := .agg #[.int .i64 k, .int .i64 n, .int .i64 x]) (by simp [results, Tryd.results19, go_sem]) rfl ⟨rfl, ?_⟩
  exact (((Below.refl _ _).alloc (Nat.le_refl _) _).alloc (by simp) _).alloc (by simp; omega) _
end Go.Proofs.YtblaaiggmhadfaaDoor
