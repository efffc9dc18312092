/- A law's head handed to the program: the conversion, the comparison. -/
import Derived.Test.YtblaaiggmhadfaaHead
namespace Go.Proofs.Ytblaaiggmhadfaa
open Go.RowKit
theorem tohead_any (h : Hd) (w : World) : Calls Try.prog 18 #[h.val] w fun e w' => e = .returned h.val ∧ Below w.heap.size w w' := by
  obtain ⟨k, n, x⟩ := h
  go_enter Try.func18, Try.ntmps18
  go_wp2
  refine bodyPost_ret (v := .agg #[.int .i64 k, .int .i64 n, .int .i64 x]) (by simp [results, Try.results18, go_sem]) rfl ⟨rfl, ?_⟩
  exact (((Below.refl _ _).alloc (Nat.le_refl _) _).alloc (by simp) _).alloc (by simp; omega) _
theorem eqhead_same (h : Hd) (w : World) : Calls Try.prog 22 #[h.val, h.val] w fun e w' => e = .returned (.bool true) ∧ Below w.heap.size w w' := by
  obtain ⟨k, n, x⟩ := h
  go_enter Try.func22, Try.ntmps22
  go_wp2
  go_ret
  exact ⟨by simp, (below_box _ _).trans ((below_box _ _).mono (by simp))⟩
end Go.Proofs.Ytblaaiggmhadfaa
