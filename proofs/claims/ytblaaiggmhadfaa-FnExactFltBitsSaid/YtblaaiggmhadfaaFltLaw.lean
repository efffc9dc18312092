/- A law's floating-point number handed to the program: the conversion, the comparison. -/
import Derived.Test.YtblaaiggmhadfaaFltOk
namespace Go.Proofs.Ytblaaiggmhadfaa
open Go.RowKit
theorem toflt_any (n x : Int) (w : World) : Calls Try.prog 27 #[.agg #[.int .i64 n, .int .i64 x]] w fun e w' => e = .returned (.agg #[.int .i64 n, .int .i64 x]) ∧ Below w.heap.size w w' := by
  go_enter Try.func27, Try.ntmps27
  go_wp2
  refine bodyPost_ret (v := .agg #[.int .i64 n, .int .i64 x]) (by simp [results, Try.results27, go_sem]) rfl ⟨rfl, ?_⟩
  exact (((Below.refl _ _).alloc (Nat.le_refl _) _).alloc (by simp) _).alloc (by simp; omega) _
theorem eqflt_any (n x N X : Int) (w : World) : Calls Try.prog 28 #[.agg #[.int .i64 n, .int .i64 x], .agg #[.int .i64 N, .int .i64 X]] w fun e w' => e = .returned (.bool (n == N && x == X)) ∧ Below w.heap.size w w' := by
  by_cases h1 : n = N
  · by_cases h2 : x = X
    · subst h1 h2
      go_enter Try.func28, Try.ntmps28
      go_wp2
      go_ret
      exact ⟨by simp, (fbox _ _).trans ((fbox _ _).mono (by simp))⟩
    · subst h1
      have e : (x != X) = true := by simpa using h2
      have e2 : (n == n && x == X) = false := by simpa using h2
      rw [e2]
      clear e2
      go_enter Try.func28, Try.ntmps28
      go_wp2
      go_ret
      exact ⟨rfl, (fbox _ _).trans ((fbox _ _).mono (by simp))⟩
  · have e : (n != N) = true := by simpa using h1
    have e2 : (n == N && x == X) = false := by simp [h1]
    rw [e2]
    clear e2
    go_enter Try.func28, Try.ntmps28
    go_wp2
    go_ret
    exact ⟨rfl, (fbox _ _).trans ((fbox _ _).mono (by simp))⟩
end Go.Proofs.Ytblaaiggmhadfaa
