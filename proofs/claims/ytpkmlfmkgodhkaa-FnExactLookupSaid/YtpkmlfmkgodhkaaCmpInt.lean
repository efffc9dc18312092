/- compareIntegers of the program, l7Plain of the model. -/
import Derived.Test.YtpkmlfmkgodhkaaCmpFn
import Derived.Test.YtpkmlfmkgodhkaaSameSpec
import Derived.Test.YtpkmlfmkgodhkaaKeepVal
import Derived.StillTailTactics
namespace Go.Proofs.Ytpkmlfmkgodhkaa
open Go.RowKit
set_option maxRecDepth 100000
set_option maxHeartbeats 4000000 in
theorem ints_impl (T U : AT) (w : World) : Calls Try.prog 105 #[T.val, U.val] w fun e w' => e = .returned (.int .i64 (plainV T.k T.n T.x U.n U.x)) ∧ Below w.heap.size w w' := by
  obtain ⟨k, n, x, s, a, cap, l⟩ := T
  obtain ⟨k2, n2, x2, s2, b, cap2, m⟩ := U
  show Calls Try.prog 105 #[.agg #[.int .i64 k, .int .i64 n, .int .i64 x, .string ⟨s.toArray⟩, .slice a l.length cap], .agg #[.int .i64 k2, .int .i64 n2, .int .i64 x2, .string ⟨s2.toArray⟩, .slice b m.length cap2]] w fun e w' => e = .returned (.int .i64 (orI (cmpI n n2) (cmpI x x2))) ∧ Below w.heap.size w w'
  have h1 := fun W => (compare_int n n2 W).mono (fun e w' h => (⟨h.1, h.2.symm⟩ : e = .returned (.int .i64 (cmpI n n2)) ∧ w' = W))
  have h2 := fun W => (compare_int x x2 W).mono (fun e w' h => (⟨h.1, h.2.symm⟩ : e = .returned (.int .i64 (cmpI x x2)) ∧ w' = W))
  have h3 := fun W g cap c0 c1 => or_int (cmpI n n2) (cmpI x x2) W g cap c0 c1
  generalize cmpI n n2 = c1 at *
  generalize cmpI x x2 = c2 at *
  generalize orI c1 c2 = c3 at *
  go_enter Try.func105, Try.ntmps105
  go_wp2_with fail
  have hB := two' w (.cells #[.int .i64 k, .int .i64 n, .int .i64 x, .string ⟨s.toArray⟩, .slice a l.length cap] 26) (.cells #[.int .i64 k2, .int .i64 n2, .int .i64 x2, .string ⟨s2.toArray⟩, .slice b m.length cap2] 26)
  have hc : ((w.alloc (.cells #[.int .i64 k, .int .i64 n, .int .i64 x, .string ⟨s.toArray⟩, .slice a l.length cap] 26)).alloc (.cells #[.int .i64 k2, .int .i64 n2, .int .i64 x2, .string ⟨s2.toArray⟩, .slice b m.length cap2] 26)).cell? ⟨w.heap.size, 1, none⟩ = some (.int .i64 n) ∧ ((w.alloc (.cells #[.int .i64 k, .int .i64 n, .int .i64 x, .string ⟨s.toArray⟩, .slice a l.length cap] 26)).alloc (.cells #[.int .i64 k2, .int .i64 n2, .int .i64 x2, .string ⟨s2.toArray⟩, .slice b m.length cap2] 26)).cell? ⟨w.heap.size, 2, none⟩ = some (.int .i64 x) ∧ ((w.alloc (.cells #[.int .i64 k, .int .i64 n, .int .i64 x, .string ⟨s.toArray⟩, .slice a l.length cap] 26)).alloc (.cells #[.int .i64 k2, .int .i64 n2, .int .i64 x2, .string ⟨s2.toArray⟩, .slice b m.length cap2] 26)).cell? ⟨w.heap.size + 1, 1, none⟩ = some (.int .i64 n2) ∧ ((w.alloc (.cells #[.int .i64 k, .int .i64 n, .int .i64 x, .string ⟨s.toArray⟩, .slice a l.length cap] 26)).alloc (.cells #[.int .i64 k2, .int .i64 n2, .int .i64 x2, .string ⟨s2.toArray⟩, .slice b m.length cap2] 26)).cell? ⟨w.heap.size + 1, 2, none⟩ = some (.int .i64 x2) := by refine ⟨?_, ?_, ?_, ?_⟩ <;> simp [go_sem]
  generalize ((w.alloc (.cells #[.int .i64 k, .int .i64 n, .int .i64 x, .string ⟨s.toArray⟩, .slice a l.length cap] 26)).alloc (.cells #[.int .i64 k2, .int .i64 n2, .int .i64 x2, .string ⟨s2.toArray⟩, .slice b m.length cap2] 26)) = W0 at *
  obtain ⟨e1, e2, e3, e4⟩ := hc
  replace hB := hB.drew
  refine wp_region_still_tail 10 (by kernel_rfl) (by kernel_rfl) ?_
  simp only [List.take_succ_cons, List.take_zero, List.drop_succ_cons, List.drop_zero]
  still_step
  still_step
  still_step
  still_step
  still_call (h1 _)
  still_step
  still_step
  still_step
  still_step
  still_call (h2 _)
  refine wpStill_nil ?_
  change wpList _ _ _ _ _ (World.drew _)
  generalize (World.drew _) = w2 at *
  go_wp2_with (go_at_call 134; refine (h3 _ _ _ (by simp [go_sem]) (by simp [go_sem])).mono ?_; rintro e w' ⟨rfl, rfl⟩)
  go_ret
  exact ⟨rfl, hB.alloc hB.size _⟩
end Go.Proofs.Ytpkmlfmkgodhkaa
