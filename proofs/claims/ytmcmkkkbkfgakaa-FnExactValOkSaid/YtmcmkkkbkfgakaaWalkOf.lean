/- The program's walk begun: walkOf. -/
import Derived.Test.YtmcmkkkbkfgakaaWalk
namespace Go.Proofs.Ytmcmkkkbkfgakaa
open Go.RowKit
theorem walkof_any (T : AT) (w : World) (N : Nat) (hin : T.In w N) (hN : N ≤ w.heap.size) :
    Calls Try.prog 61 #[T.val] w fun e w' => e = .returned (.pointer (some ⟨w.heap.size + 3, 0, none⟩)) ∧ WalkAt w' (w.heap.size + 2) (w.heap.size + 2) (w.heap.size + 3) (w.heap.size + 2) 1 [⟨some ⟨w.heap.size + 1, 0, none⟩, 1, [T]⟩] 0 ∧ Below w.heap.size w w' ∧ w'.heap.size = w.heap.size + 4 := by
  have H := Lib.hid hin
  clear hin
  obtain ⟨k, n, x, s, a, cap, l⟩ := T
  show Calls Try.prog 61 #[.agg #[.int .i64 k, .int .i64 n, .int .i64 x, .string ⟨s.toArray⟩, .slice a l.length cap]] w _
  go_enter Try.func61, Try.ntmps61
  go_wp2
  go_ret
  have hb : Below w.heap.size w ((((w.alloc (.cells #[.int .i64 k, .int .i64 n, .int .i64 x, .string ⟨s.toArray⟩, .slice a l.length cap] 26)).alloc (.cells #[.int .i64 k, .int .i64 n, .int .i64 x, .string ⟨s.toArray⟩, .slice a l.length cap] 26)).alloc (.cells #[.slice (some ⟨w.heap.size + 1, 0, none⟩) 1 1] 24)).alloc (.cells #[.slice (some ⟨w.heap.size + 1 + 1, 0, none⟩) 1 1, .int .i64 0] 87)) :=
    ((((Below.refl _ _).alloc (Nat.le_refl _) _).alloc (by simp) _).alloc (by simp; omega) _).alloc (by simp; omega) _
  refine ⟨rfl, ?_, hb, by simp⟩
  exact {
    rest := by simp [go_sem]
    deep := by simp [go_sem]
    fr := fun o => by simp [go_sem]
    row := by
      refine ⟨rfl, .inr ⟨w.heap.size + 2, 1, #[.slice (some ⟨w.heap.size + 1, 0, none⟩) 1 1], rfl, Nat.le_refl _, ?_, Nat.le_refl _, by unfold maxLen; omega, rfl, rfl⟩⟩
      rw [Below.heap_alloc _ _ _ (by simp)]
      have := heap_alloc_new ((w.alloc (.cells #[.int .i64 k, .int .i64 n, .int .i64 x, .string ⟨s.toArray⟩, .slice a l.length cap] 26)).alloc (.cells #[.int .i64 k, .int .i64 n, .int .i64 x, .string ⟨s.toArray⟩, .slice a l.length cap] 26)) (.cells #[.slice (some ⟨w.heap.size + 1, 0, none⟩) 1 1] 24)
      simpa using this
    pB := by omega
    pN := Nat.le_refl _
    ne := by omega
    lv := fun L hL => by
      obtain rfl : L = ⟨some ⟨w.heap.size + 1, 0, none⟩, 1, [.mk k n x s a cap l]⟩ := by simpa using hL
      refine ⟨Nat.le_refl _, fun j hj => ⟨w.heap.size + 1, 0, rfl, by omega, ?_⟩, fun t ht => ?_⟩
      · obtain rfl : j = 0 := by simp at hj; exact hj
        refine ⟨?_, ?_, ?_, ?_, ?_⟩ <;> simp [go_sem, AT.k, AT.n, AT.x, AT.s, AT.a, AT.cap, AT.l]
      · obtain rfl : t = .mk k n x s a cap l := by simpa using ht
        exact (H.out.blw hb hN).mono (by omega) }
end Go.Proofs.Ytmcmkkkbkfgakaa
