/- compareFields of the program. -/
import Derived.Test.YtpkmlfmkgodhkaaCmpNum
import Derived.Deep.RegionHeld3
namespace Go.Proofs.Ytpkmlfmkgodhkaa
open Go.RowKit
set_option maxRecDepth 100000
set_option maxHeartbeats 4000000 in
theorem fieldsN (T U : AT) (w : World) (hT : isI T.n ∧ isI T.x) (hU : isI U.n ∧ isI U.x) : Calls Try.prog 126 #[T.val, U.val, .func (.func 92) #[] #[]] w fun e w' => e = .returned (.int .i64 (hdV numV T.k T.n T.x T.s U.k U.n U.x U.s)) ∧ Below w.heap.size w w' := by
  have HN0 := Lib.hid (fun W => nums_impl T U W hT hU)
  clear hT hU
  obtain ⟨k, n, x, s, a, cap, l⟩ := T
  obtain ⟨k2, n2, x2, s2, b, cap2, m⟩ := U
  have HN : Hid (∀ W : World, Calls Try.prog 92 #[.agg #[.int .i64 k, .int .i64 n, .int .i64 x, .string ⟨s.toArray⟩, .slice a l.length cap], .agg #[.int .i64 k2, .int .i64 n2, .int .i64 x2, .string ⟨s2.toArray⟩, .slice b m.length cap2]] W fun e w' => e = .returned (.int .i64 (numV k n x n2 x2)) ∧ Below W.heap.size W w') := Lib.hid HN0.out
  have hI := fun W => compare_int k k2 W
  have hS := fun W => compare_str s s2 W
  have hO := fun W g cap c0 c1 => or_int (numV k n x n2 x2) (cmpS s s2) W g cap c0 c1
  clear HN0
  show Calls Try.prog 126 #[.agg #[.int .i64 k, .int .i64 n, .int .i64 x, .string ⟨s.toArray⟩, .slice a l.length cap], .agg #[.int .i64 k2, .int .i64 n2, .int .i64 x2, .string ⟨s2.toArray⟩, .slice b m.length cap2], .func (.func 92) #[] #[]] w fun e w' => e = .returned (.int .i64 (orI (cmpI k k2) (orI (numV k n x n2 x2) (cmpS s s2)))) ∧ Below w.heap.size w w'
  have hc := vcbox w k n x ⟨s.toArray⟩ a l.length cap k2 n2 x2 ⟨s2.toArray⟩ b m.length cap2 26
  have hB := two' w (.cells #[.int .i64 k, .int .i64 n, .int .i64 x, .string ⟨s.toArray⟩, .slice a l.length cap] 26) (.cells #[.int .i64 k2, .int .i64 n2, .int .i64 x2, .string ⟨s2.toArray⟩, .slice b m.length cap2] 26)
  by_cases hk : k = k2
  · subst hk
    rw [cmpI_zero.2 rfl, orI_zero]
    generalize numV k n x n2 x2 = c1 at *
    generalize cmpS s s2 = c2 at *
    generalize orI c1 c2 = c3 at *
    clear hI
    go_enter Try.func126, Try.ntmps126
    go_wp2_with fail
    generalize ((w.alloc (.cells #[.int .i64 k, .int .i64 n, .int .i64 x, .string ⟨s.toArray⟩, .slice a l.length cap] 26)).alloc (.cells #[.int .i64 k, .int .i64 n2, .int .i64 x2, .string ⟨s2.toArray⟩, .slice b m.length cap2] 26)) = W0 at *
    have HE : Hid (∀ W, Rl W0 W → Below w.heap.size w W) := Lib.hid (fun W h => hB.trans (h.b.mono hB.size))
    obtain ⟨⟨c0, c1, c2, c3, c4⟩, ⟨d0, d1, d2, d3, d4⟩⟩ := hc
    have HK : Hid (∀ W' : World, Rl W0 W' → Rl W0 W' ∧ W0.heap.size ≤ W'.heap.size ∧ W'.cell? ⟨w.heap.size, 0, none⟩ = some (.int .i64 k) ∧ W'.cell? ⟨w.heap.size, 1, none⟩ = some (.int .i64 n) ∧ W'.cell? ⟨w.heap.size, 2, none⟩ = some (.int .i64 x) ∧ W'.cell? ⟨w.heap.size, 3, none⟩ = some (.string ⟨s.toArray⟩) ∧ W'.cell? ⟨w.heap.size, 4, none⟩ = some (.slice a l.length cap) ∧ W'.cell? ⟨w.heap.size + 1, 0, none⟩ = some (.int .i64 k) ∧ W'.cell? ⟨w.heap.size + 1, 1, none⟩ = some (.int .i64 n2) ∧ W'.cell? ⟨w.heap.size + 1, 2, none⟩ = some (.int .i64 x2) ∧ W'.cell? ⟨w.heap.size + 1, 3, none⟩ = some (.string ⟨s2.toArray⟩) ∧ W'.cell? ⟨w.heap.size + 1, 4, none⟩ = some (.slice b m.length cap2)) := Lib.hid (fun W' h => ⟨h, h.z, keep_below h.b c0, keep_below h.b c1, keep_below h.b c2, keep_below h.b c3, keep_below h.b c4, keep_below h.b d0, keep_below h.b d1, keep_below h.b d2, keep_below h.b d3, keep_below h.b d4⟩)
    have h0 := Rl.refl W0
    clear hB
    go_region_held3 (fun W' => Rl W0 W' ∧ W0.heap.size ≤ W'.heap.size ∧ W'.cell? ⟨w.heap.size, 0, none⟩ = some (.int .i64 k) ∧ W'.cell? ⟨w.heap.size, 1, none⟩ = some (.int .i64 n) ∧ W'.cell? ⟨w.heap.size, 2, none⟩ = some (.int .i64 x) ∧ W'.cell? ⟨w.heap.size, 3, none⟩ = some (.string ⟨s.toArray⟩) ∧ W'.cell? ⟨w.heap.size, 4, none⟩ = some (.slice a l.length cap) ∧ W'.cell? ⟨w.heap.size + 1, 0, none⟩ = some (.int .i64 k) ∧ W'.cell? ⟨w.heap.size + 1, 1, none⟩ = some (.int .i64 n2) ∧ W'.cell? ⟨w.heap.size + 1, 2, none⟩ = some (.int .i64 x2) ∧ W'.cell? ⟨w.heap.size + 1, 3, none⟩ = some (.string ⟨s2.toArray⟩) ∧ W'.cell? ⟨w.heap.size + 1, 4, none⟩ = some (.slice b m.length cap2)) ((refine HK.out _ ?_; repeat (first | assumption | refine Rl.drew ?_ | refine Rl.alloc ?_ _))) ((first | (go_at_call 92; go_split_ands; (with_reducible refine (HN.out _).mono ?_); rintro e w1 ⟨rfl, hb1⟩; have hr1 := Rl.below (by assumption) hb1; clear hb1) | (go_at_call 145; refine (hS _).mono ?_; rintro e w' ⟨rfl, rfl⟩) | (go_at_call 134; refine (hO _ _ _ (by simp [go_sem]) (by simp [go_sem])).mono ?_; rintro e w' ⟨rfl, rfl⟩)))
    all_goals
      go_split_ands
      go_wp2
      go_ret
      exact ⟨rfl, HE.out _ (by assumption)⟩
  · have hne : orI (cmpI k k2) (orI (numV k n x n2 x2) (cmpS s s2)) = cmpI k k2 := orI_ne (fun h => hk (cmpI_zero.1 h)) _
    rw [hne]
    have hkn : (k != k2) = true := by simpa using hk
    generalize cmpI k k2 = c1 at *
    go_enter Try.func126, Try.ntmps126
    go_wp2_with (go_at_call 127; refine (hI _).mono ?_; rintro e w' ⟨rfl, rfl⟩)
    go_ret
    exact ⟨rfl, hB⟩
set_option maxHeartbeats 4000000 in
theorem fieldsI (T U : AT) (w : World) : Calls Try.prog 126 #[T.val, U.val, .func (.func 105) #[] #[]] w fun e w' => e = .returned (.int .i64 (hdV plainV T.k T.n T.x T.s U.k U.n U.x U.s)) ∧ Below w.heap.size w w' := by
  have HN0 := Lib.hid (fun W => ints_impl T U W)
  obtain ⟨k, n, x, s, a, cap, l⟩ := T
  obtain ⟨k2, n2, x2, s2, b, cap2, m⟩ := U
  have HN : Hid (∀ W : World, Calls Try.prog 105 #[.agg #[.int .i64 k, .int .i64 n, .int .i64 x, .string ⟨s.toArray⟩, .slice a l.length cap], .agg #[.int .i64 k2, .int .i64 n2, .int .i64 x2, .string ⟨s2.toArray⟩, .slice b m.length cap2]] W fun e w' => e = .returned (.int .i64 (plainV k n x n2 x2)) ∧ Below W.heap.size W w') := Lib.hid HN0.out
  have hI := fun W => compare_int k k2 W
  have hS := fun W => compare_str s s2 W
  have hO := fun W g cap c0 c1 => or_int (plainV k n x n2 x2) (cmpS s s2) W g cap c0 c1
  clear HN0
  show Calls Try.prog 126 #[.agg #[.int .i64 k, .int .i64 n, .int .i64 x, .string ⟨s.toArray⟩, .slice a l.length cap], .agg #[.int .i64 k2, .int .i64 n2, .int .i64 x2, .string ⟨s2.toArray⟩, .slice b m.length cap2], .func (.func 105) #[] #[]] w fun e w' => e = .returned (.int .i64 (orI (cmpI k k2) (orI (plainV k n x n2 x2) (cmpS s s2)))) ∧ Below w.heap.size w w'
  have hc := vcbox w k n x ⟨s.toArray⟩ a l.length cap k2 n2 x2 ⟨s2.toArray⟩ b m.length cap2 26
  have hB := two' w (.cells #[.int .i64 k, .int .i64 n, .int .i64 x, .string ⟨s.toArray⟩, .slice a l.length cap] 26) (.cells #[.int .i64 k2, .int .i64 n2, .int .i64 x2, .string ⟨s2.toArray⟩, .slice b m.length cap2] 26)
  by_cases hk : k = k2
  · subst hk
    rw [cmpI_zero.2 rfl, orI_zero]
    generalize plainV k n x n2 x2 = c1 at *
    generalize cmpS s s2 = c2 at *
    generalize orI c1 c2 = c3 at *
    clear hI
    go_enter Try.func126, Try.ntmps126
    go_wp2_with fail
    generalize ((w.alloc (.cells #[.int .i64 k, .int .i64 n, .int .i64 x, .string ⟨s.toArray⟩, .slice a l.length cap] 26)).alloc (.cells #[.int .i64 k, .int .i64 n2, .int .i64 x2, .string ⟨s2.toArray⟩, .slice b m.length cap2] 26)) = W0 at *
    have HE : Hid (∀ W, Rl W0 W → Below w.heap.size w W) := Lib.hid (fun W h => hB.trans (h.b.mono hB.size))
    obtain ⟨⟨c0, c1, c2, c3, c4⟩, ⟨d0, d1, d2, d3, d4⟩⟩ := hc
    have HK : Hid (∀ W' : World, Rl W0 W' → Rl W0 W' ∧ W0.heap.size ≤ W'.heap.size ∧ W'.cell? ⟨w.heap.size, 0, none⟩ = some (.int .i64 k) ∧ W'.cell? ⟨w.heap.size, 1, none⟩ = some (.int .i64 n) ∧ W'.cell? ⟨w.heap.size, 2, none⟩ = some (.int .i64 x) ∧ W'.cell? ⟨w.heap.size, 3, none⟩ = some (.string ⟨s.toArray⟩) ∧ W'.cell? ⟨w.heap.size, 4, none⟩ = some (.slice a l.length cap) ∧ W'.cell? ⟨w.heap.size + 1, 0, none⟩ = some (.int .i64 k) ∧ W'.cell? ⟨w.heap.size + 1, 1, none⟩ = some (.int .i64 n2) ∧ W'.cell? ⟨w.heap.size + 1, 2, none⟩ = some (.int .i64 x2) ∧ W'.cell? ⟨w.heap.size + 1, 3, none⟩ = some (.string ⟨s2.toArray⟩) ∧ W'.cell? ⟨w.heap.size + 1, 4, none⟩ = some (.slice b m.length cap2)) := Lib.hid (fun W' h => ⟨h, h.z, keep_below h.b c0, keep_below h.b c1, keep_below h.b c2, keep_below h.b c3, keep_below h.b c4, keep_below h.b d0, keep_below h.b d1, keep_below h.b d2, keep_below h.b d3, keep_below h.b d4⟩)
    have h0 := Rl.refl W0
    clear hB
    go_region_held3 (fun W' => Rl W0 W' ∧ W0.heap.size ≤ W'.heap.size ∧ W'.cell? ⟨w.heap.size, 0, none⟩ = some (.int .i64 k) ∧ W'.cell? ⟨w.heap.size, 1, none⟩ = some (.int .i64 n) ∧ W'.cell? ⟨w.heap.size, 2, none⟩ = some (.int .i64 x) ∧ W'.cell? ⟨w.heap.size, 3, none⟩ = some (.string ⟨s.toArray⟩) ∧ W'.cell? ⟨w.heap.size, 4, none⟩ = some (.slice a l.length cap) ∧ W'.cell? ⟨w.heap.size + 1, 0, none⟩ = some (.int .i64 k) ∧ W'.cell? ⟨w.heap.size + 1, 1, none⟩ = some (.int .i64 n2) ∧ W'.cell? ⟨w.heap.size + 1, 2, none⟩ = some (.int .i64 x2) ∧ W'.cell? ⟨w.heap.size + 1, 3, none⟩ = some (.string ⟨s2.toArray⟩) ∧ W'.cell? ⟨w.heap.size + 1, 4, none⟩ = some (.slice b m.length cap2)) ((refine HK.out _ ?_; repeat (first | assumption | refine Rl.drew ?_ | refine Rl.alloc ?_ _))) ((first | (go_at_call 105; go_split_ands; (with_reducible refine (HN.out _).mono ?_); rintro e w1 ⟨rfl, hb1⟩; have hr1 := Rl.below (by assumption) hb1; clear hb1) | (go_at_call 145; refine (hS _).mono ?_; rintro e w' ⟨rfl, rfl⟩) | (go_at_call 134; refine (hO _ _ _ (by simp [go_sem]) (by simp [go_sem])).mono ?_; rintro e w' ⟨rfl, rfl⟩)))
    all_goals
      go_split_ands
      go_wp2
      go_ret
      exact ⟨rfl, HE.out _ (by assumption)⟩
  · have hne : orI (cmpI k k2) (orI (plainV k n x n2 x2) (cmpS s s2)) = cmpI k k2 := orI_ne (fun h => hk (cmpI_zero.1 h)) _
    rw [hne]
    have hkn : (k != k2) = true := by simpa using hk
    generalize cmpI k k2 = c1 at *
    go_enter Try.func126, Try.ntmps126
    go_wp2_with (go_at_call 127; refine (hI _).mono ?_; rintro e w' ⟨rfl, rfl⟩)
    go_ret
    exact ⟨rfl, hB⟩
end Go.Proofs.Ytpkmlfmkgodhkaa
