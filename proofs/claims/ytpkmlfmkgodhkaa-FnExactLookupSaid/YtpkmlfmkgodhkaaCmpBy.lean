/- compareBy of the program, at floating-point and at decimal numbers; l7Plain of the model. -/
import Derived.Test.YtpkmlfmkgodhkaaCmpInt
import Derived.Test.YtpkmlfmkgodhkaaLessFlt
namespace Go.Proofs.Ytpkmlfmkgodhkaa
open Go.RowKit
set_option maxRecDepth 100000
def isI (n : Int) : Prop := -9223372036854775808 ≤ n ∧ n ≤ 9223372036854775807
theorem byflt_impl (m e M E : Int) (w : World) (h0 : isI m) (k0 : isI e) (H0 : isI M) (K0 : isI E) :
    Calls Try.prog 128 #[.agg #[.int .i64 m, .int .i64 e], .agg #[.int .i64 M, .int .i64 E], .func (.func 129) #[] #[]] w fun r w' => r = .returned (.int .i64 (byV (lessF m e M E) (lessF M E m e))) ∧ Below w.heap.size w w' := by
  obtain ⟨W0, hW⟩ : ∃ W0 : World, W0 = (w.alloc (.cells #[.int .i64 m, .int .i64 e] 78)).alloc (.cells #[.int .i64 M, .int .i64 E] 78) := ⟨_, rfl⟩
  have hcells : ∀ W', Below W0.heap.size W0 W' → W'.cell? ⟨w.heap.size, 0, none⟩ = some (.int .i64 m) ∧ W'.cell? ⟨w.heap.size, 1, none⟩ = some (.int .i64 e) ∧ W'.cell? ⟨w.heap.size + 1, 0, none⟩ = some (.int .i64 M) ∧ W'.cell? ⟨w.heap.size + 1, 1, none⟩ = some (.int .i64 E) := fun W' hb => by
    subst hW
    exact ⟨(hb.cell (p := ⟨w.heap.size, 0, none⟩) (by simp; omega)).trans (by simp [go_sem]), (hb.cell (p := ⟨w.heap.size, 1, none⟩) (by simp; omega)).trans (by simp [go_sem]), (hb.cell (p := ⟨w.heap.size + 1, 0, none⟩) (by simp)).trans (by simp [go_sem]), (hb.cell (p := ⟨w.heap.size + 1, 1, none⟩) (by simp)).trans (by simp [go_sem])⟩
  have hend : ∀ W', Below W0.heap.size W0 W' → Below w.heap.size w W' := fun W' hb => by
    subst hW
    exact ((Below.refl _ _).alloc (Nat.le_refl _) _).alloc (by simp) _ |>.trans (hb.mono (by simp; omega))
  have hB := Below.refl W0.heap.size W0
  have hN := Nat.le_refl W0.heap.size
  have ca := relCall (fun W => lessflt_impl m e M E W h0.1 h0.2 k0.1 k0.2 H0.1 H0.2 K0.1 K0.2) (N := W0.heap.size) (W0 := W0)
  have cb := relCall (fun W => lessflt_impl M E m e W H0.1 H0.2 K0.1 K0.2 h0.1 h0.2 k0.1 k0.2) (N := W0.heap.size) (W0 := W0)
  clear h0 k0 H0 K0
  generalize lessF m e M E = L at *
  generalize lessF M E m e = R at *
  obtain ⟨_, _, _, _⟩ := hcells _ hB
  cases L
  · go_enter Try.func128, Try.ntmps128
    go_wp2_with fail
    rw [← hW]
    go_wp2_with fail
    refine (ca _ hB hN).mono ?_
    clear hB hN
    rintro r w' ⟨rfl, hB, hN⟩
    obtain ⟨_, _, _, _⟩ := hcells _ hB
    go_wp2_with fail
    refine (cb _ hB hN).mono ?_
    clear hB hN
    rintro r w' ⟨rfl, hB, hN⟩
    cases R
    all_goals
      go_wp2
      go_ret
      exact ⟨rfl, hend _ hB⟩
  · go_enter Try.func128, Try.ntmps128
    go_wp2_with fail
    rw [← hW]
    go_wp2_with fail
    refine (ca _ hB hN).mono ?_
    clear hB hN
    rintro r w' ⟨rfl, hB, hN⟩
    go_wp2
    go_ret
    exact ⟨rfl, hend _ hB⟩
theorem bydec_impl (m e M E : Int) (w : World) (h0 : isI m) (H0 : isI M) :
    Calls Try.prog 130 #[.agg #[.int .i64 m, .int .i64 e], .agg #[.int .i64 M, .int .i64 E], .func (.func 131) #[] #[]] w fun r w' => r = .returned (.int .i64 (byV (lessB m e M E) (lessB M E m e))) ∧ Below w.heap.size w w' := by
  obtain ⟨W0, hW⟩ : ∃ W0 : World, W0 = (w.alloc (.cells #[.int .i64 m, .int .i64 e] 34)).alloc (.cells #[.int .i64 M, .int .i64 E] 34) := ⟨_, rfl⟩
  have hcells : ∀ W', Below W0.heap.size W0 W' → W'.cell? ⟨w.heap.size, 0, none⟩ = some (.int .i64 m) ∧ W'.cell? ⟨w.heap.size, 1, none⟩ = some (.int .i64 e) ∧ W'.cell? ⟨w.heap.size + 1, 0, none⟩ = some (.int .i64 M) ∧ W'.cell? ⟨w.heap.size + 1, 1, none⟩ = some (.int .i64 E) := fun W' hb => by
    subst hW
    exact ⟨(hb.cell (p := ⟨w.heap.size, 0, none⟩) (by simp; omega)).trans (by simp [go_sem]), (hb.cell (p := ⟨w.heap.size, 1, none⟩) (by simp; omega)).trans (by simp [go_sem]), (hb.cell (p := ⟨w.heap.size + 1, 0, none⟩) (by simp)).trans (by simp [go_sem]), (hb.cell (p := ⟨w.heap.size + 1, 1, none⟩) (by simp)).trans (by simp [go_sem])⟩
  have hend : ∀ W', Below W0.heap.size W0 W' → Below w.heap.size w W' := fun W' hb => by
    subst hW
    exact ((Below.refl _ _).alloc (Nat.le_refl _) _).alloc (by simp) _ |>.trans (hb.mono (by simp; omega))
  have hB := Below.refl W0.heap.size W0
  have hN := Nat.le_refl W0.heap.size
  have ca := relCall (fun W => less_impl m e M E W h0.1 h0.2 H0.1 H0.2) (N := W0.heap.size) (W0 := W0)
  have cb := relCall (fun W => less_impl M E m e W H0.1 H0.2 h0.1 h0.2) (N := W0.heap.size) (W0 := W0)
  clear h0 H0
  generalize lessB m e M E = L at *
  generalize lessB M E m e = R at *
  obtain ⟨_, _, _, _⟩ := hcells _ hB
  cases L
  · go_enter Try.func130, Try.ntmps130
    go_wp2_with fail
    rw [← hW]
    go_wp2_with fail
    refine (ca _ hB hN).mono ?_
    clear hB hN
    rintro r w' ⟨rfl, hB, hN⟩
    obtain ⟨_, _, _, _⟩ := hcells _ hB
    go_wp2_with fail
    refine (cb _ hB hN).mono ?_
    clear hB hN
    rintro r w' ⟨rfl, hB, hN⟩
    cases R
    all_goals
      go_wp2
      go_ret
      exact ⟨rfl, hend _ hB⟩
  · go_enter Try.func130, Try.ntmps130
    go_wp2_with fail
    rw [← hW]
    go_wp2_with fail
    refine (ca _ hB hN).mono ?_
    clear hB hN
    rintro r w' ⟨rfl, hB, hN⟩
    go_wp2
    go_ret
    exact ⟨rfl, hend _ hB⟩
theorem plain_spec (T U : AT) (w : World) : Calls Try.prog 151 #[T.val, U.val] w fun e w' => e = .returned (.int .i64 (plainV T.k T.n T.x U.n U.x)) ∧ Below w.heap.size w w' := by
  obtain ⟨k, n, x, s, a, cap, l⟩ := T
  obtain ⟨k2, n2, x2, s2, b, cap2, m⟩ := U
  show Calls Try.prog 151 #[.agg #[.int .i64 k, .int .i64 n, .int .i64 x, .string ⟨s.toArray⟩, .slice a l.length cap], .agg #[.int .i64 k2, .int .i64 n2, .int .i64 x2, .string ⟨s2.toArray⟩, .slice b m.length cap2]] w fun e w' => e = .returned (.int .i64 (orI (cmpI n n2) (cmpI x x2))) ∧ Below w.heap.size w w'
  rcases Int.lt_trichotomy n n2 with h | h | h
  · rw [show orI (cmpI n n2) (cmpI x x2) = -1 by rw [orI_ne]; exact if_pos h; rw [show cmpI n n2 = -1 from if_pos h]; decide]
    go_enter Try.func151, Try.ntmps151
    go_wp2
    go_ret
    exact ⟨rfl, two' _ _ _⟩
  · subst h
    rw [show orI (cmpI n n) (cmpI x x2) = cmpI x x2 by rw [cmpI_zero.2 rfl]; rfl]
    rcases Int.lt_trichotomy x x2 with h | h | h
    · rw [show cmpI x x2 = -1 from if_pos h]
      go_enter Try.func151, Try.ntmps151
      go_wp2
      go_ret
      exact ⟨rfl, two' _ _ _⟩
    · subst h
      rw [cmpI_zero.2 rfl]
      go_enter Try.func151, Try.ntmps151
      go_wp2
      go_ret
      exact ⟨rfl, two' _ _ _⟩
    · rw [show cmpI x x2 = 1 by unfold cmpI; rw [if_neg (by omega), if_pos h]]
      have h2 : ¬ x < x2 := by omega
      go_enter Try.func151, Try.ntmps151
      go_wp2
      go_ret
      exact ⟨rfl, two' _ _ _⟩
  · rw [show orI (cmpI n n2) (cmpI x x2) = 1 by rw [show cmpI n n2 = 1 by unfold cmpI; rw [if_neg (by omega), if_pos h]]; rfl]
    have h2 : ¬ n < n2 := by omega
    go_enter Try.func151, Try.ntmps151
    go_wp2
    go_ret
    exact ⟨rfl, two' _ _ _⟩
end Go.Proofs.Ytpkmlfmkgodhkaa
