/- What Half of the program and Half of the model return: the quotient rounded to the nearest integer, ties to the even one; 0 outside the ranges. -/
import Derived.Test.YtjfjbocaplpdfaaDoorRows
import Derived.Test.YtjfjbocaplpdfaaDoorIn
import Derived.WalkKit
import Derived.ProofKit
import Derived.Deep.QuietTactic
import Derived.BigQuiet
namespace Go.Proofs.YtjfjbocaplpdfaaDoor
open Go.RowKit
def halfV (n d : Int) : Int := if n < 0 ∨ 1000000000000000 < n ∨ d < 1 ∨ 1000000000000000 < d then 0 else if d < 2 * (n % d) ∨ (2 * (n % d) = d ∧ n / d % 2 = 1) then n / d + 1 else n / d
def halfBad (n d : Int) : Prop := n < 0 ∨ 1000000000000000 < n ∨ d < 1 ∨ 1000000000000000 < d

theorem half_facts (n d : Int) (h : ¬ halfBad n d) : 0 ≤ n ∧ n ≤ 1000000000000000 ∧ 1 ≤ d ∧ d ≤ 1000000000000000 ∧ 0 ≤ n / d ∧ n / d ≤ n ∧ 0 ≤ n % d ∧ n % d < d := by
  unfold halfBad at h
  refine ⟨by omega, by omega, by omega, by omega, Int.ediv_nonneg (by omega) (by omega), Int.ediv_le_self _ (by omega), Int.emod_nonneg _ (by omega), Int.emod_lt_of_pos _ (by omega)⟩

theorem halfWay (n d : Int) (h : ¬ halfBad n d) : (d < 2 * (n % d) ∧ halfV n d = n / d + 1) ∨ (2 * (n % d) = d ∧ n / d % 2 = 1 ∧ halfV n d = n / d + 1) ∨ (2 * (n % d) = d ∧ ¬ n / d % 2 = 1 ∧ halfV n d = n / d) ∨ (2 * (n % d) < d ∧ halfV n d = n / d) := by
  unfold halfBad at h
  unfold halfV
  rw [if_neg h]
  by_cases g1 : d < 2 * (n % d)
  · rw [if_pos (by omega)]; exact .inl ⟨g1, rfl⟩
  · by_cases g2 : 2 * (n % d) = d
    · by_cases g3 : n / d % 2 = 1
      · rw [if_pos (by omega)]; exact .inr (.inl ⟨g2, g3, rfl⟩)
      · rw [if_neg (by omega)]; exact .inr (.inr (.inl ⟨g2, g3, rfl⟩))
    · rw [if_neg (by omega)]; exact .inr (.inr (.inr ⟨by omega, rfl⟩))

theorem half_impl_bad (n d : Int) (w : World) (h : halfBad n d) : Calls Tryd.prog 56 #[.int .i64 n, .int .i64 d] w fun e w' => e = .returned (.int .i64 (halfV n d)) ∧ Below w.heap.size w w' := by
  have hv : halfV n d = 0 := by unfold halfBad at h; unfold halfV; rw [if_pos h]
  rw [hv]; clear hv
  unfold halfBad at h
  by_cases h1 : n < 0
  · clear h
    go_enter Tryd.func56, Tryd.ntmps56
    go_wp2
    go_ret
    exact ⟨rfl, Below.refl _ _⟩
  · by_cases h2 : 1000000000000000 < n
    · clear h
      go_enter Tryd.func56, Tryd.ntmps56
      go_wp2
      go_ret
      exact ⟨rfl, Below.refl _ _⟩
    · by_cases h3 : d < 1
      · clear h
        go_enter Tryd.func56, Tryd.ntmps56
        go_wp2
        go_ret
        exact ⟨rfl, Below.refl _ _⟩
      · have h4 : 1000000000000000 < d := by omega
        clear h
        go_enter Tryd.func56, Tryd.ntmps56
        go_wp2
        go_ret
        exact ⟨rfl, Below.refl _ _⟩
theorem half_impl_good (n d : Int) (w : World) (h : ¬ halfBad n d) : Calls Tryd.prog 56 #[.int .i64 n, .int .i64 d] w fun e w' => e = .returned (.int .i64 (halfV n d)) ∧ Below w.heap.size w w' := by
  obtain ⟨a1, a2, a3, a4, a5, a6, a7, a8⟩ := half_facts n d h
  rcases halfWay n d h with ⟨g1, hv⟩ | ⟨g1, g2, hv⟩ | ⟨g1, g2, hv⟩ | ⟨g1, hv⟩ <;> rw [hv] <;> clear h hv
  all_goals
    go_enter Tryd.func56, Tryd.ntmps56
    go_wp2
    go_quiet (fail)
    go_wp2
    go_ret
    exact ⟨rfl, by repeat (first | exact Below.refl _ _ | exact ⟨rfl, rfl, rfl, Nat.le_refl _, fun _ _ => rfl⟩ | apply Below.drew | exact (Below.refl _ _).alloc (Nat.le_refl _) _)⟩
theorem half_impl (n d : Int) (w : World) : Calls Tryd.prog 56 #[.int .i64 n, .int .i64 d] w fun e w' => e = .returned (.int .i64 (halfV n d)) ∧ Below w.heap.size w w' := by
  by_cases h : halfBad n d
  · exact half_impl_bad n d w h
  · exact half_impl_good n d w h
end Go.Proofs.YtjfjbocaplpdfaaDoor
