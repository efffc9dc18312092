/- What Digits of the program and Digits of the model return: the number of decimal digits, for every integer. -/
import Derived.Test.YtblaaiggmhadfaaRows
import Derived.Test.YtblaaiggmhadfaaIn
import Derived.WalkKit
import Derived.Lib.Hide
import Derived.Outline
import Derived.ProofKit
namespace Go.Proofs.Ytblaaiggmhadfaa
open Go.RowKit
def digN (n : Nat) : Nat := if n = 0 then 0 else digN (n / 10) + 1
termination_by n
decreasing_by omega
theorem digN_zero : digN 0 = 0 := by rw [digN]; rfl
theorem digN_step (n : Nat) (h : n ≠ 0) : digN n = digN (n / 10) + 1 := by rw [digN, if_neg h]
theorem digN_le (n : Nat) : digN n ≤ n := by
  induction n using Nat.strongRecOn with
  | _ n ih =>
    by_cases h : n = 0
    · subst h; rw [digN_zero]; exact Nat.le_refl _
    · rw [digN_step n h]; have := ih (n / 10) (by omega); omega
def digV (n : Int) : Nat := 1 + digN (n.natAbs / 10)
theorem tdiv10 (x : Int) : (x.tdiv 10).natAbs = x.natAbs / 10 := by rw [Int.natAbs_tdiv]; rfl

end Go.Proofs.Ytblaaiggmhadfaa
