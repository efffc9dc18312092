/- The names of the codes: the program's and the model's answers. -/
import Derived.Test.YtaelepaogkakmaaDoorIn
import Derived.Test.YtaelepaogkakmaaDoorMem
import Derived.Test.YtaelepaogkakmaaDoorRune
import Derived.Test.YtaelepaogkakmaaDoorFresh
import Derived.WalkKit
import Derived.ProofKit
import Derived.Lib.Hide
namespace Go.Proofs.YtaelepaogkakmaaDoor
open Go.RowKit
set_option maxRecDepth 100000
def codeL (n : Int) : List UInt8 := if n = 0 then [103, 111, 111, 100] else if n = 1 then [102, 111, 114, 109] else if n = 2 then [108, 105, 109, 105, 116] else []
theorem code_out {n : Int} (h : ¬ (0 ≤ n ∧ n ≤ 2)) : codeL n = [] := by unfold codeL; rw [if_neg (by omega), if_neg (by omega), if_neg (by omega)]
theorem code_impl (n : Int) (w : World) : Calls Tryd.prog 25 #[.int .i64 n] w fun e w' => e = .returned (.string ⟨(codeL n).toArray⟩) ∧ Below w.heap.size w w' := by
  by_cases h : 0 ≤ n ∧ n ≤ 2
  · have : n = 0 ∨ n = 1 ∨ n = 2 := by omega
    rcases this with rfl | rfl | rfl
    all_goals
      clear h
      go_enter Tryd.func25, Tryd.ntmps25
      go_wp2
      go_ret
      exact ⟨rfl, below_alloc w _⟩
  · rw [code_out h]
    have h' : n < 0 ∨ (0 ≤ n ∧ 3 ≤ n) := by omega
    rcases h' with h' | ⟨h', h''⟩
    all_goals
      clear h
      go_enter Tryd.func25, Tryd.ntmps25
      go_wp2
      go_ret
      exact ⟨rfl, below_alloc w _⟩
theorem code_spec (n : Int) (w : World) : Calls Tryd.prog 26 #[.int .i64 n] w fun e w' => e = .returned (.string ⟨(codeL n).toArray⟩) ∧ Below w.heap.size w w' := by
  by_cases h : 0 ≤ n ∧ n ≤ 2
  · have : n = 0 ∨ n = 1 ∨ n = 2 := by omega
    have ci := in_yes n 0 2 (w.alloc (.cells #[.string ⟨#[103, 111, 111, 100]⟩, .string ⟨#[102, 111, 114, 109]⟩, .string ⟨#[108, 105, 109, 105, 116]⟩] 9)) h.1 h.2
    rcases this with rfl | rfl | rfl
    all_goals
      clear h
      go_enter Tryd.func26, Tryd.ntmps26
      go_wp2_with fail
      refine ci.mono ?_
      rintro e w' ⟨rfl, rfl⟩
      go_wp2
      go_ret
      exact ⟨rfl, below_alloc w _⟩
  · rw [code_out h]
    have ci := in_no n 0 2 (w.alloc (.cells #[.string ⟨#[103, 111, 111, 100]⟩, .string ⟨#[102, 111, 114, 109]⟩, .string ⟨#[108, 105, 109, 105, 116]⟩] 9)) (by omega)
    clear h
    go_enter Tryd.func26, Tryd.ntmps26
    go_wp2_with fail
    refine ci.mono ?_
    rintro e w' ⟨rfl, rfl⟩
    go_wp2
    go_ret
    exact ⟨rfl, below_alloc w _⟩
end Go.Proofs.YtaelepaogkakmaaDoor
