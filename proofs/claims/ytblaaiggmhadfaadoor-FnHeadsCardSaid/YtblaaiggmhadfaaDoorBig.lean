/- Widths and ranges: the program's and the model's answers. -/
import Derived.Test.YtblaaiggmhadfaaDoorIn
import Derived.Test.YtblaaiggmhadfaaDoorMem
import Derived.Test.YtblaaiggmhadfaaDoorBigMath
import Derived.WalkKit
import Derived.Lib.Hide
import Derived.Outline
import Derived.ProofKit
namespace Go.Proofs.YtblaaiggmhadfaaDoor
open Go.RowKit
theorem fits_any (n x : Int) (w : World) : Calls Tryd.prog 47 #[.int .i64 n, .int .i64 x] w fun e w' => e = .returned (.bool (decide (fitB n x))) ∧ w = w' := by
  by_cases h1 : x = 1
  · subst h1
    by_cases h : fitB n 1
    · have h' := fit_un h
      rw [decide_eq_true h]
      have a1 : (0 : Int) ≤ n := by omega
      have a2 : n < 256 := by omega
      clear h h'
      go_enter Tryd.func47, Tryd.ntmps47
      go_wp2
      go_ret
      exact ⟨rfl, rfl⟩
    · rw [decide_eq_false h]
      by_cases a1 : (0 : Int) ≤ n
      · have a2 : ¬ n < 256 := fun k => h (fit_mk (by omega))
        clear h
        go_enter Tryd.func47, Tryd.ntmps47
        go_wp2
        go_ret
        exact ⟨rfl, rfl⟩
      · clear h
        go_enter Tryd.func47, Tryd.ntmps47
        go_wp2
        go_ret
        exact ⟨rfl, rfl⟩
  by_cases h2 : x = 2
  · subst h2
    by_cases h : fitB n 2
    · have h' := fit_un h
      rw [decide_eq_true h]
      have a1 : (0 : Int) ≤ n := by omega
      have a2 : n < 65536 := by omega
      clear h h' h1
      go_enter Tryd.func47, Tryd.ntmps47
      go_wp2
      go_ret
      exact ⟨rfl, rfl⟩
    · rw [decide_eq_false h]
      by_cases a1 : (0 : Int) ≤ n
      · have a2 : ¬ n < 65536 := fun k => h (fit_mk (by omega))
        clear h h1
        go_enter Tryd.func47, Tryd.ntmps47
        go_wp2
        go_ret
        exact ⟨rfl, rfl⟩
      · clear h h1
        go_enter Tryd.func47, Tryd.ntmps47
        go_wp2
        go_ret
        exact ⟨rfl, rfl⟩
  by_cases h4 : x = 4
  · subst h4
    by_cases h : fitB n 4
    · have h' := fit_un h
      rw [decide_eq_true h]
      have a1 : (0 : Int) ≤ n := by omega
      have a2 : n < 4294967296 := by omega
      clear h h' h1 h2
      go_enter Tryd.func47, Tryd.ntmps47
      go_wp2
      go_ret
      exact ⟨rfl, rfl⟩
    · rw [decide_eq_false h]
      by_cases a1 : (0 : Int) ≤ n
      · have a2 : ¬ n < 4294967296 := fun k => h (fit_mk (by omega))
        clear h h1 h2
        go_enter Tryd.func47, Tryd.ntmps47
        go_wp2
        go_ret
        exact ⟨rfl, rfl⟩
      · clear h h1 h2
        go_enter Tryd.func47, Tryd.ntmps47
        go_wp2
        go_ret
        exact ⟨rfl, rfl⟩
  have e1 : (x == 1) = false := by simpa using h1
  have e2 : (x == 2) = false := by simpa using h2
  have e4 : (x == 4) = false := by simpa using h4
  by_cases h8 : x = 8
  · subst h8
    have e : decide (fitB n 8) = decide (0 ≤ n) := by
      rw [decide_eq_decide]; unfold fitB; omega
    rw [e]
    clear h1 h2 h4 e e1 e2 e4
    go_enter Tryd.func47, Tryd.ntmps47
    go_wp2
    go_ret
    exact ⟨rfl, rfl⟩
  · have e8 : (x == 8) = false := by simpa using h8
    have h : ¬ fitB n x := fun k => by have := fit_un k; omega
    rw [decide_eq_false h]
    clear h
    go_enter Tryd.func47, Tryd.ntmps47
    go_wp2
    go_ret
    exact ⟨rfl, rfl⟩
theorem fits_yes {n x : Int} (h : fitB n x) (w : World) : Calls Tryd.prog 47 #[.int .i64 n, .int .i64 x] w fun e w' => e = .returned (.bool true) ∧ w = w' := by
  have := fits_any n x w
  rw [decide_eq_true h] at this
  exact this
theorem fits_no {n x : Int} (h : ¬ fitB n x) (w : World) : Calls Tryd.prog 47 #[.int .i64 n, .int .i64 x] w fun e w' => e = .returned (.bool false) ∧ w = w' := by
  have := fits_any n x w
  rw [decide_eq_false h] at this
  exact this
theorem wid_spec (x : Int) (w : World) : Calls Tryd.prog 53 #[.int .i64 x] w fun e w' => e = .returned (.bool (decide (widOk x))) ∧ w = w' := by
  by_cases h1 : x = 1
  · subst h1
    go_enter Tryd.func53, Tryd.ntmps53
    go_wp2
    go_ret
    exact ⟨rfl, rfl⟩
  by_cases h2 : x = 2
  · subst h2
    go_enter Tryd.func53, Tryd.ntmps53
    go_wp2
    go_ret
    exact ⟨rfl, rfl⟩
  by_cases h4 : x = 4
  · subst h4
    go_enter Tryd.func53, Tryd.ntmps53
    go_wp2
    go_ret
    exact ⟨rfl, rfl⟩
  by_cases h8 : x = 8
  · subst h8
    go_enter Tryd.func53, Tryd.ntmps53
    go_wp2
    go_ret
    exact ⟨rfl, rfl⟩
  have e1 : (x == 1) = false := by simpa using h1
  have e2 : (x == 2) = false := by simpa using h2
  have e4 : (x == 4) = false := by simpa using h4
  have e8 : (x == 8) = false := by simpa using h8
  have h : ¬ widOk x := fun k => by have := wid_un k; omega
  rw [decide_eq_false h]
  clear h
  go_enter Tryd.func53, Tryd.ntmps53
  go_wp2
  go_ret
  exact ⟨rfl, rfl⟩
theorem wid_yes {x : Int} (h : widOk x) (w : World) : Calls Tryd.prog 53 #[.int .i64 x] w fun e w' => e = .returned (.bool true) ∧ w = w' := by
  have := wid_spec x w
  rw [decide_eq_true h] at this
  exact this
theorem wid_no {x : Int} (h : ¬ widOk x) (w : World) : Calls Tryd.prog 53 #[.int .i64 x] w fun e w' => e = .returned (.bool false) ∧ w = w' := by
  have := wid_spec x w
  rw [decide_eq_false h] at this
  exact this
/-- whether n bytes lie at place a -/
def holdB (len a n : Int) : Prop := 0 ≤ a ∧ 0 ≤ n ∧ n ≤ len - a
instance (len a n : Int) : Decidable (holdB len a n) := by unfold holdB; infer_instance
theorem holds_yes {ad : Option Addr} {len cap : Nat} {a n : Int} (h : holdB len a n) (hl : len ≤ 140737488355328) (w : World) : Calls Tryd.prog 50 #[.slice ad len cap, .int .i64 a, .int .i64 n] w fun e w' => e = .returned (.bool true) ∧ w = w' := by
  obtain ⟨h1, h2, h3⟩ := h
  have h4 : (len : Int) ≤ 140737488355328 := by omega
  have h5 : a ≤ 140737488355328 := by omega
  go_enter Tryd.func50, Tryd.ntmps50
  go_wp2
  go_ret
  exact ⟨rfl, rfl⟩
theorem holds_no {ad : Option Addr} {len cap : Nat} {a n : Int} (h : ¬ holdB len a n) (hl : len ≤ 140737488355328) (ha : a ≤ 9223372036854775807) (w : World) : Calls Tryd.prog 50 #[.slice ad len cap, .int .i64 a, .int .i64 n] w fun e w' => e = .returned (.bool false) ∧ w = w' := by
  have h4 : (len : Int) ≤ 140737488355328 := by omega
  by_cases h1 : 0 ≤ a
  · by_cases h2 : 0 ≤ n
    · have h3 : ¬ n ≤ len - a := fun k => h ⟨h1, h2, k⟩
      clear h
      go_enter Tryd.func50, Tryd.ntmps50
      go_wp2
      go_ret
      exact ⟨rfl, rfl⟩
    · clear h
      go_enter Tryd.func50, Tryd.ntmps50
      go_wp2
      go_ret
      exact ⟨rfl, rfl⟩
  · clear h
    go_enter Tryd.func50, Tryd.ntmps50
    go_wp2
    go_ret
    exact ⟨rfl, rfl⟩
end Go.Proofs.YtblaaiggmhadfaaDoor
