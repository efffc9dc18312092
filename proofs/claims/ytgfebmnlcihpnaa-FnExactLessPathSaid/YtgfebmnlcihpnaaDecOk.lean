/- What DecOk of the program and of the model returns: whether the two fields form a decimal number. -/
import Derived.Test.YtgfebmnlcihpnaaDecMath
namespace Go.Proofs.Ytgfebmnlcihpnaa
open Go.RowKit
theorem below_box (w : World) (o : Obj) : Below w.heap.size w (w.alloc o) := (Below.refl _ _).alloc (Nat.le_refl _) _
theorem decOk_f {n x : Int} (h : ¬ decOk n x = true) : decOk n x = false := by simpa using h
theorem decOk_iff0 (n : Int) : decOk n 0 = true ↔ -1000000000000000 ≤ n ∧ n ≤ 1000000000000000 := by unfold decOk; rw [if_pos rfl, decide_eq_true_eq]
theorem decOk_iff (n x : Int) (h : ¬ x = 0) : decOk n x = true ↔ -16 ≤ x ∧ x ≤ -1 ∧ ((digV n : Nat) : Int) ≤ 17 ∧ n.tmod 10 ≠ 0 := by
  unfold decOk; rw [if_neg h, decide_eq_true_eq]
  constructor
  · rintro ⟨a, b, c, d⟩; exact ⟨a, b, by omega, d⟩
  · rintro ⟨a, b, c, d⟩; exact ⟨a, b, by omega, d⟩
set_option maxRecDepth 100000 in
theorem decok_impl (n x : Int) (w : World) (h0 : -9223372036854775808 ≤ n) (h1 : n ≤ 9223372036854775807) : Calls Try.prog 41 #[.agg #[.int .i64 n, .int .i64 x]] w fun e w' => e = .returned (.bool (decOk n x)) ∧ Below w.heap.size w w' := by
  have c := fun w1 => digits_impl n w1 h0 h1
  by_cases hx : x = 0
  · subst hx
    by_cases a : -1000000000000000 ≤ n
    · by_cases b : n ≤ 1000000000000000
      · have e := (decOk_iff0 n).2 ⟨a, b⟩
        rw [e]
        go_enter Try.func41, Try.ntmps41
        go_wp2
        go_ret
        exact ⟨rfl, below_box _ _⟩
      · have e := decOk_f (fun h => b ((decOk_iff0 n).1 h).2)
        rw [e]
        go_enter Try.func41, Try.ntmps41
        go_wp2
        go_ret
        exact ⟨rfl, below_box _ _⟩
    · have e := decOk_f (fun h => a ((decOk_iff0 n).1 h).1)
      rw [e]
      go_enter Try.func41, Try.ntmps41
      go_wp2
      go_ret
      exact ⟨rfl, below_box _ _⟩
  · by_cases a : -16 ≤ x
    · by_cases b : x ≤ -1
      · by_cases d : ((digV n : Nat) : Int) ≤ 17
        · by_cases m : n.tmod 10 = 0
          · have e := decOk_f (fun h => ((decOk_iff n x hx).1 h).2.2.2 m)
            have mb : (n.tmod 10 != 0) = false := by simpa using m
            rw [e]
            go_enter Try.func41, Try.ntmps41
            go_wp2_with (go_at_call 108; refine (c _).mono ?_; rintro e w' ⟨rfl, rfl⟩)
            go_ret
            exact ⟨rfl, below_box _ _⟩
          · have e := (decOk_iff n x hx).2 ⟨a, b, d, m⟩
            have mb : (n.tmod 10 != 0) = true := by simpa using m
            rw [e]
            go_enter Try.func41, Try.ntmps41
            go_wp2_with (go_at_call 108; refine (c _).mono ?_; rintro e w' ⟨rfl, rfl⟩)
            go_ret
            exact ⟨rfl, below_box _ _⟩
        · have e := decOk_f (fun h => d ((decOk_iff n x hx).1 h).2.2.1)
          rw [e]
          go_enter Try.func41, Try.ntmps41
          go_wp2_with (go_at_call 108; refine (c _).mono ?_; rintro e w' ⟨rfl, rfl⟩)
          go_ret
          exact ⟨rfl, below_box _ _⟩
      · have e := decOk_f (fun h => b ((decOk_iff n x hx).1 h).2.1)
        rw [e]
        go_enter Try.func41, Try.ntmps41
        go_wp2
        go_ret
        exact ⟨rfl, below_box _ _⟩
    · have e := decOk_f (fun h => a ((decOk_iff n x hx).1 h).1)
      rw [e]
      go_enter Try.func41, Try.ntmps41
      go_wp2
      go_ret
      exact ⟨rfl, below_box _ _⟩
set_option maxRecDepth 100000 in
theorem decok_spec (n x : Int) (w : World) (h0 : -9223372036854775808 ≤ n) (h1 : n ≤ 9223372036854775807) : Calls Try.prog 100 #[.agg #[.int .i64 n, .int .i64 x]] w fun e w' => e = .returned (.bool (decOk n x)) ∧ Below w.heap.size w w' := by
  have c := fun w1 => digits_spec n w1 h0 h1
  by_cases hx : x = 0
  · subst hx
    have ci := fun w1 => in_any n (-1000000000000000) 1000000000000000 w1
    have e : decide (-1000000000000000 ≤ n ∧ n ≤ 1000000000000000) = decOk n 0 := by rw [Bool.eq_iff_iff, decide_eq_true_eq, decOk_iff0]
    rw [e] at ci
    clear e
    go_enter Try.func100, Try.ntmps100
    go_wp2_with (go_at_call 98; refine (ci _).mono ?_; rintro e w' ⟨rfl, rfl⟩)
    go_ret
    exact ⟨rfl, below_box _ _⟩
  · by_cases a : -16 ≤ x ∧ x ≤ -1
    · have ci := fun w1 => in_yes x (-16) (-1) w1 a.1 a.2
      by_cases m : n.tmod 10 = 0
      · have e := decOk_f (fun h => ((decOk_iff n x hx).1 h).2.2.2 m)
        have mb : (n.tmod 10 != 0) = false := by simpa using m
        rw [e]
        clear a
        go_enter Try.func100, Try.ntmps100
        go_wp2_with (go_at_call 98; refine (ci _).mono ?_; rintro e w' ⟨rfl, rfl⟩)
        go_ret
        exact ⟨rfl, below_box _ _⟩
      · by_cases d : ((digV n : Nat) : Int) ≤ 17
        · have e := (decOk_iff n x hx).2 ⟨a.1, a.2, d, m⟩
          have mb : (n.tmod 10 != 0) = true := by simpa using m
          rw [e]
          clear a
          go_enter Try.func100, Try.ntmps100
          go_wp2_with (first | (go_at_call 98; refine (ci _).mono ?_; rintro e w' ⟨rfl, rfl⟩) | (go_at_call 154; refine (c _).mono ?_; rintro e w' ⟨rfl, rfl⟩))
          go_ret
          exact ⟨rfl, below_box _ _⟩
        · have e := decOk_f (fun h => d ((decOk_iff n x hx).1 h).2.2.1)
          have mb : (n.tmod 10 != 0) = true := by simpa using m
          have db : decide (((digV n : Nat) : Int) ≤ 17) = false := decide_eq_false d
          rw [e]
          clear a
          go_enter Try.func100, Try.ntmps100
          go_wp2_with (first | (go_at_call 98; refine (ci _).mono ?_; rintro e w' ⟨rfl, rfl⟩) | (go_at_call 154; refine (c _).mono ?_; rintro e w' ⟨rfl, rfl⟩))
          go_ret
          exact ⟨rfl, below_box _ _⟩
    · have ci := fun w1 => in_no x (-16) (-1) w1 (by omega)
      have e := decOk_f (fun h => a ⟨((decOk_iff n x hx).1 h).1, ((decOk_iff n x hx).1 h).2.1⟩)
      rw [e]
      clear a
      go_enter Try.func100, Try.ntmps100
      go_wp2_with (go_at_call 98; refine (ci _).mono ?_; rintro e w' ⟨rfl, rfl⟩)
      go_ret
      exact ⟨rfl, below_box _ _⟩
end Go.Proofs.Ytgfebmnlcihpnaa
