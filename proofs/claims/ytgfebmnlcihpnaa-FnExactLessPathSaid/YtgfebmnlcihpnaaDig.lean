/- What Digits of the program and Digits of the model return: the number of decimal digits, for every integer. -/
import Derived.Test.YtgfebmnlcihpnaaRows
import Derived.Test.YtgfebmnlcihpnaaIn
import Derived.WalkKit
import Derived.Lib.Hide
import Derived.Outline
import Derived.ProofKit
namespace Go.Proofs.Ytgfebmnlcihpnaa
open Go.RowKit
def digN (n : Nat) : Nat := if n = 0 then 0 else digN (n / 10) + 1
termination_by n
decreasing_by omega
theorem digN_zero : digN 0 = 0 := by rw [digN]; rfl
theorem digN_step (n : Nat) (h : n ≠ 0) : digN n = digN (n / 10) + 1 := by rw [digN, if_neg h]
theorem digN_le (n : Nat) : digN n ≤ n := by
  induction n using Nat.strongRecOn with
  | _ n ih =>
    by_cases h : n = 0
    · subst h; rw [digN_zero]; exact Nat.le_refl _
    · rw [digN_step n h]; have := ih (n / 10) (by omega); omega
def digV (n : Int) : Nat := 1 + digN (n.natAbs / 10)
theorem tdiv10 (x : Int) : (x.tdiv 10).natAbs = x.natAbs / 10 := by rw [Int.natAbs_tdiv]; rfl

theorem digits_spec (n : Int) (w : World) (h0 : -9223372036854775808 ≤ n) (h1 : n ≤ 9223372036854775807) : Calls Try.prog 154 #[.int .i64 n] w fun e w' => e = .returned (.int .i64 (digV n)) ∧ w = w' := by
  have t0 := tdiv10 n
  have t1 : -1000000000000000000 ≤ n.tdiv 10 := by omega
  have t2 : n.tdiv 10 ≤ 1000000000000000000 := by omega
  have hd := digN_le (n.natAbs / 10)
  have HD : Hid (digN (n.natAbs / 10) ≤ 1000000000000000000) := by show digN _ ≤ _; omega
  have T0 := Lib.hid t0
  unfold digV
  clear t0 hd
  clear h0 h1
  go_enter Try.func154, Try.ntmps154
  go_wp2
  go_loop [3, 4] (fun k x => ∃ (x' : Int) (k' : Nat), x = .int .i64 x' ∧ k = .int .i64 k' ∧ k' + digN x'.natAbs = 1 + digN (n.natAbs / 10) ∧ -1000000000000000000 ≤ x' ∧ x' ≤ 1000000000000000000) (fun _ x => (intOf x).natAbs)
  case atStart => exact ⟨_, 1, rfl, rfl, by rw [T0.out], t1, t2⟩
  case round =>
    obtain ⟨x', k', rfl, rfl, hk, b1, b2⟩ := hrel
    by_cases hz : x' = 0
    · subst hz
      go_wp2
      go_ret
      rw [show (0 : Int).natAbs = 0 from rfl, digN_zero] at hk
      exact ⟨ret_int (by omega), rfl⟩
    · have hs := digN_step x'.natAbs (by omega)
      have hb : (k' : Int) ≤ 2000000000000000000 := by have := HD.out; omega
      have hn : (x' != 0) = true := by simpa using hz
      have u0 := tdiv10 x'
      have u1 : -1000000000000000000 ≤ x'.tdiv 10 := by omega
      have u2 : x'.tdiv 10 ≤ 1000000000000000000 := by omega
      have u3 : (x'.tdiv 10).natAbs < x'.natAbs := by omega
      have HK := Lib.hid hk
      have HS := Lib.hid hs
      have U0 := Lib.hid u0
      clear hk hs u0
      go_wp2
      go_round
      case rel => exact ⟨_, k' + 1, rfl, by go_num, by rw [U0.out]; have := HK.out; have := HS.out; omega, u1, u2⟩
      case measure => exact u3
theorem digits_impl (n : Int) (w : World) (h0 : -9223372036854775808 ≤ n) (h1 : n ≤ 9223372036854775807) : Calls Try.prog 108 #[.int .i64 n] w fun e w' => e = .returned (.int .i64 (digV n)) ∧ w = w' := by
  have t0 := tdiv10 n
  have t1 : -1000000000000000000 ≤ n.tdiv 10 := by omega
  have t2 : n.tdiv 10 ≤ 1000000000000000000 := by omega
  have hd := digN_le (n.natAbs / 10)
  have HD : Hid (digN (n.natAbs / 10) ≤ 1000000000000000000) := by show digN _ ≤ _; omega
  have T0 := Lib.hid t0
  unfold digV
  clear t0 hd
  clear h0 h1
  go_enter Try.func108, Try.ntmps108
  go_wp2
  go_loop [0, 3] (fun x k => ∃ (x' : Int) (k' : Nat), x = .int .i64 x' ∧ k = .int .i64 k' ∧ k' + digN x'.natAbs = 1 + digN (n.natAbs / 10) ∧ -1000000000000000000 ≤ x' ∧ x' ≤ 1000000000000000000) (fun x _ => (intOf x).natAbs)
  case atStart => exact ⟨_, 1, rfl, rfl, by rw [T0.out], t1, t2⟩
  case round =>
    obtain ⟨x', k', rfl, rfl, hk, b1, b2⟩ := hrel
    by_cases hz : x' = 0
    · subst hz
      go_wp2
      go_ret
      rw [show (0 : Int).natAbs = 0 from rfl, digN_zero] at hk
      exact ⟨ret_int (by omega), rfl⟩
    · have hs := digN_step x'.natAbs (by omega)
      have hb : (k' : Int) ≤ 2000000000000000000 := by have := HD.out; omega
      have hn : (x' != 0) = true := by simpa using hz
      have u0 := tdiv10 x'
      have u1 : -1000000000000000000 ≤ x'.tdiv 10 := by omega
      have u2 : x'.tdiv 10 ≤ 1000000000000000000 := by omega
      have u3 : (x'.tdiv 10).natAbs < x'.natAbs := by omega
      have HK := Lib.hid hk
      have HS := Lib.hid hs
      have U0 := Lib.hid u0
      clear hk hs u0
      go_wp2
      go_round
      case rel => exact ⟨_, k' + 1, rfl, by go_num, by rw [U0.out]; have := HK.out; have := HS.out; omega, u1, u2⟩
      case measure => exact u3
end Go.Proofs.Ytgfebmnlcihpnaa
