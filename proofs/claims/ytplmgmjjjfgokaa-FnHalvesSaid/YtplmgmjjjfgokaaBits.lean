/- What BitsOf of the program and BitsOf of the model return: the number of binary digits, and 0 outside the range. -/
import Derived.Test.YtplmgmjjjfgokaaRows
import Derived.Test.YtplmgmjjjfgokaaShelf
import Derived.Test.YtplmgmjjjfgokaaIn
import Derived.WalkKit
import Derived.Lib.Hide
import Derived.Lib.BitFns
import Derived.Outline
import Derived.ProofKit
namespace Go.Proofs.Ytplmgmjjjfgokaa
open Go.RowKit
def bitsV (n : Int) : Nat := if 0 ≤ n ∧ n ≤ 1000000000000000 then Lib.bitLen n.toNat else 0
theorem bitLen_0 : Lib.bitLen 0 = 0 := by decide +kernel
theorem bits_spec_bad (n : Int) (w : World) (h : n < 0 ∨ 1000000000000000 < n) : Calls Try.prog 17 #[.int .i64 n] w fun e w' => e = .returned (.int .i64 (bitsV n)) ∧ w = w' := by
  have hv : bitsV n = 0 := by unfold bitsV; rw [if_neg (by omega)]
  rw [hv]; clear hv
  go_enter Try.func17, Try.ntmps17
  go_wp2_with (go_at_call 25; refine (in_no _ _ _ _ h).mono ?_; rintro e w' ⟨rfl, rfl⟩)
  go_ret
  exact ⟨rfl, rfl⟩
theorem bits_spec_good (n : Nat) (w : World) (h1 : n ≤ 1000000000000000) : Calls Try.prog 17 #[.int .i64 n] w fun e w' => e = .returned (.int .i64 (Lib.bitLen n)) ∧ w = w' := by
  have hl := Lib.bitLen_le n 64 (by omega) (by omega)
  have h2 : (n : Int) ≤ 1000000000000000 := by omega
  have h3 : (0 : Int) ≤ n := by omega
  have HL := Lib.hid hl
  clear hl
  go_enter Try.func17, Try.ntmps17
  go_wp2_with (go_at_call 25; refine (in_yes _ _ _ _ (by omega) (by omega)).mono ?_; rintro e w' ⟨rfl, rfl⟩)
  go_loop [3, 4] (fun k x => ∃ (x' k' : Nat), x = .int .i64 x' ∧ k = .int .i64 k' ∧ k' + Lib.bitLen x' = Lib.bitLen n ∧ x' ≤ n) (fun _ x => (intOf x).toNat)
  case atStart => exact ⟨n, 0, rfl, rfl, by omega, Nat.le_refl _⟩
  case round =>
    obtain ⟨x', k', rfl, rfl, hk, b1⟩ := hrel
    by_cases hz : x' = 0
    · subst hz
      go_wp2
      go_ret
      rw [bitLen_0] at hk
      exact ⟨ret_int (by omega), rfl⟩
    · have hs := Lib.bitLen_half x' hz (by omega)
      have hn : (0 : Int) < x' := by omega
      have hb : (k' : Int) ≤ 64 := by have := HL.out; omega
      have HK := Lib.hid hk
      have HS := Lib.hid hs
      clear hk hs
      go_wp2
      go_round
      case rel => exact ⟨x' / 2, k' + 1, by go_num, by go_num, by have := HK.out; have := HS.out; omega, by omega⟩
      case measure => simp [intOf]; omega
theorem bits_spec (n : Int) (w : World) : Calls Try.prog 17 #[.int .i64 n] w fun e w' => e = .returned (.int .i64 (bitsV n)) ∧ w = w' := by
  by_cases h : 0 ≤ n ∧ n ≤ 1000000000000000
  · obtain ⟨m, rfl⟩ : ∃ m : Nat, n = m := ⟨n.toNat, by omega⟩
    have hv : bitsV m = Lib.bitLen m := by unfold bitsV; rw [if_pos h]; rfl
    rw [hv]
    exact bits_spec_good m w (by omega)
  · exact bits_spec_bad n w (by omega)
theorem bits_impl_bad (n : Int) (w : World) (h : n < 0 ∨ 1000000000000000 < n) : Calls Try.prog 16 #[.int .i64 n] w fun e w' => e = .returned (.int .i64 (bitsV n)) ∧ w = w' := by
  have hv : bitsV n = 0 := by unfold bitsV; rw [if_neg (by omega)]
  rw [hv]; clear hv
  rcases h with h | h
  all_goals
    go_enter Try.func16, Try.ntmps16
    go_wp2
    go_ret
    exact ⟨rfl, rfl⟩
theorem bits_impl_good (n : Int) (w : World) (h0 : 0 ≤ n) (h1 : n ≤ 1000000000000000) : Calls Try.prog 16 #[.int .i64 n] w fun e w' => e = .returned (.int .i64 (bitsV n)) ∧ w = w' := by
  have hv : bitsV n = Lib.bitLen n.toNat := by unfold bitsV; rw [if_pos ⟨h0, h1⟩]
  rw [hv]; clear hv
  go_enter Try.func16, Try.ntmps16
  go_wp2_with (go_at_call 29; refine (Try.bits_Len _ _ (by omega) (by omega)).mono ?_; rintro e w' ⟨rfl, rfl⟩)
  go_ret
  exact ⟨rfl, rfl⟩
theorem bits_impl (n : Int) (w : World) : Calls Try.prog 16 #[.int .i64 n] w fun e w' => e = .returned (.int .i64 (bitsV n)) ∧ w = w' := by
  by_cases h : 0 ≤ n ∧ n ≤ 1000000000000000
  · exact bits_impl_good n w h.1 h.2
  · exact bits_impl_bad n w (by omega)
end Go.Proofs.Ytplmgmjjjfgokaa
