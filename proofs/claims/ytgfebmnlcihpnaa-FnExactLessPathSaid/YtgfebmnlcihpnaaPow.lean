/- What Pow of the program and Pow of the model return: the power of 2, 5 or 10, and 0 outside the ranges. -/
import Derived.Test.YtgfebmnlcihpnaaRows
import Derived.WalkKit
import Derived.Outline
import Derived.Laws.EntriesVeiled
import Derived.Lib.Hide
import Derived.ProofKit
import Derived.Deep.QuietTactic
import Derived.BigQuiet
import Derived.Test.YtgfebmnlcihpnaaIn
namespace Go.Proofs.Ytgfebmnlcihpnaa
open Go.RowKit
def powBase (b : Int) : Prop := b = 2 ∨ b = 5 ∨ b = 10
def powV (b k : Int) : Int := if (b = 2 ∨ b = 5 ∨ b = 10) ∧ 0 ≤ k ∧ k ≤ 17 then b ^ k.toNat else 0

theorem pow_step (b : Int) (j : Nat) : b ^ (j + 1) = b ^ j * b := Int.pow_succ b j
theorem pow_low (b : Int) (hb : powBase b) (j : Nat) (hj : j ≤ 17) : 0 ≤ b ^ j ∧ b ^ j ≤ 100000000000000000 := by
  have key : ∀ i : Fin 18, (0 ≤ (2 : Int) ^ i.val ∧ (2 : Int) ^ i.val ≤ 100000000000000000) ∧ (0 ≤ (5 : Int) ^ i.val ∧ (5 : Int) ^ i.val ≤ 100000000000000000) ∧ (0 ≤ (10 : Int) ^ i.val ∧ (10 : Int) ^ i.val ≤ 100000000000000000) := by decide
  have k1 := key ⟨j, by omega⟩
  rcases hb with rfl | rfl | rfl
  · exact k1.1
  · exact k1.2.1
  · exact k1.2.2

theorem pow_spec_bad (b k : Int) (w : World) (h : ¬ ((b = 2 ∨ b = 5 ∨ b = 10) ∧ 0 ≤ k ∧ k ≤ 17)) : Calls Try.prog 199 #[.int .i64 b, .int .i64 k] w fun e w' => e = .returned (.int .i64 (powV b k)) ∧ w = w' := by
  have hv : powV b k = 0 := by unfold powV; rw [if_neg h]
  rw [hv]; clear hv
  by_cases hb : b = 2 ∨ b = 5 ∨ b = 10
  · have e2 : k < 0 ∨ 17 < k := by omega
    clear h
    rcases hb with rfl | rfl | rfl
    all_goals
      go_enter Try.func199, Try.ntmps199
      go_wp2_with (go_at_call 98; refine (in_no _ _ _ _ (by omega)).mono ?_; rintro e w' ⟨rfl, rfl⟩)
      go_ret
      exact ⟨rfl, rfl⟩
  · have h1 : (b != 2) = true := by simp; omega
    have h2 : (b != 5) = true := by simp; omega
    have h3 : (b != 10) = true := by simp; omega
    clear h hb
    go_enter Try.func199, Try.ntmps199
    go_wp2_with (go_at_call 98; refine (in_no _ _ _ _ (by omega)).mono ?_; rintro e w' ⟨rfl, rfl⟩)
    go_ret
    exact ⟨rfl, rfl⟩

theorem pow_spec_good (b k : Int) (w : World) (hb : powBase b) (h0 : 0 ≤ k) (h1 : k ≤ 17) : Calls Try.prog 199 #[.int .i64 b, .int .i64 k] w fun e w' => e = .returned (.int .i64 (powV b k)) ∧ w = w' := by
  have hv : powV b k = b ^ k.toNat := by unfold powV; rw [if_pos ⟨hb, h0, h1⟩]
  rw [hv]; clear hv
  obtain ⟨m, rfl⟩ : ∃ m : Nat, k = m := ⟨k.toNat, by omega⟩
  rcases hb with rfl | rfl | rfl
  · go_enter Try.func199, Try.ntmps199
    go_wp2_with (go_at_call 98; refine (in_yes _ _ _ _ (by omega) (by omega)).mono ?_; rintro e w' ⟨rfl, rfl⟩)
    go_loop [5, 6] (fun n i => ∃ j : Nat, j ≤ m ∧ i = .int .i64 j ∧ n = .int .i64 ((2 : Int) ^ j)) (fun _ i => m - (intOf i).toNat)
    case atStart => exact ⟨0, Nat.zero_le _, rfl, rfl⟩
    case round =>
      obtain ⟨j, hj, rfl, rfl⟩ := hrel
      by_cases hlt : j < m
      · have hp := pow_low (2 : Int) (by unfold powBase; omega) j (by omega)
        have hp' := pow_low (2 : Int) (by unfold powBase; omega) (j + 1) (by omega)
        have HS := Lib.hid (pow_step (2 : Int) j)
        rw [pow_step] at hp'
        go_wp2
        go_round
        case rel => exact ⟨j + 1, by omega, by go_num, by rw [HS.out]⟩
        case measure => simp [intOf]; omega
      · go_wp2
        go_ret
        exact ⟨by rw [show m = j by omega]; rfl, rfl⟩
  · go_enter Try.func199, Try.ntmps199
    go_wp2_with (go_at_call 98; refine (in_yes _ _ _ _ (by omega) (by omega)).mono ?_; rintro e w' ⟨rfl, rfl⟩)
    go_loop [5, 6] (fun n i => ∃ j : Nat, j ≤ m ∧ i = .int .i64 j ∧ n = .int .i64 ((5 : Int) ^ j)) (fun _ i => m - (intOf i).toNat)
    case atStart => exact ⟨0, Nat.zero_le _, rfl, rfl⟩
    case round =>
      obtain ⟨j, hj, rfl, rfl⟩ := hrel
      by_cases hlt : j < m
      · have hp := pow_low (5 : Int) (by unfold powBase; omega) j (by omega)
        have hp' := pow_low (5 : Int) (by unfold powBase; omega) (j + 1) (by omega)
        have HS := Lib.hid (pow_step (5 : Int) j)
        rw [pow_step] at hp'
        go_wp2
        go_round
        case rel => exact ⟨j + 1, by omega, by go_num, by rw [HS.out]⟩
        case measure => simp [intOf]; omega
      · go_wp2
        go_ret
        exact ⟨by rw [show m = j by omega]; rfl, rfl⟩
  · go_enter Try.func199, Try.ntmps199
    go_wp2_with (go_at_call 98; refine (in_yes _ _ _ _ (by omega) (by omega)).mono ?_; rintro e w' ⟨rfl, rfl⟩)
    go_loop [5, 6] (fun n i => ∃ j : Nat, j ≤ m ∧ i = .int .i64 j ∧ n = .int .i64 ((10 : Int) ^ j)) (fun _ i => m - (intOf i).toNat)
    case atStart => exact ⟨0, Nat.zero_le _, rfl, rfl⟩
    case round =>
      obtain ⟨j, hj, rfl, rfl⟩ := hrel
      by_cases hlt : j < m
      · have hp := pow_low (10 : Int) (by unfold powBase; omega) j (by omega)
        have hp' := pow_low (10 : Int) (by unfold powBase; omega) (j + 1) (by omega)
        have HS := Lib.hid (pow_step (10 : Int) j)
        rw [pow_step] at hp'
        go_wp2
        go_round
        case rel => exact ⟨j + 1, by omega, by go_num, by rw [HS.out]⟩
        case measure => simp [intOf]; omega
      · go_wp2
        go_ret
        exact ⟨by rw [show m = j by omega]; rfl, rfl⟩

theorem two_any (m : Nat) (hm : m ≤ 17) (w : World) : Calls Try.prog 210 #[.int .i64 m] w fun e w' => e = .returned (.int .i64 ((2 : Int) ^ m)) ∧ w = w' := by
  have h1 : (0 : Int) ≤ m := by omega
  have h2 : (m : Int) ≤ 17 := by omega
  have hp := pow_low 2 (by unfold powBase; omega) m (by omega)
  go_enter Try.func210, Try.ntmps210
  go_wp2
  go_ret
  exact ⟨rfl, rfl⟩
theorem five_any (m : Nat) (hm : m ≤ 17) (w : World) : Calls Try.prog 211 #[.int .i64 m] w fun e w' => e = .returned (.int .i64 ((5 : Int) ^ m)) ∧ w = w' := by
  go_enter Try.func211, Try.ntmps211
  go_wp2
  go_loop [3, 5] (fun n i => ∃ j : Nat, j ≤ m ∧ i = .int .i64 j ∧ n = .int .i64 ((5 : Int) ^ j)) (fun _ i => m - (intOf i).toNat)
  case atStart => exact ⟨0, Nat.zero_le _, rfl, rfl⟩
  case round =>
    obtain ⟨j, hj, rfl, rfl⟩ := hrel
    by_cases hlt : j < m
    · have hp := pow_low 5 (by unfold powBase; omega) j (by omega)
      have hp' := pow_low 5 (by unfold powBase; omega) (j + 1) (by omega)
      have HS := Lib.hid (pow_step 5 j)
      rw [pow_step] at hp'
      go_wp2
      go_round
      case rel => exact ⟨j + 1, by omega, by go_num, by rw [HS.out]⟩
      case measure => simp [intOf]; omega
    · go_wp2
      go_ret
      exact ⟨by rw [show m = j by omega]; rfl, rfl⟩
theorem ten_any (m : Nat) (hm : m ≤ 17) (w : World) : Calls Try.prog 212 #[.int .i64 m] w fun e w' => e = .returned (.int .i64 ((10 : Int) ^ m)) ∧ w = w' := by
  have hp := pow_low 10 (by unfold powBase; omega) m (by omega)
  have e : (10 : Int) ^ m = (2 : Int) ^ m * (5 : Int) ^ m := by rw [show (10 : Int) = 2 * 5 from rfl, Int.mul_pow]
  rw [e] at hp ⊢
  clear e
  go_enter Try.func212, Try.ntmps212
  go_wp2_with (first | (go_at_call 210; refine (two_any _ hm _).mono ?_; rintro e w' ⟨rfl, rfl⟩) | (go_at_call 211; refine (five_any _ hm _).mono ?_; rintro e w' ⟨rfl, rfl⟩))
  go_ret
  exact ⟨rfl, rfl⟩
theorem fn_nil (n : Nat) (w : World) : (binOp .eql 111 (.func (.func n) #[] #[]) .nilFunc).run Try.prog w = .ok (.bool false) w := by kernel_rfl
theorem nil_nil (w : World) : (binOp .eql 111 .nilFunc .nilFunc).run Try.prog w = .ok (.bool true) w := by kernel_rfl
theorem pow_impl_good (b k : Int) (w : World) (hb : powBase b) (h0 : 0 ≤ k) (h1 : k ≤ 17) : Calls Try.prog 203 #[.int .i64 b, .int .i64 k] w fun e w' => e = .returned (.int .i64 (powV b k)) ∧ Below w.heap.size w w' := by
  have hv : powV b k = b ^ k.toNat := by unfold powV; rw [if_pos ⟨hb, h0, h1⟩]
  rw [hv]; clear hv
  obtain ⟨m, rfl⟩ : ∃ m : Nat, k = m := ⟨k.toNat, by omega⟩
  have hm : m ≤ 17 := by omega
  have q2 := fn_nil
  rcases hb with rfl | rfl | rfl
  all_goals
    go_enter Try.func203, Try.ntmps203
    go_wp2_with (first | (go_at_call 210; refine (two_any _ hm _).mono ?_; rintro e w' ⟨rfl, rfl⟩) | (go_at_call 211; refine (five_any _ hm _).mono ?_; rintro e w' ⟨rfl, rfl⟩) | (go_at_call 212; refine (ten_any _ hm _).mono ?_; rintro e w' ⟨rfl, rfl⟩))
    go_ret
    exact ⟨rfl, by repeat (first | exact Below.refl _ _ | exact ⟨rfl, rfl, rfl, Nat.le_refl _, fun _ _ => rfl⟩ | apply Below.drew | exact (Below.refl _ _).alloc (Nat.le_refl _) _)⟩
theorem pow_impl_out (b k : Int) (w : World) (h : b < 0 ∨ 10 < b) : Calls Try.prog 203 #[.int .i64 b, .int .i64 k] w fun e w' => e = .returned (.int .i64 0) ∧ Below w.heap.size w w' := by
  rcases h with h | h
  all_goals
    go_enter Try.func203, Try.ntmps203
    go_wp2
    go_ret
    exact ⟨rfl, by repeat (first | exact Below.refl _ _ | exact ⟨rfl, rfl, rfl, Nat.le_refl _, fun _ _ => rfl⟩ | apply Below.drew | exact (Below.refl _ _).alloc (Nat.le_refl _) _)⟩
theorem pow_impl_none (b k : Int) (w : World) (h : b = 0 ∨ b = 1 ∨ b = 3 ∨ b = 4 ∨ b = 6 ∨ b = 7 ∨ b = 8 ∨ b = 9) : Calls Try.prog 203 #[.int .i64 b, .int .i64 k] w fun e w' => e = .returned (.int .i64 0) ∧ Below w.heap.size w w' := by
  have q1 := nil_nil
  rcases h with rfl | rfl | rfl | rfl | rfl | rfl | rfl | rfl
  all_goals
    go_enter Try.func203, Try.ntmps203
    go_wp2
    go_ret
    exact ⟨rfl, by repeat (first | exact Below.refl _ _ | exact ⟨rfl, rfl, rfl, Nat.le_refl _, fun _ _ => rfl⟩ | apply Below.drew | exact (Below.refl _ _).alloc (Nat.le_refl _) _)⟩
theorem pow_impl_low (b k : Int) (w : World) (h : b = 2 ∨ b = 5 ∨ b = 10) (hk : k < 0) : Calls Try.prog 203 #[.int .i64 b, .int .i64 k] w fun e w' => e = .returned (.int .i64 0) ∧ Below w.heap.size w w' := by
  have q2 := fn_nil
  rcases h with rfl | rfl | rfl
  all_goals
    go_enter Try.func203, Try.ntmps203
    go_wp2
    go_ret
    exact ⟨rfl, by repeat (first | exact Below.refl _ _ | exact ⟨rfl, rfl, rfl, Nat.le_refl _, fun _ _ => rfl⟩ | apply Below.drew | exact (Below.refl _ _).alloc (Nat.le_refl _) _)⟩
theorem pow_impl_high (b k : Int) (w : World) (h : b = 2 ∨ b = 5 ∨ b = 10) (hk : 17 < k) : Calls Try.prog 203 #[.int .i64 b, .int .i64 k] w fun e w' => e = .returned (.int .i64 0) ∧ Below w.heap.size w w' := by
  have q2 := fn_nil
  rcases h with rfl | rfl | rfl
  all_goals
    go_enter Try.func203, Try.ntmps203
    go_wp2
    go_ret
    exact ⟨rfl, by repeat (first | exact Below.refl _ _ | exact ⟨rfl, rfl, rfl, Nat.le_refl _, fun _ _ => rfl⟩ | apply Below.drew | exact (Below.refl _ _).alloc (Nat.le_refl _) _)⟩
theorem pow_impl_bad (b k : Int) (w : World) (h : ¬ ((b = 2 ∨ b = 5 ∨ b = 10) ∧ 0 ≤ k ∧ k ≤ 17)) : Calls Try.prog 203 #[.int .i64 b, .int .i64 k] w fun e w' => e = .returned (.int .i64 (powV b k)) ∧ Below w.heap.size w w' := by
  have hv : powV b k = 0 := by unfold powV; rw [if_neg h]
  rw [hv]; clear hv
  by_cases hb : b < 0 ∨ 10 < b
  · exact pow_impl_out b k w hb
  · by_cases hc : b = 2 ∨ b = 5 ∨ b = 10
    · by_cases hk : k < 0
      · exact pow_impl_low b k w hc hk
      · exact pow_impl_high b k w hc (by omega)
    · exact pow_impl_none b k w (by omega)
theorem pow_spec (b k : Int) (w : World) : Calls Try.prog 199 #[.int .i64 b, .int .i64 k] w fun e w' => e = .returned (.int .i64 (powV b k)) ∧ w = w' := by
  by_cases h : (b = 2 ∨ b = 5 ∨ b = 10) ∧ 0 ≤ k ∧ k ≤ 17
  · exact pow_spec_good b k w h.1 h.2.1 h.2.2
  · exact pow_spec_bad b k w h
theorem pow_impl (b k : Int) (w : World) : Calls Try.prog 203 #[.int .i64 b, .int .i64 k] w fun e w' => e = .returned (.int .i64 (powV b k)) ∧ Below w.heap.size w w' := by
  by_cases h : (b = 2 ∨ b = 5 ∨ b = 10) ∧ 0 ≤ k ∧ k ≤ 17
  · exact pow_impl_good b k w h.1 h.2.1 h.2.2
  · exact pow_impl_bad b k w h
end Go.Proofs.Ytgfebmnlcihpnaa
