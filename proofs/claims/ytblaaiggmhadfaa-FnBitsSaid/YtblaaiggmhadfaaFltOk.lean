/- What FltOk of the program and of the model returns: whether the two fields form a floating-point number. -/
import Derived.Test.YtblaaiggmhadfaaFltMath
import Derived.Test.YtblaaiggmhadfaaFltEq
import Derived.Test.YtblaaiggmhadfaaIn
import Derived.Test.YtblaaiggmhadfaaMem
import Derived.IntWalk
import Derived.Laws.Shifts
import Derived.Lib.Hide
namespace Go.Proofs.Ytblaaiggmhadfaa
open Go.RowKit
theorem fbox (w : World) (o : Obj) : Below w.heap.size w (w.alloc o) := (Below.refl _ _).alloc (Nat.le_refl _) _
def fltLim (e : Int) : Nat := 65535 / 2 ^ (e - 30).toNat
theorem fltLim_le (e : Int) : fltLim e ≤ 65535 := Nat.div_le_self _ _
theorem fltLim_low {e : Int} (h : e ≤ 30) : fltLim e = 65535 := by unfold fltLim; rw [show (e - 30).toNat = 0 by omega]
theorem lim_shift {e : Int} (h : 30 < e) : Op.shift .shr .i64 65535 .i64 (e - 30) = pure (.int .i64 (fltLim e)) := by
  rw [shift_shr_any _ _ _ _ (by omega)]
  unfold fltLim
  by_cases hk : (e - 30).toNat ≤ 64
  · rw [show min (e - 30).toNat (IntKind.bits .i64) = (e - 30).toNat from Nat.min_eq_left hk, Int.natCast_ediv, Int.natCast_pow]; rfl
  · have h1 : 2 ^ 64 ≤ 2 ^ (e - 30).toNat := Nat.pow_le_pow_right (by decide) (by omega)
    rw [show min (e - 30).toNat (IntKind.bits .i64) = 64 from Nat.min_eq_right (by show 64 ≤ _; omega), Nat.div_eq_of_lt (by omega)]; rfl
theorem fltOk_even {m e : Int} (hz : ¬ (m = 0 ∧ e = 0)) (h : m.tmod 2 = 0) : fltOk m e = false := by
  rw [Bool.eq_false_iff]; intro hv
  obtain ⟨_, _, _, r3, r4⟩ := fltOk_range hv
  by_cases hm : m = 0
  · exact hz ⟨hm, r3 hm⟩
  · exact (r4 hm).1 h
theorem fltOk_deep {m e : Int} (h : e < -16) : fltOk m e = false := by
  rw [Bool.eq_false_iff]; intro hv
  have := (fltOk_range hv).1
  omega
theorem fltOk_lim {m e : Int} (h : m.tmod 2 ≠ 0) (he : -16 ≤ e) : fltOk m e = decide (-(fltLim e : Int) ≤ m ∧ m ≤ fltLim e) := by
  have hL := fltLim_le e
  have hm : m ≠ 0 := by rintro rfl; exact h rfl
  rw [Bool.eq_iff_iff, decide_eq_true_eq]
  constructor
  · intro hv
    have := ((fltOk_range hv).2.2.2.2 hm).2
    have h2 : m.natAbs ≤ fltLim e := (Nat.le_div_iff_mul_le (two_pos _)).2 this
    omega
  · intro hv
    have h2 : m.natAbs ≤ fltLim e := by omega
    exact fltOk_of h he (by omega) ((Nat.le_div_iff_mul_le (two_pos _)).1 h2)
set_option maxRecDepth 100000 in
set_option maxHeartbeats 1000000 in
theorem fltok_impl (m e : Int) (w : World) (h0 : -9223372036854775808 ≤ m) (h1 : m ≤ 9223372036854775807) (k0 : -9223372036854775808 ≤ e) (k1 : e ≤ 9223372036854775807) :
    Calls Try.prog 16 #[.agg #[.int .i64 m, .int .i64 e]] w fun r w' => r = .returned (.bool (fltOk m e)) ∧ Below w.heap.size w w' := by
  have hg := fun x y xs ys w => run_eqGuard_agg (P := Try.prog) w .eql 25 x y xs ys (by kernel_rfl)
  have hq := fun w => flt_eql m e 0 0 w
  by_cases hz : m = 0 ∧ e = 0
  · obtain ⟨rfl, rfl⟩ := hz
    rw [show ((0 : Int) == 0 && (0 : Int) == 0) = true by decide] at hq
    rw [fltOk_zero]
    go_enter Try.func16, Try.ntmps16
    go_wp2
    go_ret
    exact ⟨rfl, fbox _ _⟩
  · rw [show ((m == 0 && e == 0)) = false by rw [Bool.eq_false_iff]; simpa using hz] at hq
    by_cases hm : m.tmod 2 = 0
    · rw [fltOk_even hz hm]
      have hb : (m.tmod 2 == 0) = true := by simpa using hm
      go_enter Try.func16, Try.ntmps16
      go_wp2
      go_ret
      exact ⟨rfl, fbox _ _⟩
    · have hb : (m.tmod 2 == 0) = false := by simpa using hm
      have hb2 : (m % 2 == 0) = false := by rw [Bool.eq_false_iff]; intro h; exact hm (Int.tmod_eq_zero_of_dvd (Int.dvd_of_emod_eq_zero (by simpa using h)))
      by_cases he : e < -16
      · rw [fltOk_deep he]
        go_enter Try.func16, Try.ntmps16
        go_wp2
        go_ret
        exact ⟨rfl, fbox _ _⟩
      · rw [fltOk_lim hm (by omega)]
        by_cases hi : 30 < e
        · have hL := fltLim_le e
          have hs := lim_shift hi
          generalize fltLim e = L at *
          by_cases b1 : -(L : Int) ≤ m
          · by_cases b2 : m ≤ L
            · rw [show decide (-(L : Int) ≤ m ∧ m ≤ L) = true by simp; omega]
              clear hz
              go_enter Try.func16, Try.ntmps16
              go_wp2
              go_ret
              exact ⟨rfl, fbox _ _⟩
            · rw [show decide (-(L : Int) ≤ m ∧ m ≤ L) = false by simp; omega]
              clear hz
              go_enter Try.func16, Try.ntmps16
              go_wp2
              go_ret
              exact ⟨rfl, fbox _ _⟩
          · rw [show decide (-(L : Int) ≤ m ∧ m ≤ L) = false by simp; omega]
            clear hz
            go_enter Try.func16, Try.ntmps16
            go_wp2
            go_ret
            exact ⟨rfl, fbox _ _⟩
        · rw [fltLim_low (by omega)]
          by_cases b1 : -(65535 : Int) ≤ m
          · by_cases b2 : m ≤ 65535
            · rw [show decide (-((65535 : Nat) : Int) ≤ m ∧ m ≤ (65535 : Nat)) = true by simp; omega]
              clear hz
              go_enter Try.func16, Try.ntmps16
              go_wp2
              go_ret
              exact ⟨rfl, fbox _ _⟩
            · rw [show decide (-((65535 : Nat) : Int) ≤ m ∧ m ≤ (65535 : Nat)) = false by simp; omega]
              clear hz
              go_enter Try.func16, Try.ntmps16
              go_wp2
              go_ret
              exact ⟨rfl, fbox _ _⟩
          · rw [show decide (-((65535 : Nat) : Int) ≤ m ∧ m ≤ (65535 : Nat)) = false by simp; omega]
            clear hz
            go_enter Try.func16, Try.ntmps16
            go_wp2
            go_ret
            exact ⟨rfl, fbox _ _⟩
theorem fltOk_zero_e {e : Int} (h : ¬ e = 0) : fltOk 0 e = false := by unfold fltOk; rw [if_pos rfl]; simpa using h
set_option maxRecDepth 100000 in
set_option maxHeartbeats 1000000 in
theorem fltok_spec (m e : Int) (w : World) (h0 : -9223372036854775808 ≤ m) (h1 : m ≤ 9223372036854775807) (k0 : -9223372036854775808 ≤ e) (k1 : e ≤ 9223372036854775807) :
    Calls Try.prog 39 #[.agg #[.int .i64 m, .int .i64 e]] w fun r w' => r = .returned (.bool (fltOk m e)) ∧ Below w.heap.size w w' := by
  by_cases hz : m = 0
  · subst hz
    by_cases he : e = 0
    · subst he
      rw [fltOk_zero]
      go_enter Try.func39, Try.ntmps39
      go_wp2
      go_ret
      exact ⟨rfl, fbox _ _⟩
    · rw [fltOk_zero_e he]
      have hb : (e == 0) = false := by simpa using he
      go_enter Try.func39, Try.ntmps39
      go_wp2
      go_ret
      exact ⟨rfl, fbox _ _⟩
  · have hzb : (m == 0) = false := by simpa using hz
    by_cases hm : -65535 ≤ m ∧ m ≤ 65535
    · have e1 : decide (-65535 ≤ m ∧ m ≤ 65535) = true := by simpa using hm
      by_cases ht : m.tmod 2 = 0
      · rw [fltOk_even (fun h => hz h.1) ht]
        have hb : (m.tmod 2 == 0) = true := by simpa using ht
        clear hm
        go_enter Try.func39, Try.ntmps39
        go_wp2_with (go_at_call 37; refine (in_any _ _ _ _).mono ?_; rintro r w' ⟨rfl, rfl⟩)
        go_ret
        exact ⟨rfl, fbox _ _⟩
      · have hb : (m.tmod 2 == 0) = false := by simpa using ht
        by_cases he : -16 ≤ e ∧ e ≤ 45
        · have e2 : decide (-16 ≤ e ∧ e ≤ 45) = true := by simpa using he
          obtain ⟨c0, c1⟩ := he
          by_cases hi : e ≤ 30
          · rw [fltOk_lim ht c0, fltLim_low hi, show decide (-((65535 : Nat) : Int) ≤ m ∧ m ≤ (65535 : Nat)) = true by simp; omega]
            clear hm c0 c1
            go_enter Try.func39, Try.ntmps39
            go_wp2_with (go_at_call 37; refine (in_any _ _ _ _).mono ?_; rintro r w' ⟨rfl, rfl⟩)
            go_ret
            exact ⟨rfl, fbox _ _⟩
          · have hp : (0 : Int) < 2 ^ (e - 30).toNat := Int.pow_pos (by decide)
            have hp2 : (2 : Int) ^ (e - 30).toNat ≤ 32768 := by
              have h1 : 2 ^ (e - 30).toNat ≤ 2 ^ 15 := Nat.pow_le_pow_right (by decide) (by omega)
              have h2 : ((2 ^ (e - 30).toNat : Nat) : Int) = (2 : Int) ^ (e - 30).toNat := by rw [Int.natCast_pow]; rfl
              omega
            have hs : Op.shift .shl .i64 m .i64 (e - 30) = pure (.int .i64 (m * 2 ^ (e - 30).toNat)) := by
              rw [shift_shl_any _ _ _ _ (by omega), show min (e - 30).toNat (IntKind.bits .i64) = (e - 30).toNat from Nat.min_eq_left (by show _ ≤ 64; omega)]
              have b1 : m * 2 ^ (e - 30).toNat ≤ 65535 * 32768 := Int.le_trans (Int.mul_le_mul_of_nonneg_right hm.2 (Int.le_of_lt hp)) (Int.mul_le_mul_of_nonneg_left hp2 (by decide))
              have b2 : -m * 2 ^ (e - 30).toNat ≤ 65535 * 32768 := Int.le_trans (Int.mul_le_mul_of_nonneg_right (by omega) (Int.le_of_lt hp)) (Int.mul_le_mul_of_nonneg_left hp2 (by decide))
              rw [Int.neg_mul] at b2
              rw [IntWalk.i64_in _ (by omega)]
            have hv : fltOk m e = decide (-65535 ≤ m * 2 ^ (e - 30).toNat ∧ m * 2 ^ (e - 30).toNat ≤ 65535) := by
              rw [Bool.eq_iff_iff, decide_eq_true_eq]
              have h2 : ((m.natAbs * 2 ^ (e - 30).toNat : Nat) : Int) = ((m * 2 ^ (e - 30).toNat).natAbs : Int) := by rw [Int.natAbs_mul, Int.natAbs_pow]; rfl
              constructor
              · intro h
                have := ((fltOk_range h).2.2.2.2 hz).2
                omega
              · intro h
                exact fltOk_of ht c0 (by omega) (by omega)
            rw [hv]
            obtain ⟨B, e3⟩ : ∃ B, decide (-65535 ≤ m * 2 ^ (e - 30).toNat ∧ m * 2 ^ (e - 30).toNat ≤ 65535) = B := ⟨_, rfl⟩
            rw [e3]
            have hi3 : 30 < e := by omega
            have hi2 : decide (e ≤ 30) = false := by simpa using hi
            generalize m * 2 ^ (e - 30).toNat = p at *
            clear hv hm c0 c1 hp hp2 hi
            go_enter Try.func39, Try.ntmps39
            go_wp2_with (go_at_call 37; refine (in_any _ _ _ _).mono ?_; rintro r w' ⟨rfl, rfl⟩)
            go_ret
            exact ⟨rfl, fbox _ _⟩
        · have e2 : decide (-16 ≤ e ∧ e ≤ 45) = false := by simpa using he
          rw [show fltOk m e = false by rw [Bool.eq_false_iff]; intro h; have := fltOk_range h; omega]
          clear hm he
          go_enter Try.func39, Try.ntmps39
          go_wp2_with (go_at_call 37; refine (in_any _ _ _ _).mono ?_; rintro r w' ⟨rfl, rfl⟩)
          go_ret
          exact ⟨rfl, fbox _ _⟩
    · have e1 : decide (-65535 ≤ m ∧ m ≤ 65535) = false := by simpa using hm
      rw [show fltOk m e = false by rw [Bool.eq_false_iff]; intro h; have := fltOk_range h; omega]
      clear hm
      go_enter Try.func39, Try.ntmps39
      go_wp2_with (go_at_call 37; refine (in_any _ _ _ _).mono ?_; rintro r w' ⟨rfl, rfl⟩)
      go_ret
      exact ⟨rfl, fbox _ _⟩
end Go.Proofs.Ytblaaiggmhadfaa
