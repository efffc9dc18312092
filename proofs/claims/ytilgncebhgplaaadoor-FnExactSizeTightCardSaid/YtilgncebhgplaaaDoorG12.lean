import Derived.Test.YtilgncebhgplaaaDoorRows
import Derived.Laws.StructEq
import Derived.WalkKit
import Derived.Test.YtilgncebhgplaaaDoorG5
import Derived.Test.YtilgncebhgplaaaDoorG0
import Derived.IntWalk
import Derived.Laws.Shifts
import Derived.Lib.Hide
import Derived.Test.YtilgncebhgplaaaDoorG4
import Derived.Test.YtilgncebhgplaaaDoorG11
/- '==' and '!=' on floating-point numbers. -/
namespace Go.Proofs.YtilgncebhgplaaaDoor
open Go.RowKit
theorem flt_equal (n x N X : Int) (w : World) : (Op.equalIn 10000 56 (.agg #[.int .i64 n, .int .i64 x]) (.agg #[.int .i64 N, .int .i64 X])).run Tryd.prog w = .ok (n == N && x == X) w := by
  rw [show (10000 : Nat) = 9998 + 1 + 1 from rfl, run_equalIn_agg w (9998 + 1) 56 _ _ (by kernel_rfl) (by kernel_rfl)]
  simp [Op.eqFields, Program.fieldsOf, Tryd.underlying56, Tryd.underlying3, go_sem]
  by_cases h : n = N <;> by_cases k : x = X <;> simp [h, k]
theorem flt_eql (n x N X : Int) (w : World) : (binOp .eql 56 (.agg #[.int .i64 n, .int .i64 x]) (.agg #[.int .i64 N, .int .i64 X])).run Tryd.prog w = .ok (.bool (n == N && x == X)) w := by
  rw [run_eql_struct, flt_equal]; rfl
theorem flt_neq (n x N X : Int) (w : World) : (binOp .neq 56 (.agg #[.int .i64 n, .int .i64 x]) (.agg #[.int .i64 N, .int .i64 X])).run Tryd.prog w = .ok (.bool (!(n == N && x == X))) w := by
  rw [run_neq_struct, flt_equal]; rfl
end Go.Proofs.YtilgncebhgplaaaDoor
/- What FltOk of the program and of the model returns: whether the two fields form a floating-point number. -/
namespace Go.Proofs.YtilgncebhgplaaaDoor
open Go.RowKit
theorem fbox (w : World) (o : Obj) : Below w.heap.size w (w.alloc o) := (Below.refl _ _).alloc (Nat.le_refl _) _
def fltLim (e : Int) : Nat := 65535 / 2 ^ (e - 30).toNat
theorem fltLim_le (e : Int) : fltLim e ≤ 65535 := Nat.div_le_self _ _
theorem fltLim_low {e : Int} (h : e ≤ 30) : fltLim e = 65535 := by unfold fltLim; rw [show (e - 30).toNat = 0 by omega]
theorem lim_shift {e : Int} (h : 30 < e) : Op.shift .shr .i64 65535 .i64 (e - 30) = pure (.int .i64 (fltLim e)) := by
  rw [shift_shr_any _ _ _ _ (by omega)]
  unfold fltLim
  by_cases hk : (e - 30).toNat ≤ 64
  · rw [show min (e - 30).toNat (IntKind.bits .i64) = (e - 30).toNat from Nat.min_eq_left hk, Int.natCast_ediv, Int.natCast_pow]; rfl
  · have h1 : 2 ^ 64 ≤ 2 ^ (e - 30).toNat := Nat.pow_le_pow_right (by decide) (by omega)
    rw [show min (e - 30).toNat (IntKind.bits .i64) = 64 from Nat.min_eq_right (by show 64 ≤ _; omega), Nat.div_eq_of_lt (by omega)]; rfl
theorem fltOk_even {m e : Int} (hz : ¬ (m = 0 ∧ e = 0)) (h : m.tmod 2 = 0) : fltOk m e = false := by
  rw [Bool.eq_false_iff]; intro hv
  obtain ⟨_, _, _, r3, r4⟩ := fltOk_range hv
  by_cases hm : m = 0
  · exact hz ⟨hm, r3 hm⟩
  · exact (r4 hm).1 h
theorem fltOk_deep {m e : Int} (h : e < -16) : fltOk m e = false := by
  rw [Bool.eq_false_iff]; intro hv
  have := (fltOk_range hv).1
  omega
theorem fltOk_lim {m e : Int} (h : m.tmod 2 ≠ 0) (he : -16 ≤ e) : fltOk m e = decide (-(fltLim e : Int) ≤ m ∧ m ≤ fltLim e) := by
  have hL := fltLim_le e
  have hm : m ≠ 0 := by rintro rfl; exact h rfl
  rw [Bool.eq_iff_iff, decide_eq_true_eq]
  constructor
  · intro hv
    have := ((fltOk_range hv).2.2.2.2 hm).2
    have h2 : m.natAbs ≤ fltLim e := (Nat.le_div_iff_mul_le (two_pos _)).2 this
    omega
  · intro hv
    have h2 : m.natAbs ≤ fltLim e := by omega
    exact fltOk_of h he (by omega) ((Nat.le_div_iff_mul_le (two_pos _)).1 h2)
set_option maxRecDepth 100000 in
set_option maxHeartbeats 1000000 in
theorem fltok_impl (m e : Int) (w : World) (h0 : -9223372036854775808 ≤ m) (h1 : m ≤ 9223372036854775807) (k0 : -9223372036854775808 ≤ e) (k1 : e ≤ 9223372036854775807) :
    Calls Tryd.prog 72 #[.agg #[.int .i64 m, .int .i64 e]] w fun r w' => r = .returned (.bool (fltOk m e)) ∧ Below w.heap.size w w' := by
  have hg := fun x y xs ys w => run_eqGuard_agg (P := Tryd.prog) w .eql 56 x y xs ys (by kernel_rfl)
  have hq := fun w => flt_eql m e 0 0 w
  by_cases hz : m = 0 ∧ e = 0
  · obtain ⟨rfl, rfl⟩ := hz
    rw [show ((0 : Int) == 0 && (0 : Int) == 0) = true by decide] at hq
    rw [fltOk_zero]
    go_enter Tryd.func72, Tryd.ntmps72
    go_wp2
    go_ret
    exact ⟨rfl, fbox _ _⟩
  · rw [show ((m == 0 && e == 0)) = false by rw [Bool.eq_false_iff]; simpa using hz] at hq
    by_cases hm : m.tmod 2 = 0
    · rw [fltOk_even hz hm]
      have hb : (m.tmod 2 == 0) = true := by simpa using hm
      go_enter Tryd.func72, Tryd.ntmps72
      go_wp2
      go_ret
      exact ⟨rfl, fbox _ _⟩
    · have hb : (m.tmod 2 == 0) = false := by simpa using hm
      have hb2 : (m % 2 == 0) = false := by rw [Bool.eq_false_iff]; intro h; exact hm (Int.tmod_eq_zero_of_dvd (Int.dvd_of_emod_eq_zero (by simpa using h)))
      by_cases he : e < -16
      · rw [fltOk_deep he]
        go_enter Tryd.func72, Tryd.ntmps72
        go_wp2
        go_ret
        exact ⟨rfl, fbox _ _⟩
      · rw [fltOk_lim hm (by omega)]
        by_cases hi : 30 < e
        · have hL := fltLim_le e
          have hs := lim_shift hi
          generalize fltLim e = L at *
          by_cases b1 : -(L : Int) ≤ m
          · by_cases b2 : m ≤ L
            · rw [show decide (-(L : Int) ≤ m ∧ m ≤ L) = true by simp; omega]
              clear hz
              go_enter Tryd.func72, Tryd.ntmps72
              go_wp2
              go_ret
              exact ⟨rfl, fbox _ _⟩
            · rw [show decide (-(L : Int) ≤ m ∧ m ≤ L) = false by simp; omega]
              clear hz
              go_enter Tryd.func72, Tryd.ntmps72
              go_wp2
              go_ret
              exact ⟨rfl, fbox _ _⟩
          · rw [show decide (-(L : Int) ≤ m ∧ m ≤ L) = false by simp; omega]
            clear hz
            go_enter Tryd.func72, Tryd.ntmps72
            go_wp2
            go_ret
            exact ⟨rfl, fbox _ _⟩
        · rw [fltLim_low (by omega)]
          by_cases b1 : -(65535 : Int) ≤ m
          · by_cases b2 : m ≤ 65535
            · rw [show decide (-((65535 : Nat) : Int) ≤ m ∧ m ≤ (65535 : Nat)) = true by simp; omega]
              clear hz
              go_enter Tryd.func72, Tryd.ntmps72
              go_wp2
              go_ret
              exact ⟨rfl, fbox _ _⟩
            · rw [show decide (-((65535 : Nat) : Int) ≤ m ∧ m ≤ (65535 : Nat)) = false by simp; omega]
              clear hz
              go_enter Tryd.func72, Tryd.ntmps72
              go_wp2
              go_ret
              exact ⟨rfl, fbox _ _⟩
          · rw [show decide (-((65535 : Nat) : Int) ≤ m ∧ m ≤ (65535 : Nat)) = false by simp; omega]
            clear hz
            go_enter Tryd.func72, Tryd.ntmps72
            go_wp2
            go_ret
            exact ⟨rfl, fbox _ _⟩
theorem fltOk_zero_e {e : Int} (h : ¬ e = 0) : fltOk 0 e = false := by unfold fltOk; rw [if_pos rfl]; simpa using h
set_option maxRecDepth 100000 in
set_option maxHeartbeats 1000000 in
theorem fltok_spec (m e : Int) (w : World) (h0 : -9223372036854775808 ≤ m) (h1 : m ≤ 9223372036854775807) (k0 : -9223372036854775808 ≤ e) (k1 : e ≤ 9223372036854775807) :
    Calls Tryd.prog 54 #[.agg #[.int .i64 m, .int .i64 e]] w fun r w' => r = .returned (.bool (fltOk m e)) ∧ Below w.heap.size w w' := by
  by_cases hz : m = 0
  · subst hz
    by_cases he : e = 0
    · subst he
      rw [fltOk_zero]
      go_enter Tryd.func54, Tryd.ntmps54
      go_wp2
      go_ret
      exact ⟨rfl, fbox _ _⟩
    · rw [fltOk_zero_e he]
      have hb : (e == 0) = false := by simpa using he
      go_enter Tryd.func54, Tryd.ntmps54
      go_wp2
      go_ret
      exact ⟨rfl, fbox _ _⟩
  · have hzb : (m == 0) = false := by simpa using hz
    by_cases hm : -65535 ≤ m ∧ m ≤ 65535
    · have e1 : decide (-65535 ≤ m ∧ m ≤ 65535) = true := by simpa using hm
      by_cases ht : m.tmod 2 = 0
      · rw [fltOk_even (fun h => hz h.1) ht]
        have hb : (m.tmod 2 == 0) = true := by simpa using ht
        clear hm
        go_enter Tryd.func54, Tryd.ntmps54
        go_wp2_with (go_at_call 38; refine (in_any _ _ _ _).mono ?_; rintro r w' ⟨rfl, rfl⟩)
        go_ret
        exact ⟨rfl, fbox _ _⟩
      · have hb : (m.tmod 2 == 0) = false := by simpa using ht
        by_cases he : -16 ≤ e ∧ e ≤ 45
        · have e2 : decide (-16 ≤ e ∧ e ≤ 45) = true := by simpa using he
          obtain ⟨c0, c1⟩ := he
          by_cases hi : e ≤ 30
          · rw [fltOk_lim ht c0, fltLim_low hi, show decide (-((65535 : Nat) : Int) ≤ m ∧ m ≤ (65535 : Nat)) = true by simp; omega]
            clear hm c0 c1
            go_enter Tryd.func54, Tryd.ntmps54
            go_wp2_with (go_at_call 38; refine (in_any _ _ _ _).mono ?_; rintro r w' ⟨rfl, rfl⟩)
            go_ret
            exact ⟨rfl, fbox _ _⟩
          · have hp : (0 : Int) < 2 ^ (e - 30).toNat := Int.pow_pos (by decide)
            have hp2 : (2 : Int) ^ (e - 30).toNat ≤ 32768 := by
              have h1 : 2 ^ (e - 30).toNat ≤ 2 ^ 15 := Nat.pow_le_pow_right (by decide) (by omega)
              have h2 : ((2 ^ (e - 30).toNat : Nat) : Int) = (2 : Int) ^ (e - 30).toNat := by rw [Int.natCast_pow]; rfl
              omega
            have hs : Op.shift .shl .i64 m .i64 (e - 30) = pure (.int .i64 (m * 2 ^ (e - 30).toNat)) := by
              rw [shift_shl_any _ _ _ _ (by omega), show min (e - 30).toNat (IntKind.bits .i64) = (e - 30).toNat from Nat.min_eq_left (by show _ ≤ 64; omega)]
              have b1 : m * 2 ^ (e - 30).toNat ≤ 65535 * 32768 := Int.le_trans (Int.mul_le_mul_of_nonneg_right hm.2 (Int.le_of_lt hp)) (Int.mul_le_mul_of_nonneg_left hp2 (by decide))
              have b2 : -m * 2 ^ (e - 30).toNat ≤ 65535 * 32768 := Int.le_trans (Int.mul_le_mul_of_nonneg_right (by omega) (Int.le_of_lt hp)) (Int.mul_le_mul_of_nonneg_left hp2 (by decide))
              rw [Int.neg_mul] at b2
              rw [IntWalk.i64_in _ (by omega)]
            have hv : fltOk m e = decide (-65535 ≤ m * 2 ^ (e - 30).toNat ∧ m * 2 ^ (e - 30).toNat ≤ 65535) := by
              rw [Bool.eq_iff_iff, decide_eq_true_eq]
              have h2 : ((m.natAbs * 2 ^ (e - 30).toNat : Nat) : Int) = ((m * 2 ^ (e - 30).toNat).natAbs : Int) := by rw [Int.natAbs_mul, Int.natAbs_pow]; rfl
              constructor
              · intro h
                have := ((fltOk_range h).2.2.2.2 hz).2
                omega
              · intro h
                exact fltOk_of ht c0 (by omega) (by omega)
            rw [hv]
            obtain ⟨B, e3⟩ : ∃ B, decide (-65535 ≤ m * 2 ^ (e - 30).toNat ∧ m * 2 ^ (e - 30).toNat ≤ 65535) = B := ⟨_, rfl⟩
            rw [e3]
            have hi3 : 30 < e := by omega
            have hi2 : decide (e ≤ 30) = false := by simpa using hi
            generalize m * 2 ^ (e - 30).toNat = p at *
            clear hv hm c0 c1 hp hp2 hi
            go_enter Tryd.func54, Tryd.ntmps54
            go_wp2_with (go_at_call 38; refine (in_any _ _ _ _).mono ?_; rintro r w' ⟨rfl, rfl⟩)
            go_ret
            exact ⟨rfl, fbox _ _⟩
        · have e2 : decide (-16 ≤ e ∧ e ≤ 45) = false := by simpa using he
          rw [show fltOk m e = false by rw [Bool.eq_false_iff]; intro h; have := fltOk_range h; omega]
          clear hm he
          go_enter Tryd.func54, Tryd.ntmps54
          go_wp2_with (go_at_call 38; refine (in_any _ _ _ _).mono ?_; rintro r w' ⟨rfl, rfl⟩)
          go_ret
          exact ⟨rfl, fbox _ _⟩
    · have e1 : decide (-65535 ≤ m ∧ m ≤ 65535) = false := by simpa using hm
      rw [show fltOk m e = false by rw [Bool.eq_false_iff]; intro h; have := fltOk_range h; omega]
      clear hm
      go_enter Tryd.func54, Tryd.ntmps54
      go_wp2_with (go_at_call 38; refine (in_any _ _ _ _).mono ?_; rintro r w' ⟨rfl, rfl⟩)
      go_ret
      exact ⟨rfl, fbox _ _⟩
end Go.Proofs.YtilgncebhgplaaaDoor
/- What DecOk of the program and of the model returns: whether the two fields form a decimal number. -/
namespace Go.Proofs.YtilgncebhgplaaaDoor
open Go.RowKit
theorem decOk_f {n x : Int} (h : ¬ decOk n x = true) : decOk n x = false := by simpa using h
theorem decOk_iff0 (n : Int) : decOk n 0 = true ↔ -1000000000000000 ≤ n ∧ n ≤ 1000000000000000 := by unfold decOk; rw [if_pos rfl, decide_eq_true_eq]
theorem decOk_iff (n x : Int) (h : ¬ x = 0) : decOk n x = true ↔ -16 ≤ x ∧ x ≤ -1 ∧ ((digV n : Nat) : Int) ≤ 17 ∧ n.tmod 10 ≠ 0 := by
  unfold decOk; rw [if_neg h, decide_eq_true_eq]
  constructor
  · rintro ⟨a, b, c, d⟩; exact ⟨a, b, by omega, d⟩
  · rintro ⟨a, b, c, d⟩; exact ⟨a, b, by omega, d⟩
set_option maxRecDepth 100000 in
theorem decok_impl (n x : Int) (w : World) (h0 : -9223372036854775808 ≤ n) (h1 : n ≤ 9223372036854775807) : Calls Tryd.prog 73 #[.agg #[.int .i64 n, .int .i64 x]] w fun e w' => e = .returned (.bool (decOk n x)) ∧ Below w.heap.size w w' := by
  have c := fun w1 => digits_impl n w1 h0 h1
  by_cases hx : x = 0
  · subst hx
    by_cases a : -1000000000000000 ≤ n
    · by_cases b : n ≤ 1000000000000000
      · have e := (decOk_iff0 n).2 ⟨a, b⟩
        rw [e]
        go_enter Tryd.func73, Tryd.ntmps73
        go_wp2
        go_ret
        exact ⟨rfl, below_box _ _⟩
      · have e := decOk_f (fun h => b ((decOk_iff0 n).1 h).2)
        rw [e]
        go_enter Tryd.func73, Tryd.ntmps73
        go_wp2
        go_ret
        exact ⟨rfl, below_box _ _⟩
    · have e := decOk_f (fun h => a ((decOk_iff0 n).1 h).1)
      rw [e]
      go_enter Tryd.func73, Tryd.ntmps73
      go_wp2
      go_ret
      exact ⟨rfl, below_box _ _⟩
  · by_cases a : -16 ≤ x
    · by_cases b : x ≤ -1
      · by_cases d : ((digV n : Nat) : Int) ≤ 17
        · by_cases m : n.tmod 10 = 0
          · have e := decOk_f (fun h => ((decOk_iff n x hx).1 h).2.2.2 m)
            have mb : (n.tmod 10 != 0) = false := by simpa using m
            rw [e]
            go_enter Tryd.func73, Tryd.ntmps73
            go_wp2_with (go_at_call 80; refine (c _).mono ?_; rintro e w' ⟨rfl, rfl⟩)
            go_ret
            exact ⟨rfl, below_box _ _⟩
          · have e := (decOk_iff n x hx).2 ⟨a, b, d, m⟩
            have mb : (n.tmod 10 != 0) = true := by simpa using m
            rw [e]
            go_enter Tryd.func73, Tryd.ntmps73
            go_wp2_with (go_at_call 80; refine (c _).mono ?_; rintro e w' ⟨rfl, rfl⟩)
            go_ret
            exact ⟨rfl, below_box _ _⟩
        · have e := decOk_f (fun h => d ((decOk_iff n x hx).1 h).2.2.1)
          rw [e]
          go_enter Tryd.func73, Tryd.ntmps73
          go_wp2_with (go_at_call 80; refine (c _).mono ?_; rintro e w' ⟨rfl, rfl⟩)
          go_ret
          exact ⟨rfl, below_box _ _⟩
      · have e := decOk_f (fun h => b ((decOk_iff n x hx).1 h).2.1)
        rw [e]
        go_enter Tryd.func73, Tryd.ntmps73
        go_wp2
        go_ret
        exact ⟨rfl, below_box _ _⟩
    · have e := decOk_f (fun h => a ((decOk_iff n x hx).1 h).1)
      rw [e]
      go_enter Tryd.func73, Tryd.ntmps73
      go_wp2
      go_ret
      exact ⟨rfl, below_box _ _⟩
set_option maxRecDepth 100000 in
theorem decok_spec (n x : Int) (w : World) (h0 : -9223372036854775808 ≤ n) (h1 : n ≤ 9223372036854775807) : Calls Tryd.prog 55 #[.agg #[.int .i64 n, .int .i64 x]] w fun e w' => e = .returned (.bool (decOk n x)) ∧ Below w.heap.size w w' := by
  have c := fun w1 => digits_spec n w1 h0 h1
  by_cases hx : x = 0
  · subst hx
    have ci := fun w1 => in_any n (-1000000000000000) 1000000000000000 w1
    have e : decide (-1000000000000000 ≤ n ∧ n ≤ 1000000000000000) = decOk n 0 := by rw [Bool.eq_iff_iff, decide_eq_true_eq, decOk_iff0]
    rw [e] at ci
    clear e
    go_enter Tryd.func55, Tryd.ntmps55
    go_wp2_with (go_at_call 38; refine (ci _).mono ?_; rintro e w' ⟨rfl, rfl⟩)
    go_ret
    exact ⟨rfl, below_box _ _⟩
  · by_cases a : -16 ≤ x ∧ x ≤ -1
    · have ci := fun w1 => in_yes x (-16) (-1) w1 a.1 a.2
      by_cases m : n.tmod 10 = 0
      · have e := decOk_f (fun h => ((decOk_iff n x hx).1 h).2.2.2 m)
        have mb : (n.tmod 10 != 0) = false := by simpa using m
        rw [e]
        clear a
        go_enter Tryd.func55, Tryd.ntmps55
        go_wp2_with (go_at_call 38; refine (ci _).mono ?_; rintro e w' ⟨rfl, rfl⟩)
        go_ret
        exact ⟨rfl, below_box _ _⟩
      · by_cases d : ((digV n : Nat) : Int) ≤ 17
        · have e := (decOk_iff n x hx).2 ⟨a.1, a.2, d, m⟩
          have mb : (n.tmod 10 != 0) = true := by simpa using m
          rw [e]
          clear a
          go_enter Tryd.func55, Tryd.ntmps55
          go_wp2_with (first | (go_at_call 38; refine (ci _).mono ?_; rintro e w' ⟨rfl, rfl⟩) | (go_at_call 70; refine (c _).mono ?_; rintro e w' ⟨rfl, rfl⟩))
          go_ret
          exact ⟨rfl, below_box _ _⟩
        · have e := decOk_f (fun h => d ((decOk_iff n x hx).1 h).2.2.1)
          have mb : (n.tmod 10 != 0) = true := by simpa using m
          have db : decide (((digV n : Nat) : Int) ≤ 17) = false := decide_eq_false d
          rw [e]
          clear a
          go_enter Tryd.func55, Tryd.ntmps55
          go_wp2_with (first | (go_at_call 38; refine (ci _).mono ?_; rintro e w' ⟨rfl, rfl⟩) | (go_at_call 70; refine (c _).mono ?_; rintro e w' ⟨rfl, rfl⟩))
          go_ret
          exact ⟨rfl, below_box _ _⟩
    · have ci := fun w1 => in_no x (-16) (-1) w1 (by omega)
      have e := decOk_f (fun h => a ⟨((decOk_iff n x hx).1 h).1, ((decOk_iff n x hx).1 h).2.1⟩)
      rw [e]
      clear a
      go_enter Tryd.func55, Tryd.ntmps55
      go_wp2_with (go_at_call 38; refine (ci _).mono ?_; rintro e w' ⟨rfl, rfl⟩)
      go_ret
      exact ⟨rfl, below_box _ _⟩
end Go.Proofs.YtilgncebhgplaaaDoor
/- contentOk: whether a content is within the bounds of its kind. -/
namespace Go.Proofs.YtilgncebhgplaaaDoor
open Go.RowKit
set_option maxHeartbeats 1000000 in
set_option maxRecDepth 100000 in
theorem cok_null (w : World) (n x : Int) (s : ByteArray) (a : Option Addr) (len cap : Nat) : Calls Tryd.prog 60 #[.iface 99 (.agg #[])] w fun e w' => e = .returned (.bool (true)) ∧ Below w.heap.size w w' := by
  have ta_null : ∀ W : World, (Instr.typeAssert (.iface 99 (.agg #[])) 77 99 true).run Tryd.prog W = .ok (.tuple #[(.agg #[]), .bool true]) W := fun W => by kernel_rfl
  have ta_bytes : ∀ W : World, (Instr.typeAssert (.iface 99 (.agg #[])) 77 106 true).run Tryd.prog W = .ok (.tuple #[(.string ⟨#[]⟩), .bool false]) W := fun W => by kernel_rfl
  have ta_list : ∀ W : World, (Instr.typeAssert (.iface 99 (.agg #[])) 77 107 true).run Tryd.prog W = .ok (.tuple #[(.slice none 0 0), .bool false]) W := fun W => by kernel_rfl
  go_enter Tryd.func60, Tryd.ntmps60
  go_wp2
  go_ret
  exact ⟨rfl, Below.refl _ _⟩
set_option maxHeartbeats 1000000 in
set_option maxRecDepth 100000 in
theorem cok_bytes (w : World) (n x : Int) (s : ByteArray) (a : Option Addr) (len cap : Nat) : Calls Tryd.prog 60 #[.iface 106 (.string s)] w fun e w' => e = .returned (.bool (true)) ∧ Below w.heap.size w w' := by
  have ta_null : ∀ W : World, (Instr.typeAssert (.iface 106 (.string s)) 77 99 true).run Tryd.prog W = .ok (.tuple #[(.agg #[]), .bool false]) W := fun W => by kernel_rfl
  have ta_bytes : ∀ W : World, (Instr.typeAssert (.iface 106 (.string s)) 77 106 true).run Tryd.prog W = .ok (.tuple #[(.string s), .bool true]) W := fun W => by kernel_rfl
  have ta_list : ∀ W : World, (Instr.typeAssert (.iface 106 (.string s)) 77 107 true).run Tryd.prog W = .ok (.tuple #[(.slice none 0 0), .bool false]) W := fun W => by kernel_rfl
  go_enter Tryd.func60, Tryd.ntmps60
  go_wp2
  go_ret
  exact ⟨rfl, Below.refl _ _⟩
set_option maxHeartbeats 1000000 in
set_option maxRecDepth 100000 in
theorem cok_list (w : World) (n x : Int) (s : ByteArray) (a : Option Addr) (len cap : Nat) : Calls Tryd.prog 60 #[.iface 107 (.slice a len cap)] w fun e w' => e = .returned (.bool (true)) ∧ Below w.heap.size w w' := by
  have ta_null : ∀ W : World, (Instr.typeAssert (.iface 107 (.slice a len cap)) 77 99 true).run Tryd.prog W = .ok (.tuple #[(.agg #[]), .bool false]) W := fun W => by kernel_rfl
  have ta_bytes : ∀ W : World, (Instr.typeAssert (.iface 107 (.slice a len cap)) 77 106 true).run Tryd.prog W = .ok (.tuple #[(.string ⟨#[]⟩), .bool false]) W := fun W => by kernel_rfl
  have ta_list : ∀ W : World, (Instr.typeAssert (.iface 107 (.slice a len cap)) 77 107 true).run Tryd.prog W = .ok (.tuple #[(.slice a len cap), .bool true]) W := fun W => by kernel_rfl
  go_enter Tryd.func60, Tryd.ntmps60
  go_wp2
  go_ret
  exact ⟨rfl, Below.refl _ _⟩
set_option maxHeartbeats 1000000 in
set_option maxRecDepth 100000 in
theorem cok_nil (w : World)  : Calls Tryd.prog 60 #[.nilIface] w fun e w' => e = .returned (.bool (false)) ∧ Below w.heap.size w w' := by
  have ta_null : ∀ W : World, (Instr.typeAssert .nilIface 77 99 true).run Tryd.prog W = .ok (.tuple #[(.agg #[]), .bool false]) W := fun W => by kernel_rfl
  have ta_bytes : ∀ W : World, (Instr.typeAssert .nilIface 77 106 true).run Tryd.prog W = .ok (.tuple #[(.string ⟨#[]⟩), .bool false]) W := fun W => by kernel_rfl
  have ta_list : ∀ W : World, (Instr.typeAssert .nilIface 77 107 true).run Tryd.prog W = .ok (.tuple #[(.slice none 0 0), .bool false]) W := fun W => by kernel_rfl
  have ta_bool : ∀ W : World, (Instr.typeAssert .nilIface 77 100 true).run Tryd.prog W = .ok (.tuple #[(.int .i64 0), .bool false]) W := fun W => by kernel_rfl
  have ta_int : ∀ W : World, (Instr.typeAssert .nilIface 77 101 true).run Tryd.prog W = .ok (.tuple #[(.int .i64 0), .bool false]) W := fun W => by kernel_rfl
  have ta_flt : ∀ W : World, (Instr.typeAssert .nilIface 77 102 true).run Tryd.prog W = .ok (.tuple #[(.agg #[.int .i64 0, .int .i64 0]), .bool false]) W := fun W => by kernel_rfl
  have ta_odd : ∀ W : World, (Instr.typeAssert .nilIface 77 103 true).run Tryd.prog W = .ok (.tuple #[(.int .i64 0), .bool false]) W := fun W => by kernel_rfl
  have ta_dec : ∀ W : World, (Instr.typeAssert .nilIface 77 104 true).run Tryd.prog W = .ok (.tuple #[(.agg #[.int .i64 0, .int .i64 0]), .bool false]) W := fun W => by kernel_rfl
  have ta_text : ∀ W : World, (Instr.typeAssert .nilIface 77 105 true).run Tryd.prog W = .ok (.tuple #[(.string ⟨#[]⟩), .bool false]) W := fun W => by kernel_rfl
  have ta_map : ∀ W : World, (Instr.typeAssert .nilIface 77 108 true).run Tryd.prog W = .ok (.tuple #[(.slice none 0 0), .bool false]) W := fun W => by kernel_rfl
  have ta_tag : ∀ W : World, (Instr.typeAssert .nilIface 77 110 true).run Tryd.prog W = .ok (.tuple #[(.agg #[.int .i64 0, .slice none 0 0]), .bool false]) W := fun W => by kernel_rfl
  go_enter Tryd.func60, Tryd.ntmps60
  go_wp2
  go_ret
  exact ⟨rfl, Below.refl _ _⟩
set_option maxHeartbeats 1000000 in
set_option maxRecDepth 100000 in
theorem cok_int (w : World) (n : Int) : Calls Tryd.prog 60 #[.iface 101 (.int .i64 n)] w fun e w' => e = .returned (.bool (decide (-1000000000000000 ≤ n ∧ n ≤ 1000000000000000))) ∧ Below w.heap.size w w' := by
  have ta_null : ∀ W : World, (Instr.typeAssert (.iface 101 (.int .i64 n)) 77 99 true).run Tryd.prog W = .ok (.tuple #[(.agg #[]), .bool false]) W := fun W => by kernel_rfl
  have ta_bytes : ∀ W : World, (Instr.typeAssert (.iface 101 (.int .i64 n)) 77 106 true).run Tryd.prog W = .ok (.tuple #[(.string ⟨#[]⟩), .bool false]) W := fun W => by kernel_rfl
  have ta_list : ∀ W : World, (Instr.typeAssert (.iface 101 (.int .i64 n)) 77 107 true).run Tryd.prog W = .ok (.tuple #[(.slice none 0 0), .bool false]) W := fun W => by kernel_rfl
  have ta_bool : ∀ W : World, (Instr.typeAssert (.iface 101 (.int .i64 n)) 77 100 true).run Tryd.prog W = .ok (.tuple #[(.int .i64 0), .bool false]) W := fun W => by kernel_rfl
  have ta_int : ∀ W : World, (Instr.typeAssert (.iface 101 (.int .i64 n)) 77 101 true).run Tryd.prog W = .ok (.tuple #[(.int .i64 n), .bool true]) W := fun W => by kernel_rfl
  by_cases h0 : -1000000000000000 ≤ n
  · by_cases h1 : n ≤ 1000000000000000
    · rw [decide_eq_true (And.intro h0 h1)]
      go_enter Tryd.func60, Tryd.ntmps60
      go_wp2
      go_ret
      exact ⟨rfl, Below.refl _ _⟩
    · rw [decide_eq_false (fun h => h1 h.2)]
      go_enter Tryd.func60, Tryd.ntmps60
      go_wp2
      go_ret
      exact ⟨rfl, Below.refl _ _⟩
  · rw [decide_eq_false (fun h => h0 h.1)]
    go_enter Tryd.func60, Tryd.ntmps60
    go_wp2
    go_ret
    exact ⟨rfl, Below.refl _ _⟩
set_option maxHeartbeats 1000000 in
set_option maxRecDepth 100000 in
theorem cok_odd (w : World) (n : Int) : Calls Tryd.prog 60 #[.iface 103 (.int .i64 n)] w fun e w' => e = .returned (.bool (decide (0 ≤ n ∧ n ≤ 2))) ∧ Below w.heap.size w w' := by
  have ta_null : ∀ W : World, (Instr.typeAssert (.iface 103 (.int .i64 n)) 77 99 true).run Tryd.prog W = .ok (.tuple #[(.agg #[]), .bool false]) W := fun W => by kernel_rfl
  have ta_bytes : ∀ W : World, (Instr.typeAssert (.iface 103 (.int .i64 n)) 77 106 true).run Tryd.prog W = .ok (.tuple #[(.string ⟨#[]⟩), .bool false]) W := fun W => by kernel_rfl
  have ta_list : ∀ W : World, (Instr.typeAssert (.iface 103 (.int .i64 n)) 77 107 true).run Tryd.prog W = .ok (.tuple #[(.slice none 0 0), .bool false]) W := fun W => by kernel_rfl
  have ta_bool : ∀ W : World, (Instr.typeAssert (.iface 103 (.int .i64 n)) 77 100 true).run Tryd.prog W = .ok (.tuple #[(.int .i64 0), .bool false]) W := fun W => by kernel_rfl
  have ta_int : ∀ W : World, (Instr.typeAssert (.iface 103 (.int .i64 n)) 77 101 true).run Tryd.prog W = .ok (.tuple #[(.int .i64 0), .bool false]) W := fun W => by kernel_rfl
  have ta_flt : ∀ W : World, (Instr.typeAssert (.iface 103 (.int .i64 n)) 77 102 true).run Tryd.prog W = .ok (.tuple #[(.agg #[.int .i64 0, .int .i64 0]), .bool false]) W := fun W => by kernel_rfl
  have ta_odd : ∀ W : World, (Instr.typeAssert (.iface 103 (.int .i64 n)) 77 103 true).run Tryd.prog W = .ok (.tuple #[(.int .i64 n), .bool true]) W := fun W => by kernel_rfl
  by_cases h0 : 0 ≤ n
  · by_cases h1 : n ≤ 2
    · rw [decide_eq_true (And.intro h0 h1)]
      go_enter Tryd.func60, Tryd.ntmps60
      go_wp2
      go_ret
      exact ⟨rfl, Below.refl _ _⟩
    · rw [decide_eq_false (fun h => h1 h.2)]
      go_enter Tryd.func60, Tryd.ntmps60
      go_wp2
      go_ret
      exact ⟨rfl, Below.refl _ _⟩
  · rw [decide_eq_false (fun h => h0 h.1)]
    go_enter Tryd.func60, Tryd.ntmps60
    go_wp2
    go_ret
    exact ⟨rfl, Below.refl _ _⟩
set_option maxHeartbeats 1000000 in
set_option maxRecDepth 100000 in
theorem cok_bool (w : World) (n : Int) : Calls Tryd.prog 60 #[.iface 100 (.int .i64 n)] w fun e w' => e = .returned (.bool (decide (0 ≤ n ∧ n ≤ 1))) ∧ Below w.heap.size w w' := by
  have ta_null : ∀ W : World, (Instr.typeAssert (.iface 100 (.int .i64 n)) 77 99 true).run Tryd.prog W = .ok (.tuple #[(.agg #[]), .bool false]) W := fun W => by kernel_rfl
  have ta_bytes : ∀ W : World, (Instr.typeAssert (.iface 100 (.int .i64 n)) 77 106 true).run Tryd.prog W = .ok (.tuple #[(.string ⟨#[]⟩), .bool false]) W := fun W => by kernel_rfl
  have ta_list : ∀ W : World, (Instr.typeAssert (.iface 100 (.int .i64 n)) 77 107 true).run Tryd.prog W = .ok (.tuple #[(.slice none 0 0), .bool false]) W := fun W => by kernel_rfl
  have ta_bool : ∀ W : World, (Instr.typeAssert (.iface 100 (.int .i64 n)) 77 100 true).run Tryd.prog W = .ok (.tuple #[(.int .i64 n), .bool true]) W := fun W => by kernel_rfl
  by_cases h0 : n = 0
  · subst h0
    rw [decide_eq_true (by decide)]
    go_enter Tryd.func60, Tryd.ntmps60
    go_wp2
    go_ret
    exact ⟨rfl, Below.refl _ _⟩
  · by_cases h1 : n = 1
    · subst h1
      rw [decide_eq_true (by decide)]
      go_enter Tryd.func60, Tryd.ntmps60
      go_wp2
      go_ret
      exact ⟨rfl, Below.refl _ _⟩
    · rw [decide_eq_false (by omega)]
      have g0 : (n == 0) = false := by simpa using h0
      have g1 : (n == 1) = false := by simpa using h1
      go_enter Tryd.func60, Tryd.ntmps60
      go_wp2
      go_ret
      exact ⟨rfl, Below.refl _ _⟩
set_option maxHeartbeats 1000000 in
set_option maxRecDepth 100000 in
theorem cok_flt (w : World) (n x : Int) (h0 : -9223372036854775808 ≤ n) (h1 : n ≤ 9223372036854775807) (k0 : -9223372036854775808 ≤ x) (k1 : x ≤ 9223372036854775807) : Calls Tryd.prog 60 #[.iface 102 (.agg #[.int .i64 n, .int .i64 x])] w fun e w' => e = .returned (.bool (fltOk n x)) ∧ Below w.heap.size w w' := by
  have ta_null : ∀ W : World, (Instr.typeAssert (.iface 102 (.agg #[.int .i64 n, .int .i64 x])) 77 99 true).run Tryd.prog W = .ok (.tuple #[(.agg #[]), .bool false]) W := fun W => by kernel_rfl
  have ta_bytes : ∀ W : World, (Instr.typeAssert (.iface 102 (.agg #[.int .i64 n, .int .i64 x])) 77 106 true).run Tryd.prog W = .ok (.tuple #[(.string ⟨#[]⟩), .bool false]) W := fun W => by kernel_rfl
  have ta_list : ∀ W : World, (Instr.typeAssert (.iface 102 (.agg #[.int .i64 n, .int .i64 x])) 77 107 true).run Tryd.prog W = .ok (.tuple #[(.slice none 0 0), .bool false]) W := fun W => by kernel_rfl
  have ta_bool : ∀ W : World, (Instr.typeAssert (.iface 102 (.agg #[.int .i64 n, .int .i64 x])) 77 100 true).run Tryd.prog W = .ok (.tuple #[(.int .i64 0), .bool false]) W := fun W => by kernel_rfl
  have ta_int : ∀ W : World, (Instr.typeAssert (.iface 102 (.agg #[.int .i64 n, .int .i64 x])) 77 101 true).run Tryd.prog W = .ok (.tuple #[(.int .i64 0), .bool false]) W := fun W => by kernel_rfl
  have ta_flt : ∀ W : World, (Instr.typeAssert (.iface 102 (.agg #[.int .i64 n, .int .i64 x])) 77 102 true).run Tryd.prog W = .ok (.tuple #[(.agg #[.int .i64 n, .int .i64 x]), .bool true]) W := fun W => by kernel_rfl
  have c := fun w1 => fltok_impl n x w1 h0 h1 k0 k1
  have C := Lib.hid c
  clear c
  go_enter Tryd.func60, Tryd.ntmps60
  go_wp2_with fail
  refine (C.out _).mono ?_
  rintro e w1 ⟨rfl, hb⟩
  have HB := Lib.hid ((vbox w _).trans (hb.mono (by simp)))
  clear hb
  go_wp2
  go_ret
  exact ⟨rfl, HB.out⟩
set_option maxHeartbeats 1000000 in
set_option maxRecDepth 100000 in
theorem cok_text (w : World) (l : List UInt8) (hl : l.length ≤ 1099511627776) : Calls Tryd.prog 60 #[.iface 105 (.string ⟨l.toArray⟩)] w fun e w' => e = .returned (.bool ((runes l).isSome)) ∧ Below w.heap.size w w' := by
  have ta_null : ∀ W : World, (Instr.typeAssert (.iface 105 (.string ⟨l.toArray⟩)) 77 99 true).run Tryd.prog W = .ok (.tuple #[(.agg #[]), .bool false]) W := fun W => by kernel_rfl
  have ta_bytes : ∀ W : World, (Instr.typeAssert (.iface 105 (.string ⟨l.toArray⟩)) 77 106 true).run Tryd.prog W = .ok (.tuple #[(.string ⟨#[]⟩), .bool false]) W := fun W => by kernel_rfl
  have ta_list : ∀ W : World, (Instr.typeAssert (.iface 105 (.string ⟨l.toArray⟩)) 77 107 true).run Tryd.prog W = .ok (.tuple #[(.slice none 0 0), .bool false]) W := fun W => by kernel_rfl
  have ta_bool : ∀ W : World, (Instr.typeAssert (.iface 105 (.string ⟨l.toArray⟩)) 77 100 true).run Tryd.prog W = .ok (.tuple #[(.int .i64 0), .bool false]) W := fun W => by kernel_rfl
  have ta_int : ∀ W : World, (Instr.typeAssert (.iface 105 (.string ⟨l.toArray⟩)) 77 101 true).run Tryd.prog W = .ok (.tuple #[(.int .i64 0), .bool false]) W := fun W => by kernel_rfl
  have ta_flt : ∀ W : World, (Instr.typeAssert (.iface 105 (.string ⟨l.toArray⟩)) 77 102 true).run Tryd.prog W = .ok (.tuple #[(.agg #[.int .i64 0, .int .i64 0]), .bool false]) W := fun W => by kernel_rfl
  have ta_odd : ∀ W : World, (Instr.typeAssert (.iface 105 (.string ⟨l.toArray⟩)) 77 103 true).run Tryd.prog W = .ok (.tuple #[(.int .i64 0), .bool false]) W := fun W => by kernel_rfl
  have ta_dec : ∀ W : World, (Instr.typeAssert (.iface 105 (.string ⟨l.toArray⟩)) 77 104 true).run Tryd.prog W = .ok (.tuple #[(.agg #[.int .i64 0, .int .i64 0]), .bool false]) W := fun W => by kernel_rfl
  have ta_text : ∀ W : World, (Instr.typeAssert (.iface 105 (.string ⟨l.toArray⟩)) 77 105 true).run Tryd.prog W = .ok (.tuple #[(.string ⟨l.toArray⟩), .bool true]) W := fun W => by kernel_rfl
  have c := fun w1 => textok_impl l w1 hl
  have C := Lib.hid c
  clear c
  go_enter Tryd.func60, Tryd.ntmps60
  go_wp2_with fail
  refine (C.out _).mono ?_
  rintro e w1 ⟨rfl, hb⟩
  have HB := Lib.hid hb
  clear hb
  go_wp2
  go_ret
  exact ⟨rfl, HB.out⟩
set_option maxHeartbeats 1000000 in
set_option maxRecDepth 100000 in
theorem cok_dec (w : World) (n x : Int) (h0 : -9223372036854775808 ≤ n) (h1 : n ≤ 9223372036854775807) : Calls Tryd.prog 60 #[.iface 104 (.agg #[.int .i64 n, .int .i64 x])] w fun e w' => e = .returned (.bool (decide (x < 0) && decOk n x)) ∧ Below w.heap.size w w' := by
  have ta_null : ∀ W : World, (Instr.typeAssert (.iface 104 (.agg #[.int .i64 n, .int .i64 x])) 77 99 true).run Tryd.prog W = .ok (.tuple #[(.agg #[]), .bool false]) W := fun W => by kernel_rfl
  have ta_bytes : ∀ W : World, (Instr.typeAssert (.iface 104 (.agg #[.int .i64 n, .int .i64 x])) 77 106 true).run Tryd.prog W = .ok (.tuple #[(.string ⟨#[]⟩), .bool false]) W := fun W => by kernel_rfl
  have ta_list : ∀ W : World, (Instr.typeAssert (.iface 104 (.agg #[.int .i64 n, .int .i64 x])) 77 107 true).run Tryd.prog W = .ok (.tuple #[(.slice none 0 0), .bool false]) W := fun W => by kernel_rfl
  have ta_bool : ∀ W : World, (Instr.typeAssert (.iface 104 (.agg #[.int .i64 n, .int .i64 x])) 77 100 true).run Tryd.prog W = .ok (.tuple #[(.int .i64 0), .bool false]) W := fun W => by kernel_rfl
  have ta_int : ∀ W : World, (Instr.typeAssert (.iface 104 (.agg #[.int .i64 n, .int .i64 x])) 77 101 true).run Tryd.prog W = .ok (.tuple #[(.int .i64 0), .bool false]) W := fun W => by kernel_rfl
  have ta_flt : ∀ W : World, (Instr.typeAssert (.iface 104 (.agg #[.int .i64 n, .int .i64 x])) 77 102 true).run Tryd.prog W = .ok (.tuple #[(.agg #[.int .i64 0, .int .i64 0]), .bool false]) W := fun W => by kernel_rfl
  have ta_odd : ∀ W : World, (Instr.typeAssert (.iface 104 (.agg #[.int .i64 n, .int .i64 x])) 77 103 true).run Tryd.prog W = .ok (.tuple #[(.int .i64 0), .bool false]) W := fun W => by kernel_rfl
  have ta_dec : ∀ W : World, (Instr.typeAssert (.iface 104 (.agg #[.int .i64 n, .int .i64 x])) 77 104 true).run Tryd.prog W = .ok (.tuple #[(.agg #[.int .i64 n, .int .i64 x]), .bool true]) W := fun W => by kernel_rfl
  have c := fun w1 => decok_impl n x w1 h0 h1
  have C := Lib.hid c
  clear c
  by_cases hx : x < 0
  · rw [decide_eq_true hx, Bool.true_and]
    go_enter Tryd.func60, Tryd.ntmps60
    go_wp2_with fail
    refine (C.out _).mono ?_
    rintro e w1 ⟨rfl, hb⟩
    have HB := Lib.hid ((vbox w _).trans (hb.mono (by simp)))
    clear hb
    go_wp2
    go_ret
    exact ⟨rfl, HB.out⟩
  · rw [decide_eq_false hx, Bool.false_and]
    go_enter Tryd.func60, Tryd.ntmps60
    go_wp2
    go_ret
    exact ⟨rfl, vbox _ _⟩
set_option maxHeartbeats 1000000 in
set_option maxRecDepth 100000 in
theorem cok_map (w : World) (a : Option Addr) (len cap : Nat) (hl : len ≤ 9223372036854775807) : Calls Tryd.prog 60 #[.iface 108 (.slice a len cap)] w fun e w' => e = .returned (.bool (decide (len % 2 = 0))) ∧ Below w.heap.size w w' := by
  have ta_null : ∀ W : World, (Instr.typeAssert (.iface 108 (.slice a len cap)) 77 99 true).run Tryd.prog W = .ok (.tuple #[(.agg #[]), .bool false]) W := fun W => by kernel_rfl
  have ta_bytes : ∀ W : World, (Instr.typeAssert (.iface 108 (.slice a len cap)) 77 106 true).run Tryd.prog W = .ok (.tuple #[(.string ⟨#[]⟩), .bool false]) W := fun W => by kernel_rfl
  have ta_list : ∀ W : World, (Instr.typeAssert (.iface 108 (.slice a len cap)) 77 107 true).run Tryd.prog W = .ok (.tuple #[(.slice none 0 0), .bool false]) W := fun W => by kernel_rfl
  have ta_bool : ∀ W : World, (Instr.typeAssert (.iface 108 (.slice a len cap)) 77 100 true).run Tryd.prog W = .ok (.tuple #[(.int .i64 0), .bool false]) W := fun W => by kernel_rfl
  have ta_int : ∀ W : World, (Instr.typeAssert (.iface 108 (.slice a len cap)) 77 101 true).run Tryd.prog W = .ok (.tuple #[(.int .i64 0), .bool false]) W := fun W => by kernel_rfl
  have ta_flt : ∀ W : World, (Instr.typeAssert (.iface 108 (.slice a len cap)) 77 102 true).run Tryd.prog W = .ok (.tuple #[(.agg #[.int .i64 0, .int .i64 0]), .bool false]) W := fun W => by kernel_rfl
  have ta_odd : ∀ W : World, (Instr.typeAssert (.iface 108 (.slice a len cap)) 77 103 true).run Tryd.prog W = .ok (.tuple #[(.int .i64 0), .bool false]) W := fun W => by kernel_rfl
  have ta_dec : ∀ W : World, (Instr.typeAssert (.iface 108 (.slice a len cap)) 77 104 true).run Tryd.prog W = .ok (.tuple #[(.agg #[.int .i64 0, .int .i64 0]), .bool false]) W := fun W => by kernel_rfl
  have ta_text : ∀ W : World, (Instr.typeAssert (.iface 108 (.slice a len cap)) 77 105 true).run Tryd.prog W = .ok (.tuple #[(.string ⟨#[]⟩), .bool false]) W := fun W => by kernel_rfl
  have ta_map : ∀ W : World, (Instr.typeAssert (.iface 108 (.slice a len cap)) 77 108 true).run Tryd.prog W = .ok (.tuple #[(.slice a len cap), .bool true]) W := fun W => by kernel_rfl
  have e1 : ((len : Int)).tmod 2 = ((len % 2 : Nat) : Int) := by rw [Int.tmod_eq_emod_of_nonneg (by omega)]; omega
  by_cases h : len % 2 = 0
  · rw [decide_eq_true h]
    have e2 : ((len : Int)).tmod 2 = 0 := by omega
    have e3 : ((len : Int)) % 2 = 0 := by omega
    clear e1 h
    go_enter Tryd.func60, Tryd.ntmps60
    go_wp2
    go_ret
    exact ⟨rfl, Below.refl _ _⟩
  · rw [decide_eq_false h]
    have e2 : ((len : Int)).tmod 2 = 1 := by omega
    have e3 : ((len : Int)) % 2 = 1 := by omega
    clear e1 h
    go_enter Tryd.func60, Tryd.ntmps60
    go_wp2
    go_ret
    exact ⟨rfl, Below.refl _ _⟩
set_option maxHeartbeats 1000000 in
set_option maxRecDepth 100000 in
theorem cok_tag (w : World) (n : Int) (a : Option Addr) (len cap : Nat) : Calls Tryd.prog 60 #[.iface 110 (.agg #[.int .i64 n, .slice a len cap])] w fun e w' => e = .returned (.bool (decide (0 ≤ n ∧ n ≤ 1000000000000000) && decide (len = 1))) ∧ Below w.heap.size w w' := by
  have ta_null : ∀ W : World, (Instr.typeAssert (.iface 110 (.agg #[.int .i64 n, .slice a len cap])) 77 99 true).run Tryd.prog W = .ok (.tuple #[(.agg #[]), .bool false]) W := fun W => by kernel_rfl
  have ta_bytes : ∀ W : World, (Instr.typeAssert (.iface 110 (.agg #[.int .i64 n, .slice a len cap])) 77 106 true).run Tryd.prog W = .ok (.tuple #[(.string ⟨#[]⟩), .bool false]) W := fun W => by kernel_rfl
  have ta_list : ∀ W : World, (Instr.typeAssert (.iface 110 (.agg #[.int .i64 n, .slice a len cap])) 77 107 true).run Tryd.prog W = .ok (.tuple #[(.slice none 0 0), .bool false]) W := fun W => by kernel_rfl
  have ta_bool : ∀ W : World, (Instr.typeAssert (.iface 110 (.agg #[.int .i64 n, .slice a len cap])) 77 100 true).run Tryd.prog W = .ok (.tuple #[(.int .i64 0), .bool false]) W := fun W => by kernel_rfl
  have ta_int : ∀ W : World, (Instr.typeAssert (.iface 110 (.agg #[.int .i64 n, .slice a len cap])) 77 101 true).run Tryd.prog W = .ok (.tuple #[(.int .i64 0), .bool false]) W := fun W => by kernel_rfl
  have ta_flt : ∀ W : World, (Instr.typeAssert (.iface 110 (.agg #[.int .i64 n, .slice a len cap])) 77 102 true).run Tryd.prog W = .ok (.tuple #[(.agg #[.int .i64 0, .int .i64 0]), .bool false]) W := fun W => by kernel_rfl
  have ta_odd : ∀ W : World, (Instr.typeAssert (.iface 110 (.agg #[.int .i64 n, .slice a len cap])) 77 103 true).run Tryd.prog W = .ok (.tuple #[(.int .i64 0), .bool false]) W := fun W => by kernel_rfl
  have ta_dec : ∀ W : World, (Instr.typeAssert (.iface 110 (.agg #[.int .i64 n, .slice a len cap])) 77 104 true).run Tryd.prog W = .ok (.tuple #[(.agg #[.int .i64 0, .int .i64 0]), .bool false]) W := fun W => by kernel_rfl
  have ta_text : ∀ W : World, (Instr.typeAssert (.iface 110 (.agg #[.int .i64 n, .slice a len cap])) 77 105 true).run Tryd.prog W = .ok (.tuple #[(.string ⟨#[]⟩), .bool false]) W := fun W => by kernel_rfl
  have ta_map : ∀ W : World, (Instr.typeAssert (.iface 110 (.agg #[.int .i64 n, .slice a len cap])) 77 108 true).run Tryd.prog W = .ok (.tuple #[(.slice none 0 0), .bool false]) W := fun W => by kernel_rfl
  have ta_tag : ∀ W : World, (Instr.typeAssert (.iface 110 (.agg #[.int .i64 n, .slice a len cap])) 77 110 true).run Tryd.prog W = .ok (.tuple #[(.agg #[.int .i64 n, .slice a len cap]), .bool true]) W := fun W => by kernel_rfl
  by_cases h0 : 0 ≤ n
  · by_cases h1 : n ≤ 1000000000000000
    · by_cases h2 : len = 1
      · subst h2
        rw [decide_eq_true (And.intro h0 h1)]
        go_enter Tryd.func60, Tryd.ntmps60
        go_wp2
        go_ret
        exact ⟨rfl, vbox _ _⟩
      · have h3 : ((len : Int) == 1) = false := by rw [beq_eq_false_iff_ne]; omega
        rw [decide_eq_false h2, Bool.and_false]
        clear h2
        go_enter Tryd.func60, Tryd.ntmps60
        go_wp2
        go_ret
        exact ⟨rfl, vbox _ _⟩
    · rw [decide_eq_false (fun h => h1 h.2), Bool.false_and]
      go_enter Tryd.func60, Tryd.ntmps60
      go_wp2
      go_ret
      exact ⟨rfl, vbox _ _⟩
  · rw [decide_eq_false (fun h => h0 h.1), Bool.false_and]
    go_enter Tryd.func60, Tryd.ntmps60
    go_wp2
    go_ret
    exact ⟨rfl, vbox _ _⟩
end Go.Proofs.YtilgncebhgplaaaDoor
/- What FltNew of the program and of the model returns: the number's one valid form, or none where there is none. -/
namespace Go.Proofs.YtilgncebhgplaaaDoor
open Go.RowKit
theorem fcell {W w1 : World} (hb : Below W.heap.size W w1) : (∀ b o, b < W.heap.size → w1.cell? ⟨b, o, none⟩ = W.cell? ⟨b, o, none⟩) ∧ (∀ b o, b < W.heap.size → w1.frozen? ⟨b, o, none⟩ = W.frozen? ⟨b, o, none⟩) :=
  ⟨fun b o h => hb.cell (p := ⟨b, o, none⟩) h, fun b o h => hb.frozen (p := ⟨b, o, none⟩) h⟩
def FNewPost (m e : Int) (w : World) (r : Ending) (w' : World) : Prop := ∃ (M E : Int) (ok : Bool), r = .returned (.tuple #[.agg #[.int .i64 M, .int .i64 E], .bool ok]) ∧ IsFlt m e M E ok ∧ Below w.heap.size w w'

end Go.Proofs.YtilgncebhgplaaaDoor
