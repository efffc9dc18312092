import Derived.Test.YtdjnkcoepmackaaG1
import Derived.Test.YtdjnkcoepmackaaG0
import Derived.IntWalk
import Derived.Laws.Shifts
import Derived.Lib.Hide
import Derived.Test.YtdjnkcoepmackaaRows
import Derived.WalkKit
import Derived.Outline
import Derived.Laws.EntriesVeiled
import Derived.ProofKit
import Derived.Deep.QuietTactic
import Derived.BigQuiet
/- What FltOk of the program and of the model returns: whether the two fields form a floating-point number. -/
namespace Go.Proofs.Ytdjnkcoepmackaa
open Go.RowKit
theorem fbox (w : World) (o : Obj) : Below w.heap.size w (w.alloc o) := (Below.refl _ _).alloc (Nat.le_refl _) _
def fltLim (e : Int) : Nat := 65535 / 2 ^ (e - 30).toNat
theorem fltLim_le (e : Int) : fltLim e ≤ 65535 := Nat.div_le_self _ _
theorem fltLim_low {e : Int} (h : e ≤ 30) : fltLim e = 65535 := by unfold fltLim; rw [show (e - 30).toNat = 0 by omega]
theorem lim_shift {e : Int} (h : 30 < e) : Op.shift .shr .i64 65535 .i64 (e - 30) = pure (.int .i64 (fltLim e)) := by
  rw [shift_shr_any _ _ _ _ (by omega)]
  unfold fltLim
  by_cases hk : (e - 30).toNat ≤ 64
  · rw [show min (e - 30).toNat (IntKind.bits .i64) = (e - 30).toNat from Nat.min_eq_left hk, Int.natCast_ediv, Int.natCast_pow]; rfl
  · have h1 : 2 ^ 64 ≤ 2 ^ (e - 30).toNat := Nat.pow_le_pow_right (by decide) (by omega)
    rw [show min (e - 30).toNat (IntKind.bits .i64) = 64 from Nat.min_eq_right (by show 64 ≤ _; omega), Nat.div_eq_of_lt (by omega)]; rfl
theorem fltOk_even {m e : Int} (hz : ¬ (m = 0 ∧ e = 0)) (h : m.tmod 2 = 0) : fltOk m e = false := by
  rw [Bool.eq_false_iff]; intro hv
  obtain ⟨_, _, _, r3, r4⟩ := fltOk_range hv
  by_cases hm : m = 0
  · exact hz ⟨hm, r3 hm⟩
  · exact (r4 hm).1 h
theorem fltOk_deep {m e : Int} (h : e < -16) : fltOk m e = false := by
  rw [Bool.eq_false_iff]; intro hv
  have := (fltOk_range hv).1
  omega
theorem fltOk_lim {m e : Int} (h : m.tmod 2 ≠ 0) (he : -16 ≤ e) : fltOk m e = decide (-(fltLim e : Int) ≤ m ∧ m ≤ fltLim e) := by
  have hL := fltLim_le e
  have hm : m ≠ 0 := by rintro rfl; exact h rfl
  rw [Bool.eq_iff_iff, decide_eq_true_eq]
  constructor
  · intro hv
    have := ((fltOk_range hv).2.2.2.2 hm).2
    have h2 : m.natAbs ≤ fltLim e := (Nat.le_div_iff_mul_le (two_pos _)).2 this
    omega
  · intro hv
    have h2 : m.natAbs ≤ fltLim e := by omega
    exact fltOk_of h he (by omega) ((Nat.le_div_iff_mul_le (two_pos _)).1 h2)
set_option maxRecDepth 100000 in
set_option maxHeartbeats 1000000 in
theorem fltok_impl (m e : Int) (w : World) (h0 : -9223372036854775808 ≤ m) (h1 : m ≤ 9223372036854775807) (k0 : -9223372036854775808 ≤ e) (k1 : e ≤ 9223372036854775807) :
    Calls Try.prog 140 #[.agg #[.int .i64 m, .int .i64 e]] w fun r w' => r = .returned (.bool (fltOk m e)) ∧ Below w.heap.size w w' := by
  have hg := fun x y xs ys w => run_eqGuard_agg (P := Try.prog) w .eql 115 x y xs ys (by kernel_rfl)
  have hq := fun w => flt_eql m e 0 0 w
  by_cases hz : m = 0 ∧ e = 0
  · obtain ⟨rfl, rfl⟩ := hz
    rw [show ((0 : Int) == 0 && (0 : Int) == 0) = true by decide] at hq
    rw [fltOk_zero]
    go_enter Try.func140, Try.ntmps140
    go_wp2
    go_ret
    exact ⟨rfl, fbox _ _⟩
  · rw [show ((m == 0 && e == 0)) = false by rw [Bool.eq_false_iff]; simpa using hz] at hq
    by_cases hm : m.tmod 2 = 0
    · rw [fltOk_even hz hm]
      have hb : (m.tmod 2 == 0) = true := by simpa using hm
      go_enter Try.func140, Try.ntmps140
      go_wp2
      go_ret
      exact ⟨rfl, fbox _ _⟩
    · have hb : (m.tmod 2 == 0) = false := by simpa using hm
      have hb2 : (m % 2 == 0) = false := by rw [Bool.eq_false_iff]; intro h; exact hm (Int.tmod_eq_zero_of_dvd (Int.dvd_of_emod_eq_zero (by simpa using h)))
      by_cases he : e < -16
      · rw [fltOk_deep he]
        go_enter Try.func140, Try.ntmps140
        go_wp2
        go_ret
        exact ⟨rfl, fbox _ _⟩
      · rw [fltOk_lim hm (by omega)]
        by_cases hi : 30 < e
        · have hL := fltLim_le e
          have hs := lim_shift hi
          generalize fltLim e = L at *
          by_cases b1 : -(L : Int) ≤ m
          · by_cases b2 : m ≤ L
            · rw [show decide (-(L : Int) ≤ m ∧ m ≤ L) = true by simp; omega]
              clear hz
              go_enter Try.func140, Try.ntmps140
              go_wp2
              go_ret
              exact ⟨rfl, fbox _ _⟩
            · rw [show decide (-(L : Int) ≤ m ∧ m ≤ L) = false by simp; omega]
              clear hz
              go_enter Try.func140, Try.ntmps140
              go_wp2
              go_ret
              exact ⟨rfl, fbox _ _⟩
          · rw [show decide (-(L : Int) ≤ m ∧ m ≤ L) = false by simp; omega]
            clear hz
            go_enter Try.func140, Try.ntmps140
            go_wp2
            go_ret
            exact ⟨rfl, fbox _ _⟩
        · rw [fltLim_low (by omega)]
          by_cases b1 : -(65535 : Int) ≤ m
          · by_cases b2 : m ≤ 65535
            · rw [show decide (-((65535 : Nat) : Int) ≤ m ∧ m ≤ (65535 : Nat)) = true by simp; omega]
              clear hz
              go_enter Try.func140, Try.ntmps140
              go_wp2
              go_ret
              exact ⟨rfl, fbox _ _⟩
            · rw [show decide (-((65535 : Nat) : Int) ≤ m ∧ m ≤ (65535 : Nat)) = false by simp; omega]
              clear hz
              go_enter Try.func140, Try.ntmps140
              go_wp2
              go_ret
              exact ⟨rfl, fbox _ _⟩
          · rw [show decide (-((65535 : Nat) : Int) ≤ m ∧ m ≤ (65535 : Nat)) = false by simp; omega]
            clear hz
            go_enter Try.func140, Try.ntmps140
            go_wp2
            go_ret
            exact ⟨rfl, fbox _ _⟩
theorem fltOk_zero_e {e : Int} (h : ¬ e = 0) : fltOk 0 e = false := by unfold fltOk; rw [if_pos rfl]; simpa using h
set_option maxRecDepth 100000 in
set_option maxHeartbeats 1000000 in
theorem fltok_spec (m e : Int) (w : World) (h0 : -9223372036854775808 ≤ m) (h1 : m ≤ 9223372036854775807) (k0 : -9223372036854775808 ≤ e) (k1 : e ≤ 9223372036854775807) :
    Calls Try.prog 115 #[.agg #[.int .i64 m, .int .i64 e]] w fun r w' => r = .returned (.bool (fltOk m e)) ∧ Below w.heap.size w w' := by
  by_cases hz : m = 0
  · subst hz
    by_cases he : e = 0
    · subst he
      rw [fltOk_zero]
      go_enter Try.func115, Try.ntmps115
      go_wp2
      go_ret
      exact ⟨rfl, fbox _ _⟩
    · rw [fltOk_zero_e he]
      have hb : (e == 0) = false := by simpa using he
      go_enter Try.func115, Try.ntmps115
      go_wp2
      go_ret
      exact ⟨rfl, fbox _ _⟩
  · have hzb : (m == 0) = false := by simpa using hz
    by_cases hm : -65535 ≤ m ∧ m ≤ 65535
    · have e1 : decide (-65535 ≤ m ∧ m ≤ 65535) = true := by simpa using hm
      by_cases ht : m.tmod 2 = 0
      · rw [fltOk_even (fun h => hz h.1) ht]
        have hb : (m.tmod 2 == 0) = true := by simpa using ht
        clear hm
        go_enter Try.func115, Try.ntmps115
        go_wp2_with (go_at_call 114; refine (in_any _ _ _ _).mono ?_; rintro r w' ⟨rfl, rfl⟩)
        go_ret
        exact ⟨rfl, fbox _ _⟩
      · have hb : (m.tmod 2 == 0) = false := by simpa using ht
        by_cases he : -16 ≤ e ∧ e ≤ 45
        · have e2 : decide (-16 ≤ e ∧ e ≤ 45) = true := by simpa using he
          obtain ⟨c0, c1⟩ := he
          by_cases hi : e ≤ 30
          · rw [fltOk_lim ht c0, fltLim_low hi, show decide (-((65535 : Nat) : Int) ≤ m ∧ m ≤ (65535 : Nat)) = true by simp; omega]
            clear hm c0 c1
            go_enter Try.func115, Try.ntmps115
            go_wp2_with (go_at_call 114; refine (in_any _ _ _ _).mono ?_; rintro r w' ⟨rfl, rfl⟩)
            go_ret
            exact ⟨rfl, fbox _ _⟩
          · have hp : (0 : Int) < 2 ^ (e - 30).toNat := Int.pow_pos (by decide)
            have hp2 : (2 : Int) ^ (e - 30).toNat ≤ 32768 := by
              have h1 : 2 ^ (e - 30).toNat ≤ 2 ^ 15 := Nat.pow_le_pow_right (by decide) (by omega)
              have h2 : ((2 ^ (e - 30).toNat : Nat) : Int) = (2 : Int) ^ (e - 30).toNat := by rw [Int.natCast_pow]; rfl
              omega
            have hs : Op.shift .shl .i64 m .i64 (e - 30) = pure (.int .i64 (m * 2 ^ (e - 30).toNat)) := by
              rw [shift_shl_any _ _ _ _ (by omega), show min (e - 30).toNat (IntKind.bits .i64) = (e - 30).toNat from Nat.min_eq_left (by show _ ≤ 64; omega)]
              have b1 : m * 2 ^ (e - 30).toNat ≤ 65535 * 32768 := Int.le_trans (Int.mul_le_mul_of_nonneg_right hm.2 (Int.le_of_lt hp)) (Int.mul_le_mul_of_nonneg_left hp2 (by decide))
              have b2 : -m * 2 ^ (e - 30).toNat ≤ 65535 * 32768 := Int.le_trans (Int.mul_le_mul_of_nonneg_right (by omega) (Int.le_of_lt hp)) (Int.mul_le_mul_of_nonneg_left hp2 (by decide))
              rw [Int.neg_mul] at b2
              rw [IntWalk.i64_in _ (by omega)]
            have hv : fltOk m e = decide (-65535 ≤ m * 2 ^ (e - 30).toNat ∧ m * 2 ^ (e - 30).toNat ≤ 65535) := by
              rw [Bool.eq_iff_iff, decide_eq_true_eq]
              have h2 : ((m.natAbs * 2 ^ (e - 30).toNat : Nat) : Int) = ((m * 2 ^ (e - 30).toNat).natAbs : Int) := by rw [Int.natAbs_mul, Int.natAbs_pow]; rfl
              constructor
              · intro h
                have := ((fltOk_range h).2.2.2.2 hz).2
                omega
              · intro h
                exact fltOk_of ht c0 (by omega) (by omega)
            rw [hv]
            obtain ⟨B, e3⟩ : ∃ B, decide (-65535 ≤ m * 2 ^ (e - 30).toNat ∧ m * 2 ^ (e - 30).toNat ≤ 65535) = B := ⟨_, rfl⟩
            rw [e3]
            have hi3 : 30 < e := by omega
            have hi2 : decide (e ≤ 30) = false := by simpa using hi
            generalize m * 2 ^ (e - 30).toNat = p at *
            clear hv hm c0 c1 hp hp2 hi
            go_enter Try.func115, Try.ntmps115
            go_wp2_with (go_at_call 114; refine (in_any _ _ _ _).mono ?_; rintro r w' ⟨rfl, rfl⟩)
            go_ret
            exact ⟨rfl, fbox _ _⟩
        · have e2 : decide (-16 ≤ e ∧ e ≤ 45) = false := by simpa using he
          rw [show fltOk m e = false by rw [Bool.eq_false_iff]; intro h; have := fltOk_range h; omega]
          clear hm he
          go_enter Try.func115, Try.ntmps115
          go_wp2_with (go_at_call 114; refine (in_any _ _ _ _).mono ?_; rintro r w' ⟨rfl, rfl⟩)
          go_ret
          exact ⟨rfl, fbox _ _⟩
    · have e1 : decide (-65535 ≤ m ∧ m ≤ 65535) = false := by simpa using hm
      rw [show fltOk m e = false by rw [Bool.eq_false_iff]; intro h; have := fltOk_range h; omega]
      clear hm
      go_enter Try.func115, Try.ntmps115
      go_wp2_with (go_at_call 114; refine (in_any _ _ _ _).mono ?_; rintro r w' ⟨rfl, rfl⟩)
      go_ret
      exact ⟨rfl, fbox _ _⟩
end Go.Proofs.Ytdjnkcoepmackaa
/- What FltNew of the program and of the model returns: the number's one valid form, or none where there is none. -/
namespace Go.Proofs.Ytdjnkcoepmackaa
open Go.RowKit
theorem fcell {W w1 : World} (hb : Below W.heap.size W w1) : (∀ b o, b < W.heap.size → w1.cell? ⟨b, o, none⟩ = W.cell? ⟨b, o, none⟩) ∧ (∀ b o, b < W.heap.size → w1.frozen? ⟨b, o, none⟩ = W.frozen? ⟨b, o, none⟩) :=
  ⟨fun b o h => hb.cell (p := ⟨b, o, none⟩) h, fun b o h => hb.frozen (p := ⟨b, o, none⟩) h⟩
def FNewPost (m e : Int) (w : World) (r : Ending) (w' : World) : Prop := ∃ (M E : Int) (ok : Bool), r = .returned (.tuple #[.agg #[.int .i64 M, .int .i64 E], .bool ok]) ∧ IsFlt m e M E ok ∧ Below w.heap.size w w'

end Go.Proofs.Ytdjnkcoepmackaa
/- What DecOk of the program and of the model returns: whether the two fields form a decimal number. -/
namespace Go.Proofs.Ytdjnkcoepmackaa
open Go.RowKit
theorem below_box (w : World) (o : Obj) : Below w.heap.size w (w.alloc o) := (Below.refl _ _).alloc (Nat.le_refl _) _
theorem decOk_f {n x : Int} (h : ¬ decOk n x = true) : decOk n x = false := by simpa using h
theorem decOk_iff0 (n : Int) : decOk n 0 = true ↔ -1000000000000000 ≤ n ∧ n ≤ 1000000000000000 := by unfold decOk; rw [if_pos rfl, decide_eq_true_eq]
theorem decOk_iff (n x : Int) (h : ¬ x = 0) : decOk n x = true ↔ -16 ≤ x ∧ x ≤ -1 ∧ ((digV n : Nat) : Int) ≤ 17 ∧ n.tmod 10 ≠ 0 := by
  unfold decOk; rw [if_neg h, decide_eq_true_eq]
  constructor
  · rintro ⟨a, b, c, d⟩; exact ⟨a, b, by omega, d⟩
  · rintro ⟨a, b, c, d⟩; exact ⟨a, b, by omega, d⟩
set_option maxRecDepth 100000 in
theorem decok_impl (n x : Int) (w : World) (h0 : -9223372036854775808 ≤ n) (h1 : n ≤ 9223372036854775807) : Calls Try.prog 68 #[.agg #[.int .i64 n, .int .i64 x]] w fun e w' => e = .returned (.bool (decOk n x)) ∧ Below w.heap.size w w' := by
  have c := fun w1 => digits_impl n w1 h0 h1
  by_cases hx : x = 0
  · subst hx
    by_cases a : -1000000000000000 ≤ n
    · by_cases b : n ≤ 1000000000000000
      · have e := (decOk_iff0 n).2 ⟨a, b⟩
        rw [e]
        go_enter Try.func68, Try.ntmps68
        go_wp2
        go_ret
        exact ⟨rfl, below_box _ _⟩
      · have e := decOk_f (fun h => b ((decOk_iff0 n).1 h).2)
        rw [e]
        go_enter Try.func68, Try.ntmps68
        go_wp2
        go_ret
        exact ⟨rfl, below_box _ _⟩
    · have e := decOk_f (fun h => a ((decOk_iff0 n).1 h).1)
      rw [e]
      go_enter Try.func68, Try.ntmps68
      go_wp2
      go_ret
      exact ⟨rfl, below_box _ _⟩
  · by_cases a : -16 ≤ x
    · by_cases b : x ≤ -1
      · by_cases d : ((digV n : Nat) : Int) ≤ 17
        · by_cases m : n.tmod 10 = 0
          · have e := decOk_f (fun h => ((decOk_iff n x hx).1 h).2.2.2 m)
            have mb : (n.tmod 10 != 0) = false := by simpa using m
            rw [e]
            go_enter Try.func68, Try.ntmps68
            go_wp2_with (go_at_call 123; refine (c _).mono ?_; rintro e w' ⟨rfl, rfl⟩)
            go_ret
            exact ⟨rfl, below_box _ _⟩
          · have e := (decOk_iff n x hx).2 ⟨a, b, d, m⟩
            have mb : (n.tmod 10 != 0) = true := by simpa using m
            rw [e]
            go_enter Try.func68, Try.ntmps68
            go_wp2_with (go_at_call 123; refine (c _).mono ?_; rintro e w' ⟨rfl, rfl⟩)
            go_ret
            exact ⟨rfl, below_box _ _⟩
        · have e := decOk_f (fun h => d ((decOk_iff n x hx).1 h).2.2.1)
          rw [e]
          go_enter Try.func68, Try.ntmps68
          go_wp2_with (go_at_call 123; refine (c _).mono ?_; rintro e w' ⟨rfl, rfl⟩)
          go_ret
          exact ⟨rfl, below_box _ _⟩
      · have e := decOk_f (fun h => b ((decOk_iff n x hx).1 h).2.1)
        rw [e]
        go_enter Try.func68, Try.ntmps68
        go_wp2
        go_ret
        exact ⟨rfl, below_box _ _⟩
    · have e := decOk_f (fun h => a ((decOk_iff n x hx).1 h).1)
      rw [e]
      go_enter Try.func68, Try.ntmps68
      go_wp2
      go_ret
      exact ⟨rfl, below_box _ _⟩
set_option maxRecDepth 100000 in
theorem decok_spec (n x : Int) (w : World) (h0 : -9223372036854775808 ≤ n) (h1 : n ≤ 9223372036854775807) : Calls Try.prog 116 #[.agg #[.int .i64 n, .int .i64 x]] w fun e w' => e = .returned (.bool (decOk n x)) ∧ Below w.heap.size w w' := by
  have c := fun w1 => digits_spec n w1 h0 h1
  by_cases hx : x = 0
  · subst hx
    have ci := fun w1 => in_any n (-1000000000000000) 1000000000000000 w1
    have e : decide (-1000000000000000 ≤ n ∧ n ≤ 1000000000000000) = decOk n 0 := by rw [Bool.eq_iff_iff, decide_eq_true_eq, decOk_iff0]
    rw [e] at ci
    clear e
    go_enter Try.func116, Try.ntmps116
    go_wp2_with (go_at_call 114; refine (ci _).mono ?_; rintro e w' ⟨rfl, rfl⟩)
    go_ret
    exact ⟨rfl, below_box _ _⟩
  · by_cases a : -16 ≤ x ∧ x ≤ -1
    · have ci := fun w1 => in_yes x (-16) (-1) w1 a.1 a.2
      by_cases m : n.tmod 10 = 0
      · have e := decOk_f (fun h => ((decOk_iff n x hx).1 h).2.2.2 m)
        have mb : (n.tmod 10 != 0) = false := by simpa using m
        rw [e]
        clear a
        go_enter Try.func116, Try.ntmps116
        go_wp2_with (go_at_call 114; refine (ci _).mono ?_; rintro e w' ⟨rfl, rfl⟩)
        go_ret
        exact ⟨rfl, below_box _ _⟩
      · by_cases d : ((digV n : Nat) : Int) ≤ 17
        · have e := (decOk_iff n x hx).2 ⟨a.1, a.2, d, m⟩
          have mb : (n.tmod 10 != 0) = true := by simpa using m
          rw [e]
          clear a
          go_enter Try.func116, Try.ntmps116
          go_wp2_with (first | (go_at_call 114; refine (ci _).mono ?_; rintro e w' ⟨rfl, rfl⟩) | (go_at_call 156; refine (c _).mono ?_; rintro e w' ⟨rfl, rfl⟩))
          go_ret
          exact ⟨rfl, below_box _ _⟩
        · have e := decOk_f (fun h => d ((decOk_iff n x hx).1 h).2.2.1)
          have mb : (n.tmod 10 != 0) = true := by simpa using m
          have db : decide (((digV n : Nat) : Int) ≤ 17) = false := decide_eq_false d
          rw [e]
          clear a
          go_enter Try.func116, Try.ntmps116
          go_wp2_with (first | (go_at_call 114; refine (ci _).mono ?_; rintro e w' ⟨rfl, rfl⟩) | (go_at_call 156; refine (c _).mono ?_; rintro e w' ⟨rfl, rfl⟩))
          go_ret
          exact ⟨rfl, below_box _ _⟩
    · have ci := fun w1 => in_no x (-16) (-1) w1 (by omega)
      have e := decOk_f (fun h => a ⟨((decOk_iff n x hx).1 h).1, ((decOk_iff n x hx).1 h).2.1⟩)
      rw [e]
      clear a
      go_enter Try.func116, Try.ntmps116
      go_wp2_with (go_at_call 114; refine (ci _).mono ?_; rintro e w' ⟨rfl, rfl⟩)
      go_ret
      exact ⟨rfl, below_box _ _⟩
end Go.Proofs.Ytdjnkcoepmackaa
/- What Pow of the program and Pow of the model return: the power of 2, 5 or 10, and 0 outside the ranges. -/
namespace Go.Proofs.Ytdjnkcoepmackaa
open Go.RowKit
def powBase (b : Int) : Prop := b = 2 ∨ b = 5 ∨ b = 10
def powV (b k : Int) : Int := if (b = 2 ∨ b = 5 ∨ b = 10) ∧ 0 ≤ k ∧ k ≤ 17 then b ^ k.toNat else 0

theorem pow_step (b : Int) (j : Nat) : b ^ (j + 1) = b ^ j * b := Int.pow_succ b j
theorem pow_low (b : Int) (hb : powBase b) (j : Nat) (hj : j ≤ 17) : 0 ≤ b ^ j ∧ b ^ j ≤ 100000000000000000 := by
  have key : ∀ i : Fin 18, (0 ≤ (2 : Int) ^ i.val ∧ (2 : Int) ^ i.val ≤ 100000000000000000) ∧ (0 ≤ (5 : Int) ^ i.val ∧ (5 : Int) ^ i.val ≤ 100000000000000000) ∧ (0 ≤ (10 : Int) ^ i.val ∧ (10 : Int) ^ i.val ≤ 100000000000000000) := by decide
  have k1 := key ⟨j, by omega⟩
  rcases hb with rfl | rfl | rfl
  · exact k1.1
  · exact k1.2.1
  · exact k1.2.2

theorem pow_spec_bad (b k : Int) (w : World) (h : ¬ ((b = 2 ∨ b = 5 ∨ b = 10) ∧ 0 ≤ k ∧ k ≤ 17)) : Calls Try.prog 190 #[.int .i64 b, .int .i64 k] w fun e w' => e = .returned (.int .i64 (powV b k)) ∧ w = w' := by
  have hv : powV b k = 0 := by unfold powV; rw [if_neg h]
  rw [hv]; clear hv
  by_cases hb : b = 2 ∨ b = 5 ∨ b = 10
  · have e2 : k < 0 ∨ 17 < k := by omega
    clear h
    rcases hb with rfl | rfl | rfl
    all_goals
      go_enter Try.func190, Try.ntmps190
      go_wp2_with (go_at_call 114; refine (in_no _ _ _ _ (by omega)).mono ?_; rintro e w' ⟨rfl, rfl⟩)
      go_ret
      exact ⟨rfl, rfl⟩
  · have h1 : (b != 2) = true := by simp; omega
    have h2 : (b != 5) = true := by simp; omega
    have h3 : (b != 10) = true := by simp; omega
    clear h hb
    go_enter Try.func190, Try.ntmps190
    go_wp2_with (go_at_call 114; refine (in_no _ _ _ _ (by omega)).mono ?_; rintro e w' ⟨rfl, rfl⟩)
    go_ret
    exact ⟨rfl, rfl⟩

theorem pow_spec_good (b k : Int) (w : World) (hb : powBase b) (h0 : 0 ≤ k) (h1 : k ≤ 17) : Calls Try.prog 190 #[.int .i64 b, .int .i64 k] w fun e w' => e = .returned (.int .i64 (powV b k)) ∧ w = w' := by
  have hv : powV b k = b ^ k.toNat := by unfold powV; rw [if_pos ⟨hb, h0, h1⟩]
  rw [hv]; clear hv
  obtain ⟨m, rfl⟩ : ∃ m : Nat, k = m := ⟨k.toNat, by omega⟩
  rcases hb with rfl | rfl | rfl
  · go_enter Try.func190, Try.ntmps190
    go_wp2_with (go_at_call 114; refine (in_yes _ _ _ _ (by omega) (by omega)).mono ?_; rintro e w' ⟨rfl, rfl⟩)
    go_loop [5, 6] (fun n i => ∃ j : Nat, j ≤ m ∧ i = .int .i64 j ∧ n = .int .i64 ((2 : Int) ^ j)) (fun _ i => m - (intOf i).toNat)
    case atStart => exact ⟨0, Nat.zero_le _, rfl, rfl⟩
    case round =>
      obtain ⟨j, hj, rfl, rfl⟩ := hrel
      by_cases hlt : j < m
      · have hp := pow_low (2 : Int) (by unfold powBase; omega) j (by omega)
        have hp' := pow_low (2 : Int) (by unfold powBase; omega) (j + 1) (by omega)
        have HS := Lib.hid (pow_step (2 : Int) j)
        rw [pow_step] at hp'
        go_wp2
        go_round
        case rel => exact ⟨j + 1, by omega, by go_num, by rw [HS.out]⟩
        case measure => simp [intOf]; omega
      · go_wp2
        go_ret
        exact ⟨by rw [show m = j by omega]; rfl, rfl⟩
  · go_enter Try.func190, Try.ntmps190
    go_wp2_with (go_at_call 114; refine (in_yes _ _ _ _ (by omega) (by omega)).mono ?_; rintro e w' ⟨rfl, rfl⟩)
    go_loop [5, 6] (fun n i => ∃ j : Nat, j ≤ m ∧ i = .int .i64 j ∧ n = .int .i64 ((5 : Int) ^ j)) (fun _ i => m - (intOf i).toNat)
    case atStart => exact ⟨0, Nat.zero_le _, rfl, rfl⟩
    case round =>
      obtain ⟨j, hj, rfl, rfl⟩ := hrel
      by_cases hlt : j < m
      · have hp := pow_low (5 : Int) (by unfold powBase; omega) j (by omega)
        have hp' := pow_low (5 : Int) (by unfold powBase; omega) (j + 1) (by omega)
        have HS := Lib.hid (pow_step (5 : Int) j)
        rw [pow_step] at hp'
        go_wp2
        go_round
        case rel => exact ⟨j + 1, by omega, by go_num, by rw [HS.out]⟩
        case measure => simp [intOf]; omega
      · go_wp2
        go_ret
        exact ⟨by rw [show m = j by omega]; rfl, rfl⟩
  · go_enter Try.func190, Try.ntmps190
    go_wp2_with (go_at_call 114; refine (in_yes _ _ _ _ (by omega) (by omega)).mono ?_; rintro e w' ⟨rfl, rfl⟩)
    go_loop [5, 6] (fun n i => ∃ j : Nat, j ≤ m ∧ i = .int .i64 j ∧ n = .int .i64 ((10 : Int) ^ j)) (fun _ i => m - (intOf i).toNat)
    case atStart => exact ⟨0, Nat.zero_le _, rfl, rfl⟩
    case round =>
      obtain ⟨j, hj, rfl, rfl⟩ := hrel
      by_cases hlt : j < m
      · have hp := pow_low (10 : Int) (by unfold powBase; omega) j (by omega)
        have hp' := pow_low (10 : Int) (by unfold powBase; omega) (j + 1) (by omega)
        have HS := Lib.hid (pow_step (10 : Int) j)
        rw [pow_step] at hp'
        go_wp2
        go_round
        case rel => exact ⟨j + 1, by omega, by go_num, by rw [HS.out]⟩
        case measure => simp [intOf]; omega
      · go_wp2
        go_ret
        exact ⟨by rw [show m = j by omega]; rfl, rfl⟩

theorem two_any (m : Nat) (hm : m ≤ 17) (w : World) : Calls Try.prog 197 #[.int .i64 m] w fun e w' => e = .returned (.int .i64 ((2 : Int) ^ m)) ∧ w = w' := by
  have h1 : (0 : Int) ≤ m := by omega
  have h2 : (m : Int) ≤ 17 := by omega
  have hp := pow_low 2 (by unfold powBase; omega) m (by omega)
  go_enter Try.func197, Try.ntmps197
  go_wp2
  go_ret
  exact ⟨rfl, rfl⟩
theorem five_any (m : Nat) (hm : m ≤ 17) (w : World) : Calls Try.prog 198 #[.int .i64 m] w fun e w' => e = .returned (.int .i64 ((5 : Int) ^ m)) ∧ w = w' := by
  go_enter Try.func198, Try.ntmps198
  go_wp2
  go_loop [3, 5] (fun n i => ∃ j : Nat, j ≤ m ∧ i = .int .i64 j ∧ n = .int .i64 ((5 : Int) ^ j)) (fun _ i => m - (intOf i).toNat)
  case atStart => exact ⟨0, Nat.zero_le _, rfl, rfl⟩
  case round =>
    obtain ⟨j, hj, rfl, rfl⟩ := hrel
    by_cases hlt : j < m
    · have hp := pow_low 5 (by unfold powBase; omega) j (by omega)
      have hp' := pow_low 5 (by unfold powBase; omega) (j + 1) (by omega)
      have HS := Lib.hid (pow_step 5 j)
      rw [pow_step] at hp'
      go_wp2
      go_round
      case rel => exact ⟨j + 1, by omega, by go_num, by rw [HS.out]⟩
      case measure => simp [intOf]; omega
    · go_wp2
      go_ret
      exact ⟨by rw [show m = j by omega]; rfl, rfl⟩
theorem ten_any (m : Nat) (hm : m ≤ 17) (w : World) : Calls Try.prog 199 #[.int .i64 m] w fun e w' => e = .returned (.int .i64 ((10 : Int) ^ m)) ∧ w = w' := by
  have hp := pow_low 10 (by unfold powBase; omega) m (by omega)
  have e : (10 : Int) ^ m = (2 : Int) ^ m * (5 : Int) ^ m := by rw [show (10 : Int) = 2 * 5 from rfl, Int.mul_pow]
  rw [e] at hp ⊢
  clear e
  go_enter Try.func199, Try.ntmps199
  go_wp2_with (first | (go_at_call 197; refine (two_any _ hm _).mono ?_; rintro e w' ⟨rfl, rfl⟩) | (go_at_call 198; refine (five_any _ hm _).mono ?_; rintro e w' ⟨rfl, rfl⟩))
  go_ret
  exact ⟨rfl, rfl⟩
theorem fn_nil (n : Nat) (w : World) : (binOp .eql 127 (.func (.func n) #[] #[]) .nilFunc).run Try.prog w = .ok (.bool false) w := by kernel_rfl
theorem nil_nil (w : World) : (binOp .eql 127 .nilFunc .nilFunc).run Try.prog w = .ok (.bool true) w := by kernel_rfl
theorem pow_impl_good (b k : Int) (w : World) (hb : powBase b) (h0 : 0 ≤ k) (h1 : k ≤ 17) : Calls Try.prog 192 #[.int .i64 b, .int .i64 k] w fun e w' => e = .returned (.int .i64 (powV b k)) ∧ Below w.heap.size w w' := by
  have hv : powV b k = b ^ k.toNat := by unfold powV; rw [if_pos ⟨hb, h0, h1⟩]
  rw [hv]; clear hv
  obtain ⟨m, rfl⟩ : ∃ m : Nat, k = m := ⟨k.toNat, by omega⟩
  have hm : m ≤ 17 := by omega
  have q2 := fn_nil
  rcases hb with rfl | rfl | rfl
  all_goals
    go_enter Try.func192, Try.ntmps192
    go_wp2_with (first | (go_at_call 197; refine (two_any _ hm _).mono ?_; rintro e w' ⟨rfl, rfl⟩) | (go_at_call 198; refine (five_any _ hm _).mono ?_; rintro e w' ⟨rfl, rfl⟩) | (go_at_call 199; refine (ten_any _ hm _).mono ?_; rintro e w' ⟨rfl, rfl⟩))
    go_ret
    exact ⟨rfl, by repeat (first | exact Below.refl _ _ | exact ⟨rfl, rfl, rfl, Nat.le_refl _, fun _ _ => rfl⟩ | apply Below.drew | exact (Below.refl _ _).alloc (Nat.le_refl _) _)⟩
theorem pow_impl_out (b k : Int) (w : World) (h : b < 0 ∨ 10 < b) : Calls Try.prog 192 #[.int .i64 b, .int .i64 k] w fun e w' => e = .returned (.int .i64 0) ∧ Below w.heap.size w w' := by
  rcases h with h | h
  all_goals
    go_enter Try.func192, Try.ntmps192
    go_wp2
    go_ret
    exact ⟨rfl, by repeat (first | exact Below.refl _ _ | exact ⟨rfl, rfl, rfl, Nat.le_refl _, fun _ _ => rfl⟩ | apply Below.drew | exact (Below.refl _ _).alloc (Nat.le_refl _) _)⟩
theorem pow_impl_none (b k : Int) (w : World) (h : b = 0 ∨ b = 1 ∨ b = 3 ∨ b = 4 ∨ b = 6 ∨ b = 7 ∨ b = 8 ∨ b = 9) : Calls Try.prog 192 #[.int .i64 b, .int .i64 k] w fun e w' => e = .returned (.int .i64 0) ∧ Below w.heap.size w w' := by
  have q1 := nil_nil
  rcases h with rfl | rfl | rfl | rfl | rfl | rfl | rfl | rfl
  all_goals
    go_enter Try.func192, Try.ntmps192
    go_wp2
    go_ret
    exact ⟨rfl, by repeat (first | exact Below.refl _ _ | exact ⟨rfl, rfl, rfl, Nat.le_refl _, fun _ _ => rfl⟩ | apply Below.drew | exact (Below.refl _ _).alloc (Nat.le_refl _) _)⟩
theorem pow_impl_low (b k : Int) (w : World) (h : b = 2 ∨ b = 5 ∨ b = 10) (hk : k < 0) : Calls Try.prog 192 #[.int .i64 b, .int .i64 k] w fun e w' => e = .returned (.int .i64 0) ∧ Below w.heap.size w w' := by
  have q2 := fn_nil
  rcases h with rfl | rfl | rfl
  all_goals
    go_enter Try.func192, Try.ntmps192
    go_wp2
    go_ret
    exact ⟨rfl, by repeat (first | exact Below.refl _ _ | exact ⟨rfl, rfl, rfl, Nat.le_refl _, fun _ _ => rfl⟩ | apply Below.drew | exact (Below.refl _ _).alloc (Nat.le_refl _) _)⟩
theorem pow_impl_high (b k : Int) (w : World) (h : b = 2 ∨ b = 5 ∨ b = 10) (hk : 17 < k) : Calls Try.prog 192 #[.int .i64 b, .int .i64 k] w fun e w' => e = .returned (.int .i64 0) ∧ Below w.heap.size w w' := by
  have q2 := fn_nil
  rcases h with rfl | rfl | rfl
  all_goals
    go_enter Try.func192, Try.ntmps192
    go_wp2
    go_ret
    exact ⟨rfl, by repeat (first | exact Below.refl _ _ | exact ⟨rfl, rfl, rfl, Nat.le_refl _, fun _ _ => rfl⟩ | apply Below.drew | exact (Below.refl _ _).alloc (Nat.le_refl _) _)⟩
theorem pow_impl_bad (b k : Int) (w : World) (h : ¬ ((b = 2 ∨ b = 5 ∨ b = 10) ∧ 0 ≤ k ∧ k ≤ 17)) : Calls Try.prog 192 #[.int .i64 b, .int .i64 k] w fun e w' => e = .returned (.int .i64 (powV b k)) ∧ Below w.heap.size w w' := by
  have hv : powV b k = 0 := by unfold powV; rw [if_neg h]
  rw [hv]; clear hv
  by_cases hb : b < 0 ∨ 10 < b
  · exact pow_impl_out b k w hb
  · by_cases hc : b = 2 ∨ b = 5 ∨ b = 10
    · by_cases hk : k < 0
      · exact pow_impl_low b k w hc hk
      · exact pow_impl_high b k w hc (by omega)
    · exact pow_impl_none b k w (by omega)
theorem pow_spec (b k : Int) (w : World) : Calls Try.prog 190 #[.int .i64 b, .int .i64 k] w fun e w' => e = .returned (.int .i64 (powV b k)) ∧ w = w' := by
  by_cases h : (b = 2 ∨ b = 5 ∨ b = 10) ∧ 0 ≤ k ∧ k ≤ 17
  · exact pow_spec_good b k w h.1 h.2.1 h.2.2
  · exact pow_spec_bad b k w h
theorem pow_impl (b k : Int) (w : World) : Calls Try.prog 192 #[.int .i64 b, .int .i64 k] w fun e w' => e = .returned (.int .i64 (powV b k)) ∧ Below w.heap.size w w' := by
  by_cases h : (b = 2 ∨ b = 5 ∨ b = 10) ∧ 0 ≤ k ∧ k ≤ 17
  · exact pow_impl_good b k w h.1 h.2.1 h.2.2
  · exact pow_impl_bad b k w h
end Go.Proofs.Ytdjnkcoepmackaa
/- What DecNew of the program and of the model returns: the number's one valid form, or none where there is none. -/
namespace Go.Proofs.Ytdjnkcoepmackaa
open Go.RowKit
theorem bcell {W w1 : World} (hb : Below W.heap.size W w1) : (∀ b o, b < W.heap.size → w1.cell? ⟨b, o, none⟩ = W.cell? ⟨b, o, none⟩) ∧ (∀ b o, b < W.heap.size → w1.frozen? ⟨b, o, none⟩ = W.frozen? ⟨b, o, none⟩) :=
  ⟨fun b o h => hb.cell (p := ⟨b, o, none⟩) h, fun b o h => hb.frozen (p := ⟨b, o, none⟩) h⟩
theorem below_two {w w1 w2 : World} {o o' : Obj} (hb1 : Below (w.alloc o).heap.size (w.alloc o) w1) (hb2 : Below (w1.alloc o').heap.size (w1.alloc o') w2) : Below (w.alloc o).heap.size (w.alloc o) w2 :=
  hb1.trans (((Below.refl _ _).alloc hb1.size _).trans (hb2.mono (by have := hb1.size; simp at this ⊢; omega)))
def NewPost (n x : Int) (w : World) (e : Ending) (w' : World) : Prop := ∃ (N X : Int) (ok : Bool), e = .returned (.tuple #[.agg #[.int .i64 N, .int .i64 X], .bool ok]) ∧ IsNew n x N X ok ∧ Below w.heap.size w w'
theorem pow10_ge {y : Int} (h0 : 0 < y) (h : y ≤ 16) : powV 10 y = 10 ^ y.toNat := by unfold powV; rw [if_pos ⟨by decide, by omega, by omega⟩]
set_option maxRecDepth 100000 in
set_option maxHeartbeats 4000000 in
theorem decnew_spec (n x : Int) (w : World) (h0 : -9223372036854775808 ≤ n) (h1 : n ≤ 9223372036854775807) : Calls Try.prog 182 #[.int .i64 n, .int .i64 x] w (NewPost n x w) := by
  have c0 := fun w1 => digits_spec n w1 h0 h1
  by_cases hd : ((digV n : Nat) : Int) ≤ 17
  · have hn := (digV_17 n).1 (by omega)
    have hn0 : -100000000000000000 < n := by omega
    have hn1 : n < 100000000000000000 := by omega
    clear hn h0 h1
    by_cases hx : -40 ≤ x ∧ x ≤ 40
    · have hin : Hid (decIn n x) := Lib.hid ⟨by omega, hx.1, hx.2⟩
      obtain ⟨hx0, hx1⟩ := hx
      have ci := fun w1 => in_yes x (-40) 40 w1 hx0 hx1
      by_cases hz : n = 0
      · subst hz
        go_enter Try.func182, Try.ntmps182
        go_wp2_with (first | (go_at_call 156; refine (c0 _).mono ?_; rintro e w' ⟨rfl, rfl⟩) | (go_at_call 114; refine (ci _).mono ?_; rintro e w' ⟨rfl, rfl⟩))
        refine bodyPost_ret (v := .tuple #[.agg #[.int .i64 0, .int .i64 0], .bool true]) (by simp [results, Try.results182, go_sem]) rfl ⟨_, _, _, rfl, isNew_zero hin.out, ?_⟩
        exact below_box _ _
      · go_enter Try.func182, Try.ntmps182
        go_wp2_with (first | (go_at_call 156; refine (c0 _).mono ?_; rintro e w' ⟨rfl, rfl⟩) | (go_at_call 114; refine (ci _).mono ?_; rintro e w' ⟨rfl, rfl⟩))
        go_loop [0, 1] (fun a b => ∃ m y : Int, a = .int .i64 m ∧ b = .int .i64 y ∧ same n x m y ∧ m ≠ 0 ∧ -100000000000000000 < m ∧ m < 100000000000000000 ∧ -40 ≤ y ∧ y ≤ 40) (fun _ b => (40 - intOf b).toNat)
        case atStart => exact ⟨_, _, rfl, rfl, same_refl _ _, hz, hn0, hn1, hx0, hx1⟩
        case round =>
          obtain ⟨m, y, rfl, rfl, hs, hm, hm0, hm1, hy0, hy1⟩ := hrel
          clear hz hn0 hn1 hx0 hx1 ci c0 hd
          by_cases hc : m.tmod 10 = 0 ∧ y < 0
          · obtain ⟨ht, hy⟩ := hc
            have hs2 := same_strip hs (by omega) ht
            have u0 := tdiv10 m
            have e0 := Int.tmod_add_mul_tdiv m 10
            have u1 : -100000000000000000 < m.tdiv 10 := by omega
            have u2 : m.tdiv 10 < 100000000000000000 := by omega
            have u3 : m.tdiv 10 ≠ 0 := by omega
            clear u0 e0
            go_wp2
            go_round
            case rel => exact ⟨_, _, rfl, rfl, hs2, u3, u1, u2, by omega, by omega⟩
            case measure => simp [intOf]; omega
          · have hy : 0 ≤ y ∨ m.tmod 10 ≠ 0 := by omega
            have hy' := Lib.hid hy
            clear hc
            by_cases ht : m.tmod 10 = 0
            all_goals
              first
              | (have hyy : ¬ y < 0 := by omega)
              | skip
              clear hy
              go_wp2
              go_loop [0, 1] (fun a b => ∃ m y : Int, a = .int .i64 m ∧ b = .int .i64 y ∧ same n x m y ∧ Hid (0 ≤ y ∨ m.tmod 10 ≠ 0) ∧ -100000000000000000 < m ∧ m < 100000000000000000 ∧ -40 ≤ y ∧ y ≤ 40) (fun _ b => (intOf b).toNat)
              case atStart => exact ⟨_, _, rfl, rfl, hs, hy', hm0, hm1, hy0, hy1⟩
              case round =>
                clear ht hs hy' hm0 hm1 hy0 hy1 hm
                obtain ⟨m, y, rfl, rfl, hs, hy', hm0, hm1, hy0, hy1⟩ := hrel
                by_cases hp : 0 < y
                · have cd := fun w1 => digits_spec m w1 (by omega) (by omega)
                  by_cases h16 : ((digV m : Nat) : Int) ≤ 16
                  · have hs2 := same_grow hs (by omega)
                    have hb := (digV_16 m).1 (by omega)
                    have b0 : -10000000000000000 < m := by omega
                    have b1 : m < 10000000000000000 := by omega
                    clear hb
                    go_wp2_with (go_at_call 156; refine (cd _).mono ?_; rintro e w' ⟨rfl, rfl⟩)
                    go_round
                    case rel => exact ⟨_, _, rfl, rfl, hs2, Lib.hid (.inl (by omega)), by omega, by omega, by omega, by omega⟩
                    case measure => simp [intOf]; omega
                  · have hb := Lib.hid (isNew_big hs hp (big_spec hp (by omega)))
                    go_wp2_with (go_at_call 156; refine (cd _).mono ?_; rintro e w' ⟨rfl, rfl⟩)
                    refine bodyPost_ret (v := .tuple #[.agg #[.int .i64 0, .int .i64 0], .bool false]) (by simp [results, Try.results182, go_sem]) rfl ⟨_, _, _, rfl, hb.out, ?_⟩
                    exact below_box _ _
                · have cd := fun w1 => decok_spec m y w1 (by omega) (by omega)
                  have hfin : Hid (y = 0 ∨ m.tmod 10 ≠ 0) := Lib.hid (by have := hy'.out; omega)
                  clear hy'
                  cases hok : decOk m y
                  · rw [hok] at cd
                    go_wp2_with (go_at_call 116; refine (cd _).mono ?_; rintro e w1 ⟨rfl, hb⟩; obtain ⟨hcl, hfz⟩ := bcell hb; have k0 : w1.cell? ⟨w.heap.size, 0, none⟩ = some (.int .i64 0) := (hcl _ _ (by simp; omega)).trans (by simp [go_sem]); have k1 : w1.cell? ⟨w.heap.size, 1, none⟩ = some (.int .i64 0) := (hcl _ _ (by simp; omega)).trans (by simp [go_sem]))
                    refine bodyPost_ret (v := .tuple #[.agg #[.int .i64 0, .int .i64 0], .bool false]) (by simp [results, Try.results182, go_sem, k0, k1]) rfl ⟨_, _, _, rfl, isNew_no hs (by omega) (by omega) hfin.out hok, ?_⟩
                    exact (((((Below.refl _ _).alloc (Nat.le_refl _) _).alloc (by simp) _).trans (hb.mono (by simp; omega))).setCell (Nat.le_refl _) _).setCell (Nat.le_refl _) _
                  · rw [hok] at cd
                    go_wp2_with (go_at_call 116; refine (cd _).mono ?_; rintro e w1 ⟨rfl, hb⟩; obtain ⟨hcl, hfz⟩ := bcell hb; have k0 : w1.cell? ⟨w.heap.size, 0, none⟩ = some (.int .i64 0) := (hcl _ _ (by simp; omega)).trans (by simp [go_sem]); have k1 : w1.cell? ⟨w.heap.size, 1, none⟩ = some (.int .i64 0) := (hcl _ _ (by simp; omega)).trans (by simp [go_sem]))
                    refine bodyPost_ret (v := .tuple #[.agg #[.int .i64 m, .int .i64 y], .bool true]) (by simp [results, Try.results182, go_sem, k0, k1]) rfl ⟨_, _, _, rfl, isNew_yes hin.out hs hok, ?_⟩
                    exact (((((Below.refl _ _).alloc (Nat.le_refl _) _).alloc (by simp) _).trans (hb.mono (by simp; omega))).setCell (Nat.le_refl _) _).setCell (Nat.le_refl _) _
    · have ci := fun w1 => in_no x (-40) 40 w1 (by omega)
      have hb : IsNew n x 0 0 false := isNew_out (fun h => hx h.2)
      clear hx
      go_enter Try.func182, Try.ntmps182
      go_wp2_with (first | (go_at_call 156; refine (c0 _).mono ?_; rintro e w' ⟨rfl, rfl⟩) | (go_at_call 114; refine (ci _).mono ?_; rintro e w' ⟨rfl, rfl⟩))
      refine bodyPost_ret (v := .tuple #[.agg #[.int .i64 0, .int .i64 0], .bool false]) (by simp [results, Try.results182, go_sem]) rfl ⟨_, _, _, rfl, hb, ?_⟩
      exact below_box _ _
  · have hb : IsNew n x 0 0 false := isNew_out (fun h => hd (by have := h.1; omega))
    go_enter Try.func182, Try.ntmps182
    go_wp2_with (go_at_call 156; refine (c0 _).mono ?_; rintro e w' ⟨rfl, rfl⟩)
    refine bodyPost_ret (v := .tuple #[.agg #[.int .i64 0, .int .i64 0], .bool false]) (by simp [results, Try.results182, go_sem]) rfl ⟨_, _, _, rfl, hb, ?_⟩
    exact below_box _ _
end Go.Proofs.Ytdjnkcoepmackaa
/- A law's decimal number handed to the program: the conversion, the comparison. -/
namespace Go.Proofs.Ytdjnkcoepmackaa
open Go.RowKit
end Go.Proofs.Ytdjnkcoepmackaa
