/- What the model's l5Scaled returns: the whole part of a number times a power of two, how the rest compares with a half, and whether there is a rest. -/
import Derived.Test.YtjfjbocaplpdfaaFltMath
import Derived.Test.YtjfjbocaplpdfaaIn
import Derived.Test.YtjfjbocaplpdfaaMem
import Derived.IntWalk
import Derived.Lib.Hide
import Derived.Outline
namespace Go.Proofs.Ytjfjbocaplpdfaa
open Go.RowKit
def sq (n p i : Nat) : Nat := n * 2 ^ i / p
def sr (n p i : Nat) : Nat := n * 2 ^ i % p
theorem sr_lt {n p i : Nat} (hp : 0 < p) : sr n p i < p := Nat.mod_lt _ hp
theorem sq_zero (n p : Nat) : sq n p 0 = n / p := by unfold sq; rw [Nat.pow_zero, Nat.mul_one]
theorem sr_zero (n p : Nat) : sr n p 0 = n % p := by unfold sr; rw [Nat.pow_zero, Nat.mul_one]
theorem two_eq (n p i : Nat) : n * 2 ^ (i + 1) = p * (2 * sq n p i) + 2 * sr n p i := by
  have h := Nat.div_add_mod (n * 2 ^ i) p
  unfold sq sr
  rw [Nat.pow_succ, ← Nat.mul_assoc, Nat.mul_left_comm p 2, ← Nat.mul_add, h, Nat.mul_comm]
theorem s_low {n p i : Nat} (hp : 0 < p) (h : 2 * sr n p i < p) : sq n p (i + 1) = 2 * sq n p i ∧ sr n p (i + 1) = 2 * sr n p i := by
  have e := two_eq n p i
  constructor
  · rw [show sq n p (i + 1) = n * 2 ^ (i + 1) / p from rfl, e, Nat.mul_add_div hp, Nat.div_eq_of_lt h, Nat.add_zero]
  · rw [show sr n p (i + 1) = n * 2 ^ (i + 1) % p from rfl, e, Nat.mul_add_mod, Nat.mod_eq_of_lt h]
theorem s_high {n p i : Nat} (hp : 0 < p) (h : p ≤ 2 * sr n p i) : sq n p (i + 1) = 2 * sq n p i + 1 ∧ sr n p (i + 1) = 2 * sr n p i - p := by
  have e := two_eq n p i
  have hr := sr_lt (n := n) (i := i) hp
  have e2 : p * (2 * sq n p i) + 2 * sr n p i = p * (2 * sq n p i + 1) + (2 * sr n p i - p) := by rw [Nat.mul_add, Nat.mul_one]; omega
  have hl : 2 * sr n p i - p < p := by omega
  constructor
  · rw [show sq n p (i + 1) = n * 2 ^ (i + 1) / p from rfl, e, e2, Nat.mul_add_div hp, Nat.div_eq_of_lt hl, Nat.add_zero]
  · rw [show sr n p (i + 1) = n * 2 ^ (i + 1) % p from rfl, e, e2, Nat.mul_add_mod, Nat.mod_eq_of_lt hl]
theorem sq_bound {n p i : Nat} (hp : 0 < p) (h : n / p < 65536) (hi : i ≤ 17) : sq n p i < 8589934592 := by
  have h1 : n < 65536 * p := (Nat.div_lt_iff_lt_mul hp).1 h
  have h2 : 2 ^ i ≤ 2 ^ 17 := Nat.pow_le_pow_right (by decide) hi
  unfold sq
  rw [Nat.div_lt_iff_lt_mul hp]
  have h3 : n * 2 ^ i < 65536 * p * 2 ^ i := Nat.mul_lt_mul_of_pos_right h1 (two_pos i)
  have h4 : 65536 * p * 2 ^ i ≤ 65536 * p * 2 ^ 17 := Nat.mul_le_mul_left _ h2
  omega
/-- how twice the rest compares with the whole -/
def sHalf (n p s : Nat) : Int := if 2 * sr n p s < p then -1 else if p < 2 * sr n p s then 1 else 0
def sRest (n p s : Nat) : Bool := if 2 * sr n p s < p then decide (0 < sr n p s) else true
def ScaledPost (n p s : Nat) (w : World) (r : Ending) (w' : World) : Prop := r = .returned (.tuple #[.int .i64 (sq n p s), .int .i64 (sHalf n p s), .bool (sRest n p s)]) ∧ w = w'
theorem scaled_ret {a b : Int} {h k : Int} {x y : Bool} (e1 : a = b) (e2 : h = k) (e3 : x = y) : Ending.returned (.tuple #[.int .i64 a, .int .i64 h, .bool x]) = .returned (.tuple #[.int .i64 b, .int .i64 k, .bool y]) := by rw [e1, e2, e3]
set_option maxRecDepth 100000 in
set_option maxHeartbeats 2000000 in
theorem scaled_spec (n p s : Nat) (w : World) (hn : n < 100000000000000000) (hp : 0 < p) (hp2 : p ≤ 10000000000000000) (hq : n / p < 65536) (hs : s ≤ 17) :
    Calls Try.prog 41 #[.int .i64 n, .int .i64 p, .int .i64 s] w (ScaledPost n p s w) := by
  have hb := fun i (hi : i ≤ s) => sq_bound (n := n) (i := i) hp hq (by omega)
  have hl := fun i => sr_lt (n := n) (i := i) hp
  have e0 : (n : Int) / (p : Int) = (sq n p 0 : Nat) := by rw [sq_zero, Int.natCast_ediv]
  have e1 : (n : Int) % (p : Int) = (sr n p 0 : Nat) := by rw [sr_zero, Int.natCast_emod]
  have nI : (n : Int) ≤ 100000000000000000 := by omega
  have pI : (0 : Int) < p := by omega
  have pI2 : (p : Int) ≤ 10000000000000000 := by omega
  have sI : (s : Int) ≤ 17 := by omega
  have b0 : (sq n p 0 : Int) ≤ 8589934592 := by have := hb 0 (Nat.zero_le _); omega
  have hb := Lib.hid hb
  have hl := Lib.hid hl
  have h1 := Lib.hid hp
  clear hq hn hp hp2
  go_enter Try.func41, Try.ntmps41
  go_wp2
  go_loop [9, 10, 11] (fun q r i => ∃ j : Nat, q = .int .i64 (sq n p j) ∧ r = .int .i64 (sr n p j) ∧ i = .int .i64 j ∧ j ≤ s) (fun _ _ i => s - (intOf i).toNat)
  case atStart => exact ⟨0, rfl, by rw [e1], rfl, Nat.zero_le _⟩
  case round =>
    obtain ⟨j, rfl, rfl, rfl, hj⟩ := hrel
    have q1 : (sq n p j : Int) ≤ 8589934592 := by have := hb.out j hj; omega
    have r1 : (sr n p j : Int) < p := by have := hl.out j; omega
    clear e0 e1 b0
    by_cases hlt : j < s
    · have hltI : (j : Int) < s := by omega
      by_cases hc : p ≤ 2 * sr n p j
      · obtain ⟨c1, c2⟩ := s_high (n := n) (i := j) h1.out hc
        have c1 := Lib.hid c1
        have c2 := Lib.hid c2
        have hcI : (p : Int) ≤ 2 * (sr n p j : Int) := by omega
        generalize hQ : sq n p j = q at *
        generalize hR : sr n p j = r at *
        have hQ := Lib.hid hQ
        have hR := Lib.hid hR
        go_wp2
        go_round
        case rel => exact ⟨j + 1, by rw [c1.out]; exact congrArg (Value.int .i64) (by omega), by rw [c2.out]; exact congrArg (Value.int .i64) (by omega), by go_num, by omega⟩
        case measure => simp [intOf]; omega
      · obtain ⟨c1, c2⟩ := s_low (n := n) (i := j) h1.out (by omega)
        have c1 := Lib.hid c1
        have c2 := Lib.hid c2
        have hcI : 2 * (sr n p j : Int) < p := by omega
        generalize hQ : sq n p j = q at *
        generalize hR : sr n p j = r at *
        have hQ := Lib.hid hQ
        have hR := Lib.hid hR
        go_wp2
        go_round
        case rel => exact ⟨j + 1, by rw [c1.out]; exact congrArg (Value.int .i64) (by omega), by rw [c2.out]; exact congrArg (Value.int .i64) (by omega), by go_num, by omega⟩
        case measure => simp [intOf]; omega
    · obtain rfl : s = j := by omega
      have hx1 : sHalf n p s = if 2 * sr n p s < p then -1 else if p < 2 * sr n p s then 1 else 0 := rfl
      have hx2 : sRest n p s = if 2 * sr n p s < p then decide (0 < sr n p s) else true := rfl
      rcases Nat.lt_trichotomy (2 * sr n p s) p with hc | hc | hc
      · have hcI : 2 * (sr n p s : Int) < p := by omega
        have hH : Hid (sHalf n p s = -1) := Lib.hid (by rw [hx1, if_pos hc])
        have hBB : Hid (sRest n p s = decide (0 < sr n p s)) := Lib.hid (by rw [hx2, if_pos hc])
        clear hc hx1 hx2
        go_wp2
        exact bodyPost_ret (v := .tuple #[.int .i64 (sq n p s), .int .i64 (-1), .bool (decide (0 < sr n p s))]) (by simp [results, Try.results41, go_sem]) rfl ⟨scaled_ret rfl hH.out.symm hBB.out.symm, rfl⟩
      · have hcI : ¬ 2 * (sr n p s : Int) < p := by omega
        have hcJ : ¬ (p : Int) < 2 * (sr n p s : Int) := by omega
        have hH : Hid (sHalf n p s = 0) := Lib.hid (by rw [hx1, if_neg (by omega), if_neg (by omega)])
        have hBB : Hid (sRest n p s = true) := Lib.hid (by rw [hx2, if_neg (by omega)])
        clear hc hx1 hx2
        go_wp2
        exact bodyPost_ret (v := .tuple #[.int .i64 (sq n p s), .int .i64 0, .bool true]) (by simp [results, Try.results41, go_sem]) rfl ⟨scaled_ret rfl hH.out.symm hBB.out.symm, rfl⟩
      · have hcI : ¬ 2 * (sr n p s : Int) < p := by omega
        have hcJ : (p : Int) < 2 * (sr n p s : Int) := by omega
        have hH : Hid (sHalf n p s = 1) := Lib.hid (by rw [hx1, if_neg (by omega), if_pos (by omega)])
        have hBB : Hid (sRest n p s = true) := Lib.hid (by rw [hx2, if_neg (by omega)])
        clear hc hx1 hx2
        go_wp2
        exact bodyPost_ret (v := .tuple #[.int .i64 (sq n p s), .int .i64 1, .bool true]) (by simp [results, Try.results41, go_sem]) rfl ⟨scaled_ret rfl hH.out.symm hBB.out.symm, rfl⟩
end Go.Proofs.Ytjfjbocaplpdfaa
