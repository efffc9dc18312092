import Derived.Test.YtelehfefhlgbkaaGreatDoorG4
import Derived.Test.YtelehfefhlgbkaaGreatDoorG0
import Derived.Test.YtelehfefhlgbkaaGreatDoorRows
import Derived.WalkKit
import Derived.Outline
import Derived.Laws.EntriesVeiled
import Derived.Lib.Hide
import Derived.ProofKit
import Derived.Deep.QuietTactic
import Derived.BigQuiet
import Derived.IntWalk
import Derived.Deep.RegionHeld3
import Derived.Lib.ItoaNum
import Derived.Lib.AtoiAll
/- Plain facts on decimal numbers: digits, validity, one form, order. No program. -/
namespace Go.Proofs.YtelehfefhlgbkaaGreatDoor
theorem digN_le_iff (k : Nat) : ∀ n : Nat, digN n ≤ k ↔ n < 10 ^ k := by
  induction k with
  | zero =>
    intro n
    by_cases h : n = 0
    · subst h; simp [digN_zero]
    · rw [digN_step n h]; simp; omega
  | succ k ih =>
    intro n
    by_cases h : n = 0
    · subst h; simp only [digN_zero, Nat.zero_le, true_iff]; exact Nat.pow_pos (by decide)
    · rw [digN_step n h, Nat.succ_le_succ_iff, ih, Nat.pow_succ, Nat.div_lt_iff_lt_mul (by decide)]
theorem digV_le_iff (n : Int) (k : Nat) : digV n ≤ k + 1 ↔ n.natAbs < 10 ^ (k + 1) := by
  unfold digV
  rw [Nat.add_comm 1, Nat.succ_le_succ_iff, digN_le_iff, Nat.pow_succ, Nat.div_lt_iff_lt_mul (by decide)]
theorem digV_17 (n : Int) : digV n ≤ 17 ↔ n.natAbs < 100000000000000000 := digV_le_iff n 16
theorem digV_16 (n : Int) : digV n ≤ 16 ↔ n.natAbs < 10000000000000000 := digV_le_iff n 15
theorem digV_pos (n : Int) : 1 ≤ digV n := by unfold digV; omega
theorem digV_strip (n : Int) (h0 : n ≠ 0) (h : n.tmod 10 = 0) : digV n = digV (n.tdiv 10) + 1 := by
  unfold digV
  rw [tdiv10]
  have : n.natAbs / 10 ≠ 0 := by
    intro hz
    have h2 : (n.tmod 10).natAbs = n.natAbs % 10 := Int.natAbs_tmod n 10
    rw [h] at h2
    have : (0 : Int).natAbs = 0 := rfl
    omega
  rw [digN_step _ this]; omega
/-- A decimal number's form. -/
def decOk (n x : Int) : Bool := if x = 0 then decide (-1000000000000000 ≤ n ∧ n ≤ 1000000000000000) else decide (-16 ≤ x ∧ x ≤ -1 ∧ digV n ≤ 17 ∧ n.tmod 10 ≠ 0)
def same (n x N X : Int) : Prop := n * 10 ^ (x + 60).toNat = N * 10 ^ (X + 60).toNat
theorem decOk_range {n x : Int} (h : decOk n x = true) : -16 ≤ x ∧ x ≤ 0 ∧ n.natAbs < 100000000000000000 ∧ (x = 0 → n.natAbs ≤ 1000000000000000) ∧ (x < 0 → n.tmod 10 ≠ 0) := by
  unfold decOk at h
  by_cases hx : x = 0
  · rw [if_pos hx] at h; simp only [decide_eq_true_eq] at h; omega
  · rw [if_neg hx] at h; simp only [decide_eq_true_eq, digV_17] at h
    exact ⟨h.1, by omega, h.2.2.1, fun e => absurd e hx, fun _ => h.2.2.2⟩
theorem decOk_zero {n : Int} (h0 : -1000000000000000 ≤ n) (h1 : n ≤ 1000000000000000) : decOk n 0 = true := by
  unfold decOk; rw [if_pos rfl]; simp only [decide_eq_true_eq]; exact ⟨h0, h1⟩
theorem decOk_neg {n x : Int} (h0 : -16 ≤ x) (h1 : x ≤ -1) (h2 : digV n ≤ 17) (h3 : n.tmod 10 ≠ 0) : decOk n x = true := by
  unfold decOk; rw [if_neg (by omega)]; simp only [decide_eq_true_eq]; exact ⟨h0, h1, h2, h3⟩
theorem ten_ne (k : Nat) : (10 : Int) ^ k ≠ 0 := Int.pow_ne_zero (by decide)
theorem same_le {n x N X : Int} (hx : -60 ≤ x) (h : x ≤ X) : same n x N X ↔ n = N * 10 ^ (X - x).toNat := by
  unfold same
  rw [show (X + 60).toNat = (X - x).toNat + (x + 60).toNat by omega, Int.pow_add, ← Int.mul_assoc]
  exact ⟨fun e => Int.eq_of_mul_eq_mul_right (ten_ne _) e, fun e => by rw [e]⟩
theorem same_comm {n x N X : Int} (h : same n x N X) : same N X n x := h.symm
theorem same_refl (n x : Int) : same n x n x := rfl
theorem same_trans {a x b y c z : Int} (h : same a x b y) (k : same b y c z) : same a x c z := Eq.trans h k
theorem mod_mul (N : Int) (k : Nat) : (N * 10 ^ (k + 1)).tmod 10 = 0 := by
  rw [Int.pow_succ, ← Int.mul_assoc]
  exact Int.mul_tmod_left _ _
theorem same_final {n x N X : Int} (h0 : -60 ≤ x) (h1 : x ≤ 0) (hs : x = 0 ∨ n.tmod 10 ≠ 0) (hv : decOk N X = true) (h : same n x N X) : N = n ∧ X = x := by
  obtain ⟨r0, r1, r2, r3, r4⟩ := decOk_range hv
  rcases Int.lt_trichotomy x X with hlt | heq | hgt
  · have e := (same_le h0 (by omega)).1 h
    obtain ⟨k, hk⟩ : ∃ k, (X - x).toNat = k + 1 := ⟨(X - x).toNat - 1, by omega⟩
    rw [hk] at e
    have := mod_mul N k
    rw [← e] at this
    omega
  · subst heq
    have e := (same_le h0 (Int.le_refl _)).1 h
    rw [show (x - x).toNat = 0 by omega] at e
    exact ⟨by omega, rfl⟩
  · have e := (same_le (by omega) (by omega)).1 (same_comm h)
    obtain ⟨k, hk⟩ : ∃ k, (x - X).toNat = k + 1 := ⟨(x - X).toNat - 1, by omega⟩
    rw [hk] at e
    have := mod_mul n k
    rw [← e] at this
    exact absurd this (r4 (by omega))
theorem dec_uniq {n x N X : Int} (hv : decOk n x = true) (hw : decOk N X = true) (h : same n x N X) : N = n ∧ X = x := by
  obtain ⟨r0, r1, r2, r3, r4⟩ := decOk_range hv
  exact same_final (by omega) r1 (by by_cases e : x = 0
                                     · exact .inl e
                                     · exact .inr (r4 (by omega))) hw h
/-- What DecNew returns. -/
def decIn (n x : Int) : Prop := digV n ≤ 17 ∧ -40 ≤ x ∧ x ≤ 40
def IsNew (n x N X : Int) (ok : Bool) : Prop :=
  (ok = true ∧ decIn n x ∧ decOk N X = true ∧ same n x N X) ∨ (ok = false ∧ N = 0 ∧ X = 0 ∧ ∀ N' X', decIn n x → decOk N' X' = true → same n x N' X' → False)
theorem isNew_uniq {n x N X N' X' : Int} {a b : Bool} (h : IsNew n x N X a) (k : IsNew n x N' X' b) : N' = N ∧ X' = X ∧ b = a := by
  rcases h with ⟨rfl, hi, hv, hs⟩ | ⟨rfl, rfl, rfl, hn⟩
  · rcases k with ⟨rfl, _, kv, ks⟩ | ⟨rfl, rfl, rfl, kn⟩
    · have := dec_uniq hv kv (same_trans (same_comm hs) ks)
      exact ⟨this.1, this.2, rfl⟩
    · exact (kn _ _ hi hv hs).elim
  · rcases k with ⟨rfl, ki, kv, ks⟩ | ⟨rfl, rfl, rfl, kn⟩
    · exact (hn _ _ ki kv ks).elim
    · exact ⟨rfl, rfl, rfl⟩
theorem isNew_out {n x : Int} (h : ¬ decIn n x) : IsNew n x 0 0 false := .inr ⟨rfl, rfl, rfl, fun _ _ hi _ _ => h hi⟩
theorem isNew_zero {x : Int} (h : decIn 0 x) : IsNew 0 x 0 0 true := .inl ⟨rfl, h, decOk_zero (by decide) (by decide), by unfold same; simp⟩
theorem isNew_yes {n x m y : Int} (hi : decIn n x) (hs : same n x m y) (h : decOk m y = true) : IsNew n x m y true := .inl ⟨rfl, hi, h, hs⟩
theorem isNew_no {n x m y : Int} (hs : same n x m y) (h0 : -60 ≤ y) (h1 : y ≤ 0) (hz : y = 0 ∨ m.tmod 10 ≠ 0) (h : decOk m y = false) : IsNew n x 0 0 false := by
  refine .inr ⟨rfl, rfl, rfl, fun N X _ hv hk => ?_⟩
  obtain ⟨rfl, rfl⟩ := same_final h0 h1 hz hv (same_trans (same_comm hs) hk)
  rw [h] at hv; cases hv
theorem isNew_big {n x m y : Int} (hs : same n x m y) (h0 : 0 < y) (hb : 100000000000000000 ≤ m.natAbs * 10 ^ y.toNat) : IsNew n x 0 0 false := by
  refine .inr ⟨rfl, rfl, rfl, fun N X _ hv hk => ?_⟩
  obtain ⟨r0, r1, r2, r3, r4⟩ := decOk_range hv
  have e := (same_le (by omega) (by omega)).1 (same_comm (same_trans (same_comm hs) hk))
  obtain ⟨k, hk⟩ : ∃ k, (y - X).toNat = k + 1 := ⟨(y - X).toNat - 1, by omega⟩
  by_cases hX : X = 0
  · subst hX
    have e2 : N.natAbs = m.natAbs * 10 ^ y.toNat := by rw [e, Int.natAbs_mul, Int.natAbs_pow, show (y - 0).toNat = y.toNat by omega]; rfl
    have := r3 rfl
    omega
  · rw [hk] at e
    have := mod_mul m k
    rw [← e] at this
    exact absurd this (r4 (by omega))
theorem same_strip {n x m y : Int} (hs : same n x m y) (hy : -60 ≤ y) (h : m.tmod 10 = 0) : same n x (m.tdiv 10) (y + 1) := by
  refine same_trans hs ((same_le hy (by omega)).2 ?_)
  rw [show (y + 1 - y).toNat = 1 by omega, Int.pow_one]
  have := Int.tmod_add_mul_tdiv m 10
  omega
theorem same_grow {n x m y : Int} (hs : same n x m y) (hy : -59 ≤ y) : same n x (m * 10) (y - 1) := by
  refine same_trans hs (same_comm ((same_le (by omega) (by omega)).2 ?_))
  rw [show (y - (y - 1)).toNat = 1 by omega, Int.pow_one]
theorem same_mul {n x m y : Int} (hs : same n x m y) (hy : 0 ≤ y) : same n x (m * 10 ^ y.toNat) 0 := by
  refine same_trans hs (same_comm ((same_le (by omega) hy).2 ?_))
  rw [show y - 0 = y by omega]
theorem ten_ge (m : Int) (k : Nat) (h : ¬ digV m ≤ k) : 10 ^ k ≤ m.natAbs ∨ k = 0 := by
  match k, h with
  | 0, _ => exact .inr rfl
  | k + 1, h => rw [digV_le_iff] at h; exact .inl (by omega)
theorem big_spec {m y : Int} (h0 : 0 < y) (hd : ¬ digV m ≤ 16) : 100000000000000000 ≤ m.natAbs * 10 ^ y.toNat := by
  rw [digV_16] at hd
  obtain ⟨k, hk⟩ : ∃ k, y.toNat = k + 1 := ⟨y.toNat - 1, by omega⟩
  have h1 : 10 ^ 1 ≤ 10 ^ y.toNat := Nat.pow_le_pow_right (by decide) (by omega)
  have h2 : 10000000000000000 * 10 ^ 1 ≤ m.natAbs * 10 ^ y.toNat := Nat.mul_le_mul (by omega) h1
  omega
theorem big_impl {m y : Int} (h0 : 0 < y) (hm : m ≠ 0) (hd : 17 < (digV m : Int) + y) : 100000000000000000 ≤ m.natAbs * 10 ^ y.toNat := by
  have hp := digV_pos m
  have h1 : 10 ^ (digV m - 1) ≤ m.natAbs := by
    rcases ten_ge m (digV m - 1) (by omega) with h | h
    · exact h
    · rw [h]; simp; omega
  have h2 : 10 ^ (digV m - 1) * 10 ^ y.toNat ≤ m.natAbs * 10 ^ y.toNat := Nat.mul_le_mul_right _ h1
  rw [← Nat.pow_add] at h2
  have h3 : 10 ^ 17 ≤ 10 ^ (digV m - 1 + y.toNat) := Nat.pow_le_pow_right (by decide) (by omega)
  omega
theorem fit_impl {m y : Int} (h0 : 0 < y) (hd : (digV m : Int) + y ≤ 17) : (m * 10 ^ y.toNat).natAbs < 100000000000000000 := by
  have hp := digV_pos m
  obtain ⟨k, hk⟩ : ∃ k, digV m = k + 1 := ⟨digV m - 1, by omega⟩
  have h1 : m.natAbs < 10 ^ digV m := by rw [hk]; exact (digV_le_iff m k).1 (by omega)
  rw [Int.natAbs_mul, Int.natAbs_pow]
  have h2 : m.natAbs * 10 ^ y.toNat < 10 ^ digV m * 10 ^ y.toNat := Nat.mul_lt_mul_of_pos_right h1 (Nat.pow_pos (by decide))
  rw [← Nat.pow_add] at h2
  have h3 : 10 ^ (digV m + y.toNat) ≤ 10 ^ 17 := Nat.pow_le_pow_right (by decide) (by omega)
  exact Nat.lt_of_lt_of_le h2 h3
/-- A number's part in front of the point, and the part behind it. -/
def hiV (n x : Int) : Int := n.tdiv (10 ^ (-x).toNat)
def loV (n x : Int) : Int := n.tmod (10 ^ (-x).toNat) * 10 ^ (16 + x).toNat
def lessB (n x N X : Int) : Bool := decOk n x && decOk N X && (decide (hiV n x < hiV N X) || (hiV n x == hiV N X && decide (loV n x < loV N X)))
theorem hi_lo {n x : Int} (h0 : -16 ≤ x) (h1 : x ≤ 0) : hiV n x * 10 ^ 16 + loV n x = n * 10 ^ (16 + x).toNat := by
  unfold hiV loV
  have e : (10 : Int) ^ 16 = 10 ^ (-x).toNat * 10 ^ (16 + x).toNat := by rw [← Int.pow_add]; congr 1; omega
  have := Int.tmod_add_mul_tdiv n (10 ^ (-x).toNat)
  rw [e, ← Int.mul_assoc, ← Int.add_mul, Int.mul_comm (n.tdiv _), Int.add_comm, this]
theorem hi_lo_uniq {n x N X : Int} (hv : decOk n x = true) (hw : decOk N X = true) (h : hiV n x = hiV N X) (k : loV n x = loV N X) : N = n ∧ X = x := by
  obtain ⟨r0, r1, _⟩ := decOk_range hv
  obtain ⟨s0, s1, _⟩ := decOk_range hw
  have e1 := hi_lo (n := n) r0 r1
  have e2 := hi_lo (n := N) s0 s1
  rw [← h, ← k, e1] at e2
  refine dec_uniq hv hw ?_
  unfold same
  rw [show (x + 60).toNat = (16 + x).toNat + 44 by omega, show (X + 60).toNat = (16 + X).toNat + 44 by omega, Int.pow_add, Int.pow_add, ← Int.mul_assoc, ← Int.mul_assoc, e2]
theorem less_tri {n x N X : Int} (hv : decOk n x = true) (hw : decOk N X = true) : ((lessB n x N X || lessB N X n x) = true) ↔ ¬ (n = N ∧ x = X) := by
  unfold lessB
  rw [hv, hw]
  simp only [Bool.true_and, Bool.or_eq_true, Bool.and_eq_true, decide_eq_true_eq, beq_iff_eq]
  constructor
  · rintro h ⟨rfl, rfl⟩
    omega
  · intro h
    by_cases a : hiV n x = hiV N X
    · by_cases b : loV n x = loV N X
      · obtain ⟨rfl, rfl⟩ := hi_lo_uniq hv hw a b
        exact absurd ⟨rfl, rfl⟩ h
      · omega
    · omega
theorem less_anti {n x N X : Int} : ¬ (lessB n x N X = true ∧ lessB N X n x = true) := by
  unfold lessB
  simp only [Bool.or_eq_true, Bool.and_eq_true, decide_eq_true_eq, beq_iff_eq]
  omega
end Go.Proofs.YtelehfefhlgbkaaGreatDoor
/- What DecOk of the program and of the model returns: whether the two fields form a decimal number. -/
namespace Go.Proofs.YtelehfefhlgbkaaGreatDoor
open Go.RowKit
theorem decOk_f {n x : Int} (h : ¬ decOk n x = true) : decOk n x = false := by simpa using h
theorem decOk_iff0 (n : Int) : decOk n 0 = true ↔ -1000000000000000 ≤ n ∧ n ≤ 1000000000000000 := by unfold decOk; rw [if_pos rfl, decide_eq_true_eq]
theorem decOk_iff (n x : Int) (h : ¬ x = 0) : decOk n x = true ↔ -16 ≤ x ∧ x ≤ -1 ∧ ((digV n : Nat) : Int) ≤ 17 ∧ n.tmod 10 ≠ 0 := by
  unfold decOk; rw [if_neg h, decide_eq_true_eq]
  constructor
  · rintro ⟨a, b, c, d⟩; exact ⟨a, b, by omega, d⟩
  · rintro ⟨a, b, c, d⟩; exact ⟨a, b, by omega, d⟩
set_option maxRecDepth 100000 in
theorem decok_spec (n x : Int) (w : World) (h0 : -9223372036854775808 ≤ n) (h1 : n ≤ 9223372036854775807) : Calls Tryz.prog 90 #[.agg #[.int .i64 n, .int .i64 x]] w fun e w' => e = .returned (.bool (decOk n x)) ∧ Below w.heap.size w w' := by
  have c := fun w1 => digits_spec n w1 h0 h1
  by_cases hx : x = 0
  · subst hx
    have ci := fun w1 => in_any n (-1000000000000000) 1000000000000000 w1
    have e : decide (-1000000000000000 ≤ n ∧ n ≤ 1000000000000000) = decOk n 0 := by rw [Bool.eq_iff_iff, decide_eq_true_eq, decOk_iff0]
    rw [e] at ci
    clear e
    go_enter Tryz.func90, Tryz.ntmps90
    go_wp2_with (go_at_call 42; refine (ci _).mono ?_; rintro e w' ⟨rfl, rfl⟩)
    go_ret
    exact ⟨rfl, below_box _ _⟩
  · by_cases a : -16 ≤ x ∧ x ≤ -1
    · have ci := fun w1 => in_yes x (-16) (-1) w1 a.1 a.2
      by_cases m : n.tmod 10 = 0
      · have e := decOk_f (fun h => ((decOk_iff n x hx).1 h).2.2.2 m)
        have mb : (n.tmod 10 != 0) = false := by simpa using m
        rw [e]
        clear a
        go_enter Tryz.func90, Tryz.ntmps90
        go_wp2_with (go_at_call 42; refine (ci _).mono ?_; rintro e w' ⟨rfl, rfl⟩)
        go_ret
        exact ⟨rfl, below_box _ _⟩
      · by_cases d : ((digV n : Nat) : Int) ≤ 17
        · have e := (decOk_iff n x hx).2 ⟨a.1, a.2, d, m⟩
          have mb : (n.tmod 10 != 0) = true := by simpa using m
          rw [e]
          clear a
          go_enter Tryz.func90, Tryz.ntmps90
          go_wp2_with (first | (go_at_call 42; refine (ci _).mono ?_; rintro e w' ⟨rfl, rfl⟩) | (go_at_call 89; refine (c _).mono ?_; rintro e w' ⟨rfl, rfl⟩))
          go_ret
          exact ⟨rfl, below_box _ _⟩
        · have e := decOk_f (fun h => d ((decOk_iff n x hx).1 h).2.2.1)
          have mb : (n.tmod 10 != 0) = true := by simpa using m
          have db : decide (((digV n : Nat) : Int) ≤ 17) = false := decide_eq_false d
          rw [e]
          clear a
          go_enter Tryz.func90, Tryz.ntmps90
          go_wp2_with (first | (go_at_call 42; refine (ci _).mono ?_; rintro e w' ⟨rfl, rfl⟩) | (go_at_call 89; refine (c _).mono ?_; rintro e w' ⟨rfl, rfl⟩))
          go_ret
          exact ⟨rfl, below_box _ _⟩
    · have ci := fun w1 => in_no x (-16) (-1) w1 (by omega)
      have e := decOk_f (fun h => a ⟨((decOk_iff n x hx).1 h).1, ((decOk_iff n x hx).1 h).2.1⟩)
      rw [e]
      clear a
      go_enter Tryz.func90, Tryz.ntmps90
      go_wp2_with (go_at_call 42; refine (ci _).mono ?_; rintro e w' ⟨rfl, rfl⟩)
      go_ret
      exact ⟨rfl, below_box _ _⟩
end Go.Proofs.YtelehfefhlgbkaaGreatDoor
/- What Pow of the program and Pow of the model return: the power of 2, 5 or 10, and 0 outside the ranges. -/
namespace Go.Proofs.YtelehfefhlgbkaaGreatDoor
open Go.RowKit
def powBase (b : Int) : Prop := b = 2 ∨ b = 5 ∨ b = 10
def powV (b k : Int) : Int := if (b = 2 ∨ b = 5 ∨ b = 10) ∧ 0 ≤ k ∧ k ≤ 17 then b ^ k.toNat else 0

theorem pow_step (b : Int) (j : Nat) : b ^ (j + 1) = b ^ j * b := Int.pow_succ b j
theorem pow_low (b : Int) (hb : powBase b) (j : Nat) (hj : j ≤ 17) : 0 ≤ b ^ j ∧ b ^ j ≤ 100000000000000000 := by
  have key : ∀ i : Fin 18, (0 ≤ (2 : Int) ^ i.val ∧ (2 : Int) ^ i.val ≤ 100000000000000000) ∧ (0 ≤ (5 : Int) ^ i.val ∧ (5 : Int) ^ i.val ≤ 100000000000000000) ∧ (0 ≤ (10 : Int) ^ i.val ∧ (10 : Int) ^ i.val ≤ 100000000000000000) := by decide
  have k1 := key ⟨j, by omega⟩
  rcases hb with rfl | rfl | rfl
  · exact k1.1
  · exact k1.2.1
  · exact k1.2.2

end Go.Proofs.YtelehfefhlgbkaaGreatDoor
/- What DecNew of the program and of the model returns: the number's one valid form, or none where there is none. -/
namespace Go.Proofs.YtelehfefhlgbkaaGreatDoor
open Go.RowKit
theorem bcell {W w1 : World} (hb : Below W.heap.size W w1) : (∀ b o, b < W.heap.size → w1.cell? ⟨b, o, none⟩ = W.cell? ⟨b, o, none⟩) ∧ (∀ b o, b < W.heap.size → w1.frozen? ⟨b, o, none⟩ = W.frozen? ⟨b, o, none⟩) :=
  ⟨fun b o h => hb.cell (p := ⟨b, o, none⟩) h, fun b o h => hb.frozen (p := ⟨b, o, none⟩) h⟩
theorem below_two {w w1 w2 : World} {o o' : Obj} (hb1 : Below (w.alloc o).heap.size (w.alloc o) w1) (hb2 : Below (w1.alloc o').heap.size (w1.alloc o') w2) : Below (w.alloc o).heap.size (w.alloc o) w2 :=
  hb1.trans (((Below.refl _ _).alloc hb1.size _).trans (hb2.mono (by have := hb1.size; simp at this ⊢; omega)))
def NewPost (n x : Int) (w : World) (e : Ending) (w' : World) : Prop := ∃ (N X : Int) (ok : Bool), e = .returned (.tuple #[.agg #[.int .i64 N, .int .i64 X], .bool ok]) ∧ IsNew n x N X ok ∧ Below w.heap.size w w'
theorem pow10_ge {y : Int} (h0 : 0 < y) (h : y ≤ 16) : powV 10 y = 10 ^ y.toNat := by unfold powV; rw [if_pos ⟨by decide, by omega, by omega⟩]
set_option maxRecDepth 100000 in
set_option maxHeartbeats 4000000 in
theorem decnew_spec (n x : Int) (w : World) (h0 : -9223372036854775808 ≤ n) (h1 : n ≤ 9223372036854775807) : Calls Tryz.prog 71 #[.int .i64 n, .int .i64 x] w (NewPost n x w) := by
  have c0 := fun w1 => digits_spec n w1 h0 h1
  by_cases hd : ((digV n : Nat) : Int) ≤ 17
  · have hn := (digV_17 n).1 (by omega)
    have hn0 : -100000000000000000 < n := by omega
    have hn1 : n < 100000000000000000 := by omega
    clear hn h0 h1
    by_cases hx : -40 ≤ x ∧ x ≤ 40
    · have hin : Hid (decIn n x) := Lib.hid ⟨by omega, hx.1, hx.2⟩
      obtain ⟨hx0, hx1⟩ := hx
      have ci := fun w1 => in_yes x (-40) 40 w1 hx0 hx1
      by_cases hz : n = 0
      · subst hz
        go_enter Tryz.func71, Tryz.ntmps71
        go_wp2_with (first | (go_at_call 89; refine (c0 _).mono ?_; rintro e w' ⟨rfl, rfl⟩) | (go_at_call 42; refine (ci _).mono ?_; rintro e w' ⟨rfl, rfl⟩))
        refine bodyPost_ret (v := .tuple #[.agg #[.int .i64 0, .int .i64 0], .bool true]) (by simp [results, Tryz.results71, go_sem]) rfl ⟨_, _, _, rfl, isNew_zero hin.out, ?_⟩
        exact below_box _ _
      · go_enter Tryz.func71, Tryz.ntmps71
        go_wp2_with (first | (go_at_call 89; refine (c0 _).mono ?_; rintro e w' ⟨rfl, rfl⟩) | (go_at_call 42; refine (ci _).mono ?_; rintro e w' ⟨rfl, rfl⟩))
        go_loop [0, 1] (fun a b => ∃ m y : Int, a = .int .i64 m ∧ b = .int .i64 y ∧ same n x m y ∧ m ≠ 0 ∧ -100000000000000000 < m ∧ m < 100000000000000000 ∧ -40 ≤ y ∧ y ≤ 40) (fun _ b => (40 - intOf b).toNat)
        case atStart => exact ⟨_, _, rfl, rfl, same_refl _ _, hz, hn0, hn1, hx0, hx1⟩
        case round =>
          obtain ⟨m, y, rfl, rfl, hs, hm, hm0, hm1, hy0, hy1⟩ := hrel
          clear hz hn0 hn1 hx0 hx1 ci c0 hd
          by_cases hc : m.tmod 10 = 0 ∧ y < 0
          · obtain ⟨ht, hy⟩ := hc
            have hs2 := same_strip hs (by omega) ht
            have u0 := tdiv10 m
            have e0 := Int.tmod_add_mul_tdiv m 10
            have u1 : -100000000000000000 < m.tdiv 10 := by omega
            have u2 : m.tdiv 10 < 100000000000000000 := by omega
            have u3 : m.tdiv 10 ≠ 0 := by omega
            clear u0 e0
            go_wp2
            go_round
            case rel => exact ⟨_, _, rfl, rfl, hs2, u3, u1, u2, by omega, by omega⟩
            case measure => simp [intOf]; omega
          · have hy : 0 ≤ y ∨ m.tmod 10 ≠ 0 := by omega
            have hy' := Lib.hid hy
            clear hc
            by_cases ht : m.tmod 10 = 0
            all_goals
              first
              | (have hyy : ¬ y < 0 := by omega)
              | skip
              clear hy
              go_wp2
              go_loop [0, 1] (fun a b => ∃ m y : Int, a = .int .i64 m ∧ b = .int .i64 y ∧ same n x m y ∧ Hid (0 ≤ y ∨ m.tmod 10 ≠ 0) ∧ -100000000000000000 < m ∧ m < 100000000000000000 ∧ -40 ≤ y ∧ y ≤ 40) (fun _ b => (intOf b).toNat)
              case atStart => exact ⟨_, _, rfl, rfl, hs, hy', hm0, hm1, hy0, hy1⟩
              case round =>
                clear ht hs hy' hm0 hm1 hy0 hy1 hm
                obtain ⟨m, y, rfl, rfl, hs, hy', hm0, hm1, hy0, hy1⟩ := hrel
                by_cases hp : 0 < y
                · have cd := fun w1 => digits_spec m w1 (by omega) (by omega)
                  by_cases h16 : ((digV m : Nat) : Int) ≤ 16
                  · have hs2 := same_grow hs (by omega)
                    have hb := (digV_16 m).1 (by omega)
                    have b0 : -10000000000000000 < m := by omega
                    have b1 : m < 10000000000000000 := by omega
                    clear hb
                    go_wp2_with (go_at_call 89; refine (cd _).mono ?_; rintro e w' ⟨rfl, rfl⟩)
                    go_round
                    case rel => exact ⟨_, _, rfl, rfl, hs2, Lib.hid (.inl (by omega)), by omega, by omega, by omega, by omega⟩
                    case measure => simp [intOf]; omega
                  · have hb := Lib.hid (isNew_big hs hp (big_spec hp (by omega)))
                    go_wp2_with (go_at_call 89; refine (cd _).mono ?_; rintro e w' ⟨rfl, rfl⟩)
                    refine bodyPost_ret (v := .tuple #[.agg #[.int .i64 0, .int .i64 0], .bool false]) (by simp [results, Tryz.results71, go_sem]) rfl ⟨_, _, _, rfl, hb.out, ?_⟩
                    exact below_box _ _
                · have cd := fun w1 => decok_spec m y w1 (by omega) (by omega)
                  have hfin : Hid (y = 0 ∨ m.tmod 10 ≠ 0) := Lib.hid (by have := hy'.out; omega)
                  clear hy'
                  cases hok : decOk m y
                  · rw [hok] at cd
                    go_wp2_with (go_at_call 90; refine (cd _).mono ?_; rintro e w1 ⟨rfl, hb⟩; obtain ⟨hcl, hfz⟩ := bcell hb; have k0 : w1.cell? ⟨w.heap.size, 0, none⟩ = some (.int .i64 0) := (hcl _ _ (by simp; omega)).trans (by simp [go_sem]); have k1 : w1.cell? ⟨w.heap.size, 1, none⟩ = some (.int .i64 0) := (hcl _ _ (by simp; omega)).trans (by simp [go_sem]))
                    refine bodyPost_ret (v := .tuple #[.agg #[.int .i64 0, .int .i64 0], .bool false]) (by simp [results, Tryz.results71, go_sem, k0, k1]) rfl ⟨_, _, _, rfl, isNew_no hs (by omega) (by omega) hfin.out hok, ?_⟩
                    exact (((((Below.refl _ _).alloc (Nat.le_refl _) _).alloc (by simp) _).trans (hb.mono (by simp; omega))).setCell (Nat.le_refl _) _).setCell (Nat.le_refl _) _
                  · rw [hok] at cd
                    go_wp2_with (go_at_call 90; refine (cd _).mono ?_; rintro e w1 ⟨rfl, hb⟩; obtain ⟨hcl, hfz⟩ := bcell hb; have k0 : w1.cell? ⟨w.heap.size, 0, none⟩ = some (.int .i64 0) := (hcl _ _ (by simp; omega)).trans (by simp [go_sem]); have k1 : w1.cell? ⟨w.heap.size, 1, none⟩ = some (.int .i64 0) := (hcl _ _ (by simp; omega)).trans (by simp [go_sem]))
                    refine bodyPost_ret (v := .tuple #[.agg #[.int .i64 m, .int .i64 y], .bool true]) (by simp [results, Tryz.results71, go_sem, k0, k1]) rfl ⟨_, _, _, rfl, isNew_yes hin.out hs hok, ?_⟩
                    exact (((((Below.refl _ _).alloc (Nat.le_refl _) _).alloc (by simp) _).trans (hb.mono (by simp; omega))).setCell (Nat.le_refl _) _).setCell (Nat.le_refl _) _
    · have ci := fun w1 => in_no x (-40) 40 w1 (by omega)
      have hb : IsNew n x 0 0 false := isNew_out (fun h => hx h.2)
      clear hx
      go_enter Tryz.func71, Tryz.ntmps71
      go_wp2_with (first | (go_at_call 89; refine (c0 _).mono ?_; rintro e w' ⟨rfl, rfl⟩) | (go_at_call 42; refine (ci _).mono ?_; rintro e w' ⟨rfl, rfl⟩))
      refine bodyPost_ret (v := .tuple #[.agg #[.int .i64 0, .int .i64 0], .bool false]) (by simp [results, Tryz.results71, go_sem]) rfl ⟨_, _, _, rfl, hb, ?_⟩
      exact below_box _ _
  · have hb : IsNew n x 0 0 false := isNew_out (fun h => hd (by have := h.1; omega))
    go_enter Tryz.func71, Tryz.ntmps71
    go_wp2_with (go_at_call 89; refine (c0 _).mono ?_; rintro e w' ⟨rfl, rfl⟩)
    refine bodyPost_ret (v := .tuple #[.agg #[.int .i64 0, .int .i64 0], .bool false]) (by simp [results, Tryz.results71, go_sem]) rfl ⟨_, _, _, rfl, hb, ?_⟩
    exact below_box _ _
end Go.Proofs.YtelehfefhlgbkaaGreatDoor
/- What the model's draws for decimal numbers return. -/
namespace Go.Proofs.YtelehfefhlgbkaaGreatDoor
open Go.RowKit
def DecPost (B : Nat) (P : Int → Int → Prop) (w : World) (e : Ending) (w' : World) : Prop := ∃ n x : Int, P n x ∧ e = .returned (.agg #[.int .i64 n, .int .i64 x]) ∧ Only B w w' ∧ Cur w' B
theorem decOk_15 : decOk 15 (-1) = true := decOk_neg (by decide) (by decide) ((digV_17 15).2 (by decide)) (by decide)
theorem isNew_ok {n x N X : Int} (h : IsNew n x N X true) : decOk N X = true := by
  rcases h with ⟨_, _, h, _⟩ | ⟨h, _⟩
  · exact h
  · cases h
set_option maxRecDepth 100000 in
theorem l4draw_any (w : World) (B : Nat) (hC : Cur w B) : Calls Tryz.prog 50 #[.pointer (some ⟨B, 0, none⟩)] w (DecPost B (fun n x => decOk n x = true) w) := by
  have hBw := hC.lt
  go_enter Tryz.func50, Tryz.ntmps50
  go_wp2
  go_loopw [3] (fun i wr => ∃ k : Nat, i = .int .i64 k ∧ (k : Int) ≤ 6 ∧ Only B (w.alloc (.cells #[.int .i64 0, .int .i64 0] 73)) wr ∧ Cur wr B) (fun i _ => 6 - (intOf i).toNat)
  case atStart => exact ⟨0, rfl, by omega, Only.refl _ _, hC.alloc _⟩
  case round =>
    obtain ⟨k, rfl, hk, ho, hc⟩ := hrel
    by_cases hlt : (k : Int) < 6
    · go_wp2_with fail
      refine (signed_any _ B hc).mono ?_
      rintro e w1 ⟨x, ⟨hx0, hx1⟩, rfl, ho1, hc1⟩
      go_wp2_with fail
      refine (below_any w1 B 17 hc1 (by decide)).mono ?_
      rintro e w2 ⟨y, ⟨hy0, hy1⟩, rfl, ho2, hc2⟩
      go_wp2_with fail
      refine (decnew_spec x (-y) w2 (by omega) (by omega)).mono ?_
      rintro e w3 ⟨N, X, ok, rfl, hN, hb3⟩
      have hO := (ho.trans (ho1.trans ho2)).then_below hb3 (by have := ho.size; have := ho1.size; have := ho2.size; omega)
      have hC3 := hc2.below hb3 hc2.lt
      have hN := Lib.hid hN
      cases ok
      · go_wp2
        go_roundw
        case rel => exact ⟨k + 1, by go_num, by omega, hO.trans ((Only.refl B _).alloc _), hC3.alloc _⟩
        case measure => simp [intOf]; omega
      · have hbox := (box_new w 0 0 73).only hO (by omega)
        obtain ⟨e0, e1⟩ := two_set_alloc hbox (.int .i64 N) (.int .i64 X) (.cells #[.int .i64 N, .int .i64 X] 73)
        obtain ⟨b0, b1, b2, b3⟩ := hbox
        have hsz : w.heap.size < w3.heap.size := by have := hO.size; simp at this; omega
        go_wp2
        refine bodyPost_ret (v := .agg #[.int .i64 N, .int .i64 X]) (by simp [results, Tryz.results50, go_sem, e0, e1]) rfl ⟨N, X, isNew_ok hN.out, rfl, ?_, ?_⟩
        · exact (((((Only.refl B w).alloc _).trans hO).setNew (Nat.le_refl _) _).setNew (Nat.le_refl _) _).alloc _
        · exact ((hC3.setNew (by show _ < w.heap.size; omega) _).setNew (by show _ < w.heap.size; omega) _).alloc _
    · obtain ⟨b0, b1, b2, b3⟩ := (box_new w 0 0 73).only ho (by omega)
      go_wp2
      refine bodyPost_ret (v := .agg #[.int .i64 15, .int .i64 (-1)]) (by simp [results, Tryz.results50, go_sem, b0, b1, b2, b3]) rfl ⟨15, -1, decOk_15, rfl, ?_, ?_⟩
      · exact ((((Only.refl B w).alloc _).trans ho).setNew (Nat.le_refl _) _).setNew (Nat.le_refl _) _
      · exact (hc.setNew (by show _ < w.heap.size; omega) _).setNew (by show _ < w.heap.size; omega) _
def AnyDec (n x : Int) : Prop := isInt n ∧ -17 ≤ x ∧ x ≤ 1
theorem any_of {n x : Int} (h : decOk n x = true) : AnyDec n x := by
  obtain ⟨r0, r1, r2, _, _⟩ := decOk_range h
  exact ⟨⟨by omega, by omega⟩, by omega, by omega⟩
end Go.Proofs.YtelehfefhlgbkaaGreatDoor
/- Rows of one's own in general: what stays. -/
namespace Go.Proofs.YtelehfefhlgbkaaGreatDoor
open Go.RowKit
theorem own_heap {w w' : World} {B E c n : Nat} {v : Value} {xs : List Value} (h : w.ownsRow B E c v n xs) (hg : ∀ g, v.ownBlock = some g → w'.heap[g]? = w.heap[g]?) : w'.ownsRow B E c v n xs := by
  refine ⟨h.1, ?_⟩
  rcases h.2 with h | ⟨g, cap, cur, rfl, hb, hh, rest⟩
  · exact .inl h
  · exact .inr ⟨g, cap, cur, rfl, hb, (hg g rfl).trans hh, rest⟩
theorem own_base' {w : World} {B B' E c n : Nat} {v : Value} {xs : List Value} (h : w.ownsRow B E c v n xs) (hB : B' ≤ B) : w.ownsRow B' E c v n xs := by
  refine ⟨h.1, ?_⟩
  rcases h.2 with h | ⟨g, cap, cur, hv, hb, rest⟩
  · exact .inl h
  · exact .inr ⟨g, cap, cur, hv, Nat.le_trans hB hb, rest⟩
theorem own_cap {w : World} {B E c n : Nat} {a : Option Addr} {m cap : Nat} {xs : List Value} (h : w.ownsRow B E c (.slice a m cap) n xs) : m = n ∧ n ≤ cap ∧ cap ≤ maxLen := by
  rcases h.2 with ⟨h1, h0⟩ | ⟨g, cap', cur, hv, _, _, h1, h2, _⟩
  · injection h1 with e1 e2 e3
    unfold maxLen; omega
  · injection hv with e1 e2 e3
    omega
theorem bset {N B o : Nat} {w w' : World} {u : Value} (h : Below N w w') (hB : N ≤ B) : Below N w (w'.setCell ⟨B, o, none⟩ u) := h.setCell hB _
theorem keep_below {w w' : World} {p : Addr} {v : Value} (hb : Below w.heap.size w w') (h : w.cell? p = some v) : w'.cell? p = some v := (hb.cell (cell_lt h)).trans h
theorem below_tr {w0 w w' : World} (hb : Below w.heap.size w w') (hB : Below w0.heap.size w0 w) : Below w0.heap.size w0 w' := hB.trans (hb.mono hB.size)
/-- a box of one value -/
theorem vbox (w : World) (o : Obj) : Below w.heap.size w (w.alloc o) := (Below.refl w.heap.size w).alloc (Nat.le_refl _) o
end Go.Proofs.YtelehfefhlgbkaaGreatDoor
/- Spaces and signs of a text: plain facts. No program. -/
namespace Go.Proofs.YtelehfefhlgbkaaGreatDoor
open Go
def isSp (c : UInt8) : Bool := ([9, 10, 13, 32] : List UInt8).contains c
def isSg (c : UInt8) : Bool := ([123, 125, 91, 93, 58, 44] : List UInt8).contains c
def atSp (l : List UInt8) (i : Nat) : Bool := match l[i]? with
  | some c => isSp c
  | none => false
/-- the place behind the spaces from i on -/
def skE (l : List UInt8) (i : Nat) : Nat := i + ((l.drop i).takeWhile isSp).length
theorem atSp_get {l : List UInt8} {i : Nat} (h : i < l.length) : atSp l i = isSp l[i] := by unfold atSp; rw [List.getElem?_eq_getElem h]
theorem atSp_out {l : List UInt8} {i : Nat} (h : l.length ≤ i) : atSp l i = false := by unfold atSp; rw [List.getElem?_eq_none h]
theorem atSp_lt {l : List UInt8} {i : Nat} (h : atSp l i = true) : i < l.length := by
  rcases Nat.lt_or_ge i l.length with g | g
  · exact g
  · rw [atSp_out g] at h; cases h
theorem skE_step {l : List UInt8} {i : Nat} (h : atSp l i = true) : skE l i = skE l (i + 1) := by
  have hl := atSp_lt h
  unfold skE
  rw [List.drop_eq_getElem_cons hl, List.takeWhile_cons, if_pos (by rw [← atSp_get hl]; exact h)]
  simp only [List.length_cons]; omega
theorem skE_stop {l : List UInt8} {i : Nat} (h : atSp l i = false) : skE l i = i := by
  unfold skE
  rcases Nat.lt_or_ge i l.length with g | g
  · rw [List.drop_eq_getElem_cons g, List.takeWhile_cons, if_neg (by rw [← atSp_get g, h]; decide)]; rfl
  · rw [List.drop_eq_nil_of_le g]; rfl
theorem skE_ge (l : List UInt8) (i : Nat) : i ≤ skE l i := by unfold skE; omega
theorem skE_le {l : List UInt8} {i : Nat} (h : i ≤ l.length) : skE l i ≤ l.length := by
  unfold skE
  have := (List.takeWhile_sublist isSp (l := l.drop i)).length_le
  simp at this; omega
theorem skE_end (l : List UInt8) (i : Nat) : atSp l (skE l i) = false := by
  generalize hn : l.length - i = n
  induction n generalizing i with
  | zero => rw [skE_stop (atSp_out (by omega))]; exact atSp_out (by omega)
  | succ n ih =>
    cases hd : atSp l i
    · rw [skE_stop hd]; exact hd
    · rw [skE_step hd]; exact ih (i + 1) (by omega)
/-- Skip, at any int -/
def skT (l : List UInt8) (a : Int) : Int := if 0 ≤ a then (skE l a.toNat : Nat) else a
end Go.Proofs.YtelehfefhlgbkaaGreatDoor
/- Plain facts on decimal numerals: what a numeral spells is the number; strconv's parse of a numeral. No program. -/
namespace Go.Proofs.YtelehfefhlgbkaaGreatDoor
open Go
def isDig (c : UInt8) : Prop := 48 ≤ c.toNat ∧ c.toNat ≤ 57
def decVal (acc : Nat) : List UInt8 → Nat
  | [] => acc
  | c :: r => decVal (acc * 10 + (c.toNat - 48)) r
theorem decVal_snoc (l : List UInt8) (c : UInt8) : ∀ acc, decVal acc (l ++ [c]) = decVal acc l * 10 + (c.toNat - 48) := by
  induction l with
  | nil => intro acc; rfl
  | cons x r ih => intro acc; exact ih _
theorem dig_toNat (k : Nat) (h : k < 10) : (UInt8.ofNat (48 + k)).toNat = 48 + k := by
  rw [UInt8.toNat_ofNat']; omega
theorem decDigits_digs (u : Nat) : ∀ c ∈ Lib.decDigits u, isDig c := by
  induction u using Nat.strongRecOn with
  | _ u ih =>
    intro c hc
    rw [Lib.decDigits] at hc
    by_cases h : u < 10
    · rw [dif_pos h, List.mem_singleton] at hc
      subst hc
      unfold isDig
      rw [dig_toNat u h]; omega
    · rw [dif_neg h, List.mem_append] at hc
      rcases hc with hc | hc
      · exact ih (u / 10) (by omega) c hc
      · rw [List.mem_singleton] at hc
        subst hc
        unfold isDig
        rw [dig_toNat _ (Nat.mod_lt _ (by omega))]; omega
theorem decDigits_val (u : Nat) : decVal 0 (Lib.decDigits u) = u := by
  induction u using Nat.strongRecOn with
  | _ u ih =>
    rw [Lib.decDigits]
    by_cases h : u < 10
    · rw [dif_pos h]
      show 0 * 10 + ((UInt8.ofNat (48 + u)).toNat - 48) = u
      rw [dig_toNat u h]; omega
    · rw [dif_neg h, decVal_snoc, ih (u / 10) (by omega), dig_toNat _ (Nat.mod_lt _ (by omega))]
      omega
theorem decDigits_ne (u : Nat) : Lib.decDigits u ≠ [] := by
  rw [Lib.decDigits]
  by_cases h : u < 10
  · rw [dif_pos h]; simp
  · rw [dif_neg h]; simp
theorem decVal_ge (l : List UInt8) : ∀ acc, acc ≤ decVal acc l := by
  induction l with
  | nil => intro acc; exact Nat.le_refl _
  | cons c r ih => intro acc; have := ih (acc * 10 + (c.toNat - 48)); show acc ≤ decVal _ r; omega
theorem decVal_lt (l : List UInt8) (hl : ∀ c ∈ l, isDig c) : ∀ acc, decVal acc l < (acc + 1) * 10 ^ l.length := by
  induction l with
  | nil => intro acc; show acc < (acc + 1) * 10 ^ 0; omega
  | cons c r ih =>
    intro acc
    have h1 := ih (fun x hx => hl x (List.mem_cons_of_mem _ hx)) (acc * 10 + (c.toNat - 48))
    have h2 := hl c List.mem_cons_self
    unfold isDig at h2
    show decVal _ r < (acc + 1) * 10 ^ (r.length + 1)
    have h3 : (acc * 10 + (c.toNat - 48) + 1) * 10 ^ r.length ≤ (acc + 1) * 10 * 10 ^ r.length := Nat.mul_le_mul_right _ (by omega)
    have h4 : (acc + 1) * 10 * 10 ^ r.length = (acc + 1) * 10 ^ (r.length + 1) := by rw [Nat.pow_succ, Nat.mul_assoc, Nat.mul_comm 10]
    omega
theorem parse_val (l : List UInt8) (hl : ∀ c ∈ l, isDig c) : ∀ acc, decVal acc l < 18446744073709551616 → Lib.parseUint10 acc l = .ok (decVal acc l) := by
  induction l with
  | nil => intro acc _; rfl
  | cons c r ih =>
    intro acc h
    have h2 := hl c List.mem_cons_self
    unfold isDig at h2
    have h3 := decVal_ge r (acc * 10 + (c.toNat - 48))
    have h4 : decVal acc (c :: r) = decVal (acc * 10 + (c.toNat - 48)) r := rfl
    rw [h4] at h ⊢
    rw [Lib.parseUint10, if_pos h2, if_neg (by omega), if_neg (by omega)]
    exact ih (fun x hx => hl x (List.mem_cons_of_mem _ hx)) _ h
theorem dec_head (u : Nat) : ∃ c r, Lib.decDigits u = c :: r ∧ isDig c := by
  cases h : Lib.decDigits u with
  | nil => exact absurd h (decDigits_ne u)
  | cons c r => exact ⟨c, r, rfl, decDigits_digs u c (by rw [h]; exact List.mem_cons_self)⟩
theorem atoi_itoa (n : Int) (h0 : -1000000000000000 ≤ n) (h1 : n ≤ 1000000000000000) : Lib.atoiAll (Lib.itoa n) = .ok n := by
  unfold Lib.itoa
  by_cases hn : n < 0
  · rw [if_pos hn]
    have hv := decDigits_val n.natAbs
    have hp := parse_val _ (decDigits_digs n.natAbs) 0 (by omega)
    unfold Lib.atoiAll
    have e1 : (45 : UInt8).toNat = 45 := rfl
    simp only [e1, or_true, if_true]
    unfold Lib.parseMag
    rw [if_neg (decDigits_ne _), hp, hv]
    simp only [not_true_eq_false, false_and, if_false, true_and, if_true]
    rw [if_neg (by omega)]
    congr 1
    omega
  · rw [if_neg hn]
    have hv := decDigits_val n.toNat
    have hp := parse_val _ (decDigits_digs n.toNat) 0 (by omega)
    obtain ⟨c, r, hc, hd⟩ := dec_head n.toNat
    unfold isDig at hd
    have hne := decDigits_ne n.toNat
    rw [hc] at hv hp hne ⊢
    unfold Lib.atoiAll
    have e1 : ¬ c.toNat = 43 := by omega
    have e2 : ¬ c.toNat = 45 := by omega
    simp only [e1, e2, or_self, if_false]
    unfold Lib.parseMag
    rw [if_neg hne, hp, hv]
    simp only [not_false_eq_true, true_and, false_and, if_false]
    rw [if_neg (by omega)]
    congr 1
    omega

/-- the integer that s spells as the numeral, if it is in the range -/
def pnOk (l : List UInt8) : Bool := match Lib.atoiAll l with
  | .ok n => decide (-1000000000000000 ≤ n) && decide (n ≤ 1000000000000000) && (Lib.itoa n == l)
  | _ => false
def pnVal (l : List UInt8) : Int := if pnOk l = true then (match Lib.atoiAll l with | .ok n => n | _ => 0) else 0
theorem pn_of (n : Int) (h0 : -1000000000000000 ≤ n) (h1 : n ≤ 1000000000000000) : pnOk (Lib.itoa n) = true ∧ pnVal (Lib.itoa n) = n := by
  have h := atoi_itoa n h0 h1
  have h2 : pnOk (Lib.itoa n) = true := by
    unfold pnOk; rw [h]; simp [h0, h1]
  refine ⟨h2, ?_⟩
  unfold pnVal
  rw [if_pos h2, h]
theorem pn_to (l : List UInt8) (h : pnOk l = true) : ∃ n, Lib.itoa n = l ∧ -1000000000000000 ≤ n ∧ n ≤ 1000000000000000 := by
  unfold pnOk at h
  cases ha : Lib.atoiAll l with
  | ok n => rw [ha] at h; simp at h; exact ⟨n, h.2, h.1.1, h.1.2⟩
  | _ => rw [ha] at h; cases h
theorem pn_no (l : List UInt8) (h : ¬ ∃ n, Lib.itoa n = l ∧ -1000000000000000 ≤ n ∧ n ≤ 1000000000000000) : pnOk l = false ∧ pnVal l = 0 := by
  have h2 : pnOk l = false := by
    cases hk : pnOk l with
    | false => rfl
    | true => exact absurd (pn_to l hk) h
  refine ⟨h2, ?_⟩
  unfold pnVal
  rw [if_neg (by rw [h2]; decide)]
/-- the shape of a numeral in the range: a sign, then 1 to 16 digits that spell its absolute value -/
theorem itoa_shape (n : Int) (h0 : -1000000000000000 ≤ n) (h1 : n ≤ 1000000000000000) :
    (n < 0 ∧ ∃ r, Lib.itoa n = 45 :: r ∧ (∀ c ∈ r, isDig c) ∧ 1 ≤ r.length ∧ r.length ≤ 16 ∧ (decVal 0 r : Int) = -n) ∨
    (0 ≤ n ∧ (∀ c ∈ Lib.itoa n, isDig c) ∧ 1 ≤ (Lib.itoa n).length ∧ (Lib.itoa n).length ≤ 16 ∧ (decVal 0 (Lib.itoa n) : Int) = n) := by
  have hlen : ∀ u : Nat, u ≤ 1000000000000000 → 1 ≤ (Lib.decDigits u).length ∧ (Lib.decDigits u).length ≤ 16 := by
    intro u hu
    refine ⟨List.length_pos_iff.2 (decDigits_ne u), ?_⟩
    have key : ∀ k (v : Nat), v < 10 ^ (k + 1) → (Lib.decDigits v).length ≤ k + 1 := by
      intro k
      induction k with
      | zero => intro v hv; rw [Lib.decDigits, dif_pos (by omega)]; simp
      | succ k ih =>
        intro v hv
        rw [Lib.decDigits]
        by_cases h : v < 10
        · rw [dif_pos h]; simp
        · rw [dif_neg h, List.length_append]
          have := ih (v / 10) (by rw [Nat.pow_succ] at hv; omega)
          simp only [List.length_singleton]
          omega
    exact key 15 u (by omega)
  unfold Lib.itoa
  by_cases hn : n < 0
  · refine .inl ⟨hn, Lib.decDigits n.natAbs, by rw [if_pos hn], decDigits_digs _, (hlen _ (by omega)).1, (hlen _ (by omega)).2, ?_⟩
    rw [decDigits_val]; omega
  · rw [if_neg hn]
    refine .inr ⟨by omega, decDigits_digs _, (hlen _ (by omega)).1, (hlen _ (by omega)).2, ?_⟩
    rw [decDigits_val]; omega
end Go.Proofs.YtelehfefhlgbkaaGreatDoor
