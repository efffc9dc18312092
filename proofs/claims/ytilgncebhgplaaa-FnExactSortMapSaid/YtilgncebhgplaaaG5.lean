import Derived.Test.YtilgncebhgplaaaG4
import Derived.Test.YtilgncebhgplaaaG0
import Derived.Test.YtilgncebhgplaaaRows
import Derived.WalkKit
import Derived.Outline
import Derived.Laws.EntriesVeiled
import Derived.Lib.Hide
import Derived.ProofKit
import Derived.Deep.QuietTactic
import Derived.BigQuiet
/- Plain facts on decimal numbers: digits, validity, one form, order. No program. -/
namespace Go.Proofs.Ytilgncebhgplaaa
theorem digN_le_iff (k : Nat) : ∀ n : Nat, digN n ≤ k ↔ n < 10 ^ k := by
  induction k with
  | zero =>
    intro n
    by_cases h : n = 0
    · subst h; simp [digN_zero]
    · rw [digN_step n h]; simp; omega
  | succ k ih =>
    intro n
    by_cases h : n = 0
    · subst h; simp only [digN_zero, Nat.zero_le, true_iff]; exact Nat.pow_pos (by decide)
    · rw [digN_step n h, Nat.succ_le_succ_iff, ih, Nat.pow_succ, Nat.div_lt_iff_lt_mul (by decide)]
theorem digV_le_iff (n : Int) (k : Nat) : digV n ≤ k + 1 ↔ n.natAbs < 10 ^ (k + 1) := by
  unfold digV
  rw [Nat.add_comm 1, Nat.succ_le_succ_iff, digN_le_iff, Nat.pow_succ, Nat.div_lt_iff_lt_mul (by decide)]
theorem digV_17 (n : Int) : digV n ≤ 17 ↔ n.natAbs < 100000000000000000 := digV_le_iff n 16
theorem digV_16 (n : Int) : digV n ≤ 16 ↔ n.natAbs < 10000000000000000 := digV_le_iff n 15
theorem digV_pos (n : Int) : 1 ≤ digV n := by unfold digV; omega
theorem digV_strip (n : Int) (h0 : n ≠ 0) (h : n.tmod 10 = 0) : digV n = digV (n.tdiv 10) + 1 := by
  unfold digV
  rw [tdiv10]
  have : n.natAbs / 10 ≠ 0 := by
    intro hz
    have h2 : (n.tmod 10).natAbs = n.natAbs % 10 := Int.natAbs_tmod n 10
    rw [h] at h2
    have : (0 : Int).natAbs = 0 := rfl
    omega
  rw [digN_step _ this]; omega
/-- A decimal number's form. -/
def decOk (n x : Int) : Bool := if x = 0 then decide (-1000000000000000 ≤ n ∧ n ≤ 1000000000000000) else decide (-16 ≤ x ∧ x ≤ -1 ∧ digV n ≤ 17 ∧ n.tmod 10 ≠ 0)
def same (n x N X : Int) : Prop := n * 10 ^ (x + 60).toNat = N * 10 ^ (X + 60).toNat
theorem decOk_range {n x : Int} (h : decOk n x = true) : -16 ≤ x ∧ x ≤ 0 ∧ n.natAbs < 100000000000000000 ∧ (x = 0 → n.natAbs ≤ 1000000000000000) ∧ (x < 0 → n.tmod 10 ≠ 0) := by
  unfold decOk at h
  by_cases hx : x = 0
  · rw [if_pos hx] at h; simp only [decide_eq_true_eq] at h; omega
  · rw [if_neg hx] at h; simp only [decide_eq_true_eq, digV_17] at h
    exact ⟨h.1, by omega, h.2.2.1, fun e => absurd e hx, fun _ => h.2.2.2⟩
theorem decOk_zero {n : Int} (h0 : -1000000000000000 ≤ n) (h1 : n ≤ 1000000000000000) : decOk n 0 = true := by
  unfold decOk; rw [if_pos rfl]; simp only [decide_eq_true_eq]; exact ⟨h0, h1⟩
theorem decOk_neg {n x : Int} (h0 : -16 ≤ x) (h1 : x ≤ -1) (h2 : digV n ≤ 17) (h3 : n.tmod 10 ≠ 0) : decOk n x = true := by
  unfold decOk; rw [if_neg (by omega)]; simp only [decide_eq_true_eq]; exact ⟨h0, h1, h2, h3⟩
theorem ten_ne (k : Nat) : (10 : Int) ^ k ≠ 0 := Int.pow_ne_zero (by decide)
theorem same_le {n x N X : Int} (hx : -60 ≤ x) (h : x ≤ X) : same n x N X ↔ n = N * 10 ^ (X - x).toNat := by
  unfold same
  rw [show (X + 60).toNat = (X - x).toNat + (x + 60).toNat by omega, Int.pow_add, ← Int.mul_assoc]
  exact ⟨fun e => Int.eq_of_mul_eq_mul_right (ten_ne _) e, fun e => by rw [e]⟩
theorem same_comm {n x N X : Int} (h : same n x N X) : same N X n x := h.symm
theorem same_refl (n x : Int) : same n x n x := rfl
theorem same_trans {a x b y c z : Int} (h : same a x b y) (k : same b y c z) : same a x c z := Eq.trans h k
theorem mod_mul (N : Int) (k : Nat) : (N * 10 ^ (k + 1)).tmod 10 = 0 := by
  rw [Int.pow_succ, ← Int.mul_assoc]
  exact Int.mul_tmod_left _ _
theorem same_final {n x N X : Int} (h0 : -60 ≤ x) (h1 : x ≤ 0) (hs : x = 0 ∨ n.tmod 10 ≠ 0) (hv : decOk N X = true) (h : same n x N X) : N = n ∧ X = x := by
  obtain ⟨r0, r1, r2, r3, r4⟩ := decOk_range hv
  rcases Int.lt_trichotomy x X with hlt | heq | hgt
  · have e := (same_le h0 (by omega)).1 h
    obtain ⟨k, hk⟩ : ∃ k, (X - x).toNat = k + 1 := ⟨(X - x).toNat - 1, by omega⟩
    rw [hk] at e
    have := mod_mul N k
    rw [← e] at this
    omega
  · subst heq
    have e := (same_le h0 (Int.le_refl _)).1 h
    rw [show (x - x).toNat = 0 by omega] at e
    exact ⟨by omega, rfl⟩
  · have e := (same_le (by omega) (by omega)).1 (same_comm h)
    obtain ⟨k, hk⟩ : ∃ k, (x - X).toNat = k + 1 := ⟨(x - X).toNat - 1, by omega⟩
    rw [hk] at e
    have := mod_mul n k
    rw [← e] at this
    exact absurd this (r4 (by omega))
theorem dec_uniq {n x N X : Int} (hv : decOk n x = true) (hw : decOk N X = true) (h : same n x N X) : N = n ∧ X = x := by
  obtain ⟨r0, r1, r2, r3, r4⟩ := decOk_range hv
  exact same_final (by omega) r1 (by by_cases e : x = 0
                                     · exact .inl e
                                     · exact .inr (r4 (by omega))) hw h
/-- What DecNew returns. -/
def decIn (n x : Int) : Prop := digV n ≤ 17 ∧ -40 ≤ x ∧ x ≤ 40
def IsNew (n x N X : Int) (ok : Bool) : Prop :=
  (ok = true ∧ decIn n x ∧ decOk N X = true ∧ same n x N X) ∨ (ok = false ∧ N = 0 ∧ X = 0 ∧ ∀ N' X', decIn n x → decOk N' X' = true → same n x N' X' → False)
theorem isNew_uniq {n x N X N' X' : Int} {a b : Bool} (h : IsNew n x N X a) (k : IsNew n x N' X' b) : N' = N ∧ X' = X ∧ b = a := by
  rcases h with ⟨rfl, hi, hv, hs⟩ | ⟨rfl, rfl, rfl, hn⟩
  · rcases k with ⟨rfl, _, kv, ks⟩ | ⟨rfl, rfl, rfl, kn⟩
    · have := dec_uniq hv kv (same_trans (same_comm hs) ks)
      exact ⟨this.1, this.2, rfl⟩
    · exact (kn _ _ hi hv hs).elim
  · rcases k with ⟨rfl, ki, kv, ks⟩ | ⟨rfl, rfl, rfl, kn⟩
    · exact (hn _ _ ki kv ks).elim
    · exact ⟨rfl, rfl, rfl⟩
theorem isNew_out {n x : Int} (h : ¬ decIn n x) : IsNew n x 0 0 false := .inr ⟨rfl, rfl, rfl, fun _ _ hi _ _ => h hi⟩
theorem isNew_zero {x : Int} (h : decIn 0 x) : IsNew 0 x 0 0 true := .inl ⟨rfl, h, decOk_zero (by decide) (by decide), by unfold same; simp⟩
theorem isNew_yes {n x m y : Int} (hi : decIn n x) (hs : same n x m y) (h : decOk m y = true) : IsNew n x m y true := .inl ⟨rfl, hi, h, hs⟩
theorem isNew_no {n x m y : Int} (hs : same n x m y) (h0 : -60 ≤ y) (h1 : y ≤ 0) (hz : y = 0 ∨ m.tmod 10 ≠ 0) (h : decOk m y = false) : IsNew n x 0 0 false := by
  refine .inr ⟨rfl, rfl, rfl, fun N X _ hv hk => ?_⟩
  obtain ⟨rfl, rfl⟩ := same_final h0 h1 hz hv (same_trans (same_comm hs) hk)
  rw [h] at hv; cases hv
theorem isNew_big {n x m y : Int} (hs : same n x m y) (h0 : 0 < y) (hb : 100000000000000000 ≤ m.natAbs * 10 ^ y.toNat) : IsNew n x 0 0 false := by
  refine .inr ⟨rfl, rfl, rfl, fun N X _ hv hk => ?_⟩
  obtain ⟨r0, r1, r2, r3, r4⟩ := decOk_range hv
  have e := (same_le (by omega) (by omega)).1 (same_comm (same_trans (same_comm hs) hk))
  obtain ⟨k, hk⟩ : ∃ k, (y - X).toNat = k + 1 := ⟨(y - X).toNat - 1, by omega⟩
  by_cases hX : X = 0
  · subst hX
    have e2 : N.natAbs = m.natAbs * 10 ^ y.toNat := by rw [e, Int.natAbs_mul, Int.natAbs_pow, show (y - 0).toNat = y.toNat by omega]; rfl
    have := r3 rfl
    omega
  · rw [hk] at e
    have := mod_mul m k
    rw [← e] at this
    exact absurd this (r4 (by omega))
theorem same_strip {n x m y : Int} (hs : same n x m y) (hy : -60 ≤ y) (h : m.tmod 10 = 0) : same n x (m.tdiv 10) (y + 1) := by
  refine same_trans hs ((same_le hy (by omega)).2 ?_)
  rw [show (y + 1 - y).toNat = 1 by omega, Int.pow_one]
  have := Int.tmod_add_mul_tdiv m 10
  omega
theorem same_grow {n x m y : Int} (hs : same n x m y) (hy : -59 ≤ y) : same n x (m * 10) (y - 1) := by
  refine same_trans hs (same_comm ((same_le (by omega) (by omega)).2 ?_))
  rw [show (y - (y - 1)).toNat = 1 by omega, Int.pow_one]
theorem same_mul {n x m y : Int} (hs : same n x m y) (hy : 0 ≤ y) : same n x (m * 10 ^ y.toNat) 0 := by
  refine same_trans hs (same_comm ((same_le (by omega) hy).2 ?_))
  rw [show y - 0 = y by omega]
theorem ten_ge (m : Int) (k : Nat) (h : ¬ digV m ≤ k) : 10 ^ k ≤ m.natAbs ∨ k = 0 := by
  match k, h with
  | 0, _ => exact .inr rfl
  | k + 1, h => rw [digV_le_iff] at h; exact .inl (by omega)
theorem big_spec {m y : Int} (h0 : 0 < y) (hd : ¬ digV m ≤ 16) : 100000000000000000 ≤ m.natAbs * 10 ^ y.toNat := by
  rw [digV_16] at hd
  obtain ⟨k, hk⟩ : ∃ k, y.toNat = k + 1 := ⟨y.toNat - 1, by omega⟩
  have h1 : 10 ^ 1 ≤ 10 ^ y.toNat := Nat.pow_le_pow_right (by decide) (by omega)
  have h2 : 10000000000000000 * 10 ^ 1 ≤ m.natAbs * 10 ^ y.toNat := Nat.mul_le_mul (by omega) h1
  omega
theorem big_impl {m y : Int} (h0 : 0 < y) (hm : m ≠ 0) (hd : 17 < (digV m : Int) + y) : 100000000000000000 ≤ m.natAbs * 10 ^ y.toNat := by
  have hp := digV_pos m
  have h1 : 10 ^ (digV m - 1) ≤ m.natAbs := by
    rcases ten_ge m (digV m - 1) (by omega) with h | h
    · exact h
    · rw [h]; simp; omega
  have h2 : 10 ^ (digV m - 1) * 10 ^ y.toNat ≤ m.natAbs * 10 ^ y.toNat := Nat.mul_le_mul_right _ h1
  rw [← Nat.pow_add] at h2
  have h3 : 10 ^ 17 ≤ 10 ^ (digV m - 1 + y.toNat) := Nat.pow_le_pow_right (by decide) (by omega)
  omega
theorem fit_impl {m y : Int} (h0 : 0 < y) (hd : (digV m : Int) + y ≤ 17) : (m * 10 ^ y.toNat).natAbs < 100000000000000000 := by
  have hp := digV_pos m
  obtain ⟨k, hk⟩ : ∃ k, digV m = k + 1 := ⟨digV m - 1, by omega⟩
  have h1 : m.natAbs < 10 ^ digV m := by rw [hk]; exact (digV_le_iff m k).1 (by omega)
  rw [Int.natAbs_mul, Int.natAbs_pow]
  have h2 : m.natAbs * 10 ^ y.toNat < 10 ^ digV m * 10 ^ y.toNat := Nat.mul_lt_mul_of_pos_right h1 (Nat.pow_pos (by decide))
  rw [← Nat.pow_add] at h2
  have h3 : 10 ^ (digV m + y.toNat) ≤ 10 ^ 17 := Nat.pow_le_pow_right (by decide) (by omega)
  exact Nat.lt_of_lt_of_le h2 h3
/-- A number's part in front of the point, and the part behind it. -/
def hiV (n x : Int) : Int := n.tdiv (10 ^ (-x).toNat)
def loV (n x : Int) : Int := n.tmod (10 ^ (-x).toNat) * 10 ^ (16 + x).toNat
def lessB (n x N X : Int) : Bool := decOk n x && decOk N X && (decide (hiV n x < hiV N X) || (hiV n x == hiV N X && decide (loV n x < loV N X)))
theorem hi_lo {n x : Int} (h0 : -16 ≤ x) (h1 : x ≤ 0) : hiV n x * 10 ^ 16 + loV n x = n * 10 ^ (16 + x).toNat := by
  unfold hiV loV
  have e : (10 : Int) ^ 16 = 10 ^ (-x).toNat * 10 ^ (16 + x).toNat := by rw [← Int.pow_add]; congr 1; omega
  have := Int.tmod_add_mul_tdiv n (10 ^ (-x).toNat)
  rw [e, ← Int.mul_assoc, ← Int.add_mul, Int.mul_comm (n.tdiv _), Int.add_comm, this]
theorem hi_lo_uniq {n x N X : Int} (hv : decOk n x = true) (hw : decOk N X = true) (h : hiV n x = hiV N X) (k : loV n x = loV N X) : N = n ∧ X = x := by
  obtain ⟨r0, r1, _⟩ := decOk_range hv
  obtain ⟨s0, s1, _⟩ := decOk_range hw
  have e1 := hi_lo (n := n) r0 r1
  have e2 := hi_lo (n := N) s0 s1
  rw [← h, ← k, e1] at e2
  refine dec_uniq hv hw ?_
  unfold same
  rw [show (x + 60).toNat = (16 + x).toNat + 44 by omega, show (X + 60).toNat = (16 + X).toNat + 44 by omega, Int.pow_add, Int.pow_add, ← Int.mul_assoc, ← Int.mul_assoc, e2]
theorem less_tri {n x N X : Int} (hv : decOk n x = true) (hw : decOk N X = true) : ((lessB n x N X || lessB N X n x) = true) ↔ ¬ (n = N ∧ x = X) := by
  unfold lessB
  rw [hv, hw]
  simp only [Bool.true_and, Bool.or_eq_true, Bool.and_eq_true, decide_eq_true_eq, beq_iff_eq]
  constructor
  · rintro h ⟨rfl, rfl⟩
    omega
  · intro h
    by_cases a : hiV n x = hiV N X
    · by_cases b : loV n x = loV N X
      · obtain ⟨rfl, rfl⟩ := hi_lo_uniq hv hw a b
        exact absurd ⟨rfl, rfl⟩ h
      · omega
    · omega
theorem less_anti {n x N X : Int} : ¬ (lessB n x N X = true ∧ lessB N X n x = true) := by
  unfold lessB
  simp only [Bool.or_eq_true, Bool.and_eq_true, decide_eq_true_eq, beq_iff_eq]
  omega
end Go.Proofs.Ytilgncebhgplaaa
/- What DecOk of the program and of the model returns: whether the two fields form a decimal number. -/
namespace Go.Proofs.Ytilgncebhgplaaa
open Go.RowKit
theorem decOk_f {n x : Int} (h : ¬ decOk n x = true) : decOk n x = false := by simpa using h
theorem decOk_iff0 (n : Int) : decOk n 0 = true ↔ -1000000000000000 ≤ n ∧ n ≤ 1000000000000000 := by unfold decOk; rw [if_pos rfl, decide_eq_true_eq]
theorem decOk_iff (n x : Int) (h : ¬ x = 0) : decOk n x = true ↔ -16 ≤ x ∧ x ≤ -1 ∧ ((digV n : Nat) : Int) ≤ 17 ∧ n.tmod 10 ≠ 0 := by
  unfold decOk; rw [if_neg h, decide_eq_true_eq]
  constructor
  · rintro ⟨a, b, c, d⟩; exact ⟨a, b, by omega, d⟩
  · rintro ⟨a, b, c, d⟩; exact ⟨a, b, by omega, d⟩
set_option maxRecDepth 100000 in
theorem decok_impl (n x : Int) (w : World) (h0 : -9223372036854775808 ≤ n) (h1 : n ≤ 9223372036854775807) : Calls Try.prog 41 #[.agg #[.int .i64 n, .int .i64 x]] w fun e w' => e = .returned (.bool (decOk n x)) ∧ Below w.heap.size w w' := by
  have c := fun w1 => digits_impl n w1 h0 h1
  by_cases hx : x = 0
  · subst hx
    by_cases a : -1000000000000000 ≤ n
    · by_cases b : n ≤ 1000000000000000
      · have e := (decOk_iff0 n).2 ⟨a, b⟩
        rw [e]
        go_enter Try.func41, Try.ntmps41
        go_wp2
        go_ret
        exact ⟨rfl, below_box _ _⟩
      · have e := decOk_f (fun h => b ((decOk_iff0 n).1 h).2)
        rw [e]
        go_enter Try.func41, Try.ntmps41
        go_wp2
        go_ret
        exact ⟨rfl, below_box _ _⟩
    · have e := decOk_f (fun h => a ((decOk_iff0 n).1 h).1)
      rw [e]
      go_enter Try.func41, Try.ntmps41
      go_wp2
      go_ret
      exact ⟨rfl, below_box _ _⟩
  · by_cases a : -16 ≤ x
    · by_cases b : x ≤ -1
      · by_cases d : ((digV n : Nat) : Int) ≤ 17
        · by_cases m : n.tmod 10 = 0
          · have e := decOk_f (fun h => ((decOk_iff n x hx).1 h).2.2.2 m)
            have mb : (n.tmod 10 != 0) = false := by simpa using m
            rw [e]
            go_enter Try.func41, Try.ntmps41
            go_wp2_with (go_at_call 54; refine (c _).mono ?_; rintro e w' ⟨rfl, rfl⟩)
            go_ret
            exact ⟨rfl, below_box _ _⟩
          · have e := (decOk_iff n x hx).2 ⟨a, b, d, m⟩
            have mb : (n.tmod 10 != 0) = true := by simpa using m
            rw [e]
            go_enter Try.func41, Try.ntmps41
            go_wp2_with (go_at_call 54; refine (c _).mono ?_; rintro e w' ⟨rfl, rfl⟩)
            go_ret
            exact ⟨rfl, below_box _ _⟩
        · have e := decOk_f (fun h => d ((decOk_iff n x hx).1 h).2.2.1)
          rw [e]
          go_enter Try.func41, Try.ntmps41
          go_wp2_with (go_at_call 54; refine (c _).mono ?_; rintro e w' ⟨rfl, rfl⟩)
          go_ret
          exact ⟨rfl, below_box _ _⟩
      · have e := decOk_f (fun h => b ((decOk_iff n x hx).1 h).2.1)
        rw [e]
        go_enter Try.func41, Try.ntmps41
        go_wp2
        go_ret
        exact ⟨rfl, below_box _ _⟩
    · have e := decOk_f (fun h => a ((decOk_iff n x hx).1 h).1)
      rw [e]
      go_enter Try.func41, Try.ntmps41
      go_wp2
      go_ret
      exact ⟨rfl, below_box _ _⟩
set_option maxRecDepth 100000 in
theorem decok_spec (n x : Int) (w : World) (h0 : -9223372036854775808 ≤ n) (h1 : n ≤ 9223372036854775807) : Calls Try.prog 47 #[.agg #[.int .i64 n, .int .i64 x]] w fun e w' => e = .returned (.bool (decOk n x)) ∧ Below w.heap.size w w' := by
  have c := fun w1 => digits_spec n w1 h0 h1
  by_cases hx : x = 0
  · subst hx
    have ci := fun w1 => in_any n (-1000000000000000) 1000000000000000 w1
    have e : decide (-1000000000000000 ≤ n ∧ n ≤ 1000000000000000) = decOk n 0 := by rw [Bool.eq_iff_iff, decide_eq_true_eq, decOk_iff0]
    rw [e] at ci
    clear e
    go_enter Try.func47, Try.ntmps47
    go_wp2_with (go_at_call 56; refine (ci _).mono ?_; rintro e w' ⟨rfl, rfl⟩)
    go_ret
    exact ⟨rfl, below_box _ _⟩
  · by_cases a : -16 ≤ x ∧ x ≤ -1
    · have ci := fun w1 => in_yes x (-16) (-1) w1 a.1 a.2
      by_cases m : n.tmod 10 = 0
      · have e := decOk_f (fun h => ((decOk_iff n x hx).1 h).2.2.2 m)
        have mb : (n.tmod 10 != 0) = false := by simpa using m
        rw [e]
        clear a
        go_enter Try.func47, Try.ntmps47
        go_wp2_with (go_at_call 56; refine (ci _).mono ?_; rintro e w' ⟨rfl, rfl⟩)
        go_ret
        exact ⟨rfl, below_box _ _⟩
      · by_cases d : ((digV n : Nat) : Int) ≤ 17
        · have e := (decOk_iff n x hx).2 ⟨a.1, a.2, d, m⟩
          have mb : (n.tmod 10 != 0) = true := by simpa using m
          rw [e]
          clear a
          go_enter Try.func47, Try.ntmps47
          go_wp2_with (first | (go_at_call 56; refine (ci _).mono ?_; rintro e w' ⟨rfl, rfl⟩) | (go_at_call 58; refine (c _).mono ?_; rintro e w' ⟨rfl, rfl⟩))
          go_ret
          exact ⟨rfl, below_box _ _⟩
        · have e := decOk_f (fun h => d ((decOk_iff n x hx).1 h).2.2.1)
          have mb : (n.tmod 10 != 0) = true := by simpa using m
          have db : decide (((digV n : Nat) : Int) ≤ 17) = false := decide_eq_false d
          rw [e]
          clear a
          go_enter Try.func47, Try.ntmps47
          go_wp2_with (first | (go_at_call 56; refine (ci _).mono ?_; rintro e w' ⟨rfl, rfl⟩) | (go_at_call 58; refine (c _).mono ?_; rintro e w' ⟨rfl, rfl⟩))
          go_ret
          exact ⟨rfl, below_box _ _⟩
    · have ci := fun w1 => in_no x (-16) (-1) w1 (by omega)
      have e := decOk_f (fun h => a ⟨((decOk_iff n x hx).1 h).1, ((decOk_iff n x hx).1 h).2.1⟩)
      rw [e]
      clear a
      go_enter Try.func47, Try.ntmps47
      go_wp2_with (go_at_call 56; refine (ci _).mono ?_; rintro e w' ⟨rfl, rfl⟩)
      go_ret
      exact ⟨rfl, below_box _ _⟩
end Go.Proofs.Ytilgncebhgplaaa
/- What Pow of the program and Pow of the model return: the power of 2, 5 or 10, and 0 outside the ranges. -/
namespace Go.Proofs.Ytilgncebhgplaaa
open Go.RowKit
def powBase (b : Int) : Prop := b = 2 ∨ b = 5 ∨ b = 10
def powV (b k : Int) : Int := if (b = 2 ∨ b = 5 ∨ b = 10) ∧ 0 ≤ k ∧ k ≤ 17 then b ^ k.toNat else 0

theorem pow_step (b : Int) (j : Nat) : b ^ (j + 1) = b ^ j * b := Int.pow_succ b j
theorem pow_low (b : Int) (hb : powBase b) (j : Nat) (hj : j ≤ 17) : 0 ≤ b ^ j ∧ b ^ j ≤ 100000000000000000 := by
  have key : ∀ i : Fin 18, (0 ≤ (2 : Int) ^ i.val ∧ (2 : Int) ^ i.val ≤ 100000000000000000) ∧ (0 ≤ (5 : Int) ^ i.val ∧ (5 : Int) ^ i.val ≤ 100000000000000000) ∧ (0 ≤ (10 : Int) ^ i.val ∧ (10 : Int) ^ i.val ≤ 100000000000000000) := by decide
  have k1 := key ⟨j, by omega⟩
  rcases hb with rfl | rfl | rfl
  · exact k1.1
  · exact k1.2.1
  · exact k1.2.2

theorem pow_spec_bad (b k : Int) (w : World) (h : ¬ ((b = 2 ∨ b = 5 ∨ b = 10) ∧ 0 ≤ k ∧ k ≤ 17)) : Calls Try.prog 63 #[.int .i64 b, .int .i64 k] w fun e w' => e = .returned (.int .i64 (powV b k)) ∧ w = w' := by
  have hv : powV b k = 0 := by unfold powV; rw [if_neg h]
  rw [hv]; clear hv
  by_cases hb : b = 2 ∨ b = 5 ∨ b = 10
  · have e2 : k < 0 ∨ 17 < k := by omega
    clear h
    rcases hb with rfl | rfl | rfl
    all_goals
      go_enter Try.func63, Try.ntmps63
      go_wp2_with (go_at_call 56; refine (in_no _ _ _ _ (by omega)).mono ?_; rintro e w' ⟨rfl, rfl⟩)
      go_ret
      exact ⟨rfl, rfl⟩
  · have h1 : (b != 2) = true := by simp; omega
    have h2 : (b != 5) = true := by simp; omega
    have h3 : (b != 10) = true := by simp; omega
    clear h hb
    go_enter Try.func63, Try.ntmps63
    go_wp2_with (go_at_call 56; refine (in_no _ _ _ _ (by omega)).mono ?_; rintro e w' ⟨rfl, rfl⟩)
    go_ret
    exact ⟨rfl, rfl⟩

theorem pow_spec_good (b k : Int) (w : World) (hb : powBase b) (h0 : 0 ≤ k) (h1 : k ≤ 17) : Calls Try.prog 63 #[.int .i64 b, .int .i64 k] w fun e w' => e = .returned (.int .i64 (powV b k)) ∧ w = w' := by
  have hv : powV b k = b ^ k.toNat := by unfold powV; rw [if_pos ⟨hb, h0, h1⟩]
  rw [hv]; clear hv
  obtain ⟨m, rfl⟩ : ∃ m : Nat, k = m := ⟨k.toNat, by omega⟩
  rcases hb with rfl | rfl | rfl
  · go_enter Try.func63, Try.ntmps63
    go_wp2_with (go_at_call 56; refine (in_yes _ _ _ _ (by omega) (by omega)).mono ?_; rintro e w' ⟨rfl, rfl⟩)
    go_loop [5, 6] (fun n i => ∃ j : Nat, j ≤ m ∧ i = .int .i64 j ∧ n = .int .i64 ((2 : Int) ^ j)) (fun _ i => m - (intOf i).toNat)
    case atStart => exact ⟨0, Nat.zero_le _, rfl, rfl⟩
    case round =>
      obtain ⟨j, hj, rfl, rfl⟩ := hrel
      by_cases hlt : j < m
      · have hp := pow_low (2 : Int) (by unfold powBase; omega) j (by omega)
        have hp' := pow_low (2 : Int) (by unfold powBase; omega) (j + 1) (by omega)
        have HS := Lib.hid (pow_step (2 : Int) j)
        rw [pow_step] at hp'
        go_wp2
        go_round
        case rel => exact ⟨j + 1, by omega, by go_num, by rw [HS.out]⟩
        case measure => simp [intOf]; omega
      · go_wp2
        go_ret
        exact ⟨by rw [show m = j by omega]; rfl, rfl⟩
  · go_enter Try.func63, Try.ntmps63
    go_wp2_with (go_at_call 56; refine (in_yes _ _ _ _ (by omega) (by omega)).mono ?_; rintro e w' ⟨rfl, rfl⟩)
    go_loop [5, 6] (fun n i => ∃ j : Nat, j ≤ m ∧ i = .int .i64 j ∧ n = .int .i64 ((5 : Int) ^ j)) (fun _ i => m - (intOf i).toNat)
    case atStart => exact ⟨0, Nat.zero_le _, rfl, rfl⟩
    case round =>
      obtain ⟨j, hj, rfl, rfl⟩ := hrel
      by_cases hlt : j < m
      · have hp := pow_low (5 : Int) (by unfold powBase; omega) j (by omega)
        have hp' := pow_low (5 : Int) (by unfold powBase; omega) (j + 1) (by omega)
        have HS := Lib.hid (pow_step (5 : Int) j)
        rw [pow_step] at hp'
        go_wp2
        go_round
        case rel => exact ⟨j + 1, by omega, by go_num, by rw [HS.out]⟩
        case measure => simp [intOf]; omega
      · go_wp2
        go_ret
        exact ⟨by rw [show m = j by omega]; rfl, rfl⟩
  · go_enter Try.func63, Try.ntmps63
    go_wp2_with (go_at_call 56; refine (in_yes _ _ _ _ (by omega) (by omega)).mono ?_; rintro e w' ⟨rfl, rfl⟩)
    go_loop [5, 6] (fun n i => ∃ j : Nat, j ≤ m ∧ i = .int .i64 j ∧ n = .int .i64 ((10 : Int) ^ j)) (fun _ i => m - (intOf i).toNat)
    case atStart => exact ⟨0, Nat.zero_le _, rfl, rfl⟩
    case round =>
      obtain ⟨j, hj, rfl, rfl⟩ := hrel
      by_cases hlt : j < m
      · have hp := pow_low (10 : Int) (by unfold powBase; omega) j (by omega)
        have hp' := pow_low (10 : Int) (by unfold powBase; omega) (j + 1) (by omega)
        have HS := Lib.hid (pow_step (10 : Int) j)
        rw [pow_step] at hp'
        go_wp2
        go_round
        case rel => exact ⟨j + 1, by omega, by go_num, by rw [HS.out]⟩
        case measure => simp [intOf]; omega
      · go_wp2
        go_ret
        exact ⟨by rw [show m = j by omega]; rfl, rfl⟩
theorem two_any (m : Nat) (hm : m ≤ 17) (w : World) : Calls Try.prog 64 #[.int .i64 m] w fun e w' => e = .returned (.int .i64 ((2 : Int) ^ m)) ∧ w = w' := by
  have h1 : (0 : Int) ≤ m := by omega
  have h2 : (m : Int) ≤ 17 := by omega
  have hp := pow_low 2 (by unfold powBase; omega) m (by omega)
  go_enter Try.func64, Try.ntmps64
  go_wp2
  go_ret
  exact ⟨rfl, rfl⟩
theorem five_any (m : Nat) (hm : m ≤ 17) (w : World) : Calls Try.prog 65 #[.int .i64 m] w fun e w' => e = .returned (.int .i64 ((5 : Int) ^ m)) ∧ w = w' := by
  go_enter Try.func65, Try.ntmps65
  go_wp2
  go_loop [3, 5] (fun n i => ∃ j : Nat, j ≤ m ∧ i = .int .i64 j ∧ n = .int .i64 ((5 : Int) ^ j)) (fun _ i => m - (intOf i).toNat)
  case atStart => exact ⟨0, Nat.zero_le _, rfl, rfl⟩
  case round =>
    obtain ⟨j, hj, rfl, rfl⟩ := hrel
    by_cases hlt : j < m
    · have hp := pow_low 5 (by unfold powBase; omega) j (by omega)
      have hp' := pow_low 5 (by unfold powBase; omega) (j + 1) (by omega)
      have HS := Lib.hid (pow_step 5 j)
      rw [pow_step] at hp'
      go_wp2
      go_round
      case rel => exact ⟨j + 1, by omega, by go_num, by rw [HS.out]⟩
      case measure => simp [intOf]; omega
    · go_wp2
      go_ret
      exact ⟨by rw [show m = j by omega]; rfl, rfl⟩
theorem ten_any (m : Nat) (hm : m ≤ 17) (w : World) : Calls Try.prog 66 #[.int .i64 m] w fun e w' => e = .returned (.int .i64 ((10 : Int) ^ m)) ∧ w = w' := by
  have hp := pow_low 10 (by unfold powBase; omega) m (by omega)
  have e : (10 : Int) ^ m = (2 : Int) ^ m * (5 : Int) ^ m := by rw [show (10 : Int) = 2 * 5 from rfl, Int.mul_pow]
  rw [e] at hp ⊢
  clear e
  go_enter Try.func66, Try.ntmps66
  go_wp2_with (first | (go_at_call 64; refine (two_any _ hm _).mono ?_; rintro e w' ⟨rfl, rfl⟩) | (go_at_call 65; refine (five_any _ hm _).mono ?_; rintro e w' ⟨rfl, rfl⟩))
  go_ret
  exact ⟨rfl, rfl⟩
theorem fn_nil (n : Nat) (w : World) : (binOp .eql 71 (.func (.func n) #[] #[]) .nilFunc).run Try.prog w = .ok (.bool false) w := by kernel_rfl
theorem nil_nil (w : World) : (binOp .eql 71 .nilFunc .nilFunc).run Try.prog w = .ok (.bool true) w := by kernel_rfl
theorem pow_impl_good (b k : Int) (w : World) (hb : powBase b) (h0 : 0 ≤ k) (h1 : k ≤ 17) : Calls Try.prog 61 #[.int .i64 b, .int .i64 k] w fun e w' => e = .returned (.int .i64 (powV b k)) ∧ Below w.heap.size w w' := by
  have hv : powV b k = b ^ k.toNat := by unfold powV; rw [if_pos ⟨hb, h0, h1⟩]
  rw [hv]; clear hv
  obtain ⟨m, rfl⟩ : ∃ m : Nat, k = m := ⟨k.toNat, by omega⟩
  have hm : m ≤ 17 := by omega
  have q2 := fn_nil
  rcases hb with rfl | rfl | rfl
  all_goals
    go_enter Try.func61, Try.ntmps61
    go_wp2_with (first | (go_at_call 64; refine (two_any _ hm _).mono ?_; rintro e w' ⟨rfl, rfl⟩) | (go_at_call 65; refine (five_any _ hm _).mono ?_; rintro e w' ⟨rfl, rfl⟩) | (go_at_call 66; refine (ten_any _ hm _).mono ?_; rintro e w' ⟨rfl, rfl⟩))
    go_ret
    exact ⟨rfl, by repeat (first | exact Below.refl _ _ | exact ⟨rfl, rfl, rfl, Nat.le_refl _, fun _ _ => rfl⟩ | apply Below.drew | exact (Below.refl _ _).alloc (Nat.le_refl _) _)⟩
theorem pow_impl_out (b k : Int) (w : World) (h : b < 0 ∨ 10 < b) : Calls Try.prog 61 #[.int .i64 b, .int .i64 k] w fun e w' => e = .returned (.int .i64 0) ∧ Below w.heap.size w w' := by
  rcases h with h | h
  all_goals
    go_enter Try.func61, Try.ntmps61
    go_wp2
    go_ret
    exact ⟨rfl, by repeat (first | exact Below.refl _ _ | exact ⟨rfl, rfl, rfl, Nat.le_refl _, fun _ _ => rfl⟩ | apply Below.drew | exact (Below.refl _ _).alloc (Nat.le_refl _) _)⟩
theorem pow_impl_none (b k : Int) (w : World) (h : b = 0 ∨ b = 1 ∨ b = 3 ∨ b = 4 ∨ b = 6 ∨ b = 7 ∨ b = 8 ∨ b = 9) : Calls Try.prog 61 #[.int .i64 b, .int .i64 k] w fun e w' => e = .returned (.int .i64 0) ∧ Below w.heap.size w w' := by
  have q1 := nil_nil
  rcases h with rfl | rfl | rfl | rfl | rfl | rfl | rfl | rfl
  all_goals
    go_enter Try.func61, Try.ntmps61
    go_wp2
    go_ret
    exact ⟨rfl, by repeat (first | exact Below.refl _ _ | exact ⟨rfl, rfl, rfl, Nat.le_refl _, fun _ _ => rfl⟩ | apply Below.drew | exact (Below.refl _ _).alloc (Nat.le_refl _) _)⟩
theorem pow_impl_low (b k : Int) (w : World) (h : b = 2 ∨ b = 5 ∨ b = 10) (hk : k < 0) : Calls Try.prog 61 #[.int .i64 b, .int .i64 k] w fun e w' => e = .returned (.int .i64 0) ∧ Below w.heap.size w w' := by
  have q2 := fn_nil
  rcases h with rfl | rfl | rfl
  all_goals
    go_enter Try.func61, Try.ntmps61
    go_wp2
    go_ret
    exact ⟨rfl, by repeat (first | exact Below.refl _ _ | exact ⟨rfl, rfl, rfl, Nat.le_refl _, fun _ _ => rfl⟩ | apply Below.drew | exact (Below.refl _ _).alloc (Nat.le_refl _) _)⟩
theorem pow_impl_high (b k : Int) (w : World) (h : b = 2 ∨ b = 5 ∨ b = 10) (hk : 17 < k) : Calls Try.prog 61 #[.int .i64 b, .int .i64 k] w fun e w' => e = .returned (.int .i64 0) ∧ Below w.heap.size w w' := by
  have q2 := fn_nil
  rcases h with rfl | rfl | rfl
  all_goals
    go_enter Try.func61, Try.ntmps61
    go_wp2
    go_ret
    exact ⟨rfl, by repeat (first | exact Below.refl _ _ | exact ⟨rfl, rfl, rfl, Nat.le_refl _, fun _ _ => rfl⟩ | apply Below.drew | exact (Below.refl _ _).alloc (Nat.le_refl _) _)⟩
theorem pow_impl_bad (b k : Int) (w : World) (h : ¬ ((b = 2 ∨ b = 5 ∨ b = 10) ∧ 0 ≤ k ∧ k ≤ 17)) : Calls Try.prog 61 #[.int .i64 b, .int .i64 k] w fun e w' => e = .returned (.int .i64 (powV b k)) ∧ Below w.heap.size w w' := by
  have hv : powV b k = 0 := by unfold powV; rw [if_neg h]
  rw [hv]; clear hv
  by_cases hb : b < 0 ∨ 10 < b
  · exact pow_impl_out b k w hb
  · by_cases hc : b = 2 ∨ b = 5 ∨ b = 10
    · by_cases hk : k < 0
      · exact pow_impl_low b k w hc hk
      · exact pow_impl_high b k w hc (by omega)
    · exact pow_impl_none b k w (by omega)
theorem pow_spec (b k : Int) (w : World) : Calls Try.prog 63 #[.int .i64 b, .int .i64 k] w fun e w' => e = .returned (.int .i64 (powV b k)) ∧ w = w' := by
  by_cases h : (b = 2 ∨ b = 5 ∨ b = 10) ∧ 0 ≤ k ∧ k ≤ 17
  · exact pow_spec_good b k w h.1 h.2.1 h.2.2
  · exact pow_spec_bad b k w h
theorem pow_impl (b k : Int) (w : World) : Calls Try.prog 61 #[.int .i64 b, .int .i64 k] w fun e w' => e = .returned (.int .i64 (powV b k)) ∧ Below w.heap.size w w' := by
  by_cases h : (b = 2 ∨ b = 5 ∨ b = 10) ∧ 0 ≤ k ∧ k ≤ 17
  · exact pow_impl_good b k w h.1 h.2.1 h.2.2
  · exact pow_impl_bad b k w h
end Go.Proofs.Ytilgncebhgplaaa
/- What DecNew of the program and of the model returns: the number's one valid form, or none where there is none. -/
namespace Go.Proofs.Ytilgncebhgplaaa
open Go.RowKit
theorem bcell {W w1 : World} (hb : Below W.heap.size W w1) : (∀ b o, b < W.heap.size → w1.cell? ⟨b, o, none⟩ = W.cell? ⟨b, o, none⟩) ∧ (∀ b o, b < W.heap.size → w1.frozen? ⟨b, o, none⟩ = W.frozen? ⟨b, o, none⟩) :=
  ⟨fun b o h => hb.cell (p := ⟨b, o, none⟩) h, fun b o h => hb.frozen (p := ⟨b, o, none⟩) h⟩
theorem below_two {w w1 w2 : World} {o o' : Obj} (hb1 : Below (w.alloc o).heap.size (w.alloc o) w1) (hb2 : Below (w1.alloc o').heap.size (w1.alloc o') w2) : Below (w.alloc o).heap.size (w.alloc o) w2 :=
  hb1.trans (((Below.refl _ _).alloc hb1.size _).trans (hb2.mono (by have := hb1.size; simp at this ⊢; omega)))
def NewPost (n x : Int) (w : World) (e : Ending) (w' : World) : Prop := ∃ (N X : Int) (ok : Bool), e = .returned (.tuple #[.agg #[.int .i64 N, .int .i64 X], .bool ok]) ∧ IsNew n x N X ok ∧ Below w.heap.size w w'
theorem pow10_ge {y : Int} (h0 : 0 < y) (h : y ≤ 16) : powV 10 y = 10 ^ y.toNat := by unfold powV; rw [if_pos ⟨by decide, by omega, by omega⟩]
set_option maxRecDepth 100000 in
set_option maxHeartbeats 4000000 in
theorem decnew_spec (n x : Int) (w : World) (h0 : -9223372036854775808 ≤ n) (h1 : n ≤ 9223372036854775807) : Calls Try.prog 62 #[.int .i64 n, .int .i64 x] w (NewPost n x w) := by
  have c0 := fun w1 => digits_spec n w1 h0 h1
  by_cases hd : ((digV n : Nat) : Int) ≤ 17
  · have hn := (digV_17 n).1 (by omega)
    have hn0 : -100000000000000000 < n := by omega
    have hn1 : n < 100000000000000000 := by omega
    clear hn h0 h1
    by_cases hx : -40 ≤ x ∧ x ≤ 40
    · have hin : Hid (decIn n x) := Lib.hid ⟨by omega, hx.1, hx.2⟩
      obtain ⟨hx0, hx1⟩ := hx
      have ci := fun w1 => in_yes x (-40) 40 w1 hx0 hx1
      by_cases hz : n = 0
      · subst hz
        go_enter Try.func62, Try.ntmps62
        go_wp2_with (first | (go_at_call 58; refine (c0 _).mono ?_; rintro e w' ⟨rfl, rfl⟩) | (go_at_call 56; refine (ci _).mono ?_; rintro e w' ⟨rfl, rfl⟩))
        refine bodyPost_ret (v := .tuple #[.agg #[.int .i64 0, .int .i64 0], .bool true]) (by simp [results, Try.results62, go_sem]) rfl ⟨_, _, _, rfl, isNew_zero hin.out, ?_⟩
        exact below_box _ _
      · go_enter Try.func62, Try.ntmps62
        go_wp2_with (first | (go_at_call 58; refine (c0 _).mono ?_; rintro e w' ⟨rfl, rfl⟩) | (go_at_call 56; refine (ci _).mono ?_; rintro e w' ⟨rfl, rfl⟩))
        go_loop [0, 1] (fun a b => ∃ m y : Int, a = .int .i64 m ∧ b = .int .i64 y ∧ same n x m y ∧ m ≠ 0 ∧ -100000000000000000 < m ∧ m < 100000000000000000 ∧ -40 ≤ y ∧ y ≤ 40) (fun _ b => (40 - intOf b).toNat)
        case atStart => exact ⟨_, _, rfl, rfl, same_refl _ _, hz, hn0, hn1, hx0, hx1⟩
        case round =>
          obtain ⟨m, y, rfl, rfl, hs, hm, hm0, hm1, hy0, hy1⟩ := hrel
          clear hz hn0 hn1 hx0 hx1 ci c0 hd
          by_cases hc : m.tmod 10 = 0 ∧ y < 0
          · obtain ⟨ht, hy⟩ := hc
            have hs2 := same_strip hs (by omega) ht
            have u0 := tdiv10 m
            have e0 := Int.tmod_add_mul_tdiv m 10
            have u1 : -100000000000000000 < m.tdiv 10 := by omega
            have u2 : m.tdiv 10 < 100000000000000000 := by omega
            have u3 : m.tdiv 10 ≠ 0 := by omega
            clear u0 e0
            go_wp2
            go_round
            case rel => exact ⟨_, _, rfl, rfl, hs2, u3, u1, u2, by omega, by omega⟩
            case measure => simp [intOf]; omega
          · have hy : 0 ≤ y ∨ m.tmod 10 ≠ 0 := by omega
            have hy' := Lib.hid hy
            clear hc
            by_cases ht : m.tmod 10 = 0
            all_goals
              first
              | (have hyy : ¬ y < 0 := by omega)
              | skip
              clear hy
              go_wp2
              go_loop [0, 1] (fun a b => ∃ m y : Int, a = .int .i64 m ∧ b = .int .i64 y ∧ same n x m y ∧ Hid (0 ≤ y ∨ m.tmod 10 ≠ 0) ∧ -100000000000000000 < m ∧ m < 100000000000000000 ∧ -40 ≤ y ∧ y ≤ 40) (fun _ b => (intOf b).toNat)
              case atStart => exact ⟨_, _, rfl, rfl, hs, hy', hm0, hm1, hy0, hy1⟩
              case round =>
                clear ht hs hy' hm0 hm1 hy0 hy1 hm
                obtain ⟨m, y, rfl, rfl, hs, hy', hm0, hm1, hy0, hy1⟩ := hrel
                by_cases hp : 0 < y
                · have cd := fun w1 => digits_spec m w1 (by omega) (by omega)
                  by_cases h16 : ((digV m : Nat) : Int) ≤ 16
                  · have hs2 := same_grow hs (by omega)
                    have hb := (digV_16 m).1 (by omega)
                    have b0 : -10000000000000000 < m := by omega
                    have b1 : m < 10000000000000000 := by omega
                    clear hb
                    go_wp2_with (go_at_call 58; refine (cd _).mono ?_; rintro e w' ⟨rfl, rfl⟩)
                    go_round
                    case rel => exact ⟨_, _, rfl, rfl, hs2, Lib.hid (.inl (by omega)), by omega, by omega, by omega, by omega⟩
                    case measure => simp [intOf]; omega
                  · have hb := Lib.hid (isNew_big hs hp (big_spec hp (by omega)))
                    go_wp2_with (go_at_call 58; refine (cd _).mono ?_; rintro e w' ⟨rfl, rfl⟩)
                    refine bodyPost_ret (v := .tuple #[.agg #[.int .i64 0, .int .i64 0], .bool false]) (by simp [results, Try.results62, go_sem]) rfl ⟨_, _, _, rfl, hb.out, ?_⟩
                    exact below_box _ _
                · have cd := fun w1 => decok_spec m y w1 (by omega) (by omega)
                  have hfin : Hid (y = 0 ∨ m.tmod 10 ≠ 0) := Lib.hid (by have := hy'.out; omega)
                  clear hy'
                  cases hok : decOk m y
                  · rw [hok] at cd
                    go_wp2_with (go_at_call 47; refine (cd _).mono ?_; rintro e w1 ⟨rfl, hb⟩; obtain ⟨hcl, hfz⟩ := bcell hb; have k0 : w1.cell? ⟨w.heap.size, 0, none⟩ = some (.int .i64 0) := (hcl _ _ (by simp; omega)).trans (by simp [go_sem]); have k1 : w1.cell? ⟨w.heap.size, 1, none⟩ = some (.int .i64 0) := (hcl _ _ (by simp; omega)).trans (by simp [go_sem]))
                    refine bodyPost_ret (v := .tuple #[.agg #[.int .i64 0, .int .i64 0], .bool false]) (by simp [results, Try.results62, go_sem, k0, k1]) rfl ⟨_, _, _, rfl, isNew_no hs (by omega) (by omega) hfin.out hok, ?_⟩
                    exact (((((Below.refl _ _).alloc (Nat.le_refl _) _).alloc (by simp) _).trans (hb.mono (by simp; omega))).setCell (Nat.le_refl _) _).setCell (Nat.le_refl _) _
                  · rw [hok] at cd
                    go_wp2_with (go_at_call 47; refine (cd _).mono ?_; rintro e w1 ⟨rfl, hb⟩; obtain ⟨hcl, hfz⟩ := bcell hb; have k0 : w1.cell? ⟨w.heap.size, 0, none⟩ = some (.int .i64 0) := (hcl _ _ (by simp; omega)).trans (by simp [go_sem]); have k1 : w1.cell? ⟨w.heap.size, 1, none⟩ = some (.int .i64 0) := (hcl _ _ (by simp; omega)).trans (by simp [go_sem]))
                    refine bodyPost_ret (v := .tuple #[.agg #[.int .i64 m, .int .i64 y], .bool true]) (by simp [results, Try.results62, go_sem, k0, k1]) rfl ⟨_, _, _, rfl, isNew_yes hin.out hs hok, ?_⟩
                    exact (((((Below.refl _ _).alloc (Nat.le_refl _) _).alloc (by simp) _).trans (hb.mono (by simp; omega))).setCell (Nat.le_refl _) _).setCell (Nat.le_refl _) _
    · have ci := fun w1 => in_no x (-40) 40 w1 (by omega)
      have hb : IsNew n x 0 0 false := isNew_out (fun h => hx h.2)
      clear hx
      go_enter Try.func62, Try.ntmps62
      go_wp2_with (first | (go_at_call 58; refine (c0 _).mono ?_; rintro e w' ⟨rfl, rfl⟩) | (go_at_call 56; refine (ci _).mono ?_; rintro e w' ⟨rfl, rfl⟩))
      refine bodyPost_ret (v := .tuple #[.agg #[.int .i64 0, .int .i64 0], .bool false]) (by simp [results, Try.results62, go_sem]) rfl ⟨_, _, _, rfl, hb, ?_⟩
      exact below_box _ _
  · have hb : IsNew n x 0 0 false := isNew_out (fun h => hd (by have := h.1; omega))
    go_enter Try.func62, Try.ntmps62
    go_wp2_with (go_at_call 58; refine (c0 _).mono ?_; rintro e w' ⟨rfl, rfl⟩)
    refine bodyPost_ret (v := .tuple #[.agg #[.int .i64 0, .int .i64 0], .bool false]) (by simp [results, Try.results62, go_sem]) rfl ⟨_, _, _, rfl, hb, ?_⟩
    exact below_box _ _
end Go.Proofs.Ytilgncebhgplaaa
/- A law's decimal number handed to the program: the conversion, the comparison. -/
namespace Go.Proofs.Ytilgncebhgplaaa
open Go.RowKit
end Go.Proofs.Ytilgncebhgplaaa
