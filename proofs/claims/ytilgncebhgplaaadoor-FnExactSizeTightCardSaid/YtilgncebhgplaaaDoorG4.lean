import Derived.Test.YtilgncebhgplaaaDoorG3
/- Plain facts on decimal numbers: digits, validity, one form, order. No program. -/
namespace Go.Proofs.YtilgncebhgplaaaDoor
theorem digN_le_iff (k : Nat) : ∀ n : Nat, digN n ≤ k ↔ n < 10 ^ k := by
  induction k with
  | zero =>
    intro n
    by_cases h : n = 0
    · subst h; simp [digN_zero]
    · rw [digN_step n h]; simp; omega
  | succ k ih =>
    intro n
    by_cases h : n = 0
    · subst h; simp only [digN_zero, Nat.zero_le, true_iff]; exact Nat.pow_pos (by decide)
    · rw [digN_step n h, Nat.succ_le_succ_iff, ih, Nat.pow_succ, Nat.div_lt_iff_lt_mul (by decide)]
theorem digV_le_iff (n : Int) (k : Nat) : digV n ≤ k + 1 ↔ n.natAbs < 10 ^ (k + 1) := by
  unfold digV
  rw [Nat.add_comm 1, Nat.succ_le_succ_iff, digN_le_iff, Nat.pow_succ, Nat.div_lt_iff_lt_mul (by decide)]
theorem digV_17 (n : Int) : digV n ≤ 17 ↔ n.natAbs < 100000000000000000 := digV_le_iff n 16
theorem digV_16 (n : Int) : digV n ≤ 16 ↔ n.natAbs < 10000000000000000 := digV_le_iff n 15
theorem digV_pos (n : Int) : 1 ≤ digV n := by unfold digV; omega
theorem digV_strip (n : Int) (h0 : n ≠ 0) (h : n.tmod 10 = 0) : digV n = digV (n.tdiv 10) + 1 := by
  unfold digV
  rw [tdiv10]
  have : n.natAbs / 10 ≠ 0 := by
    intro hz
    have h2 : (n.tmod 10).natAbs = n.natAbs % 10 := Int.natAbs_tmod n 10
    rw [h] at h2
    have : (0 : Int).natAbs = 0 := rfl
    omega
  rw [digN_step _ this]; omega
/-- A decimal number's form. -/
def decOk (n x : Int) : Bool := if x = 0 then decide (-1000000000000000 ≤ n ∧ n ≤ 1000000000000000) else decide (-16 ≤ x ∧ x ≤ -1 ∧ digV n ≤ 17 ∧ n.tmod 10 ≠ 0)
def same (n x N X : Int) : Prop := n * 10 ^ (x + 60).toNat = N * 10 ^ (X + 60).toNat
theorem decOk_range {n x : Int} (h : decOk n x = true) : -16 ≤ x ∧ x ≤ 0 ∧ n.natAbs < 100000000000000000 ∧ (x = 0 → n.natAbs ≤ 1000000000000000) ∧ (x < 0 → n.tmod 10 ≠ 0) := by
  unfold decOk at h
  by_cases hx : x = 0
  · rw [if_pos hx] at h; simp only [decide_eq_true_eq] at h; omega
  · rw [if_neg hx] at h; simp only [decide_eq_true_eq, digV_17] at h
    exact ⟨h.1, by omega, h.2.2.1, fun e => absurd e hx, fun _ => h.2.2.2⟩
theorem decOk_zero {n : Int} (h0 : -1000000000000000 ≤ n) (h1 : n ≤ 1000000000000000) : decOk n 0 = true := by
  unfold decOk; rw [if_pos rfl]; simp only [decide_eq_true_eq]; exact ⟨h0, h1⟩
theorem decOk_neg {n x : Int} (h0 : -16 ≤ x) (h1 : x ≤ -1) (h2 : digV n ≤ 17) (h3 : n.tmod 10 ≠ 0) : decOk n x = true := by
  unfold decOk; rw [if_neg (by omega)]; simp only [decide_eq_true_eq]; exact ⟨h0, h1, h2, h3⟩
theorem ten_ne (k : Nat) : (10 : Int) ^ k ≠ 0 := Int.pow_ne_zero (by decide)
theorem same_le {n x N X : Int} (hx : -60 ≤ x) (h : x ≤ X) : same n x N X ↔ n = N * 10 ^ (X - x).toNat := by
  unfold same
  rw [show (X + 60).toNat = (X - x).toNat + (x + 60).toNat by omega, Int.pow_add, ← Int.mul_assoc]
  exact ⟨fun e => Int.eq_of_mul_eq_mul_right (ten_ne _) e, fun e => by rw [e]⟩
theorem same_comm {n x N X : Int} (h : same n x N X) : same N X n x := h.symm
theorem same_refl (n x : Int) : same n x n x := rfl
theorem same_trans {a x b y c z : Int} (h : same a x b y) (k : same b y c z) : same a x c z := Eq.trans h k
theorem mod_mul (N : Int) (k : Nat) : (N * 10 ^ (k + 1)).tmod 10 = 0 := by
  rw [Int.pow_succ, ← Int.mul_assoc]
  exact Int.mul_tmod_left _ _
theorem same_final {n x N X : Int} (h0 : -60 ≤ x) (h1 : x ≤ 0) (hs : x = 0 ∨ n.tmod 10 ≠ 0) (hv : decOk N X = true) (h : same n x N X) : N = n ∧ X = x := by
  obtain ⟨r0, r1, r2, r3, r4⟩ := decOk_range hv
  rcases Int.lt_trichotomy x X with hlt | heq | hgt
  · have e := (same_le h0 (by omega)).1 h
    obtain ⟨k, hk⟩ : ∃ k, (X - x).toNat = k + 1 := ⟨(X - x).toNat - 1, by omega⟩
    rw [hk] at e
    have := mod_mul N k
    rw [← e] at this
    omega
  · subst heq
    have e := (same_le h0 (Int.le_refl _)).1 h
    rw [show (x - x).toNat = 0 by omega] at e
    exact ⟨by omega, rfl⟩
  · have e := (same_le (by omega) (by omega)).1 (same_comm h)
    obtain ⟨k, hk⟩ : ∃ k, (x - X).toNat = k + 1 := ⟨(x - X).toNat - 1, by omega⟩
    rw [hk] at e
    have := mod_mul n k
    rw [← e] at this
    exact absurd this (r4 (by omega))
theorem dec_uniq {n x N X : Int} (hv : decOk n x = true) (hw : decOk N X = true) (h : same n x N X) : N = n ∧ X = x := by
  obtain ⟨r0, r1, r2, r3, r4⟩ := decOk_range hv
  exact same_final (by omega) r1 (by by_cases e : x = 0
                                     · exact .inl e
                                     · exact .inr (r4 (by omega))) hw h
/-- What DecNew returns. -/
def decIn (n x : Int) : Prop := digV n ≤ 17 ∧ -40 ≤ x ∧ x ≤ 40
def IsNew (n x N X : Int) (ok : Bool) : Prop :=
  (ok = true ∧ decIn n x ∧ decOk N X = true ∧ same n x N X) ∨ (ok = false ∧ N = 0 ∧ X = 0 ∧ ∀ N' X', decIn n x → decOk N' X' = true → same n x N' X' → False)
theorem isNew_uniq {n x N X N' X' : Int} {a b : Bool} (h : IsNew n x N X a) (k : IsNew n x N' X' b) : N' = N ∧ X' = X ∧ b = a := by
  rcases h with ⟨rfl, hi, hv, hs⟩ | ⟨rfl, rfl, rfl, hn⟩
  · rcases k with ⟨rfl, _, kv, ks⟩ | ⟨rfl, rfl, rfl, kn⟩
    · have := dec_uniq hv kv (same_trans (same_comm hs) ks)
      exact ⟨this.1, this.2, rfl⟩
    · exact (kn _ _ hi hv hs).elim
  · rcases k with ⟨rfl, ki, kv, ks⟩ | ⟨rfl, rfl, rfl, kn⟩
    · exact (hn _ _ ki kv ks).elim
    · exact ⟨rfl, rfl, rfl⟩
theorem isNew_out {n x : Int} (h : ¬ decIn n x) : IsNew n x 0 0 false := .inr ⟨rfl, rfl, rfl, fun _ _ hi _ _ => h hi⟩
theorem isNew_zero {x : Int} (h : decIn 0 x) : IsNew 0 x 0 0 true := .inl ⟨rfl, h, decOk_zero (by decide) (by decide), by unfold same; simp⟩
theorem isNew_yes {n x m y : Int} (hi : decIn n x) (hs : same n x m y) (h : decOk m y = true) : IsNew n x m y true := .inl ⟨rfl, hi, h, hs⟩
theorem isNew_no {n x m y : Int} (hs : same n x m y) (h0 : -60 ≤ y) (h1 : y ≤ 0) (hz : y = 0 ∨ m.tmod 10 ≠ 0) (h : decOk m y = false) : IsNew n x 0 0 false := by
  refine .inr ⟨rfl, rfl, rfl, fun N X _ hv hk => ?_⟩
  obtain ⟨rfl, rfl⟩ := same_final h0 h1 hz hv (same_trans (same_comm hs) hk)
  rw [h] at hv; cases hv
theorem isNew_big {n x m y : Int} (hs : same n x m y) (h0 : 0 < y) (hb : 100000000000000000 ≤ m.natAbs * 10 ^ y.toNat) : IsNew n x 0 0 false := by
  refine .inr ⟨rfl, rfl, rfl, fun N X _ hv hk => ?_⟩
  obtain ⟨r0, r1, r2, r3, r4⟩ := decOk_range hv
  have e := (same_le (by omega) (by omega)).1 (same_comm (same_trans (same_comm hs) hk))
  obtain ⟨k, hk⟩ : ∃ k, (y - X).toNat = k + 1 := ⟨(y - X).toNat - 1, by omega⟩
  by_cases hX : X = 0
  · subst hX
    have e2 : N.natAbs = m.natAbs * 10 ^ y.toNat := by rw [e, Int.natAbs_mul, Int.natAbs_pow, show (y - 0).toNat = y.toNat by omega]; rfl
    have := r3 rfl
    omega
  · rw [hk] at e
    have := mod_mul m k
    rw [← e] at this
    exact absurd this (r4 (by omega))
theorem same_strip {n x m y : Int} (hs : same n x m y) (hy : -60 ≤ y) (h : m.tmod 10 = 0) : same n x (m.tdiv 10) (y + 1) := by
  refine same_trans hs ((same_le hy (by omega)).2 ?_)
  rw [show (y + 1 - y).toNat = 1 by omega, Int.pow_one]
  have := Int.tmod_add_mul_tdiv m 10
  omega
theorem same_grow {n x m y : Int} (hs : same n x m y) (hy : -59 ≤ y) : same n x (m * 10) (y - 1) := by
  refine same_trans hs (same_comm ((same_le (by omega) (by omega)).2 ?_))
  rw [show (y - (y - 1)).toNat = 1 by omega, Int.pow_one]
theorem same_mul {n x m y : Int} (hs : same n x m y) (hy : 0 ≤ y) : same n x (m * 10 ^ y.toNat) 0 := by
  refine same_trans hs (same_comm ((same_le (by omega) hy).2 ?_))
  rw [show y - 0 = y by omega]
theorem ten_ge (m : Int) (k : Nat) (h : ¬ digV m ≤ k) : 10 ^ k ≤ m.natAbs ∨ k = 0 := by
  match k, h with
  | 0, _ => exact .inr rfl
  | k + 1, h => rw [digV_le_iff] at h; exact .inl (by omega)
theorem big_spec {m y : Int} (h0 : 0 < y) (hd : ¬ digV m ≤ 16) : 100000000000000000 ≤ m.natAbs * 10 ^ y.toNat := by
  rw [digV_16] at hd
  obtain ⟨k, hk⟩ : ∃ k, y.toNat = k + 1 := ⟨y.toNat - 1, by omega⟩
  have h1 : 10 ^ 1 ≤ 10 ^ y.toNat := Nat.pow_le_pow_right (by decide) (by omega)
  have h2 : 10000000000000000 * 10 ^ 1 ≤ m.natAbs * 10 ^ y.toNat := Nat.mul_le_mul (by omega) h1
  omega
theorem big_impl {m y : Int} (h0 : 0 < y) (hm : m ≠ 0) (hd : 17 < (digV m : Int) + y) : 100000000000000000 ≤ m.natAbs * 10 ^ y.toNat := by
  have hp := digV_pos m
  have h1 : 10 ^ (digV m - 1) ≤ m.natAbs := by
    rcases ten_ge m (digV m - 1) (by omega) with h | h
    · exact h
    · rw [h]; simp; omega
  have h2 : 10 ^ (digV m - 1) * 10 ^ y.toNat ≤ m.natAbs * 10 ^ y.toNat := Nat.mul_le_mul_right _ h1
  rw [← Nat.pow_add] at h2
  have h3 : 10 ^ 17 ≤ 10 ^ (digV m - 1 + y.toNat) := Nat.pow_le_pow_right (by decide) (by omega)
  omega
theorem fit_impl {m y : Int} (h0 : 0 < y) (hd : (digV m : Int) + y ≤ 17) : (m * 10 ^ y.toNat).natAbs < 100000000000000000 := by
  have hp := digV_pos m
  obtain ⟨k, hk⟩ : ∃ k, digV m = k + 1 := ⟨digV m - 1, by omega⟩
  have h1 : m.natAbs < 10 ^ digV m := by rw [hk]; exact (digV_le_iff m k).1 (by omega)
  rw [Int.natAbs_mul, Int.natAbs_pow]
  have h2 : m.natAbs * 10 ^ y.toNat < 10 ^ digV m * 10 ^ y.toNat := Nat.mul_lt_mul_of_pos_right h1 (Nat.pow_pos (by decide))
  rw [← Nat.pow_add] at h2
  have h3 : 10 ^ (digV m + y.toNat) ≤ 10 ^ 17 := Nat.pow_le_pow_right (by decide) (by omega)
  exact Nat.lt_of_lt_of_le h2 h3
/-- A number's part in front of the point, and the part behind it. -/
def hiV (n x : Int) : Int := n.tdiv (10 ^ (-x).toNat)
def loV (n x : Int) : Int := n.tmod (10 ^ (-x).toNat) * 10 ^ (16 + x).toNat
def lessB (n x N X : Int) : Bool := decOk n x && decOk N X && (decide (hiV n x < hiV N X) || (hiV n x == hiV N X && decide (loV n x < loV N X)))
theorem hi_lo {n x : Int} (h0 : -16 ≤ x) (h1 : x ≤ 0) : hiV n x * 10 ^ 16 + loV n x = n * 10 ^ (16 + x).toNat := by
  unfold hiV loV
  have e : (10 : Int) ^ 16 = 10 ^ (-x).toNat * 10 ^ (16 + x).toNat := by rw [← Int.pow_add]; congr 1; omega
  have := Int.tmod_add_mul_tdiv n (10 ^ (-x).toNat)
  rw [e, ← Int.mul_assoc, ← Int.add_mul, Int.mul_comm (n.tdiv _), Int.add_comm, this]
theorem hi_lo_uniq {n x N X : Int} (hv : decOk n x = true) (hw : decOk N X = true) (h : hiV n x = hiV N X) (k : loV n x = loV N X) : N = n ∧ X = x := by
  obtain ⟨r0, r1, _⟩ := decOk_range hv
  obtain ⟨s0, s1, _⟩ := decOk_range hw
  have e1 := hi_lo (n := n) r0 r1
  have e2 := hi_lo (n := N) s0 s1
  rw [← h, ← k, e1] at e2
  refine dec_uniq hv hw ?_
  unfold same
  rw [show (x + 60).toNat = (16 + x).toNat + 44 by omega, show (X + 60).toNat = (16 + X).toNat + 44 by omega, Int.pow_add, Int.pow_add, ← Int.mul_assoc, ← Int.mul_assoc, e2]
theorem less_tri {n x N X : Int} (hv : decOk n x = true) (hw : decOk N X = true) : ((lessB n x N X || lessB N X n x) = true) ↔ ¬ (n = N ∧ x = X) := by
  unfold lessB
  rw [hv, hw]
  simp only [Bool.true_and, Bool.or_eq_true, Bool.and_eq_true, decide_eq_true_eq, beq_iff_eq]
  constructor
  · rintro h ⟨rfl, rfl⟩
    omega
  · intro h
    by_cases a : hiV n x = hiV N X
    · by_cases b : loV n x = loV N X
      · obtain ⟨rfl, rfl⟩ := hi_lo_uniq hv hw a b
        exact absurd ⟨rfl, rfl⟩ h
      · omega
    · omega
theorem less_anti {n x N X : Int} : ¬ (lessB n x N X = true ∧ lessB N X n x = true) := by
  unfold lessB
  simp only [Bool.or_eq_true, Bool.and_eq_true, decide_eq_true_eq, beq_iff_eq]
  omega
end Go.Proofs.YtilgncebhgplaaaDoor
