import Derived.Test.YtnikcgmbkmbloaaGreatDoorG0
/- Plain facts on decimal numbers: digits, validity, one form, order. No program. -/
namespace Go.Proofs.YtnikcgmbkmbloaaGreatDoor
theorem digN_le_iff (k : Nat) : ∀ n : Nat, digN n ≤ k ↔ n < 10 ^ k := by
  induction k with
  | zero =>
    intro n
    by_cases h : n = 0
    · subst h; simp [digN_zero]
    · rw [digN_step n h]; simp; omega
  | succ k ih =>
    intro n
    by_cases h : n = 0
    · subst h; simp only [digN_zero, Nat.zero_le, true_iff]; exact Nat.pow_pos (by decide)
    · rw [digN_step n h, Nat.succ_le_succ_iff, ih, Nat.pow_succ, Nat.div_lt_iff_lt_mul (by decide)]
theorem digV_le_iff (n : Int) (k : Nat) : digV n ≤ k + 1 ↔ n.natAbs < 10 ^ (k + 1) := by
  unfold digV
  rw [Nat.add_comm 1, Nat.succ_le_succ_iff, digN_le_iff, Nat.pow_succ, Nat.div_lt_iff_lt_mul (by decide)]
theorem digV_17 (n : Int) : digV n ≤ 17 ↔ n.natAbs < 100000000000000000 := digV_le_iff n 16
theorem digV_16 (n : Int) : digV n ≤ 16 ↔ n.natAbs < 10000000000000000 := digV_le_iff n 15
theorem digV_pos (n : Int) : 1 ≤ digV n := by unfold digV; omega
theorem digV_strip (n : Int) (h0 : n ≠ 0) (h : n.tmod 10 = 0) : digV n = digV (n.tdiv 10) + 1 := by
  unfold digV
  rw [tdiv10]
  have : n.natAbs / 10 ≠ 0 := by
    intro hz
    have h2 : (n.tmod 10).natAbs = n.natAbs % 10 := Int.natAbs_tmod n 10
    rw [h] at h2
    have : (0 : Int).natAbs = 0 := rfl
    omega
  rw [digN_step _ this]; omega
/-- A decimal number's form. -/
def decOk (n x : Int) : Bool := if x = 0 then decide (-1000000000000000 ≤ n ∧ n ≤ 1000000000000000) else decide (-16 ≤ x ∧ x ≤ -1 ∧ digV n ≤ 17 ∧ n.tmod 10 ≠ 0)
def same (n x N X : Int) : Prop := n * 10 ^ (x + 60).toNat = N * 10 ^ (X + 60).toNat
theorem decOk_range {n x : Int} (h : decOk n x = true) : -16 ≤ x ∧ x ≤ 0 ∧ n.natAbs < 100000000000000000 ∧ (x = 0 → n.natAbs ≤ 1000000000000000) ∧ (x < 0 → n.tmod 10 ≠ 0) := by
  unfold decOk at h
  by_cases hx : x = 0
  · rw [if_pos hx] at h; simp only [decide_eq_true_eq] at h; omega
  · rw [if_neg hx] at h; simp only [decide_eq_true_eq, digV_17] at h
    exact ⟨h.1, by omega, h.2.2.1, fun e => absurd e hx, fun _ => h.2.2.2⟩
theorem decOk_zero {n : Int} (h0 : -1000000000000000 ≤ n) (h1 : n ≤ 1000000000000000) : decOk n 0 = true := by
  unfold decOk; rw [if_pos rfl]; simp only [decide_eq_true_eq]; exact ⟨h0, h1⟩
theorem decOk_neg {n x : Int} (h0 : -16 ≤ x) (h1 : x ≤ -1) (h2 : digV n ≤ 17) (h3 : n.tmod 10 ≠ 0) : decOk n x = true := by
  unfold decOk; rw [if_neg (by omega)]; simp only [decide_eq_true_eq]; exact ⟨h0, h1, h2, h3⟩
theorem ten_ne (k : Nat) : (10 : Int) ^ k ≠ 0 := Int.pow_ne_zero (by decide)
theorem same_le {n x N X : Int} (hx : -60 ≤ x) (h : x ≤ X) : same n x N X ↔ n = N * 10 ^ (X - x).toNat := by
  unfold same
  rw [show (X + 60).toNat = (X - x).toNat + (x + 60).toNat by omega, Int.pow_add, ← Int.mul_assoc]
  exact ⟨fun e => Int.eq_of_mul_eq_mul_right (ten_ne _) e, fun e => by rw [e]⟩
theorem same_comm {n x N X : Int} (h : same n x N X) : same N X n x := h.symm
theorem same_refl (n x : Int) : same n x n x := rfl
theorem same_trans {a x b y c z : Int} (h : same a x b y) (k : same b y c z) : same a x c z := Eq.trans h k
theorem mod_mul (N : Int) (k : Nat) : (N * 10 ^ (k + 1)).tmod 10 = 0 := by
  rw [Int.pow_succ, ← Int.mul_assoc]
  exact Int.mul_tmod_left _ _
theorem same_final {n x N X : Int} (h0 : -60 ≤ x) (h1 : x ≤ 0) (hs : x = 0 ∨ n.tmod 10 ≠ 0) (hv : decOk N X = true) (h : same n x N X) : N = n ∧ X = x := by
  obtain ⟨r0, r1, r2, r3, r4⟩ := decOk_range hv
  rcases Int.lt_trichotomy x X with hlt | heq | hgt
  · have e := (same_le h0 (by omega)).1 h
    obtain ⟨k, hk⟩ : ∃ k, (X - x).toNat = k + 1 := ⟨(X - x).toNat - 1, by omega⟩
    rw [hk] at e
    have := mod_mul N k
    rw [← e] at this
    omega
  · subst heq
    have e := (same_le h0 (Int.le_refl _)).1 h
    rw [show (x - x).toNat = 0 by omega] at e
    exact ⟨by omega, rfl⟩
  · have e := (same_le (by omega) (by omega)).1 (same_comm h)
    obtain ⟨k, hk⟩ : ∃ k, (x - X).toNat = k + 1 := ⟨(x - X).toNat - 1, by omega⟩
    rw [hk] at e
    have := mod_mul n k
    rw [← e] at this
    exact absurd this (r4 (by omega))
theorem dec_uniq {n x N X : Int} (hv : decOk n x = true) (hw : decOk N X = true) (h : same n x N X) : N = n ∧ X = x := by
  obtain ⟨r0, r1, r2, r3, r4⟩ := decOk_range hv
  exact same_final (by omega) r1 (by by_cases e : x = 0
                                     · exact .inl e
                                     · exact .inr (r4 (by omega))) hw h
/-- What DecNew returns. -/
def decIn (n x : Int) : Prop := digV n ≤ 17 ∧ -40 ≤ x ∧ x ≤ 40
def IsNew (n x N X : Int) (ok : Bool) : Prop :=
  (ok = true ∧ decIn n x ∧ decOk N X = true ∧ same n x N X) ∨ (ok = false ∧ N = 0 ∧ X = 0 ∧ ∀ N' X', decIn n x → decOk N' X' = true → same n x N' X' → False)
theorem isNew_uniq {n x N X N' X' : Int} {a b : Bool} (h : IsNew n x N X a) (k : IsNew n x N' X' b) : N' = N ∧ X' = X ∧ b = a := by
  rcases h with ⟨rfl, hi, hv, hs⟩ | ⟨rfl, rfl, rfl, hn⟩
  · rcases k with ⟨rfl, _, kv, ks⟩ | ⟨rfl, rfl, rfl, kn⟩
    · have := dec_uniq hv kv (same_trans (same_comm hs) ks)
      exact ⟨this.1, this.2, rfl⟩
    · exact (kn _ _ hi hv hs).elim
  · rcases k with ⟨rfl, ki, kv, ks⟩ | ⟨rfl, rfl, rfl, kn⟩
    · exact (hn _ _ ki kv ks).elim
    · exact ⟨rfl, rfl, rfl⟩
theorem isNew_out {n x : Int} (h : ¬ decIn n x) : IsNew n x 0 0 false := .inr ⟨rfl, rfl, rfl, fun _ _ hi _ _ => h hi⟩
theorem isNew_zero {x : Int} (h : decIn 0 x) : IsNew 0 x 0 0 true := .inl ⟨rfl, h, decOk_zero (by decide) (by decide), by unfold same; simp⟩
theorem isNew_yes {n x m y : Int} (hi : decIn n x) (hs : same n x m y) (h : decOk m y = true) : IsNew n x m y true := .inl ⟨rfl, hi, h, hs⟩
theorem isNew_no {n x m y : Int} (hs : same n x m y) (h0 : -60 ≤ y) (h1 : y ≤ 0) (hz : y = 0 ∨ m.tmod 10 ≠ 0) (h : decOk m y = false) : IsNew n x 0 0 false := by
  refine .inr ⟨rfl, rfl, rfl, fun N X _ hv hk => ?_⟩
  obtain ⟨rfl, rfl⟩ := same_final h0 h1 hz hv (same_trans (same_comm hs) hk)
  rw [h] at hv; cases hv
theorem isNew_big {n x m y : Int} (hs : same n x m y) (h0 : 0 < y) (hb : 100000000000000000 ≤ m.natAbs * 10 ^ y.toNat) : IsNew n x 0 0 false := by
  refine .inr ⟨rfl, rfl, rfl, fun N X _ hv hk => ?_⟩
  obtain ⟨r0, r1, r2, r3, r4⟩ := decOk_range hv
  have e := (same_le (by omega) (by omega)).1 (same_comm (same_trans (same_comm hs) hk))
  obtain ⟨k, hk⟩ : ∃ k, (y - X).toNat = k + 1 := ⟨(y - X).toNat - 1, by omega⟩
  by_cases hX : X = 0
  · subst hX
    have e2 : N.natAbs = m.natAbs * 10 ^ y.toNat := by rw [e, Int.natAbs_mul, Int.natAbs_pow, show (y - 0).toNat = y.toNat by omega]; rfl
    have := r3 rfl
    omega
  · rw [hk] at e
    have := mod_mul m k
    rw [← e] at this
    exact absurd this (r4 (by omega))
theorem same_strip {n x m y : Int} (hs : same n x m y) (hy : -60 ≤ y) (h : m.tmod 10 = 0) : same n x (m.tdiv 10) (y + 1) := by
  refine same_trans hs ((same_le hy (by omega)).2 ?_)
  rw [show (y + 1 - y).toNat = 1 by omega, Int.pow_one]
  have := Int.tmod_add_mul_tdiv m 10
  omega
theorem same_grow {n x m y : Int} (hs : same n x m y) (hy : -59 ≤ y) : same n x (m * 10) (y - 1) := by
  refine same_trans hs (same_comm ((same_le (by omega) (by omega)).2 ?_))
  rw [show (y - (y - 1)).toNat = 1 by omega, Int.pow_one]
theorem same_mul {n x m y : Int} (hs : same n x m y) (hy : 0 ≤ y) : same n x (m * 10 ^ y.toNat) 0 := by
  refine same_trans hs (same_comm ((same_le (by omega) hy).2 ?_))
  rw [show y - 0 = y by omega]
theorem ten_ge (m : Int) (k : Nat) (h : ¬ digV m ≤ k) : 10 ^ k ≤ m.natAbs ∨ k = 0 := by
  match k, h with
  | 0, _ => exact .inr rfl
  | k + 1, h => rw [digV_le_iff] at h; exact .inl (by omega)
theorem big_spec {m y : Int} (h0 : 0 < y) (hd : ¬ digV m ≤ 16) : 100000000000000000 ≤ m.natAbs * 10 ^ y.toNat := by
  rw [digV_16] at hd
  obtain ⟨k, hk⟩ : ∃ k, y.toNat = k + 1 := ⟨y.toNat - 1, by omega⟩
  have h1 : 10 ^ 1 ≤ 10 ^ y.toNat := Nat.pow_le_pow_right (by decide) (by omega)
  have h2 : 10000000000000000 * 10 ^ 1 ≤ m.natAbs * 10 ^ y.toNat := Nat.mul_le_mul (by omega) h1
  omega
theorem big_impl {m y : Int} (h0 : 0 < y) (hm : m ≠ 0) (hd : 17 < (digV m : Int) + y) : 100000000000000000 ≤ m.natAbs * 10 ^ y.toNat := by
  have hp := digV_pos m
  have h1 : 10 ^ (digV m - 1) ≤ m.natAbs := by
    rcases ten_ge m (digV m - 1) (by omega) with h | h
    · exact h
    · rw [h]; simp; omega
  have h2 : 10 ^ (digV m - 1) * 10 ^ y.toNat ≤ m.natAbs * 10 ^ y.toNat := Nat.mul_le_mul_right _ h1
  rw [← Nat.pow_add] at h2
  have h3 : 10 ^ 17 ≤ 10 ^ (digV m - 1 + y.toNat) := Nat.pow_le_pow_right (by decide) (by omega)
  omega
theorem fit_impl {m y : Int} (h0 : 0 < y) (hd : (digV m : Int) + y ≤ 17) : (m * 10 ^ y.toNat).natAbs < 100000000000000000 := by
  have hp := digV_pos m
  obtain ⟨k, hk⟩ : ∃ k, digV m = k + 1 := ⟨digV m - 1, by omega⟩
  have h1 : m.natAbs < 10 ^ digV m := by rw [hk]; exact (digV_le_iff m k).1 (by omega)
  rw [Int.natAbs_mul, Int.natAbs_pow]
  have h2 : m.natAbs * 10 ^ y.toNat < 10 ^ digV m * 10 ^ y.toNat := Nat.mul_lt_mul_of_pos_right h1 (Nat.pow_pos (by decide))
  rw [← Nat.pow_add] at h2
  have h3 : 10 ^ (digV m + y.toNat) ≤ 10 ^ 17 := Nat.pow_le_pow_right (by decide) (by omega)
  exact Nat.lt_of_lt_of_le h2 h3
/-- A number's part in front of the point, and the part behind it. -/
def hiV (n x : Int) : Int := n.tdiv (10 ^ (-x).toNat)
def loV (n x : Int) : Int := n.tmod (10 ^ (-x).toNat) * 10 ^ (16 + x).toNat
def lessB (n x N X : Int) : Bool := decOk n x && decOk N X && (decide (hiV n x < hiV N X) || (hiV n x == hiV N X && decide (loV n x < loV N X)))
theorem hi_lo {n x : Int} (h0 : -16 ≤ x) (h1 : x ≤ 0) : hiV n x * 10 ^ 16 + loV n x = n * 10 ^ (16 + x).toNat := by
  unfold hiV loV
  have e : (10 : Int) ^ 16 = 10 ^ (-x).toNat * 10 ^ (16 + x).toNat := by rw [← Int.pow_add]; congr 1; omega
  have := Int.tmod_add_mul_tdiv n (10 ^ (-x).toNat)
  rw [e, ← Int.mul_assoc, ← Int.add_mul, Int.mul_comm (n.tdiv _), Int.add_comm, this]
theorem hi_lo_uniq {n x N X : Int} (hv : decOk n x = true) (hw : decOk N X = true) (h : hiV n x = hiV N X) (k : loV n x = loV N X) : N = n ∧ X = x := by
  obtain ⟨r0, r1, _⟩ := decOk_range hv
  obtain ⟨s0, s1, _⟩ := decOk_range hw
  have e1 := hi_lo (n := n) r0 r1
  have e2 := hi_lo (n := N) s0 s1
  rw [← h, ← k, e1] at e2
  refine dec_uniq hv hw ?_
  unfold same
  rw [show (x + 60).toNat = (16 + x).toNat + 44 by omega, show (X + 60).toNat = (16 + X).toNat + 44 by omega, Int.pow_add, Int.pow_add, ← Int.mul_assoc, ← Int.mul_assoc, e2]
theorem less_tri {n x N X : Int} (hv : decOk n x = true) (hw : decOk N X = true) : ((lessB n x N X || lessB N X n x) = true) ↔ ¬ (n = N ∧ x = X) := by
  unfold lessB
  rw [hv, hw]
  simp only [Bool.true_and, Bool.or_eq_true, Bool.and_eq_true, decide_eq_true_eq, beq_iff_eq]
  constructor
  · rintro h ⟨rfl, rfl⟩
    omega
  · intro h
    by_cases a : hiV n x = hiV N X
    · by_cases b : loV n x = loV N X
      · obtain ⟨rfl, rfl⟩ := hi_lo_uniq hv hw a b
        exact absurd ⟨rfl, rfl⟩ h
      · omega
    · omega
theorem less_anti {n x N X : Int} : ¬ (lessB n x N X = true ∧ lessB N X n x = true) := by
  unfold lessB
  simp only [Bool.or_eq_true, Bool.and_eq_true, decide_eq_true_eq, beq_iff_eq]
  omega
end Go.Proofs.YtnikcgmbkmbloaaGreatDoor
/- A decimal number's text: plain facts. No program. -/
namespace Go.Proofs.YtnikcgmbkmbloaaGreatDoor
open Go
theorem dec_len : ∀ k (v : Nat), v < 10 ^ (k + 1) → (Lib.decDigits v).length ≤ k + 1 := by
  intro k
  induction k with
  | zero => intro v hv; rw [Lib.decDigits, dif_pos (by omega)]; simp
  | succ k ih =>
    intro v hv
    rw [Lib.decDigits]
    by_cases h : v < 10
    · rw [dif_pos h]; simp
    · rw [dif_neg h, List.length_append]
      have := ih (v / 10) (by rw [Nat.pow_succ] at hv; omega)
      simp only [List.length_singleton]
      omega
def pad (m : Nat) (l : List UInt8) : List UInt8 := List.replicate (m - l.length) 48 ++ l
theorem pad_length (m : Nat) (l : List UInt8) : (pad m l).length = max m l.length := by unfold pad; simp; omega
theorem pad_none {m : Nat} {l : List UInt8} (h : m ≤ l.length) : pad m l = l := by unfold pad; rw [show m - l.length = 0 by omega]; rfl
def pointT (l : List UInt8) (k : Nat) : List UInt8 := l.take k ++ [46] ++ l.drop k
def fracT (n x : Int) : List UInt8 := pointT (pad (1 - x).toNat (Lib.decDigits n.natAbs)) ((pad (1 - x).toNat (Lib.decDigits n.natAbs)).length - (-x).toNat)
def decText (n x : Int) : List UInt8 := if decOk n x = true then (if x = 0 then Lib.itoa n else if n < 0 then 45 :: fracT n x else fracT n x) else []
theorem decText_bad {n x : Int} (h : decOk n x = false) : decText n x = [] := by unfold decText; rw [h]; rfl
theorem decText_int {n : Int} (h : decOk n 0 = true) : decText n 0 = Lib.itoa n := by unfold decText; rw [if_pos h, if_pos rfl]
theorem decText_neg {n x : Int} (h : decOk n x = true) (hx : x ≠ 0) (hn : n < 0) : decText n x = 45 :: fracT n x := by unfold decText; rw [if_pos h, if_neg hx, if_pos hn]
theorem decText_pos {n x : Int} (h : decOk n x = true) (hx : x ≠ 0) (hn : ¬ n < 0) : decText n x = fracT n x := by unfold decText; rw [if_pos h, if_neg hx, if_neg hn]
theorem itoa_lt {n : Int} (h : n < 0) : Lib.itoa n = 45 :: Lib.decDigits n.natAbs := by unfold Lib.itoa; rw [if_pos h]
theorem itoa_ge {n : Int} (h : ¬ n < 0) : Lib.itoa n = Lib.decDigits n.natAbs := by unfold Lib.itoa; rw [if_neg h]; congr 1; omega
theorem ext_cut (l : List UInt8) (i j : Nat) : (ByteArray.mk l.toArray).extract i j = ⟨((l.drop i).take (j - i)).toArray⟩ := by
  have : (ByteArray.mk l.toArray).extract i j = ⟨(l.toArray).extract i j⟩ := by
    unfold ByteArray.extract; simp [ByteArray.copySlice]
  rw [this]
  congr 1
  simp
def IsPad (d : List UInt8) (m : Int) (l : List UInt8) : Prop := ∃ j : Nat, l = List.replicate j 48 ++ d ∧ ((j : Int) = 0 ∨ (j : Int) + (d.length : Int) ≤ m)
theorem isPad_start (d : List UInt8) (m : Int) : IsPad d m d := ⟨0, rfl, .inl rfl⟩
theorem isPad_step {d l : List UInt8} {m : Int} (h : IsPad d m l) (hl : (l.length : Int) < m) : IsPad d m (48 :: l) := by
  obtain ⟨j, rfl, hj⟩ := h
  refine ⟨j + 1, by rw [List.replicate_succ]; rfl, .inr ?_⟩
  simp at hl; omega
theorem isPad_end {d l : List UInt8} {m : Int} (h : IsPad d m l) (hl : ¬ (l.length : Int) < m) : l = pad m.toNat d := by
  obtain ⟨j, rfl, hj⟩ := h
  unfold pad
  simp at hl
  congr 2; omega
theorem isPad_length {d l : List UInt8} {m : Int} (h : IsPad d m l) : d.length ≤ l.length ∧ ((l.length : Int) ≤ m ∨ l.length = d.length) := by
  obtain ⟨j, rfl, hj⟩ := h
  simp; omega
theorem point_eq {l : List UInt8} {k : Nat} {x : Int} (hx : x ≤ 0) (hk : (k : Int) = (l.length : Int) + x) : pointT l (l.length - (-x).toNat) = l.take k ++ [46] ++ l.drop k := by
  unfold pointT
  rw [show l.length - (-x).toNat = k by omega]
end Go.Proofs.YtnikcgmbkmbloaaGreatDoor
/- A number's text cut out of its surroundings is read as the same number; the text of a decimal number is read as that number. No program. -/
namespace Go.Proofs.YtnikcgmbkmbloaaGreatDoor
open Go
theorem cut_at {l : List UInt8} {i N j : Nat} (hN : N ≤ l.length) : (cut l i N)[j]? = if i + j < N then l[i + j]? else none := by
  unfold cut
  by_cases h : i + j < N
  · rw [if_pos h, List.getElem?_take_of_lt (by omega), List.getElem?_drop]
  · rw [if_neg h, List.getElem?_take, if_neg (by omega)]
theorem cut_atC {l : List UInt8} {i N j : Nat} {c : UInt8} (hN : N ≤ l.length) : atC (cut l i N) j c = (decide (i + j < N) && atC l (i + j) c) := by
  unfold atC
  rw [cut_at hN]
  by_cases h : i + j < N
  · rw [if_pos h, decide_eq_true h, Bool.true_and]
  · rw [if_neg h, decide_eq_false h, Bool.false_and]; rfl
theorem cut_atD {l : List UInt8} {i N j : Nat} (hN : N ≤ l.length) : atD (cut l i N) j = (decide (i + j < N) && atD l (i + j)) := by
  unfold atD
  rw [cut_at hN]
  by_cases h : i + j < N
  · rw [if_pos h, decide_eq_true h, Bool.true_and]
  · rw [if_neg h, decide_eq_false h, Bool.false_and]
theorem cut_dEnd {l : List UInt8} {i N j : Nat} (hN : N ≤ l.length) (h : dEnd l (i + j) ≤ N) : i + dEnd (cut l i N) j = dEnd l (i + j) := by
  generalize hn : N - (i + j) = n
  induction n generalizing j with
  | zero =>
    have h1 : dEnd (cut l i N) j = j := dEnd_stop (by rw [cut_atD hN, decide_eq_false (by omega)]; rfl)
    have := dEnd_ge l (i + j)
    omega
  | succ n ih =>
    cases hd : atD l (i + j)
    · rw [dEnd_stop hd, dEnd_stop (by rw [cut_atD hN, hd, Bool.and_false])]
    · have hge := dEnd_ge l (i + j + 1)
      rw [dEnd_step hd] at h ⊢
      rw [dEnd_step (by rw [cut_atD hN, hd, decide_eq_true (by omega)]; rfl)]
      exact ih (by rw [← Nat.add_assoc]; exact h) (by omega)
theorem cut_cut {l : List UInt8} {i N j k : Nat} (h : i + k ≤ N) : cut (cut l i N) j k = cut l (i + j) (i + k) := by
  unfold cut
  rw [List.drop_take, List.drop_drop, List.take_take]
  congr 1
  omega
theorem partsE_next {l : List UInt8} {neg : Bool} {W F : List UInt8} {a : Nat} (h : (partsE l neg W F a).ok = true) : a ≤ (partsE l neg W F a).next := by
  unfold partsE at h ⊢
  by_cases he : (atC l a 101 || atC l a 69) = true
  · rw [if_pos he] at h ⊢
    simp only at h ⊢
    generalize hj : (if (atC l (a + 1) 43 || atC l (a + 1) 45) = true then a + 2 else a + 1) = j at *
    have hja : a ≤ j := by rw [← hj]; split <;> omega
    by_cases hd : atD l j = true
    · rw [if_pos hd]; have := dEnd_ge l j; simp only; omega
    · rw [if_neg hd] at h; cases h
  · rw [if_neg he]; exact Nat.le_refl _
theorem partsF_next {l : List UInt8} {neg : Bool} {W : List UInt8} {a : Nat} (h : (partsF l neg W a).ok = true) : a ≤ (partsF l neg W a).next := by
  unfold partsF at h ⊢
  by_cases he : atC l a 46 = true
  · rw [if_pos he] at h ⊢
    by_cases hd : atD l (a + 1) = true
    · rw [if_pos hd] at h ⊢
      have := partsE_next h; have := dEnd_ge l (a + 1); omega
    · rw [if_neg hd] at h; cases h
  · rw [if_neg he] at h ⊢; exact partsE_next h
def shift (p : Parts) (i : Nat) : Parts := ⟨p.neg, p.eneg, p.whole, p.frac, p.exp, p.next - i, p.ok⟩
theorem partsE_cut {l : List UInt8} {neg : Bool} {W F : List UInt8} {i b N : Nat} (hN : N ≤ l.length) (h : (partsE l neg W F (i + b)).ok = true) (hn : (partsE l neg W F (i + b)).next = N) :
    partsE (cut l i N) neg W F b = shift (partsE l neg W F (i + b)) i := by
  unfold partsE at h hn ⊢
  by_cases he : (atC l (i + b) 101 || atC l (i + b) 69) = true
  · rw [if_pos he] at h hn ⊢
    simp only at h hn ⊢
    by_cases hs : (atC l (i + b + 1) 43 || atC l (i + b + 1) 45) = true
    · rw [if_pos hs] at h hn ⊢
      by_cases hd : atD l (i + b + 2) = true
      · rw [if_pos hd] at hn ⊢
        simp only at hn
        have hg := dEnd_ge l (i + b + 2 + 1)
        have hstep := dEnd_step hd
        have hlt : i + b + 2 < N := by omega
        rw [cut_atC hN, cut_atC hN, cut_atC hN, cut_atC hN, decide_eq_true (show i + b < N by omega), decide_eq_true (show i + (b + 1) < N by omega), Bool.true_and, Bool.true_and, Bool.true_and, Bool.true_and, if_pos he,
          ← Nat.add_assoc, if_pos hs, cut_atD hN, decide_eq_true (show i + (b + 2) < N by omega), Bool.true_and, ← Nat.add_assoc, if_pos hd]
        have e1 := cut_dEnd (l := l) (i := i) (N := N) (j := b + 2) hN (by rw [← Nat.add_assoc]; omega)
        rw [← Nat.add_assoc] at e1
        rw [cut_cut (by omega), ← Nat.add_assoc, e1]
        unfold shift
        simp only
        congr 1
        omega
      · rw [if_neg hd] at h; cases h
    · rw [if_neg hs] at h hn ⊢
      by_cases hd : atD l (i + b + 1) = true
      · rw [if_pos hd] at hn ⊢
        simp only at hn
        have hg := dEnd_ge l (i + b + 1 + 1)
        have hstep := dEnd_step hd
        have hlt : i + b + 1 < N := by omega
        rw [cut_atC hN, cut_atC hN, cut_atC hN, cut_atC hN, decide_eq_true (show i + b < N by omega), decide_eq_true (show i + (b + 1) < N by omega), Bool.true_and, Bool.true_and, Bool.true_and, Bool.true_and, if_pos he,
          ← Nat.add_assoc, if_neg hs, cut_atD hN, decide_eq_true (show i + (b + 1) < N by omega), Bool.true_and, ← Nat.add_assoc, if_pos hd]
        have e1 := cut_dEnd (l := l) (i := i) (N := N) (j := b + 1) hN (by rw [← Nat.add_assoc]; omega)
        rw [← Nat.add_assoc] at e1
        rw [cut_cut (by omega), ← Nat.add_assoc, e1]
        unfold shift
        simp only
        congr 1
        omega
      · rw [if_neg hd] at h; cases h
  · rw [if_neg he] at hn ⊢
    simp only at hn
    rw [cut_atC hN, cut_atC hN, decide_eq_false (show ¬ i + b < N by omega), Bool.false_and, Bool.false_and]
    rw [if_neg (by decide)]
    unfold shift
    simp only
    congr 1
    omega
theorem partsF_cut {l : List UInt8} {neg : Bool} {W : List UInt8} {i b N : Nat} (hN : N ≤ l.length) (h : (partsF l neg W (i + b)).ok = true) (hn : (partsF l neg W (i + b)).next = N) :
    partsF (cut l i N) neg W b = shift (partsF l neg W (i + b)) i := by
  unfold partsF at h hn ⊢
  by_cases he : atC l (i + b) 46 = true
  · rw [if_pos he] at h hn ⊢
    by_cases hd : atD l (i + b + 1) = true
    · rw [if_pos hd] at h hn ⊢
      have hle := partsE_next h
      rw [hn] at hle
      have hg := dEnd_ge l (i + b + 1 + 1)
      have hstep := dEnd_step hd
      rw [cut_atC hN, decide_eq_true (show i + b < N by omega), Bool.true_and, if_pos he, cut_atD hN, decide_eq_true (show i + (b + 1) < N by omega), Bool.true_and, ← Nat.add_assoc, if_pos hd]
      have e1 := cut_dEnd (l := l) (i := i) (N := N) (j := b + 1) hN (by rw [← Nat.add_assoc]; omega)
      rw [← Nat.add_assoc] at e1
      rw [cut_cut (by omega), ← Nat.add_assoc, e1]
      have := partsE_cut (i := i) (b := dEnd (cut l i N) (b + 1)) (neg := neg) (W := W) (F := cut l (i + b + 1) (dEnd l (i + b + 1))) hN (by rw [e1]; exact h) (by rw [e1]; exact hn)
      rw [e1] at this
      exact this
    · rw [if_neg hd] at h; cases h
  · rw [if_neg he] at h hn ⊢
    have e : atC (cut l i N) b 46 = false := by rw [cut_atC hN, show atC l (i + b) 46 = false by simpa using he, Bool.and_false]
    rw [e, if_neg (by decide)]
    exact partsE_cut hN h hn
theorem wEnd_gt {l : List UInt8} {a : Nat} (h : atD l a = true) : a < wEnd l a := by
  unfold wEnd
  have := dEnd_ge l (a + 1)
  have := dEnd_step h
  split <;> omega
theorem partsW_cut {l : List UInt8} {neg : Bool} {i b N : Nat} (hN : N ≤ l.length) (h : (partsW l neg (i + b)).ok = true) (hn : (partsW l neg (i + b)).next = N) :
    partsW (cut l i N) neg b = shift (partsW l neg (i + b)) i := by
  unfold partsW at h hn ⊢
  by_cases hd : atD l (i + b) = true
  · rw [if_pos hd] at h hn ⊢
    have hle := partsF_next h
    rw [hn] at hle
    have hg := wEnd_gt hd
    have e1 : i + wEnd (cut l i N) b = wEnd l (i + b) := by
      unfold wEnd at hle hg ⊢
      rw [cut_atC hN, decide_eq_true (show i + b < N by omega), Bool.true_and]
      by_cases hz : atC l (i + b) 48 = true
      · rw [if_pos hz, if_pos hz]; omega
      · rw [if_neg hz] at hle
        rw [if_neg hz, if_neg hz]; exact cut_dEnd hN hle
    rw [cut_atD hN, decide_eq_true (show i + b < N by omega), Bool.true_and, if_pos hd, cut_cut (by omega), e1]
    have := partsF_cut (i := i) (b := wEnd (cut l i N) b) (neg := neg) (W := cut l (i + b) (wEnd l (i + b))) hN (by rw [e1]; exact h) (by rw [e1]; exact hn)
    rw [e1] at this
    exact this
  · rw [if_neg hd] at h; cases h
theorem partsW_next {l : List UInt8} {neg : Bool} {a : Nat} (h : (partsW l neg a).ok = true) : a < (partsW l neg a).next := by
  unfold partsW at h ⊢
  by_cases hd : atD l a = true
  · rw [if_pos hd] at h ⊢
    have := partsF_next h; have := wEnd_gt hd; omega
  · rw [if_neg hd] at h; cases h
theorem parts_next {l : List UInt8} {i : Nat} (h : (parts l i).ok = true) : i < (parts l i).next := by
  unfold parts at h ⊢
  by_cases hd : atC l i 45 = true
  · rw [if_pos hd] at h ⊢; have := partsW_next h; omega
  · rw [if_neg hd] at h ⊢; exact partsW_next h
theorem parts_cut {l : List UInt8} {i N : Nat} (hN : N ≤ l.length) (h : (parts l i).ok = true) (hn : (parts l i).next = N) : parts (cut l i N) 0 = shift (parts l i) i := by
  have hlt := parts_next h
  rw [hn] at hlt
  unfold parts at h hn ⊢
  rw [cut_atC hN, Nat.add_zero, decide_eq_true hlt, Bool.true_and]
  by_cases hd : atC l i 45 = true
  · rw [if_pos hd] at h hn ⊢
    rw [if_pos hd]
    exact partsW_cut (b := 1) hN h hn
  · rw [if_neg hd] at h hn ⊢
    rw [if_neg hd]
    exact partsW_cut (b := 0) hN h hn
theorem partsE_le {l : List UInt8} {neg : Bool} {W F : List UInt8} {a : Nat} (ha : a ≤ l.length) : (partsE l neg W F a).next ≤ l.length := by
  unfold partsE
  by_cases he : (atC l a 101 || atC l a 69) = true
  · rw [if_pos he]
    simp only
    have ha1 : a + 1 ≤ l.length := by
      rw [Bool.or_eq_true] at he
      rcases he with he | he <;> have := atC_lt he <;> omega
    have hj : (if (atC l (a + 1) 43 || atC l (a + 1) 45) = true then a + 2 else a + 1) ≤ l.length := by
      by_cases hs : (atC l (a + 1) 43 || atC l (a + 1) 45) = true
      · rw [if_pos hs]
        rw [Bool.or_eq_true] at hs
        rcases hs with hs | hs <;> have := atC_lt hs <;> omega
      · rw [if_neg hs]; exact ha1
    generalize (if (atC l (a + 1) 43 || atC l (a + 1) 45) = true then a + 2 else a + 1) = j at *
    by_cases hd : atD l j = true
    · rw [if_pos hd]; exact dEnd_le hj
    · rw [if_neg hd]; exact hj
  · rw [if_neg he]; exact ha
theorem partsF_le {l : List UInt8} {neg : Bool} {W : List UInt8} {a : Nat} (ha : a ≤ l.length) : (partsF l neg W a).next ≤ l.length := by
  unfold partsF
  by_cases he : atC l a 46 = true
  · rw [if_pos he]
    have := atC_lt he
    split
    · exact partsE_le (dEnd_le (by omega))
    · exact this
  · rw [if_neg he]; exact partsE_le ha
theorem wEnd_le {l : List UInt8} {a : Nat} (ha : a ≤ l.length) : wEnd l a ≤ l.length := by
  unfold wEnd
  by_cases he : atC l a 48 = true
  · rw [if_pos he]; exact atC_lt he
  · rw [if_neg he]; exact dEnd_le ha
theorem partsW_le {l : List UInt8} {neg : Bool} {a : Nat} (ha : a ≤ l.length) : (partsW l neg a).next ≤ l.length := by
  unfold partsW
  split
  · exact partsF_le (wEnd_le ha)
  · exact ha
theorem parts_le {l : List UInt8} {i : Nat} (ha : i ≤ l.length) : (parts l i).next ≤ l.length := by
  unfold parts
  by_cases he : atC l i 45 = true
  · rw [if_pos he]; exact partsW_le (atC_lt he)
  · rw [if_neg he]; exact partsW_le ha
theorem readN_code {l : List UInt8} {i : Nat} (h : (readN l i).code = 0) : (parts l i).ok = true := by
  unfold readN numOf at h
  cases ho : (parts l i).ok
  · rw [ho, if_neg (by decide)] at h; cases h
  · rfl
theorem readN_next (l : List UInt8) (i : Nat) : (readN l i).next = (parts l i).next := by
  unfold readN numOf
  split
  · split <;> rfl
  · rfl
theorem readN_bad {l : List UInt8} {i : Nat} (h : ¬ (readN l i).code = 0) : (readN l i).n = 0 ∧ (readN l i).x = 0 := by
  unfold readN numOf at h ⊢
  split
  · rename_i ho
    rw [if_pos ho] at h
    split
    · rename_i hc
      rw [if_pos hc] at h; exact absurd rfl h
    · exact ⟨rfl, rfl⟩
  · exact ⟨rfl, rfl⟩
theorem readN_cut {l : List UInt8} {i : Nat} (hi : i ≤ l.length) (h : (readN l i).code = 0) : readN (cut l i (readN l i).next) 0 = ⟨(readN l i).n, (readN l i).x, (readN l i).next - i, 0⟩ := by
  have hok := readN_code h
  have hc := parts_cut (N := (parts l i).next) (parts_le hi) hok rfl
  rw [readN_next]
  unfold readN at h ⊢
  rw [hc]
  unfold numOf at h ⊢
  unfold shift
  simp only
  rw [if_pos hok] at h ⊢
  by_cases hq : (lead ((parts l i).whole ++ (parts l i).frac)).length ≤ 17 ∧ (parts l i).exp.length ≤ 3
  · rw [if_pos hq, if_pos hok, if_pos hq]
  · rw [if_neg hq] at h; cases h
theorem atC_app (a r : List UInt8) (c d : UInt8) : atC (a ++ c :: r) a.length d = (c == d) := by unfold atC; simp
theorem atC_nil (a : List UInt8) (d : UInt8) : atC a a.length d = false := atC_out (Nat.le_refl _)
theorem atD_app (a r : List UInt8) (c : UInt8) : atD (a ++ c :: r) a.length = isD c := by unfold atD; simp
theorem atD_nil (a : List UInt8) : atD a a.length = false := atD_out (Nat.le_refl _)
theorem dEnd_app (W : List UInt8) : ∀ (a t : List UInt8), (∀ c ∈ W, isD c = true) → atD (a ++ W ++ t) (a.length + W.length) = false → dEnd (a ++ W ++ t) a.length = a.length + W.length := by
  induction W with
  | nil => intro a t _ h; exact dEnd_stop h
  | cons c W ih =>
    intro a t hW h
    have e : a ++ c :: W ++ t = (a ++ [c]) ++ W ++ t := by simp
    have hd : atD (a ++ c :: W ++ t) a.length = true := by
      rw [List.append_assoc, List.cons_append, atD_app]; exact hW c List.mem_cons_self
    rw [dEnd_step hd, e]
    have := ih (a ++ [c]) t (fun x hx => hW x (List.mem_cons_of_mem _ hx)) (by rw [← e]; simp only [List.length_append, List.length_cons, List.length_nil] at h ⊢; rw [show a.length + (0 + 1) + W.length = a.length + (W.length + 1) by omega]; exact h)
    simp only [List.length_append, List.length_cons, List.length_nil] at this ⊢
    rw [show a.length + 1 = a.length + (0 + 1) by omega, this]; omega
theorem cut_app (a W t : List UInt8) : cut (a ++ W ++ t) a.length (a.length + W.length) = W := by
  unfold cut
  rw [List.append_assoc, List.drop_left, show a.length + W.length - a.length = W.length by omega, List.take_left]
/-- digits of a whole part: one zero, or the first is none -/
def WholeOk (W : List UInt8) : Prop := W ≠ [] ∧ (∀ c ∈ W, isD c = true) ∧ (W = [48] ∨ ∀ c r, W = c :: r → c ≠ 48)
theorem wEnd_app {W : List UInt8} (a t : List UInt8) (hW : WholeOk W) (h : atD (a ++ W ++ t) (a.length + W.length) = false) : wEnd (a ++ W ++ t) a.length = a.length + W.length ∧ atD (a ++ W ++ t) a.length = true := by
  obtain ⟨h0, h1, h2⟩ := hW
  match W, h0 with
  | c :: r, _ =>
    have hd : atD (a ++ c :: r ++ t) a.length = true := by
      rw [List.append_assoc, List.cons_append, atD_app]; exact h1 c List.mem_cons_self
    refine ⟨?_, hd⟩
    unfold wEnd
    rw [List.append_assoc, List.cons_append, atC_app, ← List.cons_append, ← List.append_assoc]
    rcases h2 with h2 | h2
    · obtain ⟨rfl, rfl⟩ : c = 48 ∧ r = [] := by simpa using h2
      rw [if_pos (by decide)]; rfl
    · rw [if_neg (by simpa using h2 c r rfl)]
      exact dEnd_app _ a t h1 h
theorem isD_46 : isD 46 = false := by decide
theorem isD_45 : isD 45 = false := by decide
theorem ne45 {c : UInt8} (h : isD c = true) : (c == 45) = false := by
  cases e : c == 45
  · rfl
  · rw [show c = 45 by simpa using e] at h; rw [isD_45] at h; cases h
theorem partsE_end (a : List UInt8) (neg : Bool) (W F : List UInt8) : partsE a neg W F a.length = ⟨neg, false, W, F, [], a.length, true⟩ := by
  unfold partsE
  rw [atC_nil, atC_nil, if_neg (by decide)]
theorem partsW_int (a W : List UInt8) (neg : Bool) (hW : WholeOk W) : partsW (a ++ W) neg a.length = ⟨neg, false, W, [], [], (a ++ W).length, true⟩ := by
  have h := wEnd_app a [] hW (by rw [List.append_nil, ← List.length_append]; exact atD_nil _)
  have hc := cut_app a W []
  rw [List.append_nil] at h hc
  unfold partsW
  rw [if_pos h.2, h.1, hc, ← List.length_append]
  unfold partsF
  rw [atC_nil, if_neg (by decide)]
  exact partsE_end _ _ _ _
theorem partsW_frac (a W F : List UInt8) (neg : Bool) (hW : WholeOk W) (hF : F ≠ []) (hD : ∀ c ∈ F, isD c = true) : partsW (a ++ (W ++ 46 :: F)) neg a.length = ⟨neg, false, W, F, [], (a ++ (W ++ 46 :: F)).length, true⟩ := by
  have h := wEnd_app a (46 :: F) hW (by rw [← List.length_append, atD_app]; exact isD_46)
  have hc := cut_app a W (46 :: F)
  have e : a ++ (W ++ 46 :: F) = a ++ W ++ 46 :: F := by simp
  rw [e]
  unfold partsW
  rw [if_pos h.2, h.1, hc, ← List.length_append]
  unfold partsF
  rw [atC_app, if_pos (by decide)]
  have e2 : a ++ W ++ 46 :: F = (a ++ W ++ [46]) ++ F ++ [] := by simp
  have el : (a ++ W).length + 1 = (a ++ W ++ [46]).length := by simp only [List.length_append, List.length_cons, List.length_nil]
  rw [e2, el]
  have hd : atD ((a ++ W ++ [46]) ++ F ++ []) (a ++ W ++ [46]).length = true := by
    match F, hF with
    | c :: r, _ => rw [List.append_nil, atD_app]; exact hD c List.mem_cons_self
  have he := dEnd_app F (a ++ W ++ [46]) [] hD (by rw [List.append_nil, ← List.length_append]; exact atD_nil _)
  rw [if_pos hd, he, cut_app, List.append_nil, ← List.length_append]
  exact partsE_end _ _ _ _
theorem decDigits_head (u : Nat) : ∀ c r, Lib.decDigits u = c :: r → u ≠ 0 → c ≠ 48 := by
  induction u using Nat.strongRecOn with
  | _ u ih =>
    intro c r h h0
    rw [Lib.decDigits] at h
    by_cases hu : u < 10
    · rw [dif_pos hu] at h
      injection h with h _
      intro hc
      have := dig_toNat u hu
      rw [h, hc] at this
      have e : (48 : UInt8).toNat = 48 := rfl
      omega
    · rw [dif_neg hu] at h
      obtain ⟨c', r', e, _⟩ := dec_head (u / 10)
      rw [e, List.cons_append] at h
      injection h with h _
      rw [← h]
      exact ih (u / 10) (by omega) c' r' e (by omega)
theorem decDigits_isD (u : Nat) : ∀ c ∈ Lib.decDigits u, isD c = true := fun c hc => by unfold isD; exact decide_eq_true (decDigits_digs u c hc)
theorem decDigits_whole (u : Nat) : WholeOk (Lib.decDigits u) := by
  refine ⟨decDigits_ne u, decDigits_isD u, ?_⟩
  by_cases h : u = 0
  · subst h; left; rw [Lib.decDigits]; rfl
  · right; intro c r e; exact decDigits_head u c r e h
theorem decVal_zeros (k : Nat) (l : List UInt8) : decVal 0 (List.replicate k 48 ++ l) = decVal 0 l := by
  induction k with
  | zero => rfl
  | succ k ih => rw [List.replicate_succ, List.cons_append]; exact ih
theorem lead_zeros (k : Nat) (l : List UInt8) : lead (List.replicate k 48 ++ l) = lead l := by
  induction k with
  | zero => rfl
  | succ k ih => rw [List.replicate_succ, List.cons_append]; unfold lead; rw [List.dropWhile_cons, if_pos (by decide)]; exact ih
theorem lead_len (l : List UInt8) : (lead l).length ≤ l.length := (List.dropWhile_sublist _).length_le
theorem decVal_pad (m u : Nat) : decVal 0 (pad m (Lib.decDigits u)) = u := by unfold pad; rw [decVal_zeros, decDigits_val]
theorem lead_pad (m u : Nat) (h : u < 10 ^ 17) : (lead (pad m (Lib.decDigits u))).length ≤ 17 := by
  unfold pad; rw [lead_zeros]; exact Nat.le_trans (lead_len _) (dec_len 16 u h)
theorem numOf_good {p : Parts} (h : p.ok = true) (h1 : (lead (p.whole ++ p.frac)).length ≤ 17) (h2 : p.exp = []) (h3 : p.eneg = false) : numOf p = ⟨sgnV p.neg (decVal 0 (p.whole ++ p.frac)), -(p.frac.length : Int), p.next, 0⟩ := by
  unfold numOf
  rw [if_pos h, if_pos ⟨h1, by rw [h2]; decide⟩, h2, h3]
  congr 1
  unfold sgnV
  rw [if_neg (by decide)]
  show ((0 : Nat) : Int) - _ = _
  omega
theorem sgn_abs (n : Int) (b : Bool) (h : b = true ↔ n < 0) : sgnV b (n.natAbs : Int) = n := by
  unfold sgnV
  cases b
  · rw [if_neg (by decide)]
    have : ¬ n < 0 := fun e => by have := h.2 e; cases this
    omega
  · rw [if_pos rfl]
    have := h.1 rfl
    omega
theorem pad_digs (m u : Nat) : ∀ c ∈ pad m (Lib.decDigits u), isD c = true := fun c hc => by
  unfold pad at hc
  rw [List.mem_append] at hc
  rcases hc with hc | hc
  · rw [(List.mem_replicate.1 hc).2]; decide
  · exact decDigits_isD u c hc
theorem pad_whole (m u k : Nat) (hm : k + m = (pad (m + 1) (Lib.decDigits u)).length) : WholeOk ((pad (m + 1) (Lib.decDigits u)).take k) := by
  have hl := pad_length (m + 1) (Lib.decDigits u)
  have h1 : 1 ≤ k := by omega
  have hne := decDigits_ne u
  refine ⟨?_, fun c hc => pad_digs _ _ c (List.mem_of_mem_take hc), ?_⟩
  · intro e
    have := congrArg List.length e
    rw [List.length_take, List.length_nil] at this
    omega
  · by_cases hp : (Lib.decDigits u).length ≤ m
    · left
      have hk : k = 1 := by omega
      subst hk
      unfold pad
      rw [show m + 1 - (Lib.decDigits u).length = (m - (Lib.decDigits u).length) + 1 by omega, List.replicate_succ]
      rfl
    · rw [pad_none (m := m + 1) (l := Lib.decDigits u) (by omega)]
      obtain ⟨h0, _, h2⟩ := decDigits_whole u
      rcases h2 with h2 | h2
      · left
        rw [h2, List.take_of_length_le (by simp; exact h1)]
      · right
        intro c r e
        match hd : Lib.decDigits u, h0 with
        | c' :: r', _ =>
          rw [hd] at e
          obtain ⟨k', rfl⟩ : ∃ k', k = k' + 1 := ⟨k - 1, by omega⟩
          rw [List.take_succ_cons] at e
          injection e with e _
          rw [← e]
          exact h2 c' r' hd
theorem read_text {n x : Int} (h : decOk n x = true) : readN (decText n x) 0 = ⟨n, x, (decText n x).length, 0⟩ := by
  obtain ⟨r0, r1, r2, _, r4⟩ := decOk_range h
  by_cases hx : x = 0
  · subst hx
    rw [decText_int h]
    have hW := decDigits_whole n.natAbs
    have hlen : (lead (Lib.decDigits n.natAbs ++ [])).length ≤ 17 := by rw [List.append_nil]; exact Nat.le_trans (lead_len _) (dec_len 16 _ r2)
    by_cases hn : n < 0
    · rw [itoa_lt hn]
      unfold readN parts
      rw [show atC (45 :: Lib.decDigits n.natAbs) 0 45 = true from rfl, if_pos rfl]
      have e := partsW_int [45] _ true hW
      rw [show ([45] ++ Lib.decDigits n.natAbs) = 45 :: Lib.decDigits n.natAbs from rfl] at e
      rw [show 0 + 1 = [(45 : UInt8)].length from rfl, e, numOf_good rfl hlen rfl rfl]
      simp only [List.append_nil, decDigits_val, List.length_nil]
      rw [sgn_abs n true ⟨fun _ => hn, fun _ => rfl⟩]
      rfl
    · rw [itoa_ge hn]
      unfold readN parts
      have e := partsW_int [] _ false hW
      rw [List.nil_append] at e
      have e45 : atC (Lib.decDigits n.natAbs) 0 45 = false := by
        obtain ⟨c, r, ec, hd⟩ := dec_head n.natAbs
        rw [ec]
        exact ne45 (by unfold isDig at hd; unfold isD; exact decide_eq_true hd)
      rw [e45, if_neg (by decide), show 0 = ([] : List UInt8).length from rfl, e, numOf_good rfl hlen rfl rfl]
      simp only [List.append_nil, decDigits_val, List.length_nil]
      rw [sgn_abs n false ⟨fun e => (by cases e), fun e => absurd e hn⟩]
      rfl
  · obtain ⟨m, hm⟩ : ∃ m : Nat, -x = m := ⟨(-x).toNat, by omega⟩
    have hm1 : (1 - x).toNat = m + 1 := by omega
    have hm2 : (-x).toNat = m := by omega
    have hf : fracT n x = (pad (m + 1) (Lib.decDigits n.natAbs)).take ((pad (m + 1) (Lib.decDigits n.natAbs)).length - m) ++ 46 :: (pad (m + 1) (Lib.decDigits n.natAbs)).drop ((pad (m + 1) (Lib.decDigits n.natAbs)).length - m) := by
      unfold fracT pointT; rw [hm1, hm2]; simp
    have hl := pad_length (m + 1) (Lib.decDigits n.natAbs)
    obtain ⟨k, hk⟩ : ∃ k, (pad (m + 1) (Lib.decDigits n.natAbs)).length - m = k := ⟨_, rfl⟩
    rw [hk] at hf
    have hW := pad_whole m n.natAbs k (by omega)
    have hD : ∀ c ∈ (pad (m + 1) (Lib.decDigits n.natAbs)).drop k, isD c = true := fun c hc => pad_digs _ _ c (List.mem_of_mem_drop hc)
    have hFl : ((pad (m + 1) (Lib.decDigits n.natAbs)).drop k).length = m := by rw [List.length_drop]; omega
    have hF : (pad (m + 1) (Lib.decDigits n.natAbs)).drop k ≠ [] := by intro e; rw [e] at hFl; simp at hFl; omega
    have hWF : (pad (m + 1) (Lib.decDigits n.natAbs)).take k ++ (pad (m + 1) (Lib.decDigits n.natAbs)).drop k = pad (m + 1) (Lib.decDigits n.natAbs) := List.take_append_drop _ _
    have hlen := lead_pad (m + 1) n.natAbs r2
    have hval := decVal_pad (m + 1) n.natAbs
    rw [← hWF] at hlen hval
    generalize (pad (m + 1) (Lib.decDigits n.natAbs)).take k = W at *
    generalize (pad (m + 1) (Lib.decDigits n.natAbs)).drop k = F at *
    by_cases hn : n < 0
    · rw [decText_neg h hx hn, hf]
      unfold readN parts
      rw [show atC (45 :: (W ++ 46 :: F)) 0 45 = true from rfl, if_pos rfl]
      have e := partsW_frac [45] W F true hW hF hD
      rw [show ([45] ++ (W ++ 46 :: F)) = 45 :: (W ++ 46 :: F) from rfl] at e
      rw [show 0 + 1 = [(45 : UInt8)].length from rfl, e, numOf_good rfl hlen rfl rfl]
      simp only
      rw [hval, sgn_abs n true ⟨fun _ => hn, fun _ => rfl⟩, hFl]
      congr 1; omega
    · rw [decText_pos h hx hn, hf]
      unfold readN parts
      have e := partsW_frac [] W F false hW hF hD
      rw [List.nil_append] at e
      have e45 : atC (W ++ 46 :: F) 0 45 = false := by
        match W, hW with
        | c :: r, hW => exact ne45 (hW.2.1 c List.mem_cons_self)
        | [], hW => exact absurd rfl hW.1
      rw [e45, if_neg (by decide), show 0 = ([] : List UInt8).length from rfl, e, numOf_good rfl hlen rfl rfl]
      simp only [List.length_nil]
      rw [hval, sgn_abs n false ⟨fun e => (by cases e), fun e => absurd e hn⟩, hFl]
      congr 1; omega
end Go.Proofs.YtnikcgmbkmbloaaGreatDoor
