import Derived.Test.YtilgncebhgplaaaDoorG4
import Derived.Lib.BitFns
/- Plain facts on floating-point numbers: validity, one form, rounding to the nearest (ties to even), the order. No program. -/
namespace Go.Proofs.YtilgncebhgplaaaDoor
open Go
theorem two_pos (k : Nat) : 0 < 2 ^ k := Nat.pow_pos (by decide)
theorem bitLen_le_iff (k : Nat) : ∀ x : Nat, x < 2 ^ 64 → (Lib.bitLen x ≤ k ↔ x < 2 ^ k) := by
  induction k with
  | zero =>
    intro x hx
    by_cases h : x = 0
    · subst h; simp [show Lib.bitLen 0 = 0 by decide +kernel]
    · rw [Lib.bitLen_half x h hx]; simp; omega
  | succ k ih =>
    intro x hx
    by_cases h : x = 0
    · subst h; have := two_pos (k + 1); simp [show Lib.bitLen 0 = 0 by decide +kernel, this]
    · rw [Lib.bitLen_half x h hx, Nat.add_comm 1, Nat.succ_le_succ_iff, ih _ (by omega), Nat.pow_succ, Nat.div_lt_iff_lt_mul (by decide)]
/-- a over b, rounded to the nearest integer, ties to the even one -/
def rnd (a b : Nat) : Nat := if b < 2 * (a % b) ∨ (2 * (a % b) = b ∧ a / b % 2 = 1) then a / b + 1 else a / b
theorem rnd_scale (a b c : Nat) (hc : 0 < c) : rnd (a * c) (b * c) = rnd a b := by
  unfold rnd
  rw [Nat.mul_mod_mul_right, Nat.mul_div_mul_right _ _ hc, ← Nat.mul_assoc]
  have h1 : b * c < 2 * (a % b) * c ↔ b < 2 * (a % b) := Nat.mul_lt_mul_right hc
  have h2 : 2 * (a % b) * c = b * c ↔ 2 * (a % b) = b := Nat.mul_left_inj (by omega)
  simp only [h1, h2]
theorem rnd_exact (a b : Nat) (hb : 0 < b) : rnd (a * b) b = a := by
  have h := rnd_scale a 1 b hb
  rw [Nat.one_mul] at h
  rw [h]; unfold rnd
  rw [Nat.mod_one, Nat.div_one, if_neg (by omega)]
theorem rnd_ge (a b : Nat) : a / b ≤ rnd a b := by unfold rnd; split <;> omega
theorem rnd_le (a b : Nat) : rnd a b ≤ a / b + 1 := by unfold rnd; split <;> omega
theorem rnd_mono {a a' b : Nat} (_hb : 0 < b) (h : a ≤ a') : rnd a b ≤ rnd a' b := by
  have h1 : a / b ≤ a' / b := Nat.div_le_div_right h
  rcases Nat.lt_or_ge (a / b) (a' / b) with hlt | hge
  · exact Nat.le_trans (rnd_le a b) (Nat.le_trans hlt (rnd_ge a' b))
  · have he : a / b = a' / b := Nat.le_antisymm h1 hge
    have e1 := Nat.div_add_mod a b
    have e2 := Nat.div_add_mod a' b
    rw [he] at e1
    have hm : a % b ≤ a' % b := by omega
    unfold rnd
    rw [he]
    by_cases c : b < 2 * (a % b) ∨ (2 * (a % b) = b ∧ a' / b % 2 = 1)
    · rw [if_pos c, if_pos (by omega)]; exact Nat.le_refl _
    · rw [if_neg c]; split <;> omega
theorem rnd_le_of {a b k : Nat} (hb : 0 < b) (h : a ≤ k * b) : rnd a b ≤ k := by
  have := rnd_mono hb h
  rwa [rnd_exact k b hb] at this
theorem rnd_ge_of {a b k : Nat} (hb : 0 < b) (h : k * b ≤ a) : k ≤ rnd a b := by
  have := rnd_mono hb h
  rwa [rnd_exact k b hb] at this
/-- how nearestQuotient of the program goes -/
theorem rnd_pair (n d : Nat) (hd : 0 < d) : n / (2 * d) * 2 + rnd (n % (2 * d)) d = rnd n d := by
  have h1 : n % (2 * d) % d = n % d := Nat.mod_mul_left_mod n 2 d
  have h2 : n / d = n / (2 * d) * 2 + n % (2 * d) / d := by
    conv => lhs; rw [← Nat.div_add_mod n (2 * d)]
    rw [Nat.mul_comm 2 d, Nat.mul_assoc, Nat.mul_add_div hd, Nat.mul_comm 2]
  unfold rnd
  rw [h1, h2]
  generalize n % (2 * d) / d = q
  generalize n / (2 * d) = k
  generalize n % d = r
  have h3 : (k * 2 + q) % 2 = q % 2 := by omega
  rw [h3]
  split <;> omega
/-- What rounding to 16 binary digits gives, for a number a / q. -/
def nearL (a q : Nat) : Nat := Lib.bitLen (a / q)
def nearR (a q : Nat) : Nat := rnd (a * 65536) (q * 2 ^ nearL a q)
theorem nearL_scale (a q c : Nat) (hc : 0 < c) : nearL (a * c) (q * c) = nearL a q := by unfold nearL; rw [Nat.mul_div_mul_right _ _ hc]
theorem nearR_scale (a q c : Nat) (hc : 0 < c) : nearR (a * c) (q * c) = nearR a q := by
  unfold nearR
  rw [nearL_scale a q c hc, Nat.mul_right_comm, Nat.mul_right_comm q, rnd_scale _ _ _ hc]
theorem near_lt {a q : Nat} (hq : 0 < q) (h : a / q < 2 ^ 64) : a < 2 ^ nearL a q * q := by
  have := (bitLen_le_iff (nearL a q) (a / q) h).1 (Nat.le_refl _)
  rwa [Nat.div_lt_iff_lt_mul hq] at this
theorem near_ge {a q : Nat} (hq : 0 < q) (h : a / q < 2 ^ 64) (hl : nearL a q ≠ 0) : 2 ^ (nearL a q - 1) * q ≤ a := by
  have hn : ¬ nearL a q ≤ nearL a q - 1 := by omega
  unfold nearL at hn
  rw [bitLen_le_iff _ _ h, Nat.not_lt] at hn
  exact (Nat.le_div_iff_mul_le hq).1 hn
theorem nearR_le {a q : Nat} (hq : 0 < q) (h : a / q < 2 ^ 64) : nearR a q ≤ 65536 := by
  unfold nearR
  refine rnd_le_of (Nat.mul_pos hq (two_pos _)) ?_
  have := near_lt hq h
  rw [Nat.mul_comm 65536, Nat.mul_comm q]
  exact Nat.mul_le_mul_right _ (Nat.le_of_lt this)
theorem nearR_ge {a q : Nat} (hq : 0 < q) (h : a / q < 2 ^ 64) (hl : nearL a q ≠ 0) : 32768 ≤ nearR a q := by
  unfold nearR
  refine rnd_ge_of (Nat.mul_pos hq (two_pos _)) ?_
  have := near_ge hq h hl
  have e : 2 ^ nearL a q = 2 ^ (nearL a q - 1) * 2 := by rw [← Nat.pow_succ]; congr 1; omega
  rw [e]
  generalize 2 ^ (nearL a q - 1) = t at *
  rw [show 32768 * (q * (t * 2)) = t * q * 65536 by rw [show (65536 : Nat) = 32768 * 2 from rfl]; simp only [Nat.mul_comm, Nat.mul_assoc]]
  exact Nat.mul_le_mul_right _ this
/-- The rounded number, in units of two to the power of -16. -/
def nearV (a q : Nat) : Nat := nearR a q * 2 ^ nearL a q
theorem nearV_mono {a b q : Nat} (hq : 0 < q) (hab : a ≤ b) (hb : b / q < 2 ^ 64) : nearV a q ≤ nearV b q := by
  have ha : a / q < 2 ^ 64 := Nat.lt_of_le_of_lt (Nat.div_le_div_right hab) hb
  have hL : nearL a q ≤ nearL b q := by
    have := (bitLen_le_iff (nearL b q) (b / q) hb).1 (Nat.le_refl _)
    exact (bitLen_le_iff _ _ ha).2 (Nat.lt_of_le_of_lt (Nat.div_le_div_right hab) this)
  unfold nearV
  rcases Nat.lt_or_ge (nearL a q) (nearL b q) with hlt | hge
  · have h1 := Nat.mul_le_mul_right (2 ^ nearL a q) (nearR_le hq ha)
    have h2 := Nat.mul_le_mul_right (2 ^ nearL b q) (nearR_ge hq hb (by omega))
    have h3 : 2 ^ (nearL a q + 1) ≤ 2 ^ nearL b q := Nat.pow_le_pow_right (by decide) hlt
    rw [Nat.pow_succ] at h3
    omega
  · have e : nearL a q = nearL b q := Nat.le_antisymm hL hge
    refine Nat.mul_le_mul ?_ (by rw [e]; exact Nat.le_refl _)
    unfold nearR
    rw [e]
    exact rnd_mono (Nat.mul_pos hq (two_pos _)) (Nat.mul_le_mul_right _ hab)
/-- A number whose 16 binary digits are all there is rounded to itself. -/
theorem nearV_exact {a q t : Nat} (hq : 0 < q) (ht : a * 65536 = t * 2 ^ nearL a q * q) : nearV a q = t * 2 ^ nearL a q := by
  unfold nearV nearR
  rw [ht, Nat.mul_assoc, Nat.mul_comm (2 ^ nearL a q) q, rnd_exact _ _ (Nat.mul_pos hq (two_pos _))]
/-- The model's quotients of a number times a power of two: when they have 16 binary digits at most. -/
theorem quot_fits {a q k : Nat} (hq : 0 < q) (h : a / q < 2 ^ 64) (hk : k ≤ 16) : a * 2 ^ k / q ≤ 65535 ↔ nearL a q + k ≤ 16 := by
  have e : (65536 : Nat) = 2 ^ (16 - k) * 2 ^ k := by rw [← Nat.pow_add, show 16 - k + k = 16 by omega]
  have h1 : a * 2 ^ k / q ≤ 65535 ↔ a * 2 ^ k / q < 65536 := by omega
  rw [h1, Nat.div_lt_iff_lt_mul hq, e, Nat.mul_right_comm, Nat.mul_lt_mul_right (two_pos k), ← Nat.div_lt_iff_lt_mul hq, ← bitLen_le_iff _ _ h]
  show nearL a q ≤ 16 - k ↔ _
  omega
/-- The program's quotient. -/
theorem nearR_down {a p k : Nat} (hL : p + nearL a (10 ^ p) = 16 + k) : nearR a (10 ^ p) = rnd a (5 ^ p * 2 ^ k) := by
  unfold nearR
  rw [show (10 : Nat) ^ p = 5 ^ p * 2 ^ p by rw [← Nat.mul_pow], Nat.mul_assoc, ← Nat.pow_add]
  rw [show (10 : Nat) ^ p = 5 ^ p * 2 ^ p by rw [← Nat.mul_pow]] at hL
  rw [hL, Nat.add_comm, Nat.pow_add, ← Nat.mul_assoc, show (2 : Nat) ^ 16 = 65536 from rfl, rnd_scale _ _ _ (by decide)]
theorem nearR_up {a p k : Nat} (hL : p + nearL a (10 ^ p) + k = 16) : nearR a (10 ^ p) = rnd (a * 2 ^ k) (5 ^ p) := by
  unfold nearR
  rw [show (10 : Nat) ^ p = 5 ^ p * 2 ^ p by rw [← Nat.mul_pow], Nat.mul_assoc, ← Nat.pow_add]
  rw [show (10 : Nat) ^ p = 5 ^ p * 2 ^ p by rw [← Nat.mul_pow]] at hL
  generalize p + nearL a (5 ^ p * 2 ^ p) = j at *
  rw [show (65536 : Nat) = 2 ^ k * 2 ^ j by rw [← Nat.pow_add, show k + j = 16 by omega], ← Nat.mul_assoc, rnd_scale _ _ _ (two_pos j)]
/-- The model's two ways. -/
theorem nearR_low {a q k : Nat} (hL : nearL a q + k = 16) : nearR a q = rnd (a * 2 ^ k) q := by
  unfold nearR
  generalize nearL a q = j at *
  rw [show (65536 : Nat) = 2 ^ k * 2 ^ j by rw [← Nat.pow_add, show k + j = 16 by omega], ← Nat.mul_assoc, rnd_scale _ _ _ (two_pos j)]
theorem nearR_high {a q k : Nat} (hL : nearL a q = 16 + k) : nearR a q = rnd a (q * 2 ^ k) := by
  unfold nearR
  rw [hL, Nat.pow_add, Nat.mul_comm (2 ^ 16), ← Nat.mul_assoc, show (2 : Nat) ^ 16 = 65536 from rfl, rnd_scale _ _ _ (by decide)]
theorem high_div (a q k : Nat) : a / (q * 2 ^ k) = a / q / 2 ^ k := (Nat.div_div_eq_div_mul a q _).symm
theorem high_mod (a q k : Nat) : a % (q * 2 ^ k) = a % q + q * (a / q % 2 ^ k) := Nat.mod_mul
/-- A floating-point number's form. -/
def fltOk (m e : Int) : Bool := if m = 0 then decide (e = 0) else decide (m.tmod 2 ≠ 0 ∧ -16 ≤ e ∧ m.natAbs ≤ 65535 ∧ m.natAbs * 2 ^ (e - 30).toNat ≤ 65535)
def fltIn (m e : Int) : Prop := m.natAbs ≤ 1000000000000000 ∧ -100 ≤ e ∧ e ≤ 100
def sameF (m e M E : Int) : Prop := m * 2 ^ (e + 200).toNat = M * 2 ^ (E + 200).toNat
theorem two_lt {k n : Nat} (h : 2 ^ k < 2 ^ n) : k < n := (Nat.pow_lt_pow_iff_right (by decide)).1 h
theorem fltOk_range {m e : Int} (h : fltOk m e = true) : -16 ≤ e ∧ e ≤ 45 ∧ m.natAbs ≤ 65535 ∧ (m = 0 → e = 0) ∧ (m ≠ 0 → m.tmod 2 ≠ 0 ∧ m.natAbs * 2 ^ (e - 30).toNat ≤ 65535) := by
  unfold fltOk at h
  by_cases hm : m = 0
  · rw [if_pos hm, decide_eq_true_eq] at h
    exact ⟨by omega, by omega, by omega, fun _ => h, fun k => absurd hm k⟩
  · rw [if_neg hm, decide_eq_true_eq] at h
    obtain ⟨h1, h2, h3, h4⟩ := h
    have h5 : 2 ^ (e - 30).toNat ≤ m.natAbs * 2 ^ (e - 30).toNat := Nat.le_mul_of_pos_left _ (by omega)
    have h6 : 2 ^ (e - 30).toNat < 2 ^ 16 := Nat.lt_of_le_of_lt (Nat.le_trans h5 h4) (by decide)
    have h7 := two_lt h6
    exact ⟨h2, by omega, h3, fun k => absurd k hm, fun _ => ⟨h1, h4⟩⟩
theorem fltOk_zero : fltOk 0 0 = true := by decide
theorem fltOk_of {m e : Int} (h1 : m.tmod 2 ≠ 0) (h2 : -16 ≤ e) (h3 : m.natAbs ≤ 65535) (h4 : m.natAbs * 2 ^ (e - 30).toNat ≤ 65535) : fltOk m e = true := by
  unfold fltOk
  rw [if_neg (by rintro rfl; exact h1 rfl), decide_eq_true_eq]
  exact ⟨h1, h2, h3, h4⟩
theorem twoI_ne (k : Nat) : (2 : Int) ^ k ≠ 0 := Int.pow_ne_zero (by decide)
theorem sameF_le {m e M E : Int} (he : -200 ≤ e) (h : e ≤ E) : sameF m e M E ↔ m = M * 2 ^ (E - e).toNat := by
  unfold sameF
  rw [show (E + 200).toNat = (E - e).toNat + (e + 200).toNat by omega, Int.pow_add, ← Int.mul_assoc]
  exact ⟨fun k => Int.eq_of_mul_eq_mul_right (twoI_ne _) k, fun k => by rw [k]⟩
theorem sameF_comm {m e M E : Int} (h : sameF m e M E) : sameF M E m e := h.symm
theorem sameF_refl (m e : Int) : sameF m e m e := rfl
theorem sameF_trans {a x b y c z : Int} (h : sameF a x b y) (k : sameF b y c z) : sameF a x c z := Eq.trans h k
theorem sameF_16 {m e M E : Int} (he : -16 ≤ e) (hE : -16 ≤ E) : sameF m e M E ↔ m * 2 ^ (e + 16).toNat = M * 2 ^ (E + 16).toNat := by
  unfold sameF
  rw [show (e + 200).toNat = (e + 16).toNat + 184 by omega, show (E + 200).toNat = (E + 16).toNat + 184 by omega, Int.pow_add, Int.pow_add, ← Int.mul_assoc, ← Int.mul_assoc]
  exact ⟨fun k => Int.eq_of_mul_eq_mul_right (twoI_ne _) k, fun k => by rw [k]⟩
theorem even_mul (N : Int) (k : Nat) : (N * 2 ^ (k + 1)).tmod 2 = 0 := by
  rw [Int.pow_succ, ← Int.mul_assoc]
  exact Int.mul_tmod_left _ _
theorem sameF_final {m e M E : Int} (h0 : -100 ≤ e) (hm : m.tmod 2 ≠ 0) (hv : fltOk M E = true) (h : sameF m e M E) : M = m ∧ E = e := by
  obtain ⟨r0, r1, r2, r3, r4⟩ := fltOk_range hv
  have hM : M ≠ 0 := by
    rintro rfl
    unfold sameF at h
    rw [Int.zero_mul, Int.mul_eq_zero] at h
    rcases h with rfl | h
    · exact hm rfl
    · exact twoI_ne _ h
  rcases Int.lt_trichotomy e E with hlt | heq | hgt
  · have k := (sameF_le (by omega) (by omega)).1 h
    obtain ⟨j, hj⟩ : ∃ j, (E - e).toNat = j + 1 := ⟨(E - e).toNat - 1, by omega⟩
    rw [hj] at k
    exact absurd (by rw [k]; exact even_mul M j) hm
  · subst heq
    have k := (sameF_le (by omega) (Int.le_refl _)).1 h
    rw [show (e - e).toNat = 0 by omega] at k
    exact ⟨by omega, rfl⟩
  · have k := (sameF_le (by omega) (by omega)).1 (sameF_comm h)
    obtain ⟨j, hj⟩ : ∃ j, (e - E).toNat = j + 1 := ⟨(e - E).toNat - 1, by omega⟩
    rw [hj] at k
    exact absurd (by rw [k]; exact even_mul m j) (r4 hM).1
theorem flt_uniq {m e M E : Int} (hv : fltOk m e = true) (hw : fltOk M E = true) (h : sameF m e M E) : M = m ∧ E = e := by
  obtain ⟨r0, r1, r2, r3, r4⟩ := fltOk_range hv
  by_cases hm : m = 0
  · subst hm
    have hM : M = 0 := by
      have h' := h.symm
      rw [Int.zero_mul, Int.mul_eq_zero] at h'
      rcases h' with h' | h'
      · exact h'
      · exact absurd h' (twoI_ne _)
    subst hM
    exact ⟨rfl, by rw [(fltOk_range hw).2.2.2.1 rfl, r3 rfl]⟩
  · exact sameF_final (by omega) (r4 hm).1 hw h
/-- What FltNew returns. -/
def IsFlt (m e M E : Int) (ok : Bool) : Prop :=
  (ok = true ∧ fltIn m e ∧ fltOk M E = true ∧ sameF m e M E) ∨ (ok = false ∧ M = 0 ∧ E = 0 ∧ ∀ M' E', fltIn m e → fltOk M' E' = true → sameF m e M' E' → False)
theorem isFlt_uniq {m e M E M' E' : Int} {a b : Bool} (h : IsFlt m e M E a) (k : IsFlt m e M' E' b) : M' = M ∧ E' = E ∧ b = a := by
  rcases h with ⟨rfl, hi, hv, hs⟩ | ⟨rfl, rfl, rfl, hn⟩
  · rcases k with ⟨rfl, _, kv, ks⟩ | ⟨rfl, rfl, rfl, kn⟩
    · have := flt_uniq hv kv (sameF_trans (sameF_comm hs) ks)
      exact ⟨this.1, this.2, rfl⟩
    · exact (kn _ _ hi hv hs).elim
  · rcases k with ⟨rfl, ki, kv, ks⟩ | ⟨rfl, rfl, rfl, kn⟩
    · exact (hn _ _ ki kv ks).elim
    · exact ⟨rfl, rfl, rfl⟩
theorem isFlt_out {m e : Int} (h : ¬ fltIn m e) : IsFlt m e 0 0 false := .inr ⟨rfl, rfl, rfl, fun _ _ hi _ _ => h hi⟩
theorem isFlt_zero {e : Int} (h : fltIn 0 e) : IsFlt 0 e 0 0 true := .inl ⟨rfl, h, fltOk_zero, by unfold sameF; rw [Int.zero_mul, Int.zero_mul]⟩
theorem isFlt_yes {m e M E : Int} (hi : fltIn m e) (hs : sameF m e M E) (h : fltOk M E = true) : IsFlt m e M E true := .inl ⟨rfl, hi, h, hs⟩
theorem isFlt_no {m e M E : Int} (hs : sameF m e M E) (h0 : -100 ≤ E) (hm : M.tmod 2 ≠ 0) (h : fltOk M E = false) : IsFlt m e 0 0 false := by
  refine .inr ⟨rfl, rfl, rfl, fun N X _ hv hk => ?_⟩
  obtain ⟨rfl, rfl⟩ := sameF_final h0 hm hv (sameF_trans (sameF_comm hs) hk)
  rw [h] at hv; cases hv
theorem isFlt_move {m e m' e' M E : Int} {ok : Bool} (hs : sameF m e m' e') (hi : fltIn m e) (hj : fltIn m' e') (h : IsFlt m e M E ok) : IsFlt m' e' M E ok := by
  rcases h with ⟨rfl, _, hv, hk⟩ | ⟨rfl, rfl, rfl, hn⟩
  · exact .inl ⟨rfl, hj, hv, sameF_trans (sameF_comm hs) hk⟩
  · exact .inr ⟨rfl, rfl, rfl, fun _ _ _ hv hk => hn _ _ hi hv (sameF_trans hs hk)⟩
theorem isFlt_ok {m e M E : Int} (h : IsFlt m e M E true) : fltOk M E = true ∧ sameF m e M E := by
  rcases h with ⟨_, _, h, k⟩ | ⟨h, _⟩
  · exact ⟨h, k⟩
  · cases h
theorem isFlt_bad {m e M E : Int} (h : IsFlt m e M E false) : M = 0 ∧ E = 0 := by
  rcases h with ⟨h, _⟩ | ⟨_, h, k, _⟩
  · cases h
  · exact ⟨h, k⟩
theorem isFlt_okAll {m e M E : Int} {ok : Bool} (h : IsFlt m e M E ok) : fltOk M E = true := by
  cases ok
  · obtain ⟨rfl, rfl⟩ := isFlt_bad h; exact fltOk_zero
  · exact (isFlt_ok h).1
/-- Every valid number is below two to the power of 46. -/
theorem flt_small {m e : Int} (h : fltOk m e = true) (he : 0 ≤ e) : m.natAbs * 2 ^ e.toNat < 70368744177664 := by
  obtain ⟨r0, r1, r2, r3, r4⟩ := fltOk_range h
  by_cases hm : m = 0
  · subst hm; simp
  · have h1 := (r4 hm).2
    have h2 : 2 ^ e.toNat ≤ 2 ^ (e - 30).toNat * 2 ^ 30 := by
      rw [← Nat.pow_add]; exact Nat.pow_le_pow_right (by decide) (by omega)
    have h3 : m.natAbs * 2 ^ e.toNat ≤ m.natAbs * (2 ^ (e - 30).toNat * 2 ^ 30) := Nat.mul_le_mul_left _ h2
    rw [← Nat.mul_assoc] at h3
    have h4 : m.natAbs * 2 ^ (e - 30).toNat * 2 ^ 30 ≤ 65535 * 2 ^ 30 := Nat.mul_le_mul_right _ h1
    omega
theorem isFlt_big {m e : Int} (he : 0 ≤ e) (hb : 70368744177664 ≤ m.natAbs * 2 ^ e.toNat) : IsFlt m e 0 0 false := by
  refine .inr ⟨rfl, rfl, rfl, fun M E _ hv hk => ?_⟩
  obtain ⟨r0, r1, r2, r3, r4⟩ := fltOk_range hv
  have hk := (sameF_16 (by omega) r0).1 hk
  have h1 : m.natAbs * 2 ^ (e + 16).toNat = M.natAbs * 2 ^ (E + 16).toNat := by
    have := congrArg Int.natAbs hk
    rwa [Int.natAbs_mul, Int.natAbs_mul, Int.natAbs_pow, Int.natAbs_pow] at this
  rw [show (e + 16).toNat = e.toNat + 16 by omega, Nat.pow_add, ← Nat.mul_assoc] at h1
  have h2 := Nat.mul_le_mul_right (2 ^ 16) hb
  rw [h1] at h2
  by_cases hE : 0 ≤ E
  · have h3 := flt_small hv hE
    rw [show (E + 16).toNat = E.toNat + 16 by omega, Nat.pow_add, ← Nat.mul_assoc] at h2
    have := Nat.le_of_mul_le_mul_right h2 (by decide)
    omega
  · have h3 : 2 ^ (E + 16).toNat ≤ 2 ^ 16 := Nat.pow_le_pow_right (by decide) (by omega)
    have h4 := Nat.mul_le_mul r2 h3
    omega
/-- FltDec's fields. -/
def decFN (m e : Int) : Int := if fltOk m e = true then (if 0 ≤ e then m * 2 ^ e.toNat else m * 5 ^ (-e).toNat) else 0
def decFX (m e : Int) : Int := if fltOk m e = true then (if 0 ≤ e then 0 else e) else 0
def decV (n x : Int) : Int := n * 10 ^ (16 + x).toNat
theorem decF_bad {m e : Int} (h : fltOk m e = false) : decFN m e = 0 ∧ decFX m e = 0 := by
  unfold decFN decFX; rw [h]; exact ⟨rfl, rfl⟩
theorem decF_high {m e : Int} (h : fltOk m e = true) (he : 0 ≤ e) : decFN m e = m * 2 ^ e.toNat ∧ decFX m e = 0 := by
  unfold decFN decFX; rw [h, if_pos rfl, if_pos rfl, if_pos he, if_pos he]; exact ⟨rfl, rfl⟩
theorem decF_low {m e : Int} (h : fltOk m e = true) (he : e < 0) : decFN m e = m * 5 ^ (-e).toNat ∧ decFX m e = e := by
  unfold decFN decFX; rw [h, if_pos rfl, if_pos rfl, if_neg (by omega), if_neg (by omega)]; exact ⟨rfl, rfl⟩
theorem odd_five {m : Int} (h : m.tmod 2 ≠ 0) (k : Nat) : (m * 5 ^ k).tmod 10 ≠ 0 := by
  intro h10
  have h2 : (2 : Int) ∣ m * 5 ^ k := Int.dvd_trans (by decide : (2 : Int) ∣ 10) (Int.dvd_of_tmod_eq_zero h10)
  have h3 : m * 5 ^ k % 2 = 0 := Int.emod_eq_zero_of_dvd h2
  have h4 : (5 : Int) ^ k % 2 = 1 := by
    induction k with
    | zero => rfl
    | succ k ih =>
      have : (5 : Int) ^ k % 2 = 1 := by
        clear h10 h2 h3
        clear ih
        induction k with
        | zero => rfl
        | succ k ih => rw [Int.pow_succ, Int.mul_emod, ih]; rfl
      rw [Int.pow_succ, Int.mul_emod, this]; rfl
  have h5 : m % 2 = 1 := by
    have : m % 2 ≠ 0 := fun h0 => h (Int.tmod_eq_zero_of_dvd (Int.dvd_of_emod_eq_zero h0))
    omega
  rw [Int.mul_emod, h4, h5] at h3
  cases h3
theorem five_le {m e : Int} (h : fltOk m e = true) (he : e < 0) : m.natAbs * 5 ^ (-e).toNat < 100000000000000000 := by
  obtain ⟨r0, r1, r2, r3, r4⟩ := fltOk_range h
  have h1 : 5 ^ (-e).toNat ≤ 5 ^ 16 := Nat.pow_le_pow_right (by decide) (by omega)
  have h2 := Nat.mul_le_mul r2 h1
  omega
theorem decF_ok (m e : Int) : decOk (decFN m e) (decFX m e) = true := by
  cases hv : fltOk m e
  · rw [(decF_bad hv).1, (decF_bad hv).2]; exact decOk_zero (by decide) (by decide)
  · by_cases he : 0 ≤ e
    · rw [(decF_high hv he).1, (decF_high hv he).2]
      have h1 := flt_small hv he
      have h2 : (m * 2 ^ e.toNat).natAbs = m.natAbs * 2 ^ e.toNat := by rw [Int.natAbs_mul, Int.natAbs_pow]; rfl
      exact decOk_zero (by omega) (by omega)
    · rw [(decF_low hv (by omega)).1, (decF_low hv (by omega)).2]
      obtain ⟨r0, r1, r2, r3, r4⟩ := fltOk_range hv
      have hm : m ≠ 0 := fun h => by have := r3 h; omega
      refine decOk_neg r0 (by omega) ((digV_17 _).2 ?_) (odd_five (r4 hm).1 _)
      rw [Int.natAbs_mul, Int.natAbs_pow]; exact five_le hv (by omega)
theorem decF_val {m e : Int} (h : fltOk m e = true) : decV (decFN m e) (decFX m e) = m * 2 ^ (e + 16).toNat * 152587890625 := by
  obtain ⟨r0, r1, r2, r3, r4⟩ := fltOk_range h
  unfold decV
  by_cases he : 0 ≤ e
  · rw [(decF_high h he).1, (decF_high h he).2, show (16 + (0 : Int)).toNat = 16 from rfl, show (e + 16).toNat = e.toNat + 16 by omega, Int.pow_add, Int.mul_assoc, Int.mul_assoc, Int.mul_assoc]; rfl
  · rw [(decF_low h (by omega)).1, (decF_low h (by omega)).2, show (16 + e).toNat = (e + 16).toNat by omega]
    obtain ⟨k, hk⟩ : ∃ k, (e + 16).toNat = k := ⟨_, rfl⟩
    obtain ⟨j, hj⟩ : ∃ j, (-e).toNat = j := ⟨_, rfl⟩
    rw [hk, hj, show (152587890625 : Int) = 5 ^ j * 5 ^ k by rw [← Int.pow_add, show j + k = 16 by omega]; rfl, show (10 : Int) ^ k = 5 ^ k * 2 ^ k by rw [← Int.mul_pow]; rfl]
    generalize (5 : Int) ^ j = a
    generalize (5 : Int) ^ k = b
    generalize (2 : Int) ^ k = c
    rw [Int.mul_assoc, Int.mul_assoc, ← Int.mul_assoc a, Int.mul_comm (a * b)]
theorem decF_inj {m e M E : Int} (h : fltOk m e = true) (k : fltOk M E = true) (hN : decFN m e = decFN M E) (hX : decFX m e = decFX M E) : M = m ∧ E = e := by
  have h1 := decF_val h
  rw [hN, hX, decF_val k] at h1
  exact flt_uniq h k ((sameF_16 (fltOk_range h).1 (fltOk_range k).1).2 (Int.eq_of_mul_eq_mul_right (by decide) h1).symm)
/-- The order of decimal numbers is that of their values. -/
theorem decV_parts {n x : Int} (h0 : -16 ≤ x) (h1 : x ≤ 0) : hiV n x * 10000000000000000 + loV n x = decV n x ∧ -10000000000000000 < loV n x ∧ loV n x < 10000000000000000 ∧ (0 ≤ decV n x → 0 ≤ hiV n x ∧ 0 ≤ loV n x) ∧ (decV n x ≤ 0 → hiV n x ≤ 0 ∧ loV n x ≤ 0) := by
  have e := hi_lo (n := n) h0 h1
  have hq : (0 : Int) < 10 ^ (-x).toNat := Int.pow_pos (by decide)
  have hr : (0 : Int) < 10 ^ (16 + x).toNat := Int.pow_pos (by decide)
  have hqr : (10 : Int) ^ (-x).toNat * 10 ^ (16 + x).toNat = 10000000000000000 := by rw [← Int.pow_add, show (-x).toNat + (16 + x).toNat = 16 by omega]; rfl
  have k1 : n.tmod (10 ^ (-x).toNat) < 10 ^ (-x).toNat := Int.tmod_lt_of_pos _ hq
  have k2 : -(10 ^ (-x).toNat) < n.tmod (10 ^ (-x).toNat) := by
    have := Int.tmod_lt_of_pos (-n) hq
    rw [Int.neg_tmod] at this; omega
  have k3 : n.tmod (10 ^ (-x).toNat) * 10 ^ (16 + x).toNat < 10 ^ (-x).toNat * 10 ^ (16 + x).toNat := Int.mul_lt_mul_of_pos_right k1 hr
  have k4 : -(10 ^ (-x).toNat) * 10 ^ (16 + x).toNat < n.tmod (10 ^ (-x).toNat) * 10 ^ (16 + x).toNat := Int.mul_lt_mul_of_pos_right k2 hr
  rw [Int.neg_mul] at k4
  rw [hqr] at k3 k4
  refine ⟨e, k4, k3, fun h => ?_, fun h => ?_⟩
  · have hn : 0 ≤ n := by
      rcases (show n < 0 ∨ 0 ≤ n by omega) with hlt | hge
      · have := Int.mul_neg_of_neg_of_pos hlt hr
        unfold decV at h; omega
      · exact hge
    exact ⟨Int.tdiv_nonneg hn (Int.le_of_lt hq), Int.mul_nonneg (Int.tmod_nonneg _ hn) (Int.le_of_lt hr)⟩
  · have hn : n ≤ 0 := by
      rcases (show 0 < n ∨ n ≤ 0 by omega) with hlt | hge
      · have := Int.mul_pos hlt hr
        unfold decV at h; omega
      · exact hge
    have h1 := Int.tdiv_nonneg (a := -n) (by omega) (Int.le_of_lt hq)
    have h2 := Int.tmod_nonneg (a := -n) (10 ^ (-x).toNat) (by omega)
    rw [Int.neg_tdiv] at h1
    rw [Int.neg_tmod] at h2
    have h3 := Int.mul_nonneg h2 (Int.le_of_lt hr)
    rw [Int.neg_mul] at h3
    unfold hiV loV
    exact ⟨by omega, by omega⟩
theorem less_val {n x N X : Int} (hv : decOk n x = true) (hw : decOk N X = true) : lessB n x N X = true ↔ decV n x < decV N X := by
  obtain ⟨r0, r1, _⟩ := decOk_range hv
  obtain ⟨s0, s1, _⟩ := decOk_range hw
  obtain ⟨a1, a2, a3, a4, a5⟩ := decV_parts (n := n) r0 r1
  obtain ⟨b1, b2, b3, b4, b5⟩ := decV_parts (n := N) s0 s1
  unfold lessB
  rw [hv, hw]
  simp only [Bool.true_and, Bool.or_eq_true, Bool.and_eq_true, decide_eq_true_eq, beq_iff_eq]
  generalize hiV n x = p at *
  generalize loV n x = q at *
  generalize hiV N X = P at *
  generalize loV N X = Q at *
  generalize decV n x = v at *
  generalize decV N X = V at *
  omega
/-- What LessFlt returns. -/
def lessF (m e M E : Int) : Bool := fltOk m e && fltOk M E && lessB (decFN m e) (decFX m e) (decFN M E) (decFX M E)
theorem lessF_val {m e M E : Int} (h : fltOk m e = true) (k : fltOk M E = true) : lessF m e M E = true ↔ m * 2 ^ (e + 16).toNat < M * 2 ^ (E + 16).toNat := by
  unfold lessF
  rw [h, k, Bool.true_and, Bool.true_and, less_val (decF_ok _ _) (decF_ok _ _), decF_val h, decF_val k]
  constructor
  · exact fun h => Int.lt_of_mul_lt_mul_right h (by decide)
  · exact fun h => Int.mul_lt_mul_of_pos_right h (by decide)
theorem lessF_tri {m e M E : Int} (h : fltOk m e = true) (k : fltOk M E = true) : ((lessF m e M E || lessF M E m e) = true) ↔ ¬ (m = M ∧ e = E) := by
  have a := lessF_val h k
  have b := lessF_val k h
  rw [Bool.or_eq_true, a, b]
  constructor
  · rintro h ⟨rfl, rfl⟩; omega
  · intro hn
    rcases Int.lt_trichotomy (m * 2 ^ (e + 16).toNat) (M * 2 ^ (E + 16).toNat) with hl | he | hg
    · exact .inl hl
    · obtain ⟨rfl, rfl⟩ := flt_uniq h k ((sameF_16 (fltOk_range h).1 (fltOk_range k).1).2 he)
      exact absurd ⟨rfl, rfl⟩ hn
    · exact .inr hg
/-- What NearFlt returns. -/
def nearN (n x : Int) : Int := if n < 0 then -(nearR n.natAbs (10 ^ (-x).toNat) : Int) else nearR n.natAbs (10 ^ (-x).toNat)
def nearE (n x : Int) : Int := (nearL n.natAbs (10 ^ (-x).toNat) : Int) - 16
def IsNear (n x M E : Int) (ok : Bool) : Prop := (decOk n x = true ∧ IsFlt (nearN n x) (nearE n x) M E ok) ∨ (decOk n x = false ∧ M = 0 ∧ E = 0 ∧ ok = false)
theorem isNear_uniq {n x M E M' E' : Int} {a b : Bool} (h : IsNear n x M E a) (k : IsNear n x M' E' b) : M' = M ∧ E' = E ∧ b = a := by
  rcases h with ⟨hv, h⟩ | ⟨hv, rfl, rfl, rfl⟩
  · rcases k with ⟨_, k⟩ | ⟨kv, _⟩
    · exact isFlt_uniq h k
    · rw [hv] at kv; cases kv
  · rcases k with ⟨kv, _⟩ | ⟨_, rfl, rfl, rfl⟩
    · rw [hv] at kv; cases kv
    · exact ⟨rfl, rfl, rfl⟩
theorem isNear_bad {n x M E : Int} (h : IsNear n x M E false) : M = 0 ∧ E = 0 := by
  rcases h with ⟨_, h⟩ | ⟨_, h, k, _⟩
  · exact isFlt_bad h
  · exact ⟨h, k⟩
theorem isNear_ok {n x M E : Int} (h : IsNear n x M E true) : decOk n x = true ∧ fltOk M E = true ∧ sameF (nearN n x) (nearE n x) M E := by
  rcases h with ⟨hv, h⟩ | ⟨_, _, _, h⟩
  · exact ⟨hv, isFlt_ok h⟩
  · cases h
theorem whole_lt {n x : Int} (hv : decOk n x = true) : n.natAbs / 10 ^ (-x).toNat < 18446744073709551616 := by
  obtain ⟨_, _, r2, _⟩ := decOk_range hv
  have := Nat.div_le_self n.natAbs (10 ^ (-x).toNat)
  omega
theorem ten_pos (k : Nat) : 0 < 10 ^ k := Nat.pow_pos (by decide)
/-- The rounded value in units of two to the power of -16, by the value in units of ten to the power of -16. -/
def vNear (v : Int) : Int := if v < 0 then -(nearV v.natAbs 10000000000000000 : Int) else nearV v.natAbs 10000000000000000
theorem near_val {n x : Int} (hv : decOk n x = true) : nearN n x * 2 ^ (nearE n x + 16).toNat = vNear (decV n x) := by
  obtain ⟨r0, r1, _⟩ := decOk_range hv
  have hr : (0 : Int) < 10 ^ (16 + x).toNat := Int.pow_pos (by decide)
  have hA : (decV n x).natAbs = n.natAbs * 10 ^ (16 + x).toNat := by unfold decV; rw [Int.natAbs_mul, Int.natAbs_pow]; rfl
  have hQ : (10000000000000000 : Nat) = 10 ^ (-x).toNat * 10 ^ (16 + x).toNat := by rw [← Nat.pow_add, show (-x).toNat + (16 + x).toNat = 16 by omega]
  have hV : nearV (decV n x).natAbs 10000000000000000 = nearR n.natAbs (10 ^ (-x).toNat) * 2 ^ nearL n.natAbs (10 ^ (-x).toNat) := by
    unfold nearV
    rw [hA, hQ, nearR_scale _ _ _ (ten_pos _), nearL_scale _ _ _ (ten_pos _)]
  unfold vNear
  rw [hV]
  unfold nearN nearE
  rw [show ((nearL n.natAbs (10 ^ (-x).toNat) : Int) - 16 + 16).toNat = nearL n.natAbs (10 ^ (-x).toNat) by omega]
  generalize nearR n.natAbs (10 ^ (-x).toNat) = R
  generalize nearL n.natAbs (10 ^ (-x).toNat) = L
  by_cases hn : n < 0
  · have : decV n x < 0 := Int.mul_neg_of_neg_of_pos hn hr
    rw [if_pos hn, if_pos this, Int.natCast_mul, Int.natCast_pow, Int.neg_mul]; rfl
  · have : ¬ decV n x < 0 := by
      have := Int.mul_nonneg (a := n) (by omega) (Int.le_of_lt hr)
      unfold decV; omega
    rw [if_neg hn, if_neg this, Int.natCast_mul, Int.natCast_pow]; rfl
theorem nearV_zero : nearV 0 10000000000000000 = 0 := by decide +kernel
theorem vNear_mono {v V : Int} (h : v ≤ V) (h0 : v.natAbs / 10000000000000000 < 2 ^ 64) (h1 : V.natAbs / 10000000000000000 < 2 ^ 64) : vNear v ≤ vNear V := by
  unfold vNear
  by_cases hv : v < 0
  · rw [if_pos hv]
    by_cases hV : V < 0
    · rw [if_pos hV]
      have := nearV_mono (q := 10000000000000000) (a := V.natAbs) (b := v.natAbs) (by decide) (by omega) h0
      omega
    · rw [if_neg hV]; omega
  · rw [if_neg hv, if_neg (by omega)]
    have := nearV_mono (q := 10000000000000000) (a := v.natAbs) (b := V.natAbs) (by decide) (by omega) h1
    omega
theorem decV_bound {n x : Int} (hv : decOk n x = true) : (decV n x).natAbs / 10000000000000000 < 2 ^ 64 := by
  obtain ⟨r0, r1, r2, _⟩ := decOk_range hv
  have hA : (decV n x).natAbs = n.natAbs * 10 ^ (16 + x).toNat := by unfold decV; rw [Int.natAbs_mul, Int.natAbs_pow]; rfl
  have hp : 10 ^ (16 + x).toNat ≤ 10 ^ 16 := Nat.pow_le_pow_right (by decide) (by omega)
  have h1 : n.natAbs * 10 ^ (16 + x).toNat ≤ 100000000000000000 * 10 ^ 16 := Nat.mul_le_mul (by omega) hp
  rw [hA]
  generalize n.natAbs * 10 ^ (16 + x).toNat = t at *
  omega
/-- What is less is not rounded to more. -/
theorem near_mono {n x N X M E K J : Int} (h : IsNear n x M E true) (k : IsNear N X K J true) (hl : lessB n x N X = true) : lessF K J M E = false := by
  obtain ⟨hv, hf, hs⟩ := isNear_ok h
  obtain ⟨kv, kf, ks⟩ := isNear_ok k
  have h1 := (less_val hv kv).1 hl
  have h2 := vNear_mono (Int.le_of_lt h1) (decV_bound hv) (decV_bound kv)
  have b1 : -16 ≤ nearE n x := by unfold nearE; omega
  have b2 : -16 ≤ nearE N X := by unfold nearE; omega
  rw [← near_val hv, ← near_val kv, (sameF_16 b1 (fltOk_range hf).1).1 hs, (sameF_16 b2 (fltOk_range kf).1).1 ks] at h2
  rw [Bool.eq_false_iff]
  intro hc
  have := (lessF_val kf hf).1 hc
  omega
/-- Rounding keeps the sign. -/
theorem near_sign {n x M E : Int} (h : IsNear n x M E true) : (0 < n → 0 ≤ M) ∧ (n < 0 → M ≤ 0) := by
  obtain ⟨hv, hf, hs⟩ := isNear_ok h
  unfold sameF at hs
  have p1 : (0 : Int) < 2 ^ (nearE n x + 200).toNat := Int.pow_pos (by decide)
  have p2 : (0 : Int) < 2 ^ (E + 200).toNat := Int.pow_pos (by decide)
  constructor
  · intro hn
    have h0 : 0 ≤ nearN n x := by unfold nearN; rw [if_neg (by omega)]; omega
    have := Int.mul_nonneg h0 (Int.le_of_lt p1)
    rw [hs] at this
    rcases (show M < 0 ∨ 0 ≤ M by omega) with hlt | hge
    · have := Int.mul_neg_of_neg_of_pos hlt p2; omega
    · exact hge
  · intro hn
    have h0 : 0 ≤ -nearN n x := by unfold nearN; rw [if_pos hn]; omega
    have := Int.mul_nonneg h0 (Int.le_of_lt p1)
    rw [Int.neg_mul, hs] at this
    rcases (show 0 < M ∨ M ≤ 0 by omega) with hlt | hge
    · have := Int.mul_pos hlt p2; omega
    · exact hge
theorem near_in {n x : Int} (hv : decOk n x = true) : fltIn (nearN n x) (nearE n x) := by
  have hw := whole_lt hv
  have h1 := nearR_le (ten_pos (-x).toNat) hw
  have h2 : nearL n.natAbs (10 ^ (-x).toNat) ≤ 64 := (bitLen_le_iff 64 _ hw).2 hw
  unfold fltIn nearN nearE
  refine ⟨?_, by omega, by omega⟩
  split <;> omega
/-- A floating-point number is the nearest one to itself. -/
theorem near_self {m e : Int} (h : fltOk m e = true) : IsNear (decFN m e) (decFX m e) m e true := by
  have hd := decF_ok m e
  refine .inl ⟨hd, .inl ⟨rfl, near_in hd, h, ?_⟩⟩
  obtain ⟨r0, r1, r2, _⟩ := fltOk_range h
  have b1 : -16 ≤ nearE (decFN m e) (decFX m e) := by unfold nearE; omega
  refine (sameF_16 b1 r0).2 ?_
  rw [near_val hd]
  have hb := decV_bound hd
  rw [decF_val h] at hb ⊢
  obtain ⟨k, hk⟩ : ∃ k, (e + 16).toNat = k := ⟨_, rfl⟩
  rw [hk] at hb ⊢
  have hA : (m * 2 ^ k * 152587890625).natAbs = m.natAbs * 2 ^ k * 152587890625 := by rw [Int.natAbs_mul, Int.natAbs_mul, Int.natAbs_pow]; rfl
  rw [hA] at hb
  have hV : nearV (m.natAbs * 2 ^ k * 152587890625) 10000000000000000 = m.natAbs * 2 ^ k := by
    have hL : nearL (m.natAbs * 2 ^ k * 152587890625) 10000000000000000 ≤ k := by
      refine (bitLen_le_iff k _ hb).2 ?_
      rw [Nat.div_lt_iff_lt_mul (by decide)]
      have h1 := Nat.mul_lt_mul_of_pos_right (show m.natAbs < 65536 by omega) (two_pos k)
      omega
    obtain ⟨j, hj⟩ : ∃ j, k = j + nearL (m.natAbs * 2 ^ k * 152587890625) 10000000000000000 := ⟨k - nearL (m.natAbs * 2 ^ k * 152587890625) 10000000000000000, by omega⟩
    have e1 : m.natAbs * 2 ^ k = m.natAbs * 2 ^ j * 2 ^ nearL (m.natAbs * 2 ^ k * 152587890625) 10000000000000000 := by
      rw [Nat.mul_assoc, ← Nat.pow_add, ← hj]
    rw [nearV_exact (t := m.natAbs * 2 ^ j) (by decide) (by rw [← e1]; omega), ← e1]
  have hp : (0 : Int) < 2 ^ k := Int.pow_pos (by decide)
  have hN : ((m.natAbs * 2 ^ k : Nat) : Int) = (m.natAbs : Int) * 2 ^ k := by rw [Int.natCast_mul, Int.natCast_pow]; rfl
  unfold vNear
  rw [hA, hV, hN]
  by_cases hm : m < 0
  · have : m * 2 ^ k < 0 := Int.mul_neg_of_neg_of_pos hm hp
    rw [if_pos (by omega), show (m.natAbs : Int) = -m by omega, Int.neg_mul, Int.neg_neg]
  · have := Int.mul_nonneg (a := m) (by omega) (Int.le_of_lt hp)
    rw [if_neg (by omega), show (m.natAbs : Int) = m by omega]
/-- FltNew's loop: the twos taken off a number. -/
def Strip (m e M E : Int) : Prop := M ≠ 0 ∧ e ≤ E ∧ m = M * 2 ^ (E - e).toNat
theorem strip_start {m e : Int} (h : m ≠ 0) : Strip m e m e := ⟨h, Int.le_refl _, by rw [show (e - e).toNat = 0 by omega]; omega⟩
theorem strip_half {M : Int} (ht : M.tmod 2 = 0) : M.tdiv 2 * 2 = M := by have := Int.tmod_add_mul_tdiv M 2; omega
theorem strip_step {m e M E : Int} (h : Strip m e M E) (ht : M.tmod 2 = 0) : Strip m e (M.tdiv 2) (E + 1) := by
  obtain ⟨h1, h2, h3⟩ := h
  have e1 := strip_half ht
  refine ⟨by omega, by omega, ?_⟩
  rw [show (E + 1 - e).toNat = (E - e).toNat + 1 by omega, Int.pow_succ, Int.mul_comm _ 2, ← Int.mul_assoc, e1]
  exact h3
theorem strip_bound {m e M E : Int} (h : Strip m e M E) (hm : m.natAbs ≤ 1000000000000000) : M.natAbs ≤ 1000000000000000 ∧ E ≤ e + 50 := by
  obtain ⟨h1, h2, h3⟩ := h
  have h4 : m.natAbs = M.natAbs * 2 ^ (E - e).toNat := by rw [h3, Int.natAbs_mul, Int.natAbs_pow]; rfl
  have h5 : M.natAbs ≤ M.natAbs * 2 ^ (E - e).toNat := Nat.le_mul_of_pos_right _ (two_pos _)
  have h6 : 2 ^ (E - e).toNat ≤ M.natAbs * 2 ^ (E - e).toNat := Nat.le_mul_of_pos_left _ (by omega)
  have h7 : 2 ^ (E - e).toNat < 2 ^ 50 := by omega
  have := two_lt h7
  omega
theorem strip_less {M : Int} (h : M ≠ 0) (ht : M.tmod 2 = 0) : (M.tdiv 2).natAbs < M.natAbs := by have := strip_half ht; omega
theorem strip_same {m e M E : Int} (h : Strip m e M E) (he : -100 ≤ e) : sameF m e M E := (sameF_le (by omega) h.2.1).2 h.2.2
end Go.Proofs.YtilgncebhgplaaaDoor
/- The bits of a number in binary: plain facts. No program. -/
namespace Go.Proofs.YtilgncebhgplaaaDoor
def fltBits (m e : Int) : Int := if fltOk m e = true then (if m < 0 then 16777216 + 65536 * (e + 16) - m else 65536 * (e + 16) + m) else -1
def bitsM (n : Int) : Int := if n ≥ 16777216 then -(n.tmod 65536) else n.tmod 65536
def bitsE (n : Int) : Int := (n.tdiv 65536).tmod 256 - 16
theorem fltBits_no {m e : Int} (h : fltOk m e = false) : fltBits m e = -1 := by unfold fltBits; rw [h]; rfl
theorem bits_back {m e : Int} (h : fltOk m e = true) : 0 ≤ fltBits m e ∧ fltBits m e < 33554432 ∧ bitsM (fltBits m e) = m ∧ bitsE (fltBits m e) = e ∧ fltIn m e := by
  obtain ⟨h1, h2, h3, _⟩ := fltOk_range h
  unfold fltBits
  rw [if_pos h]
  have hin : fltIn m e := ⟨by omega, by omega, by omega⟩
  by_cases hm : m < 0
  · rw [if_pos hm]
    have q : ∀ n : Int, 0 ≤ n → n.tmod 65536 = n % 65536 ∧ n.tdiv 65536 = n / 65536 := fun n hn => ⟨Int.tmod_eq_emod_of_nonneg hn, Int.tdiv_eq_ediv_of_nonneg hn⟩
    obtain ⟨q1, q2⟩ := q (16777216 + 65536 * (e + 16) - m) (by omega)
    have q3 : ((16777216 + 65536 * (e + 16) - m) / 65536).tmod 256 = (16777216 + 65536 * (e + 16) - m) / 65536 % 256 := Int.tmod_eq_emod_of_nonneg (by omega)
    refine ⟨by omega, by omega, ?_, ?_, hin⟩
    · unfold bitsM; rw [if_pos (by omega), q1]; omega
    · unfold bitsE; rw [q2, q3]; omega
  · rw [if_neg hm]
    have q : ∀ n : Int, 0 ≤ n → n.tmod 65536 = n % 65536 ∧ n.tdiv 65536 = n / 65536 := fun n hn => ⟨Int.tmod_eq_emod_of_nonneg hn, Int.tdiv_eq_ediv_of_nonneg hn⟩
    obtain ⟨q1, q2⟩ := q (65536 * (e + 16) + m) (by omega)
    have q3 : ((65536 * (e + 16) + m) / 65536).tmod 256 = (65536 * (e + 16) + m) / 65536 % 256 := Int.tmod_eq_emod_of_nonneg (by omega)
    refine ⟨by omega, by omega, ?_, ?_, hin⟩
    · unfold bitsM; rw [if_neg (by omega), q1]; omega
    · unfold bitsE; rw [q2, q3]; omega
theorem bits_new {m e : Int} (h : fltOk m e = true) : IsFlt (bitsM (fltBits m e)) (bitsE (fltBits m e)) m e true := by
  obtain ⟨_, _, h1, h2, h3⟩ := bits_back h
  rw [h1, h2]
  exact isFlt_yes h3 (sameF_refl m e) h
end Go.Proofs.YtilgncebhgplaaaDoor
