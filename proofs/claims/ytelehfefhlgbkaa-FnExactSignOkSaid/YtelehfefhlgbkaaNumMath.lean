/- Plain facts on decimal numerals: what a numeral spells is the number; strconv's parse of a numeral. No program. -/
import Derived.Test.YtelehfefhlgbkaaRows
import Derived.Lib.ItoaNum
import Derived.Lib.AtoiAll
namespace Go.Proofs.Ytelehfefhlgbkaa
open Go
def isDig (c : UInt8) : Prop := 48 ≤ c.toNat ∧ c.toNat ≤ 57
def decVal (acc : Nat) : List UInt8 → Nat
  | [] => acc
  | c :: r => decVal (acc * 10 + (c.toNat - 48)) r
theorem decVal_snoc (l : List UInt8) (c : UInt8) : ∀ acc, decVal acc (l ++ [c]) = decVal acc l * 10 + (c.toNat - 48) := by
  induction l with
  | nil => intro acc; rfl
  | cons x r ih => intro acc; exact ih _
theorem dig_toNat (k : Nat) (h : k < 10) : (UInt8.ofNat (48 + k)).toNat = 48 + k := by
  rw [UInt8.toNat_ofNat']; omega
theorem decDigits_digs (u : Nat) : ∀ c ∈ Lib.decDigits u, isDig c := by
  induction u using Nat.strongRecOn with
  | _ u ih =>
    intro c hc
    rw [Lib.decDigits] at hc
    by_cases h : u < 10
    · rw [dif_pos h, List.mem_singleton] at hc
      subst hc
      unfold isDig
      rw [dig_toNat u h]; omega
    · rw [dif_neg h, List.mem_append] at hc
      rcases hc with hc | hc
      · exact ih (u / 10) (by omega) c hc
      · rw [List.mem_singleton] at hc
        subst hc
        unfold isDig
        rw [dig_toNat _ (Nat.mod_lt _ (by omega))]; omega
theorem decDigits_val (u : Nat) : decVal 0 (Lib.decDigits u) = u := by
  induction u using Nat.strongRecOn with
  | _ u ih =>
    rw [Lib.decDigits]
    by_cases h : u < 10
    · rw [dif_pos h]
      show 0 * 10 + ((UInt8.ofNat (48 + u)).toNat - 48) = u
      rw [dig_toNat u h]; omega
    · rw [dif_neg h, decVal_snoc, ih (u / 10) (by omega), dig_toNat _ (Nat.mod_lt _ (by omega))]
      omega
theorem decDigits_ne (u : Nat) : Lib.decDigits u ≠ [] := by
  rw [Lib.decDigits]
  by_cases h : u < 10
  · rw [dif_pos h]; simp
  · rw [dif_neg h]; simp
theorem decVal_ge (l : List UInt8) : ∀ acc, acc ≤ decVal acc l := by
  induction l with
  | nil => intro acc; exact Nat.le_refl _
  | cons c r ih => intro acc; have := ih (acc * 10 + (c.toNat - 48)); show acc ≤ decVal _ r; omega
theorem decVal_lt (l : List UInt8) (hl : ∀ c ∈ l, isDig c) : ∀ acc, decVal acc l < (acc + 1) * 10 ^ l.length := by
  induction l with
  | nil => intro acc; show acc < (acc + 1) * 10 ^ 0; omega
  | cons c r ih =>
    intro acc
    have h1 := ih (fun x hx => hl x (List.mem_cons_of_mem _ hx)) (acc * 10 + (c.toNat - 48))
    have h2 := hl c List.mem_cons_self
    unfold isDig at h2
    show decVal _ r < (acc + 1) * 10 ^ (r.length + 1)
    have h3 : (acc * 10 + (c.toNat - 48) + 1) * 10 ^ r.length ≤ (acc + 1) * 10 * 10 ^ r.length := Nat.mul_le_mul_right _ (by omega)
    have h4 : (acc + 1) * 10 * 10 ^ r.length = (acc + 1) * 10 ^ (r.length + 1) := by rw [Nat.pow_succ, Nat.mul_assoc, Nat.mul_comm 10]
    omega
theorem parse_val (l : List UInt8) (hl : ∀ c ∈ l, isDig c) : ∀ acc, decVal acc l < 18446744073709551616 → Lib.parseUint10 acc l = .ok (decVal acc l) := by
  induction l with
  | nil => intro acc _; rfl
  | cons c r ih =>
    intro acc h
    have h2 := hl c List.mem_cons_self
    unfold isDig at h2
    have h3 := decVal_ge r (acc * 10 + (c.toNat - 48))
    have h4 : decVal acc (c :: r) = decVal (acc * 10 + (c.toNat - 48)) r := rfl
    rw [h4] at h ⊢
    rw [Lib.parseUint10, if_pos h2, if_neg (by omega), if_neg (by omega)]
    exact ih (fun x hx => hl x (List.mem_cons_of_mem _ hx)) _ h
theorem dec_head (u : Nat) : ∃ c r, Lib.decDigits u = c :: r ∧ isDig c := by
  cases h : Lib.decDigits u with
  | nil => exact absurd h (decDigits_ne u)
  | cons c r => exact ⟨c, r, rfl, decDigits_digs u c (by rw [h]; exact List.mem_cons_self)⟩
theorem atoi_itoa (n : Int) (h0 : -1000000000000000 ≤ n) (h1 : n ≤ 1000000000000000) : Lib.atoiAll (Lib.itoa n) = .ok n := by
  unfold Lib.itoa
  by_cases hn : n < 0
  · rw [if_pos hn]
    have hv := decDigits_val n.natAbs
    have hp := parse_val _ (decDigits_digs n.natAbs) 0 (by omega)
    unfold Lib.atoiAll
    have e1 : (45 : UInt8).toNat = 45 := rfl
    simp only [e1, or_true, if_true]
    unfold Lib.parseMag
    rw [if_neg (decDigits_ne _), hp, hv]
    simp only [not_true_eq_false, false_and, if_false, true_and, if_true]
    rw [if_neg (by omega)]
    congr 1
    omega
  · rw [if_neg hn]
    have hv := decDigits_val n.toNat
    have hp := parse_val _ (decDigits_digs n.toNat) 0 (by omega)
    obtain ⟨c, r, hc, hd⟩ := dec_head n.toNat
    unfold isDig at hd
    have hne := decDigits_ne n.toNat
    rw [hc] at hv hp hne ⊢
    unfold Lib.atoiAll
    have e1 : ¬ c.toNat = 43 := by omega
    have e2 : ¬ c.toNat = 45 := by omega
    simp only [e1, e2, or_self, if_false]
    unfold Lib.parseMag
    rw [if_neg hne, hp, hv]
    simp only [not_false_eq_true, true_and, false_and, if_false]
    rw [if_neg (by omega)]
    congr 1
    omega

/-- the integer that s spells as the numeral, if it is in the range -/
def pnOk (l : List UInt8) : Bool := match Lib.atoiAll l with
  | .ok n => decide (-1000000000000000 ≤ n) && decide (n ≤ 1000000000000000) && (Lib.itoa n == l)
  | _ => false
def pnVal (l : List UInt8) : Int := if pnOk l = true then (match Lib.atoiAll l with | .ok n => n | _ => 0) else 0
theorem pn_of (n : Int) (h0 : -1000000000000000 ≤ n) (h1 : n ≤ 1000000000000000) : pnOk (Lib.itoa n) = true ∧ pnVal (Lib.itoa n) = n := by
  have h := atoi_itoa n h0 h1
  have h2 : pnOk (Lib.itoa n) = true := by
    unfold pnOk; rw [h]; simp [h0, h1]
  refine ⟨h2, ?_⟩
  unfold pnVal
  rw [if_pos h2, h]
theorem pn_to (l : List UInt8) (h : pnOk l = true) : ∃ n, Lib.itoa n = l ∧ -1000000000000000 ≤ n ∧ n ≤ 1000000000000000 := by
  unfold pnOk at h
  cases ha : Lib.atoiAll l with
  | ok n => rw [ha] at h; simp at h; exact ⟨n, h.2, h.1.1, h.1.2⟩
  | _ => rw [ha] at h; cases h
theorem pn_no (l : List UInt8) (h : ¬ ∃ n, Lib.itoa n = l ∧ -1000000000000000 ≤ n ∧ n ≤ 1000000000000000) : pnOk l = false ∧ pnVal l = 0 := by
  have h2 : pnOk l = false := by
    cases hk : pnOk l with
    | false => rfl
    | true => exact absurd (pn_to l hk) h
  refine ⟨h2, ?_⟩
  unfold pnVal
  rw [if_neg (by rw [h2]; decide)]
/-- the shape of a numeral in the range: a sign, then 1 to 16 digits that spell its absolute value -/
theorem itoa_shape (n : Int) (h0 : -1000000000000000 ≤ n) (h1 : n ≤ 1000000000000000) :
    (n < 0 ∧ ∃ r, Lib.itoa n = 45 :: r ∧ (∀ c ∈ r, isDig c) ∧ 1 ≤ r.length ∧ r.length ≤ 16 ∧ (decVal 0 r : Int) = -n) ∨
    (0 ≤ n ∧ (∀ c ∈ Lib.itoa n, isDig c) ∧ 1 ≤ (Lib.itoa n).length ∧ (Lib.itoa n).length ≤ 16 ∧ (decVal 0 (Lib.itoa n) : Int) = n) := by
  have hlen : ∀ u : Nat, u ≤ 1000000000000000 → 1 ≤ (Lib.decDigits u).length ∧ (Lib.decDigits u).length ≤ 16 := by
    intro u hu
    refine ⟨List.length_pos_iff.2 (decDigits_ne u), ?_⟩
    have key : ∀ k (v : Nat), v < 10 ^ (k + 1) → (Lib.decDigits v).length ≤ k + 1 := by
      intro k
      induction k with
      | zero => intro v hv; rw [Lib.decDigits, dif_pos (by omega)]; simp
      | succ k ih =>
        intro v hv
        rw [Lib.decDigits]
        by_cases h : v < 10
        · rw [dif_pos h]; simp
        · rw [dif_neg h, List.length_append]
          have := ih (v / 10) (by rw [Nat.pow_succ] at hv; omega)
          simp only [List.length_singleton]
          omega
    exact key 15 u (by omega)
  unfold Lib.itoa
  by_cases hn : n < 0
  · refine .inl ⟨hn, Lib.decDigits n.natAbs, by rw [if_pos hn], decDigits_digs _, (hlen _ (by omega)).1, (hlen _ (by omega)).2, ?_⟩
    rw [decDigits_val]; omega
  · rw [if_neg hn]
    refine .inr ⟨by omega, decDigits_digs _, (hlen _ (by omega)).1, (hlen _ (by omega)).2, ?_⟩
    rw [decDigits_val]; omega
end Go.Proofs.Ytelehfefhlgbkaa
