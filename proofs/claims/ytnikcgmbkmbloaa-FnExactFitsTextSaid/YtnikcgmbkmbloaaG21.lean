import Derived.Test.YtnikcgmbkmbloaaRows
import Derived.Lib.ItoaNum
import Derived.Lib.AtoiAll
import Derived.Test.YtnikcgmbkmbloaaG2
/- Spaces and signs of a text: plain facts. No program. -/
namespace Go.Proofs.Ytnikcgmbkmbloaa
open Go
def isSp (c : UInt8) : Bool := ([9, 10, 13, 32] : List UInt8).contains c
def isSg (c : UInt8) : Bool := ([123, 125, 91, 93, 58, 44] : List UInt8).contains c
def atSp (l : List UInt8) (i : Nat) : Bool := match l[i]? with
  | some c => isSp c
  | none => false
/-- the place behind the spaces from i on -/
def skE (l : List UInt8) (i : Nat) : Nat := i + ((l.drop i).takeWhile isSp).length
theorem atSp_get {l : List UInt8} {i : Nat} (h : i < l.length) : atSp l i = isSp l[i] := by unfold atSp; rw [List.getElem?_eq_getElem h]
theorem atSp_out {l : List UInt8} {i : Nat} (h : l.length ≤ i) : atSp l i = false := by unfold atSp; rw [List.getElem?_eq_none h]
theorem atSp_lt {l : List UInt8} {i : Nat} (h : atSp l i = true) : i < l.length := by
  rcases Nat.lt_or_ge i l.length with g | g
  · exact g
  · rw [atSp_out g] at h; cases h
theorem skE_step {l : List UInt8} {i : Nat} (h : atSp l i = true) : skE l i = skE l (i + 1) := by
  have hl := atSp_lt h
  unfold skE
  rw [List.drop_eq_getElem_cons hl, List.takeWhile_cons, if_pos (by rw [← atSp_get hl]; exact h)]
  simp only [List.length_cons]; omega
theorem skE_stop {l : List UInt8} {i : Nat} (h : atSp l i = false) : skE l i = i := by
  unfold skE
  rcases Nat.lt_or_ge i l.length with g | g
  · rw [List.drop_eq_getElem_cons g, List.takeWhile_cons, if_neg (by rw [← atSp_get g, h]; decide)]; rfl
  · rw [List.drop_eq_nil_of_le g]; rfl
theorem skE_ge (l : List UInt8) (i : Nat) : i ≤ skE l i := by unfold skE; omega
theorem skE_le {l : List UInt8} {i : Nat} (h : i ≤ l.length) : skE l i ≤ l.length := by
  unfold skE
  have := (List.takeWhile_sublist isSp (l := l.drop i)).length_le
  simp at this; omega
theorem skE_end (l : List UInt8) (i : Nat) : atSp l (skE l i) = false := by
  generalize hn : l.length - i = n
  induction n generalizing i with
  | zero => rw [skE_stop (atSp_out (by omega))]; exact atSp_out (by omega)
  | succ n ih =>
    cases hd : atSp l i
    · rw [skE_stop hd]; exact hd
    · rw [skE_step hd]; exact ih (i + 1) (by omega)
/-- Skip, at any int -/
def skT (l : List UInt8) (a : Int) : Int := if 0 ≤ a then (skE l a.toNat : Nat) else a
end Go.Proofs.Ytnikcgmbkmbloaa
/- Plain facts on decimal numerals: what a numeral spells is the number; strconv's parse of a numeral. No program. -/
namespace Go.Proofs.Ytnikcgmbkmbloaa
open Go
def isDig (c : UInt8) : Prop := 48 ≤ c.toNat ∧ c.toNat ≤ 57
def decVal (acc : Nat) : List UInt8 → Nat
  | [] => acc
  | c :: r => decVal (acc * 10 + (c.toNat - 48)) r
theorem decVal_snoc (l : List UInt8) (c : UInt8) : ∀ acc, decVal acc (l ++ [c]) = decVal acc l * 10 + (c.toNat - 48) := by
  induction l with
  | nil => intro acc; rfl
  | cons x r ih => intro acc; exact ih _
theorem dig_toNat (k : Nat) (h : k < 10) : (UInt8.ofNat (48 + k)).toNat = 48 + k := by
  rw [UInt8.toNat_ofNat']; omega
theorem decDigits_digs (u : Nat) : ∀ c ∈ Lib.decDigits u, isDig c := by
  induction u using Nat.strongRecOn with
  | _ u ih =>
    intro c hc
    rw [Lib.decDigits] at hc
    by_cases h : u < 10
    · rw [dif_pos h, List.mem_singleton] at hc
      subst hc
      unfold isDig
      rw [dig_toNat u h]; omega
    · rw [dif_neg h, List.mem_append] at hc
      rcases hc with hc | hc
      · exact ih (u / 10) (by omega) c hc
      · rw [List.mem_singleton] at hc
        subst hc
        unfold isDig
        rw [dig_toNat _ (Nat.mod_lt _ (by omega))]; omega
theorem decDigits_val (u : Nat) : decVal 0 (Lib.decDigits u) = u := by
  induction u using Nat.strongRecOn with
  | _ u ih =>
    rw [Lib.decDigits]
    by_cases h : u < 10
    · rw [dif_pos h]
      show 0 * 10 + ((UInt8.ofNat (48 + u)).toNat - 48) = u
      rw [dig_toNat u h]; omega
    · rw [dif_neg h, decVal_snoc, ih (u / 10) (by omega), dig_toNat _ (Nat.mod_lt _ (by omega))]
      omega
theorem decDigits_ne (u : Nat) : Lib.decDigits u ≠ [] := by
  rw [Lib.decDigits]
  by_cases h : u < 10
  · rw [dif_pos h]; simp
  · rw [dif_neg h]; simp
theorem decVal_ge (l : List UInt8) : ∀ acc, acc ≤ decVal acc l := by
  induction l with
  | nil => intro acc; exact Nat.le_refl _
  | cons c r ih => intro acc; have := ih (acc * 10 + (c.toNat - 48)); show acc ≤ decVal _ r; omega
theorem decVal_lt (l : List UInt8) (hl : ∀ c ∈ l, isDig c) : ∀ acc, decVal acc l < (acc + 1) * 10 ^ l.length := by
  induction l with
  | nil => intro acc; show acc < (acc + 1) * 10 ^ 0; omega
  | cons c r ih =>
    intro acc
    have h1 := ih (fun x hx => hl x (List.mem_cons_of_mem _ hx)) (acc * 10 + (c.toNat - 48))
    have h2 := hl c List.mem_cons_self
    unfold isDig at h2
    show decVal _ r < (acc + 1) * 10 ^ (r.length + 1)
    have h3 : (acc * 10 + (c.toNat - 48) + 1) * 10 ^ r.length ≤ (acc + 1) * 10 * 10 ^ r.length := Nat.mul_le_mul_right _ (by omega)
    have h4 : (acc + 1) * 10 * 10 ^ r.length = (acc + 1) * 10 ^ (r.length + 1) := by rw [Nat.pow_succ, Nat.mul_assoc, Nat.mul_comm 10]
    omega
theorem parse_val (l : List UInt8) (hl : ∀ c ∈ l, isDig c) : ∀ acc, decVal acc l < 18446744073709551616 → Lib.parseUint10 acc l = .ok (decVal acc l) := by
  induction l with
  | nil => intro acc _; rfl
  | cons c r ih =>
    intro acc h
    have h2 := hl c List.mem_cons_self
    unfold isDig at h2
    have h3 := decVal_ge r (acc * 10 + (c.toNat - 48))
    have h4 : decVal acc (c :: r) = decVal (acc * 10 + (c.toNat - 48)) r := rfl
    rw [h4] at h ⊢
    rw [Lib.parseUint10, if_pos h2, if_neg (by omega), if_neg (by omega)]
    exact ih (fun x hx => hl x (List.mem_cons_of_mem _ hx)) _ h
theorem dec_head (u : Nat) : ∃ c r, Lib.decDigits u = c :: r ∧ isDig c := by
  cases h : Lib.decDigits u with
  | nil => exact absurd h (decDigits_ne u)
  | cons c r => exact ⟨c, r, rfl, decDigits_digs u c (by rw [h]; exact List.mem_cons_self)⟩
theorem atoi_itoa (n : Int) (h0 : -1000000000000000 ≤ n) (h1 : n ≤ 1000000000000000) : Lib.atoiAll (Lib.itoa n) = .ok n := by
  unfold Lib.itoa
  by_cases hn : n < 0
  · rw [if_pos hn]
    have hv := decDigits_val n.natAbs
    have hp := parse_val _ (decDigits_digs n.natAbs) 0 (by omega)
    unfold Lib.atoiAll
    have e1 : (45 : UInt8).toNat = 45 := rfl
    simp only [e1, or_true, if_true]
    unfold Lib.parseMag
    rw [if_neg (decDigits_ne _), hp, hv]
    simp only [not_true_eq_false, false_and, if_false, true_and, if_true]
    rw [if_neg (by omega)]
    congr 1
    omega
  · rw [if_neg hn]
    have hv := decDigits_val n.toNat
    have hp := parse_val _ (decDigits_digs n.toNat) 0 (by omega)
    obtain ⟨c, r, hc, hd⟩ := dec_head n.toNat
    unfold isDig at hd
    have hne := decDigits_ne n.toNat
    rw [hc] at hv hp hne ⊢
    unfold Lib.atoiAll
    have e1 : ¬ c.toNat = 43 := by omega
    have e2 : ¬ c.toNat = 45 := by omega
    simp only [e1, e2, or_self, if_false]
    unfold Lib.parseMag
    rw [if_neg hne, hp, hv]
    simp only [not_false_eq_true, true_and, false_and, if_false]
    rw [if_neg (by omega)]
    congr 1
    omega

/-- the integer that s spells as the numeral, if it is in the range -/
def pnOk (l : List UInt8) : Bool := match Lib.atoiAll l with
  | .ok n => decide (-1000000000000000 ≤ n) && decide (n ≤ 1000000000000000) && (Lib.itoa n == l)
  | _ => false
def pnVal (l : List UInt8) : Int := if pnOk l = true then (match Lib.atoiAll l with | .ok n => n | _ => 0) else 0
theorem pn_of (n : Int) (h0 : -1000000000000000 ≤ n) (h1 : n ≤ 1000000000000000) : pnOk (Lib.itoa n) = true ∧ pnVal (Lib.itoa n) = n := by
  have h := atoi_itoa n h0 h1
  have h2 : pnOk (Lib.itoa n) = true := by
    unfold pnOk; rw [h]; simp [h0, h1]
  refine ⟨h2, ?_⟩
  unfold pnVal
  rw [if_pos h2, h]
theorem pn_to (l : List UInt8) (h : pnOk l = true) : ∃ n, Lib.itoa n = l ∧ -1000000000000000 ≤ n ∧ n ≤ 1000000000000000 := by
  unfold pnOk at h
  cases ha : Lib.atoiAll l with
  | ok n => rw [ha] at h; simp at h; exact ⟨n, h.2, h.1.1, h.1.2⟩
  | _ => rw [ha] at h; cases h
theorem pn_no (l : List UInt8) (h : ¬ ∃ n, Lib.itoa n = l ∧ -1000000000000000 ≤ n ∧ n ≤ 1000000000000000) : pnOk l = false ∧ pnVal l = 0 := by
  have h2 : pnOk l = false := by
    cases hk : pnOk l with
    | false => rfl
    | true => exact absurd (pn_to l hk) h
  refine ⟨h2, ?_⟩
  unfold pnVal
  rw [if_neg (by rw [h2]; decide)]
/-- the shape of a numeral in the range: a sign, then 1 to 16 digits that spell its absolute value -/
theorem itoa_shape (n : Int) (h0 : -1000000000000000 ≤ n) (h1 : n ≤ 1000000000000000) :
    (n < 0 ∧ ∃ r, Lib.itoa n = 45 :: r ∧ (∀ c ∈ r, isDig c) ∧ 1 ≤ r.length ∧ r.length ≤ 16 ∧ (decVal 0 r : Int) = -n) ∨
    (0 ≤ n ∧ (∀ c ∈ Lib.itoa n, isDig c) ∧ 1 ≤ (Lib.itoa n).length ∧ (Lib.itoa n).length ≤ 16 ∧ (decVal 0 (Lib.itoa n) : Int) = n) := by
  have hlen : ∀ u : Nat, u ≤ 1000000000000000 → 1 ≤ (Lib.decDigits u).length ∧ (Lib.decDigits u).length ≤ 16 := by
    intro u hu
    refine ⟨List.length_pos_iff.2 (decDigits_ne u), ?_⟩
    have key : ∀ k (v : Nat), v < 10 ^ (k + 1) → (Lib.decDigits v).length ≤ k + 1 := by
      intro k
      induction k with
      | zero => intro v hv; rw [Lib.decDigits, dif_pos (by omega)]; simp
      | succ k ih =>
        intro v hv
        rw [Lib.decDigits]
        by_cases h : v < 10
        · rw [dif_pos h]; simp
        · rw [dif_neg h, List.length_append]
          have := ih (v / 10) (by rw [Nat.pow_succ] at hv; omega)
          simp only [List.length_singleton]
          omega
    exact key 15 u (by omega)
  unfold Lib.itoa
  by_cases hn : n < 0
  · refine .inl ⟨hn, Lib.decDigits n.natAbs, by rw [if_pos hn], decDigits_digs _, (hlen _ (by omega)).1, (hlen _ (by omega)).2, ?_⟩
    rw [decDigits_val]; omega
  · rw [if_neg hn]
    refine .inr ⟨by omega, decDigits_digs _, (hlen _ (by omega)).1, (hlen _ (by omega)).2, ?_⟩
    rw [decDigits_val]; omega
end Go.Proofs.Ytnikcgmbkmbloaa
/- How a number's text is taken apart, as plain functions on bytes and places; what of it stays when the text is cut. No program. -/
namespace Go.Proofs.Ytnikcgmbkmbloaa
open Go
def isD (c : UInt8) : Bool := decide (48 ≤ c.toNat ∧ c.toNat ≤ 57)
/-- The place behind the digits from i on. -/
def dEnd (l : List UInt8) (i : Nat) : Nat := i + ((l.drop i).takeWhile isD).length
def atD (l : List UInt8) (i : Nat) : Bool := match l[i]? with
  | some c => isD c
  | none => false
def atC (l : List UInt8) (i : Nat) (c : UInt8) : Bool := l[i]? == some c
theorem atD_lt {l : List UInt8} {i : Nat} (h : atD l i = true) : i < l.length := by
  unfold atD at h
  rcases Nat.lt_or_ge i l.length with g | g
  · exact g
  · rw [List.getElem?_eq_none g] at h; cases h
theorem atC_lt {l : List UInt8} {i : Nat} {c : UInt8} (h : atC l i c = true) : i < l.length := by
  unfold atC at h
  rcases Nat.lt_or_ge i l.length with g | g
  · exact g
  · rw [List.getElem?_eq_none g] at h; simp at h
theorem atD_get {l : List UInt8} {i : Nat} (h : i < l.length) : atD l i = isD l[i] := by unfold atD; rw [List.getElem?_eq_getElem h]
theorem atC_get {l : List UInt8} {i : Nat} {c : UInt8} (h : i < l.length) : atC l i c = (l[i] == c) := by
  unfold atC; rw [List.getElem?_eq_getElem h]; simp
theorem atD_out {l : List UInt8} {i : Nat} (h : l.length ≤ i) : atD l i = false := by unfold atD; rw [List.getElem?_eq_none h]
theorem atC_out {l : List UInt8} {i : Nat} {c : UInt8} (h : l.length ≤ i) : atC l i c = false := by unfold atC; rw [List.getElem?_eq_none h]; rfl
theorem dEnd_step {l : List UInt8} {i : Nat} (h : atD l i = true) : dEnd l i = dEnd l (i + 1) := by
  have hl := atD_lt h
  unfold dEnd
  rw [List.drop_eq_getElem_cons hl, List.takeWhile_cons, if_pos (by rw [← atD_get hl]; exact h)]
  simp only [List.length_cons]; omega
theorem dEnd_stop {l : List UInt8} {i : Nat} (h : atD l i = false) : dEnd l i = i := by
  unfold dEnd
  rcases Nat.lt_or_ge i l.length with g | g
  · rw [List.drop_eq_getElem_cons g, List.takeWhile_cons, if_neg (by rw [← atD_get g, h]; decide)]; rfl
  · rw [List.drop_eq_nil_of_le g]; rfl
theorem dEnd_ge (l : List UInt8) (i : Nat) : i ≤ dEnd l i := by unfold dEnd; omega
theorem dEnd_le {l : List UInt8} {i : Nat} (h : i ≤ l.length) : dEnd l i ≤ l.length := by
  unfold dEnd
  have := (List.takeWhile_sublist isD (l := l.drop i)).length_le
  simp at this; omega
theorem dEnd_eq {l : List UInt8} {i : Nat} : dEnd l i = i ↔ atD l i = false := by
  constructor
  · intro h
    cases hd : atD l i
    · rfl
    · have := dEnd_step hd; have := dEnd_ge l (i + 1); omega
  · exact dEnd_stop
theorem dEnd_end (l : List UInt8) (i : Nat) : atD l (dEnd l i) = false := by
  generalize hn : l.length - i = n
  induction n generalizing i with
  | zero => rw [dEnd_stop (atD_out (by omega))]; exact atD_out (by omega)
  | succ n ih =>
    cases hd : atD l i
    · rw [dEnd_stop hd]; exact hd
    · rw [dEnd_step hd]; exact ih (i + 1) (by omega)
theorem dEnd_in (l : List UInt8) (i j : Nat) (h0 : i ≤ j) (h1 : j < dEnd l i) : atD l j = true := by
  generalize hn : j - i = n
  induction n generalizing i with
  | zero =>
    obtain rfl : i = j := by omega
    cases hd : atD l i
    · rw [dEnd_stop hd] at h1; omega
    · rfl
  | succ n ih =>
    cases hd : atD l i
    · rw [dEnd_stop hd] at h1; omega
    · rw [dEnd_step hd] at h1; exact ih (i + 1) (by omega) h1 (by omega)
/-- s[i:j] -/
def cut (l : List UInt8) (i j : Nat) : List UInt8 := (l.drop i).take (j - i)
theorem cut_len {l : List UInt8} {i j : Nat} (h0 : i ≤ j) (h1 : j ≤ l.length) : (cut l i j).length = j - i := by unfold cut; simp; omega
theorem cut_nil (l : List UInt8) (i : Nat) : cut l i i = [] := by unfold cut; simp
theorem cut_get {l : List UInt8} {i j k : Nat} (h : k < (cut l i j).length) : (cut l i j)[k]? = l[i + k]? := by
  unfold cut at h ⊢
  simp at h
  rw [List.getElem?_take_of_lt (by omega), List.getElem?_drop]
theorem cut_digs {l : List UInt8} {i : Nat} : ∀ c ∈ cut l i (dEnd l i), isD c = true := by
  intro c hc
  obtain ⟨k, hk, hkc⟩ := List.getElem_of_mem hc
  have h1 := cut_get hk
  rw [List.getElem?_eq_getElem hk, hkc] at h1
  have hk2 : k < dEnd l i - i := by unfold cut at hk; simp at hk; omega
  have h2 := dEnd_in l i (i + k) (by omega) (by omega)
  unfold atD at h2
  rw [← h1] at h2
  exact h2
/-- What a number's text is taken apart into. -/
structure Parts where
  neg : Bool
  eneg : Bool
  whole : List UInt8
  frac : List UInt8
  exp : List UInt8
  next : Nat
  ok : Bool
def noParts (i : Nat) : Parts := ⟨false, false, [], [], [], i, false⟩
def partsE (l : List UInt8) (neg : Bool) (whole frac : List UInt8) (i : Nat) : Parts :=
  if (atC l i 101 || atC l i 69) = true then
    let j := if (atC l (i + 1) 43 || atC l (i + 1) 45) = true then i + 2 else i + 1
    if atD l j = true then ⟨neg, atC l (i + 1) 45, whole, frac, cut l j (dEnd l j), dEnd l j, true⟩ else noParts j
  else ⟨neg, false, whole, frac, [], i, true⟩
def partsF (l : List UInt8) (neg : Bool) (whole : List UInt8) (i : Nat) : Parts :=
  if atC l i 46 = true then
    if atD l (i + 1) = true then partsE l neg whole (cut l (i + 1) (dEnd l (i + 1))) (dEnd l (i + 1)) else noParts (i + 1)
  else partsE l neg whole [] i
def wEnd (l : List UInt8) (i : Nat) : Nat := if atC l i 48 = true then i + 1 else dEnd l i
def partsW (l : List UInt8) (neg : Bool) (i : Nat) : Parts := if atD l i = true then partsF l neg (cut l i (wEnd l i)) (wEnd l i) else noParts i
def parts (l : List UInt8) (i : Nat) : Parts := if atC l i 45 = true then partsW l true (i + 1) else partsW l false i
def lead (l : List UInt8) : List UInt8 := l.dropWhile (· == 48)
def sgnV (b : Bool) (n : Int) : Int := if b = true then -n else n
structure Num where
  n : Int
  x : Int
  next : Nat
  code : Nat
def numOf (p : Parts) : Num :=
  if p.ok = true then
    if (lead (p.whole ++ p.frac)).length ≤ 17 ∧ p.exp.length ≤ 3 then ⟨sgnV p.neg (decVal 0 (p.whole ++ p.frac)), sgnV p.eneg (decVal 0 p.exp) - p.frac.length, p.next, 0⟩ else ⟨0, 0, p.next, 2⟩
  else ⟨0, 0, p.next, 1⟩
def readN (l : List UInt8) (i : Nat) : Num := numOf (parts l i)
end Go.Proofs.Ytnikcgmbkmbloaa
/- A decimal number's text: plain facts. No program. -/
namespace Go.Proofs.Ytnikcgmbkmbloaa
open Go
theorem dec_len : ∀ k (v : Nat), v < 10 ^ (k + 1) → (Lib.decDigits v).length ≤ k + 1 := by
  intro k
  induction k with
  | zero => intro v hv; rw [Lib.decDigits, dif_pos (by omega)]; simp
  | succ k ih =>
    intro v hv
    rw [Lib.decDigits]
    by_cases h : v < 10
    · rw [dif_pos h]; simp
    · rw [dif_neg h, List.length_append]
      have := ih (v / 10) (by rw [Nat.pow_succ] at hv; omega)
      simp only [List.length_singleton]
      omega
def pad (m : Nat) (l : List UInt8) : List UInt8 := List.replicate (m - l.length) 48 ++ l
theorem pad_length (m : Nat) (l : List UInt8) : (pad m l).length = max m l.length := by unfold pad; simp; omega
theorem pad_none {m : Nat} {l : List UInt8} (h : m ≤ l.length) : pad m l = l := by unfold pad; rw [show m - l.length = 0 by omega]; rfl
def pointT (l : List UInt8) (k : Nat) : List UInt8 := l.take k ++ [46] ++ l.drop k
def fracT (n x : Int) : List UInt8 := pointT (pad (1 - x).toNat (Lib.decDigits n.natAbs)) ((pad (1 - x).toNat (Lib.decDigits n.natAbs)).length - (-x).toNat)
def decText (n x : Int) : List UInt8 := if decOk n x = true then (if x = 0 then Lib.itoa n else if n < 0 then 45 :: fracT n x else fracT n x) else []
theorem decText_bad {n x : Int} (h : decOk n x = false) : decText n x = [] := by unfold decText; rw [h]; rfl
theorem decText_int {n : Int} (h : decOk n 0 = true) : decText n 0 = Lib.itoa n := by unfold decText; rw [if_pos h, if_pos rfl]
theorem decText_neg {n x : Int} (h : decOk n x = true) (hx : x ≠ 0) (hn : n < 0) : decText n x = 45 :: fracT n x := by unfold decText; rw [if_pos h, if_neg hx, if_pos hn]
theorem decText_pos {n x : Int} (h : decOk n x = true) (hx : x ≠ 0) (hn : ¬ n < 0) : decText n x = fracT n x := by unfold decText; rw [if_pos h, if_neg hx, if_neg hn]
theorem itoa_lt {n : Int} (h : n < 0) : Lib.itoa n = 45 :: Lib.decDigits n.natAbs := by unfold Lib.itoa; rw [if_pos h]
theorem itoa_ge {n : Int} (h : ¬ n < 0) : Lib.itoa n = Lib.decDigits n.natAbs := by unfold Lib.itoa; rw [if_neg h]; congr 1; omega
theorem ext_cut (l : List UInt8) (i j : Nat) : (ByteArray.mk l.toArray).extract i j = ⟨((l.drop i).take (j - i)).toArray⟩ := by
  have : (ByteArray.mk l.toArray).extract i j = ⟨(l.toArray).extract i j⟩ := by
    unfold ByteArray.extract; simp [ByteArray.copySlice]
  rw [this]
  congr 1
  simp
def IsPad (d : List UInt8) (m : Int) (l : List UInt8) : Prop := ∃ j : Nat, l = List.replicate j 48 ++ d ∧ ((j : Int) = 0 ∨ (j : Int) + (d.length : Int) ≤ m)
theorem isPad_start (d : List UInt8) (m : Int) : IsPad d m d := ⟨0, rfl, .inl rfl⟩
theorem isPad_step {d l : List UInt8} {m : Int} (h : IsPad d m l) (hl : (l.length : Int) < m) : IsPad d m (48 :: l) := by
  obtain ⟨j, rfl, hj⟩ := h
  refine ⟨j + 1, by rw [List.replicate_succ]; rfl, .inr ?_⟩
  simp at hl; omega
theorem isPad_end {d l : List UInt8} {m : Int} (h : IsPad d m l) (hl : ¬ (l.length : Int) < m) : l = pad m.toNat d := by
  obtain ⟨j, rfl, hj⟩ := h
  unfold pad
  simp at hl
  congr 2; omega
theorem isPad_length {d l : List UInt8} {m : Int} (h : IsPad d m l) : d.length ≤ l.length ∧ ((l.length : Int) ≤ m ∨ l.length = d.length) := by
  obtain ⟨j, rfl, hj⟩ := h
  simp; omega
theorem point_eq {l : List UInt8} {k : Nat} {x : Int} (hx : x ≤ 0) (hk : (k : Int) = (l.length : Int) + x) : pointT l (l.length - (-x).toNat) = l.take k ++ [46] ++ l.drop k := by
  unfold pointT
  rw [show l.length - (-x).toNat = k by omega]
end Go.Proofs.Ytnikcgmbkmbloaa
