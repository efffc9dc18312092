/- How a number's text is taken apart, as plain functions on bytes and places; what of it stays when the text is cut. No program. -/
import Derived.Test.YtelehfefhlgbkaaNumMath
namespace Go.Proofs.Ytelehfefhlgbkaa
open Go
def isD (c : UInt8) : Bool := decide (48 ≤ c.toNat ∧ c.toNat ≤ 57)
/-- The place behind the digits from i on. -/
def dEnd (l : List UInt8) (i : Nat) : Nat := i + ((l.drop i).takeWhile isD).length
def atD (l : List UInt8) (i : Nat) : Bool := match l[i]? with
  | some c => isD c
  | none => false
def atC (l : List UInt8) (i : Nat) (c : UInt8) : Bool := l[i]? == some c
theorem atD_lt {l : List UInt8} {i : Nat} (h : atD l i = true) : i < l.length := by
  unfold atD at h
  rcases Nat.lt_or_ge i l.length with g | g
  · exact g
  · rw [List.getElem?_eq_none g] at h; cases h
theorem atC_lt {l : List UInt8} {i : Nat} {c : UInt8} (h : atC l i c = true) : i < l.length := by
  unfold atC at h
  rcases Nat.lt_or_ge i l.length with g | g
  · exact g
  · rw [List.getElem?_eq_none g] at h; simp at h
theorem atD_get {l : List UInt8} {i : Nat} (h : i < l.length) : atD l i = isD l[i] := by unfold atD; rw [List.getElem?_eq_getElem h]
theorem atC_get {l : List UInt8} {i : Nat} {c : UInt8} (h : i < l.length) : atC l i c = (l[i] == c) := by
  unfold atC; rw [List.getElem?_eq_getElem h]; simp
theorem atD_out {l : List UInt8} {i : Nat} (h : l.length ≤ i) : atD l i = false := by unfold atD; rw [List.getElem?_eq_none h]
theorem atC_out {l : List UInt8} {i : Nat} {c : UInt8} (h : l.length ≤ i) : atC l i c = false := by unfold atC; rw [List.getElem?_eq_none h]; rfl
theorem dEnd_step {l : List UInt8} {i : Nat} (h : atD l i = true) : dEnd l i = dEnd l (i + 1) := by
  have hl := atD_lt h
  unfold dEnd
  rw [List.drop_eq_getElem_cons hl, List.takeWhile_cons, if_pos (by rw [← atD_get hl]; exact h)]
  simp only [List.length_cons]; omega
theorem dEnd_stop {l : List UInt8} {i : Nat} (h : atD l i = false) : dEnd l i = i := by
  unfold dEnd
  rcases Nat.lt_or_ge i l.length with g | g
  · rw [List.drop_eq_getElem_cons g, List.takeWhile_cons, if_neg (by rw [← atD_get g, h]; decide)]; rfl
  · rw [List.drop_eq_nil_of_le g]; rfl
theorem dEnd_ge (l : List UInt8) (i : Nat) : i ≤ dEnd l i := by unfold dEnd; omega
theorem dEnd_le {l : List UInt8} {i : Nat} (h : i ≤ l.length) : dEnd l i ≤ l.length := by
  unfold dEnd
  have := (List.takeWhile_sublist isD (l := l.drop i)).length_le
  simp at this; omega
theorem dEnd_eq {l : List UInt8} {i : Nat} : dEnd l i = i ↔ atD l i = false := by
  constructor
  · intro h
    cases hd : atD l i
    · rfl
    · have := dEnd_step hd; have := dEnd_ge l (i + 1); omega
  · exact dEnd_stop
theorem dEnd_end (l : List UInt8) (i : Nat) : atD l (dEnd l i) = false := by
  generalize hn : l.length - i = n
  induction n generalizing i with
  | zero => rw [dEnd_stop (atD_out (by omega))]; exact atD_out (by omega)
  | succ n ih =>
    cases hd : atD l i
    · rw [dEnd_stop hd]; exact hd
    · rw [dEnd_step hd]; exact ih (i + 1) (by omega)
theorem dEnd_in (l : List UInt8) (i j : Nat) (h0 : i ≤ j) (h1 : j < dEnd l i) : atD l j = true := by
  generalize hn : j - i = n
  induction n generalizing i with
  | zero =>
    obtain rfl : i = j := by omega
    cases hd : atD l i
    · rw [dEnd_stop hd] at h1; omega
    · rfl
  | succ n ih =>
    cases hd : atD l i
    · rw [dEnd_stop hd] at h1; omega
    · rw [dEnd_step hd] at h1; exact ih (i + 1) (by omega) h1 (by omega)
/-- s[i:j] -/
def cut (l : List UInt8) (i j : Nat) : List UInt8 := (l.drop i).take (j - i)
theorem cut_len {l : List UInt8} {i j : Nat} (h0 : i ≤ j) (h1 : j ≤ l.length) : (cut l i j).length = j - i := by unfold cut; simp; omega
theorem cut_nil (l : List UInt8) (i : Nat) : cut l i i = [] := by unfold cut; simp
theorem cut_get {l : List UInt8} {i j k : Nat} (h : k < (cut l i j).length) : (cut l i j)[k]? = l[i + k]? := by
  unfold cut at h ⊢
  simp at h
  rw [List.getElem?_take_of_lt (by omega), List.getElem?_drop]
theorem cut_digs {l : List UInt8} {i : Nat} : ∀ c ∈ cut l i (dEnd l i), isD c = true := by
  intro c hc
  obtain ⟨k, hk, hkc⟩ := List.getElem_of_mem hc
  have h1 := cut_get hk
  rw [List.getElem?_eq_getElem hk, hkc] at h1
  have hk2 : k < dEnd l i - i := by unfold cut at hk; simp at hk; omega
  have h2 := dEnd_in l i (i + k) (by omega) (by omega)
  unfold atD at h2
  rw [← h1] at h2
  exact h2
/-- What a number's text is taken apart into. -/
structure Parts where
  neg : Bool
  eneg : Bool
  whole : List UInt8
  frac : List UInt8
  exp : List UInt8
  next : Nat
  ok : Bool
def noParts (i : Nat) : Parts := ⟨false, false, [], [], [], i, false⟩
def partsE (l : List UInt8) (neg : Bool) (whole frac : List UInt8) (i : Nat) : Parts :=
  if (atC l i 101 || atC l i 69) = true then
    let j := if (atC l (i + 1) 43 || atC l (i + 1) 45) = true then i + 2 else i + 1
    if atD l j = true then ⟨neg, atC l (i + 1) 45, whole, frac, cut l j (dEnd l j), dEnd l j, true⟩ else noParts j
  else ⟨neg, false, whole, frac, [], i, true⟩
def partsF (l : List UInt8) (neg : Bool) (whole : List UInt8) (i : Nat) : Parts :=
  if atC l i 46 = true then
    if atD l (i + 1) = true then partsE l neg whole (cut l (i + 1) (dEnd l (i + 1))) (dEnd l (i + 1)) else noParts (i + 1)
  else partsE l neg whole [] i
def wEnd (l : List UInt8) (i : Nat) : Nat := if atC l i 48 = true then i + 1 else dEnd l i
def partsW (l : List UInt8) (neg : Bool) (i : Nat) : Parts := if atD l i = true then partsF l neg (cut l i (wEnd l i)) (wEnd l i) else noParts i
def parts (l : List UInt8) (i : Nat) : Parts := if atC l i 45 = true then partsW l true (i + 1) else partsW l false i
def lead (l : List UInt8) : List UInt8 := l.dropWhile (· == 48)
def sgnV (b : Bool) (n : Int) : Int := if b = true then -n else n
structure Num where
  n : Int
  x : Int
  next : Nat
  code : Nat
def numOf (p : Parts) : Num :=
  if p.ok = true then
    if (lead (p.whole ++ p.frac)).length ≤ 17 ∧ p.exp.length ≤ 3 then ⟨sgnV p.neg (decVal 0 (p.whole ++ p.frac)), sgnV p.eneg (decVal 0 p.exp) - p.frac.length, p.next, 0⟩ else ⟨0, 0, p.next, 2⟩
  else ⟨0, 0, p.next, 1⟩
def readN (l : List UInt8) (i : Nat) : Num := numOf (parts l i)
end Go.Proofs.Ytelehfefhlgbkaa
