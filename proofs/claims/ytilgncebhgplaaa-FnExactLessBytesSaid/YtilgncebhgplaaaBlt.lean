/- Byte strings in lexicographic order: plain. -/
import Derived.Test.YtilgncebhgplaaaRows
import Derived.Lib.Bytealg
namespace Go.Proofs.Ytilgncebhgplaaa
/-- what LessBytes answers -/
def bltB (a b : List UInt8) : Bool := decide (Lib.compareBytes a b < 0)
theorem cmpB_cons_eq (x : UInt8) (a b : List UInt8) : Lib.compareBytes (x :: a) (x :: b) = Lib.compareBytes a b := by
  have h : ¬ x < x := by simp
  show (if x < x then -1 else if x < x then 1 else Lib.compareBytes a b) = _
  rw [if_neg h, if_neg h]
theorem cmpB_cons_ne {x y : UInt8} (h : x ≠ y) (a b : List UInt8) : Lib.compareBytes (x :: a) (y :: b) = if x < y then -1 else 1 := by
  show (if x < y then -1 else if y < x then 1 else Lib.compareBytes a b) = _
  by_cases h1 : x < y
  · rw [if_pos h1, if_pos h1]
  · have h2 : y < x := by
      have e : x.toNat ≠ y.toNat := fun e => h (UInt8.toNat_inj.1 e)
      rw [UInt8.lt_iff_toNat_lt] at h1 ⊢
      omega
    rw [if_neg h1, if_neg h1, if_pos h2]
/-- at a place where both go on and differ -/
theorem blt_at {a b : List UInt8} {i : Nat} (ha : i < a.length) (hb : i < b.length) (he : bltB a b = bltB (a.drop i) (b.drop i)) (hne : a[i] ≠ b[i]) : bltB a b = decide (a[i] < b[i]) := by
  rw [he, List.drop_eq_getElem_cons ha, List.drop_eq_getElem_cons hb]
  unfold bltB
  rw [cmpB_cons_ne hne]
  by_cases h : a[i] < b[i]
  · rw [if_pos h, decide_eq_true h]; rfl
  · rw [if_neg h, decide_eq_false h]; rfl
theorem blt_step {a b : List UInt8} {i : Nat} (ha : i < a.length) (hb : i < b.length) (he : bltB a b = bltB (a.drop i) (b.drop i)) (hne : a[i] = b[i]) : bltB a b = bltB (a.drop (i + 1)) (b.drop (i + 1)) := by
  rw [he, List.drop_eq_getElem_cons ha, List.drop_eq_getElem_cons hb]
  unfold bltB
  rw [hne, cmpB_cons_eq]
theorem blt_end {a b : List UInt8} {i : Nat} (hi : i ≤ a.length) (hj : i ≤ b.length) (h : ¬ (i < a.length ∧ i < b.length)) (he : bltB a b = bltB (a.drop i) (b.drop i)) : bltB a b = decide (a.length < b.length) := by
  rw [he]
  by_cases ha : i < a.length
  · have hb : b.drop i = [] := List.drop_eq_nil_of_le (by omega)
    rw [hb, List.drop_eq_getElem_cons ha, decide_eq_false (by omega)]
    rfl
  · have ha0 : a.drop i = [] := List.drop_eq_nil_of_le (by omega)
    rw [ha0]
    by_cases hb : i < b.length
    · rw [List.drop_eq_getElem_cons hb, decide_eq_true (by omega)]
      rfl
    · rw [List.drop_eq_nil_of_le (by omega), decide_eq_false (by omega)]
      rfl
theorem blt_not {a b : List UInt8} (h : bltB a b = false) : ¬ Lib.compareBytes a b < 0 := by
  unfold bltB at h; exact of_decide_eq_false h
end Go.Proofs.Ytilgncebhgplaaa
