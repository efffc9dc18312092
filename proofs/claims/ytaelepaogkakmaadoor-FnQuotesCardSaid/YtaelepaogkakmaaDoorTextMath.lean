/- A decimal number's text: plain facts. No program. -/
import Derived.Test.YtaelepaogkakmaaDoorDecMath
import Derived.Test.YtaelepaogkakmaaDoorNumMath
namespace Go.Proofs.YtaelepaogkakmaaDoor
open Go
theorem dec_len : ∀ k (v : Nat), v < 10 ^ (k + 1) → (Lib.decDigits v).length ≤ k + 1 := by
  intro k
  induction k with
  | zero => intro v hv; rw [Lib.decDigits, dif_pos (by omega)]; simp
  | succ k ih =>
    intro v hv
    rw [Lib.decDigits]
    by_cases h : v < 10
    · rw [dif_pos h]; simp
    · rw [dif_neg h, List.length_append]
      have := ih (v / 10) (by rw [Nat.pow_succ] at hv; omega)
      simp only [List.length_singleton]
      omega
def pad (m : Nat) (l : List UInt8) : List UInt8 := List.replicate (m - l.length) 48 ++ l
theorem pad_length (m : Nat) (l : List UInt8) : (pad m l).length = max m l.length := by unfold pad; simp; omega
theorem pad_none {m : Nat} {l : List UInt8} (h : m ≤ l.length) : pad m l = l := by unfold pad; rw [show m - l.length = 0 by omega]; rfl
def pointT (l : List UInt8) (k : Nat) : List UInt8 := l.take k ++ [46] ++ l.drop k
def fracT (n x : Int) : List UInt8 := pointT (pad (1 - x).toNat (Lib.decDigits n.natAbs)) ((pad (1 - x).toNat (Lib.decDigits n.natAbs)).length - (-x).toNat)
def decText (n x : Int) : List UInt8 := if decOk n x = true then (if x = 0 then Lib.itoa n else if n < 0 then 45 :: fracT n x else fracT n x) else []
theorem decText_bad {n x : Int} (h : decOk n x = false) : decText n x = [] := by unfold decText; rw [h]; rfl
theorem decText_int {n : Int} (h : decOk n 0 = true) : decText n 0 = Lib.itoa n := by unfold decText; rw [if_pos h, if_pos rfl]
theorem decText_neg {n x : Int} (h : decOk n x = true) (hx : x ≠ 0) (hn : n < 0) : decText n x = 45 :: fracT n x := by unfold decText; rw [if_pos h, if_neg hx, if_pos hn]
theorem decText_pos {n x : Int} (h : decOk n x = true) (hx : x ≠ 0) (hn : ¬ n < 0) : decText n x = fracT n x := by unfold decText; rw [if_pos h, if_neg hx, if_neg hn]
theorem itoa_lt {n : Int} (h : n < 0) : Lib.itoa n = 45 :: Lib.decDigits n.natAbs := by unfold Lib.itoa; rw [if_pos h]
theorem itoa_ge {n : Int} (h : ¬ n < 0) : Lib.itoa n = Lib.decDigits n.natAbs := by unfold Lib.itoa; rw [if_neg h]; congr 1; omega
theorem ext_cut (l : List UInt8) (i j : Nat) : (ByteArray.mk l.toArray).extract i j = ⟨((l.drop i).take (j - i)).toArray⟩ := by
  have : (ByteArray.mk l.toArray).extract i j = ⟨(l.toArray).extract i j⟩ := by
    unfold ByteArray.extract; simp [ByteArray.copySlice]
  rw [this]
  congr 1
  simp
def IsPad (d : List UInt8) (m : Int) (l : List UInt8) : Prop := ∃ j : Nat, l = List.replicate j 48 ++ d ∧ ((j : Int) = 0 ∨ (j : Int) + (d.length : Int) ≤ m)
theorem isPad_start (d : List UInt8) (m : Int) : IsPad d m d := ⟨0, rfl, .inl rfl⟩
theorem isPad_step {d l : List UInt8} {m : Int} (h : IsPad d m l) (hl : (l.length : Int) < m) : IsPad d m (48 :: l) := by
  obtain ⟨j, rfl, hj⟩ := h
  refine ⟨j + 1, by rw [List.replicate_succ]; rfl, .inr ?_⟩
  simp at hl; omega
theorem isPad_end {d l : List UInt8} {m : Int} (h : IsPad d m l) (hl : ¬ (l.length : Int) < m) : l = pad m.toNat d := by
  obtain ⟨j, rfl, hj⟩ := h
  unfold pad
  simp at hl
  congr 2; omega
theorem isPad_length {d l : List UInt8} {m : Int} (h : IsPad d m l) : d.length ≤ l.length ∧ ((l.length : Int) ≤ m ∨ l.length = d.length) := by
  obtain ⟨j, rfl, hj⟩ := h
  simp; omega
theorem point_eq {l : List UInt8} {k : Nat} {x : Int} (hx : x ≤ 0) (hk : (k : Int) = (l.length : Int) + x) : pointT l (l.length - (-x).toNat) = l.take k ++ [46] ++ l.drop k := by
  unfold pointT
  rw [show l.length - (-x).toNat = k by omega]
end Go.Proofs.YtaelepaogkakmaaDoor
