/- The bits of a number in binary: plain facts. No program. -/
import Derived.Test.YtblaaiggmhadfaaFltMath
namespace Go.Proofs.Ytblaaiggmhadfaa
def fltBits (m e : Int) : Int := if fltOk m e = true then (if m < 0 then 16777216 + 65536 * (e + 16) - m else 65536 * (e + 16) + m) else -1
def bitsM (n : Int) : Int := if n ≥ 16777216 then -(n.tmod 65536) else n.tmod 65536
def bitsE (n : Int) : Int := (n.tdiv 65536).tmod 256 - 16
theorem fltBits_no {m e : Int} (h : fltOk m e = false) : fltBits m e = -1 := by unfold fltBits; rw [h]; rfl
theorem bits_back {m e : Int} (h : fltOk m e = true) : 0 ≤ fltBits m e ∧ fltBits m e < 33554432 ∧ bitsM (fltBits m e) = m ∧ bitsE (fltBits m e) = e ∧ fltIn m e := by
  obtain ⟨h1, h2, h3, _⟩ := fltOk_range h
  unfold fltBits
  rw [if_pos h]
  have hin : fltIn m e := ⟨by omega, by omega, by omega⟩
  by_cases hm : m < 0
  · rw [if_pos hm]
    have q : ∀ n : Int, 0 ≤ n → n.tmod 65536 = n % 65536 ∧ n.tdiv 65536 = n / 65536 := fun n hn => ⟨Int.tmod_eq_emod_of_nonneg hn, Int.tdiv_eq_ediv_of_nonneg hn⟩
    obtain ⟨q1, q2⟩ := q (16777216 + 65536 * (e + 16) - m) (by omega)
    have q3 : ((16777216 + 65536 * (e + 16) - m) / 65536).tmod 256 = (16777216 + 65536 * (e + 16) - m) / 65536 % 256 := Int.tmod_eq_emod_of_nonneg (by omega)
    refine ⟨by omega, by omega, ?_, ?_, hin⟩
    · unfold bitsM; rw [if_pos (by omega), q1]; omega
    · unfold bitsE; rw [q2, q3]; omega
  · rw [if_neg hm]
    have q : ∀ n : Int, 0 ≤ n → n.tmod 65536 = n % 65536 ∧ n.tdiv 65536 = n / 65536 := fun n hn => ⟨Int.tmod_eq_emod_of_nonneg hn, Int.tdiv_eq_ediv_of_nonneg hn⟩
    obtain ⟨q1, q2⟩ := q (65536 * (e + 16) + m) (by omega)
    have q3 : ((65536 * (e + 16) + m) / 65536).tmod 256 = (65536 * (e + 16) + m) / 65536 % 256 := Int.tmod_eq_emod_of_nonneg (by omega)
    refine ⟨by omega, by omega, ?_, ?_, hin⟩
    · unfold bitsM; rw [if_neg (by omega), q1]; omega
    · unfold bitsE; rw [q2, q3]; omega
theorem bits_new {m e : Int} (h : fltOk m e = true) : IsFlt (bitsM (fltBits m e)) (bitsE (fltBits m e)) m e true := by
  obtain ⟨_, _, h1, h2, h3⟩ := bits_back h
  rw [h1, h2]
  exact isFlt_yes h3 (sameF_refl m e) h
end Go.Proofs.Ytblaaiggmhadfaa
