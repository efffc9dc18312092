/- Spaces and signs of a text: plain facts. No program. -/
import Derived.Test.YtelehfefhlgbkaaRows
namespace Go.Proofs.Ytelehfefhlgbkaa
open Go
def isSp (c : UInt8) : Bool := ([9, 10, 13, 32] : List UInt8).contains c
def isSg (c : UInt8) : Bool := ([123, 125, 91, 93, 58, 44] : List UInt8).contains c
def atSp (l : List UInt8) (i : Nat) : Bool := match l[i]? with
  | some c => isSp c
  | none => false
/-- the place behind the spaces from i on -/
def skE (l : List UInt8) (i : Nat) : Nat := i + ((l.drop i).takeWhile isSp).length
theorem atSp_get {l : List UInt8} {i : Nat} (h : i < l.length) : atSp l i = isSp l[i] := by unfold atSp; rw [List.getElem?_eq_getElem h]
theorem atSp_out {l : List UInt8} {i : Nat} (h : l.length ≤ i) : atSp l i = false := by unfold atSp; rw [List.getElem?_eq_none h]
theorem atSp_lt {l : List UInt8} {i : Nat} (h : atSp l i = true) : i < l.length := by
  rcases Nat.lt_or_ge i l.length with g | g
  · exact g
  · rw [atSp_out g] at h; cases h
theorem skE_step {l : List UInt8} {i : Nat} (h : atSp l i = true) : skE l i = skE l (i + 1) := by
  have hl := atSp_lt h
  unfold skE
  rw [List.drop_eq_getElem_cons hl, List.takeWhile_cons, if_pos (by rw [← atSp_get hl]; exact h)]
  simp only [List.length_cons]; omega
theorem skE_stop {l : List UInt8} {i : Nat} (h : atSp l i = false) : skE l i = i := by
  unfold skE
  rcases Nat.lt_or_ge i l.length with g | g
  · rw [List.drop_eq_getElem_cons g, List.takeWhile_cons, if_neg (by rw [← atSp_get g, h]; decide)]; rfl
  · rw [List.drop_eq_nil_of_le g]; rfl
theorem skE_ge (l : List UInt8) (i : Nat) : i ≤ skE l i := by unfold skE; omega
theorem skE_le {l : List UInt8} {i : Nat} (h : i ≤ l.length) : skE l i ≤ l.length := by
  unfold skE
  have := (List.takeWhile_sublist isSp (l := l.drop i)).length_le
  simp at this; omega
theorem skE_end (l : List UInt8) (i : Nat) : atSp l (skE l i) = false := by
  generalize hn : l.length - i = n
  induction n generalizing i with
  | zero => rw [skE_stop (atSp_out (by omega))]; exact atSp_out (by omega)
  | succ n ih =>
    cases hd : atSp l i
    · rw [skE_stop hd]; exact hd
    · rw [skE_step hd]; exact ih (i + 1) (by omega)
/-- Skip, at any int -/
def skT (l : List UInt8) (a : Int) : Int := if 0 ≤ a then (skE l a.toNat : Nat) else a
end Go.Proofs.Ytelehfefhlgbkaa
