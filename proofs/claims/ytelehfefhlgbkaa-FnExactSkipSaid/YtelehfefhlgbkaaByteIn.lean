/- What the program's byteIn, digitsAt, digitsValue and signed return. -/
import Derived.Test.YtelehfefhlgbkaaReadMath
import Derived.Test.YtelehfefhlgbkaaShelf
import Derived.WalkKit
import Derived.Lib.Hide
import Derived.Lib.Bytealg
import Derived.Outline
import Derived.ProofKit
import Derived.IntWalk
namespace Go.Proofs.Ytelehfefhlgbkaa
open Go.RowKit
def inS (l set : List UInt8) (i : Nat) : Bool := match l[i]? with
  | some c => set.contains c
  | none => false
theorem find_ge (set : List UInt8) (c : UInt8) : decide (0 ≤ Lib.indexByte set c) = set.contains c := by
  induction set with
  | nil => rfl
  | cons b s ih =>
    have hg := Lib.indexByte_ge s c
    unfold Lib.indexByte
    rw [List.contains_cons, show (c == b) = (b == c) from Bool.beq_comm, ← ih]
    by_cases h : b == c
    · rw [if_pos h, h]; rfl
    · rw [if_neg h, show (b == c) = false by simpa using h, Bool.false_or]
      by_cases h2 : Lib.indexByte s c = -1
      · rw [h2]; rfl
      · rw [if_neg (by simpa using h2)]
        rw [decide_eq_decide]; omega
theorem inS_get {l set : List UInt8} {i : Nat} (h : i < l.length) : inS l set i = set.contains l[i] := by unfold inS; rw [List.getElem?_eq_getElem h]
theorem inS_out {l set : List UInt8} {i : Nat} (h : l.length ≤ i) : inS l set i = false := by unfold inS; rw [List.getElem?_eq_none h]
theorem inS_one (l : List UInt8) (c : UInt8) (i : Nat) : inS l [c] i = atC l i c := by
  rcases Nat.lt_or_ge i l.length with h | h
  · rw [inS_get h, atC_get h]; simp; rfl
  · rw [inS_out h, atC_out h]
theorem inS_two (l : List UInt8) (c d : UInt8) (i : Nat) : inS l [c, d] i = (atC l i c || atC l i d) := by
  rcases Nat.lt_or_ge i l.length with h | h
  · rw [inS_get h, atC_get h, atC_get h]; simp; rfl
  · rw [inS_out h, atC_out h, atC_out h]; rfl
theorem isD_fin : ∀ n : Fin 256, ([48, 49, 50, 51, 52, 53, 54, 55, 56, 57] : List UInt8).contains (UInt8.ofNat n.val) = isD (UInt8.ofNat n.val) := by decide +kernel
theorem isD_list (c : UInt8) : ([48, 49, 50, 51, 52, 53, 54, 55, 56, 57] : List UInt8).contains c = isD c := by
  have h := isD_fin ⟨c.toNat, c.toNat_lt⟩
  rwa [show UInt8.ofNat c.toNat = c by simp] at h
theorem inS_dig (l : List UInt8) (i : Nat) : inS l [48, 49, 50, 51, 52, 53, 54, 55, 56, 57] i = atD l i := by
  rcases Nat.lt_or_ge i l.length with h | h
  · rw [inS_get h, atD_get h, isD_list]
  · rw [inS_out h, atD_out h]
set_option maxRecDepth 20000 in
theorem bytein_any (l set : List UInt8) (i : Nat) (w : World) (hl : l.length ≤ 9223372036854775807) : Calls Try.prog 9 #[.string ⟨l.toArray⟩, .int .i64 i, .string ⟨set.toArray⟩] w fun e w' => e = .returned (.bool (inS l set i)) ∧ w = w' := by
  by_cases h : (i : Int) < l.length
  · have hi : i < l.length := by omega
    rw [inS_get hi, ← find_ge]
    have c := Try.strings_IndexByte ⟨set.toArray⟩ (l[i].toNat) w
    rw [show ((l[i].toNat : Int)).toNat.toUInt8 = l[i] by simp] at c
    generalize Lib.indexByte (ByteArray.mk set.toArray).data.toList l[i] = r at *
    go_enter Try.func9, Try.ntmps9
    go_wp2_with (go_at_call 10; refine c.mono ?_; rintro e w' ⟨rfl, rfl⟩)
    go_ret
    exact ⟨rfl, rfl⟩
  · rw [inS_out (by omega)]
    go_enter Try.func9, Try.ntmps9
    go_wp2
    go_ret
    exact ⟨rfl, rfl⟩
theorem isD_iff {c : UInt8} (h : isD c = true) : isDig c := by unfold isD at h; unfold isDig; exact of_decide_eq_true h
theorem val_take {l : List UInt8} {k : Nat} (h : k < l.length) : decVal 0 (l.take (k + 1)) = decVal 0 (l.take k) * 10 + ((l[k]).toNat - 48) := by
  rw [List.take_succ_eq_append_getElem h, decVal_snoc]
theorem val_bound {l : List UInt8} (hd : ∀ c ∈ l, isD c = true) (hl : l.length ≤ 17) (k : Nat) : decVal 0 (l.take k) < 100000000000000000 := by
  have h1 := decVal_lt (l.take k) (fun c hc => isD_iff (hd c (List.mem_of_mem_take hc))) 0
  have h2 : 10 ^ (l.take k).length ≤ 10 ^ 17 := Nat.pow_le_pow_right (by decide) (by rw [List.length_take]; omega)
  omega
end Go.Proofs.Ytelehfefhlgbkaa
