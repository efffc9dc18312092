/- markText of the exact laws: the letter m and the digits. -/
import Derived.Test.YtgfebmnlcihpnaaRows
import Derived.Test.YtgfebmnlcihpnaaIn
import Derived.WalkKit
import Derived.Lib.Hide
import Derived.Lib.ItoaNum
import Derived.Outline
import Derived.ProofKit
import Derived.Laws.BytesArg
namespace Go.Proofs.Ytgfebmnlcihpnaa
open Go.RowKit
def mtd (m : Nat) : List UInt8 := if m = 0 then [] else Lib.decDigits m
theorem mtd_zero : mtd 0 = [] := rfl
theorem mtd_step (m : Nat) (h : m ≠ 0) : mtd m = mtd (m / 10) ++ [UInt8.ofNat (48 + m % 10)] := by
  unfold mtd
  rw [if_neg h, Lib.decDigits]
  by_cases h10 : m < 10
  · rw [dif_pos h10, if_pos (by omega), show m % 10 = m by omega]; rfl
  · rw [dif_neg h10, if_neg (by omega)]
theorem mtd_len (m : Nat) : (mtd m).length ≤ m / 10 + 1 := by
  induction m using Nat.strongRecOn with
  | _ m ih =>
    by_cases h : m = 0
    · subst h; rw [mtd_zero]; exact Nat.zero_le _
    · rw [mtd_step m h, List.length_append]
      have h1 := ih (m / 10) (by omega)
      have h2 : ([UInt8.ofNat (48 + m % 10)] : List UInt8).length = 1 := rfl
      by_cases h10 : m < 10
      · rw [show m / 10 = 0 by omega] at h1 ⊢; rw [mtd_zero]; exact Nat.le_refl _
      · omega
theorem mt_cat (a b : List UInt8) : ((⟨a.toArray⟩ : ByteArray) ++ (⟨b.toArray⟩ : ByteArray)) = ⟨(a ++ b).toArray⟩ := by
  apply ByteArray.ext
  simp [ByteArray.data_append]
theorem mt_cell (W : World) (B : Nat) (c : Int) (h : W.cell? ⟨B, 0, none⟩ = some (.int .u8 c)) : ∀ i, i < 1 → W.cell? ⟨B, 0 + i, none⟩ = some (.int .u8 (([c] : List Int).getD i 0)) := by
  intro i hi
  obtain rfl : i = 0 := by omega
  simpa using h
theorem mt_conv (W : World) (B : Nat) (c : Int) (h : W.cell? ⟨B, 0, none⟩ = some (.int .u8 c)) : (convert 22 9 (.slice (some ⟨B, 0, none⟩) 1 1)).run Try.prog W = .ok (.string ⟨#[UInt8.ofNat c.toNat]⟩) W :=
  run_convert_bytes_arg W _ _ Try.underlying22 Try.underlying5 B 0 1 1 [c] rfl (mt_cell W B c h) _ Try.underlying9
theorem mt_dg (m : Nat) : (48 : UInt8) + UInt8.ofNat (m % 10) = UInt8.ofNat (48 + m % 10) := by
  have : m % 10 < 10 := Nat.mod_lt _ (by omega)
  have key : ∀ i : Fin 10, (48 : UInt8) + UInt8.ofNat i.val = UInt8.ofNat (48 + i.val) := by decide
  exact key ⟨m % 10, this⟩
/-- the mark's text -/
def mtx (n : Nat) : List UInt8 := 109 :: mtd n
theorem marktext_any (n : Nat) (w : World) (h0 : 1 ≤ n) (h1 : (n : Int) ≤ 9223372036854775807) : Calls Try.prog 168 #[.int .i64 n] w fun e w' => e = .returned (.string ⟨(mtx n).toArray⟩) ∧ Below w.heap.size w w' := by
  have hn : ¬ ((n : Int) ≤ 0) := by omega
  go_enter Try.func168, Try.ntmps168
  go_wp2
  go_loopw [0, 3] (fun x s wr => ∃ (x' : Nat) (acc : List UInt8), x = .int .i64 x' ∧ s = .string ⟨acc.toArray⟩ ∧ mtd x' ++ acc = mtd n ∧ x' ≤ n ∧ Below w.heap.size w wr) (fun x _ _ => (intOf x).toNat)
  case atStart => exact ⟨n, [], rfl, rfl, by simp, Nat.le_refl _, Below.refl _ _⟩
  case round =>
    obtain ⟨x', acc, rfl, rfl, hk, hb, hbel⟩ := hrel
    have hl1 := congrArg List.length hk
    have hl2 := mtd_len n
    rw [List.length_append] at hl1
    have hl3 : acc.length ≤ 922337203685477581 := by omega
    by_cases hz : x' = 0
    · subst hz
      have HK := Lib.hid hk
      clear hk hl1 hl2
      go_wp2
      go_ret
      have hk := HK.out
      rw [mtd_zero, List.nil_append] at hk
      exact ⟨by rw [mtx, ← hk]; exact congrArg (fun x => Ending.returned (.string x)) (mt_cat [109] acc), hbel⟩
    · have hz' : (0 : Int) < x' := by omega
      have h2 : (0 : Int) ≤ x' := by omega
      have h3 : (x' : Int) ≤ 9223372036854775807 := by omega
      have HK := Lib.hid hk
      have hcv := mt_conv
      clear hk hl1 hl2
      go_wp2
      go_roundw
      case rel => exact ⟨x' / 10, [UInt8.ofNat (48 + x' % 10)] ++ acc, by go_num, by rw [← mt_cat, ← mt_dg], by rw [← HK.out, mtd_step x' hz, List.append_assoc], by omega, hbel.alloc hbel.size _⟩
      case measure => simp [intOf]; omega
end Go.Proofs.Ytgfebmnlcihpnaa
