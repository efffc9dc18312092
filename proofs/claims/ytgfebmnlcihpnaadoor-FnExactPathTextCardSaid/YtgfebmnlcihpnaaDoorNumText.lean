/- What NumText of the program and NumText of the model return: the decimal numeral, for every integer. -/
import Derived.Test.YtgfebmnlcihpnaaDoorRows
import Derived.Test.YtgfebmnlcihpnaaDoorIn
import Derived.Test.YtgfebmnlcihpnaaDoorShelf
import Derived.WalkKit
import Derived.Lib.Hide
import Derived.Lib.ItoaNum
import Derived.Outline
import Derived.ProofKit
namespace Go.Proofs.YtgfebmnlcihpnaaDoor
open Go.RowKit
def digs (m : Nat) : List UInt8 := if m = 0 then [] else Lib.decDigits m
theorem digs_zero : digs 0 = [] := rfl
theorem digs_step (m : Nat) (h : m ≠ 0) : digs m = digs (m / 10) ++ [UInt8.ofNat (48 + m % 10)] := by
  unfold digs
  rw [if_neg h, Lib.decDigits]
  by_cases h10 : m < 10
  · rw [dif_pos h10, if_pos (by omega), show m % 10 = m by omega]; rfl
  · rw [dif_neg h10, if_neg (by omega)]
theorem str_eq {k l : List UInt8} (h : k = l) : Ending.returned (.string ⟨k.toArray⟩) = .returned (.string ⟨l.toArray⟩) := by rw [h]
theorem digs_len (m : Nat) : (digs m).length ≤ m / 10 + 1 := by
  induction m using Nat.strongRecOn with
  | _ m ih =>
    by_cases h : m = 0
    · subst h; rw [digs_zero]; exact Nat.zero_le _
    · rw [digs_step m h, List.length_append]
      have h1 := ih (m / 10) (by omega)
      have h2 : ([UInt8.ofNat (48 + m % 10)] : List UInt8).length = 1 := rfl
      by_cases h10 : m < 10
      · rw [show m / 10 = 0 by omega] at h1 ⊢; rw [digs_zero]; exact Nat.le_refl _
      · omega
theorem cat_eq (a b : List UInt8) : ((⟨a.toArray⟩ : ByteArray) ++ (⟨b.toArray⟩ : ByteArray)) = ⟨(a ++ b).toArray⟩ := by
  apply ByteArray.ext
  simp [ByteArray.data_append]
theorem conv_cell (W : World) (B : Nat) (c : Int) (h : W.cell? ⟨B, 0, none⟩ = some (.int .u8 c)) : ∀ i, i < 1 → W.cell? ⟨B, 0 + i, none⟩ = some (.int .u8 (([c] : List Int).getD i 0)) := by
  intro i hi
  obtain rfl : i = 0 := by omega
  simpa using h
theorem conv_one (W : World) (B : Nat) (c : Int) (h : W.cell? ⟨B, 0, none⟩ = some (.int .u8 c)) : (convert 22 9 (.slice (some ⟨B, 0, none⟩) 1 1)).run Tryd.prog W = .ok (.string ⟨#[UInt8.ofNat c.toNat]⟩) W :=
  run_convert_bytes_arg W _ _ Tryd.underlying22 Tryd.underlying5 B 0 1 1 [c] rfl (conv_cell W B c h) _ Tryd.underlying9
theorem itoa_pos (n : Int) (h : 1 ≤ n) : Lib.itoa n = digs n.toNat := by
  unfold Lib.itoa digs; rw [if_neg (by omega), if_neg (by omega)]
theorem itoa_neg' (m : Nat) (h : 1 ≤ m) : Lib.itoa (-(m : Int)) = 45 :: digs m := by
  unfold Lib.itoa digs; rw [if_pos (by omega), if_neg (by omega)]; simp
theorem dg_eq (m : Nat) : (48 : UInt8) + UInt8.ofNat (m % 10) = UInt8.ofNat (48 + m % 10) := by
  have : m % 10 < 10 := Nat.mod_lt _ (by omega)
  have key : ∀ i : Fin 10, (48 : UInt8) + UInt8.ofNat i.val = UInt8.ofNat (48 + i.val) := by decide
  exact key ⟨m % 10, this⟩
theorem numtext_spec_pos (n : Nat) (w : World) (h0 : 1 ≤ n) (h1 : (n : Int) ≤ 9223372036854775807) : Calls Tryd.prog 67 #[.int .i64 n] w fun e w' => e = .returned (.string ⟨(digs n).toArray⟩) ∧ Below w.heap.size w w' := by
  have hn : ((n : Int) == 0) = false := by simp; omega
  go_enter Tryd.func67, Tryd.ntmps67
  go_wp2
  go_loopw [3, 4, 5] (fun s x d wr => ∃ (x' : Nat) (acc : List UInt8), x = .int .i64 x' ∧ s = .string ⟨acc.toArray⟩ ∧ digs x' ++ acc = digs n ∧ x' ≤ n ∧ Below w.heap.size w wr) (fun _ x _ _ => (intOf x).toNat)
  case atStart => exact ⟨n, [], rfl, rfl, by simp, Nat.le_refl _, Below.refl _ _⟩
  case round =>
    obtain ⟨x', acc, rfl, rfl, hk, hb, hbel⟩ := hrel
    by_cases hz : x' = 0
    · subst hz
      go_wp2
      go_ret
      rw [digs_zero, List.nil_append] at hk
      exact ⟨str_eq hk, hbel⟩
    · have hz' : ((x' : Int) != 0) = true := by simp; omega
      have h2 : (0 : Int) ≤ x' := by omega
      have h3 : (x' : Int) ≤ 9223372036854775807 := by omega
      have hl1 := congrArg List.length hk
      have hl2 := digs_len n
      rw [List.length_append] at hl1
      have hl3 : acc.length ≤ 922337203685477581 := by omega
      have HK := Lib.hid hk
      have hcv := conv_one
      clear hk hl1 hl2
      go_wp2
      go_roundw
      case rel => exact ⟨x' / 10, [UInt8.ofNat (48 + x' % 10)] ++ acc, by go_num, by rw [← cat_eq, ← dg_eq], by rw [← HK.out, digs_step x' hz, List.append_assoc], by omega, hbel.alloc hbel.size _⟩
      case measure => simp [intOf]; omega
theorem neg_tdiv (m : Nat) : (-(m : Int)).tdiv 10 = -((m / 10 : Nat) : Int) := by rw [Int.neg_tdiv]; rfl
theorem neg_tmod (m : Nat) : (-(m : Int)).tmod 10 = -((m % 10 : Nat) : Int) := by rw [Int.neg_tmod]; rfl
theorem numtext_spec_neg (n : Nat) (w : World) (h0 : 1 ≤ n) (h1 : (n : Int) ≤ 9223372036854775808) : Calls Tryd.prog 67 #[.int .i64 (-(n : Int))] w fun e w' => e = .returned (.string ⟨(45 :: digs n).toArray⟩) ∧ Below w.heap.size w w' := by
  have hn : ((-(n : Int)) == 0) = false := by simp; omega
  go_enter Tryd.func67, Tryd.ntmps67
  go_wp2
  go_loopw [3, 4, 5] (fun s x d wr => ∃ (x' : Nat) (acc : List UInt8), x = .int .i64 (-(x' : Int)) ∧ s = .string ⟨acc.toArray⟩ ∧ digs x' ++ acc = digs n ∧ x' ≤ n ∧ Below w.heap.size w wr) (fun _ x _ _ => (intOf x).natAbs)
  case atStart => exact ⟨n, [], rfl, rfl, by simp, Nat.le_refl _, Below.refl _ _⟩
  case round =>
    obtain ⟨x', acc, rfl, rfl, hk, hb, hbel⟩ := hrel
    have hl1 := congrArg List.length hk
    have hl2 := digs_len n
    rw [List.length_append] at hl1
    have hl3 : acc.length ≤ 922337203685477581 := by omega
    by_cases hz : x' = 0
    · subst hz
      have HK := Lib.hid hk
      clear hk hl1 hl2
      go_wp2
      go_ret
      have hk := HK.out
      rw [digs_zero, List.nil_append] at hk
      exact ⟨by rw [← hk]; exact congrArg (fun x => Ending.returned (.string x)) (cat_eq [45] acc), hbel⟩
    · have hz' : ((-(x' : Int)) != 0) = true := by simp; omega
      have h2 : (0 : Int) ≤ x' := by omega
      have h3 : (x' : Int) ≤ 9223372036854775808 := by omega
      have HK := Lib.hid hk
      have hcv := conv_one
      clear hk hl1 hl2
      have e1 := neg_tdiv x'
      have e2 := neg_tmod x'
      go_wp2
      · go_roundw
        case rel => exact ⟨x' / 10, [UInt8.ofNat (48 + x' % 10)] ++ acc, by go_num, by rw [← cat_eq, ← dg_eq], by rw [← HK.out, digs_step x' hz, List.append_assoc], by omega, hbel.alloc hbel.size _⟩
        case measure => simp [intOf]; omega
      · have hm : x' % 10 = 0 := by omega
        go_roundw
        case rel => exact ⟨x' / 10, [UInt8.ofNat (48 + x' % 10)] ++ acc, by go_num, by rw [← cat_eq, hm, show (x' : Int) % 10 = 0 by omega]; rfl, by rw [← HK.out, digs_step x' hz, List.append_assoc], by omega, hbel.alloc hbel.size _⟩
        case measure => simp [intOf]; omega
theorem numtext_spec (n : Int) (w : World) (h0 : -9223372036854775808 ≤ n) (h1 : n ≤ 9223372036854775807) : Calls Tryd.prog 67 #[.int .i64 n] w fun e w' => e = .returned (.string ⟨(Lib.itoa n).toArray⟩) ∧ Below w.heap.size w w' := by
  by_cases hp : 1 ≤ n
  · obtain ⟨m, rfl⟩ : ∃ m : Nat, n = m := ⟨n.toNat, by omega⟩
    rw [itoa_pos _ hp]
    exact numtext_spec_pos m w (by omega) h1
  · by_cases hz : n = 0
    · subst hz
      go_enter Tryd.func67, Tryd.ntmps67
      go_wp2
      go_ret
      exact ⟨str_eq (by decide +kernel), Below.refl _ _⟩
    · obtain ⟨m, rfl⟩ : ∃ m : Nat, n = -(m : Int) := ⟨n.natAbs, by omega⟩
      rw [itoa_neg' m (by omega)]
      exact numtext_spec_neg m w (by omega) (by omega)
theorem below_grow {w : World} {k : Nat} {os : Array Obj} : Below w.heap.size w (Sort.grow (w.drewN k) os) := by
  refine ⟨rfl, rfl, rfl, ?_, fun i hi => ?_⟩
  · show w.heap.size ≤ (w.heap ++ os).size
    rw [Array.size_append]; omega
  · show (w.heap ++ os)[i]? = w.heap[i]?
    rw [Array.getElem?_append_left hi]
theorem var_below {P : Program} {w w' : World} {n : String} {cs : Array Value} (hb : Below w.heap.size w w') (h : w.var? P n = some cs) : w'.var? P n = some cs := by
  unfold World.var? at h ⊢
  cases hg : P.globalNamed n with
  | none => simp [hg] at h
  | some g =>
    simp only [hg, Option.bind_some] at h ⊢
    have hlt : g < w.heap.size := by
      rcases Nat.lt_or_ge g w.heap.size with h' | h'
      · exact h'
      · simp [Array.getElem?_eq_none h'] at h
    rw [hb.block g hlt]
    exact h
theorem numtext_impl (n : Int) (w : World) (h0 : -9223372036854775808 ≤ n) (h1 : n ≤ 9223372036854775807) (htab : Lib.TabIs Tryd.prog w "internal/strconv.uint64pow10" .u64 Lib.pow10Tab) : Calls Tryd.prog 66 #[.int .i64 n] w fun e w' => e = .returned (.string ⟨(Lib.itoa n).toArray⟩) ∧ Below w.heap.size w w' := by
  go_enter Tryd.func66, Tryd.ntmps66
  go_wp2_with (go_at_call 81; refine (Tryd.strconv_Itoa n h0 h1 _ htab).mono ?_; rintro e w' ⟨rfl, k, os, rfl⟩)
  go_ret
  exact ⟨rfl, below_grow⟩
end Go.Proofs.YtgfebmnlcihpnaaDoor
