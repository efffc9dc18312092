/- What the program's byteIn, digitsAt, digitsValue and signed return. -/
import Derived.Test.YtmjlbglnlpfadaaDoorReadMath
import Derived.Test.YtmjlbglnlpfadaaDoorConv
import Derived.Test.YtmjlbglnlpfadaaDoorTextMath
import Derived.Test.YtmjlbglnlpfadaaDoorShelf
import Derived.WalkKit
import Derived.Lib.Hide
import Derived.Lib.Bytealg
import Derived.Outline
import Derived.ProofKit
import Derived.IntWalk
namespace Go.Proofs.YtmjlbglnlpfadaaDoor
open Go.RowKit
def inS (l set : List UInt8) (i : Nat) : Bool := match l[i]? with
  | some c => set.contains c
  | none => false
theorem find_ge (set : List UInt8) (c : UInt8) : decide (0 ≤ Lib.indexByte set c) = set.contains c := by
  induction set with
  | nil => rfl
  | cons b s ih =>
    have hg := Lib.indexByte_ge s c
    unfold Lib.indexByte
    rw [List.contains_cons, show (c == b) = (b == c) from Bool.beq_comm, ← ih]
    by_cases h : b == c
    · rw [if_pos h, h]; rfl
    · rw [if_neg h, show (b == c) = false by simpa using h, Bool.false_or]
      by_cases h2 : Lib.indexByte s c = -1
      · rw [h2]; rfl
      · rw [if_neg (by simpa using h2)]
        rw [decide_eq_decide]; omega
theorem inS_get {l set : List UInt8} {i : Nat} (h : i < l.length) : inS l set i = set.contains l[i] := by unfold inS; rw [List.getElem?_eq_getElem h]
theorem inS_out {l set : List UInt8} {i : Nat} (h : l.length ≤ i) : inS l set i = false := by unfold inS; rw [List.getElem?_eq_none h]
theorem inS_one (l : List UInt8) (c : UInt8) (i : Nat) : inS l [c] i = atC l i c := by
  rcases Nat.lt_or_ge i l.length with h | h
  · rw [inS_get h, atC_get h]; simp; rfl
  · rw [inS_out h, atC_out h]
theorem inS_two (l : List UInt8) (c d : UInt8) (i : Nat) : inS l [c, d] i = (atC l i c || atC l i d) := by
  rcases Nat.lt_or_ge i l.length with h | h
  · rw [inS_get h, atC_get h, atC_get h]; simp; rfl
  · rw [inS_out h, atC_out h, atC_out h]; rfl
theorem isD_fin : ∀ n : Fin 256, ([48, 49, 50, 51, 52, 53, 54, 55, 56, 57] : List UInt8).contains (UInt8.ofNat n.val) = isD (UInt8.ofNat n.val) := by decide +kernel
theorem isD_list (c : UInt8) : ([48, 49, 50, 51, 52, 53, 54, 55, 56, 57] : List UInt8).contains c = isD c := by
  have h := isD_fin ⟨c.toNat, c.toNat_lt⟩
  rwa [show UInt8.ofNat c.toNat = c by simp] at h
theorem inS_dig (l : List UInt8) (i : Nat) : inS l [48, 49, 50, 51, 52, 53, 54, 55, 56, 57] i = atD l i := by
  rcases Nat.lt_or_ge i l.length with h | h
  · rw [inS_get h, atD_get h, isD_list]
  · rw [inS_out h, atD_out h]
set_option maxRecDepth 20000 in
theorem bytein_any (l set : List UInt8) (i : Nat) (w : World) (hl : l.length ≤ 9223372036854775807) : Calls Tryd.prog 57 #[.string ⟨l.toArray⟩, .int .i64 i, .string ⟨set.toArray⟩] w fun e w' => e = .returned (.bool (inS l set i)) ∧ w = w' := by
  by_cases h : (i : Int) < l.length
  · have hi : i < l.length := by omega
    rw [inS_get hi, ← find_ge]
    have c := Tryd.strings_IndexByte ⟨set.toArray⟩ (l[i].toNat) w
    rw [show ((l[i].toNat : Int)).toNat.toUInt8 = l[i] by simp] at c
    generalize Lib.indexByte (ByteArray.mk set.toArray).data.toList l[i] = r at *
    go_enter Tryd.func57, Tryd.ntmps57
    go_wp2_with (go_at_call 72; refine c.mono ?_; rintro e w' ⟨rfl, rfl⟩)
    go_ret
    exact ⟨rfl, rfl⟩
  · rw [inS_out (by omega)]
    go_enter Tryd.func57, Tryd.ntmps57
    go_wp2
    go_ret
    exact ⟨rfl, rfl⟩
theorem sgn_any (b : Bool) (n : Int) (w : World) (h0 : -9223372036854775807 ≤ n) (h1 : n ≤ 9223372036854775807) : Calls Tryd.prog 60 #[.int .i64 n, .bool b] w fun e w' => e = .returned (.int .i64 (sgnV b n)) ∧ w = w' := by
  unfold sgnV
  cases b
  · go_enter Tryd.func60, Tryd.ntmps60
    go_wp2
    go_ret
    exact ⟨rfl, rfl⟩
  · go_enter Tryd.func60, Tryd.ntmps60
    go_wp2
    go_ret
    exact ⟨rfl, rfl⟩
set_option maxRecDepth 20000 in
theorem digitsat_any (l : List UInt8) (i : Nat) (w : World) (hi : i ≤ l.length) (hl : l.length ≤ 1048576) : Calls Tryd.prog 58 #[.string ⟨l.toArray⟩, .int .i64 i] w fun e w' => e = .returned (.string ⟨(cut l i (dEnd l i)).toArray⟩) ∧ w = w' := by
  have cb := fun k w1 => bytein_any l [48, 49, 50, 51, 52, 53, 54, 55, 56, 57] k w1 (by omega)
  have hL : (l.length : Int) ≤ 1048576 := by omega
  have hI : (i : Int) ≤ l.length := by omega
  go_enter Tryd.func58, Tryd.ntmps58
  go_wp2
  go_loop [5] (fun t => ∃ k : Nat, t = .int .i64 k ∧ Hid (dEnd l k = dEnd l i) ∧ Hid (i ≤ k) ∧ (k : Int) ≤ l.length) (fun t => l.length - (intOf t).toNat)
  case atStart => exact ⟨i, rfl, Lib.hid rfl, Lib.hid (Nat.le_refl _), hI⟩
  case round =>
    obtain ⟨k, rfl, he, hik, hk⟩ := hrel
    have ck := cb k
    rw [inS_dig] at ck
    cases hd : atD l k
    · rw [hd] at ck
      have e1 := he.out
      rw [dEnd_stop hd] at e1
      have hE : Hid (k = dEnd l i) := Lib.hid e1
      have hik2 : (i : Int) ≤ k := by have := hik.out; omega
      have ec := ext_cut l i k
      clear e1 he hik hd
      go_wp2_with (go_at_call 57; refine (ck _).mono ?_; rintro e w' ⟨rfl, rfl⟩)
      go_ret
      refine ⟨?_, rfl⟩
      rw [← hE.out]
      rfl
    · rw [hd] at ck
      have hlt : (k : Int) < l.length := by have := atD_lt hd; omega
      have he2 : Hid (dEnd l (k + 1) = dEnd l i) := Lib.hid (by rw [← he.out, dEnd_step hd])
      have hik2 : Hid (i ≤ k + 1) := Lib.hid (by have := hik.out; omega)
      clear hd he hik hk
      go_wp2_with (go_at_call 57; refine (ck _).mono ?_; rintro e w' ⟨rfl, rfl⟩)
      go_round
      case rel => exact ⟨k + 1, by go_num, he2, hik2, by omega⟩
      case measure => simp [intOf]; omega
theorem isD_iff {c : UInt8} (h : isD c = true) : isDig c := by unfold isD at h; unfold isDig; exact of_decide_eq_true h
theorem val_take {l : List UInt8} {k : Nat} (h : k < l.length) : decVal 0 (l.take (k + 1)) = decVal 0 (l.take k) * 10 + ((l[k]).toNat - 48) := by
  rw [List.take_succ_eq_append_getElem h, decVal_snoc]
theorem val_bound {l : List UInt8} (hd : ∀ c ∈ l, isD c = true) (hl : l.length ≤ 17) (k : Nat) : decVal 0 (l.take k) < 100000000000000000 := by
  have h1 := decVal_lt (l.take k) (fun c hc => isD_iff (hd c (List.mem_of_mem_take hc))) 0
  have h2 : 10 ^ (l.take k).length ≤ 10 ^ 17 := Nat.pow_le_pow_right (by decide) (by rw [List.length_take]; omega)
  omega
set_option maxRecDepth 20000 in
theorem digitsvalue_any (l : List UInt8) (w : World) (hd : ∀ c ∈ l, isD c = true) (hl : l.length ≤ 17) : Calls Tryd.prog 61 #[.string ⟨l.toArray⟩] w fun e w' => e = .returned (.int .i64 (decVal 0 l)) ∧ Below w.heap.size w w' := by
  obtain ⟨cap, w1, hr, hread, hb, _⟩ := conv_bytes w l
  obtain ⟨_, hcell⟩ := slice_cells hread
  have hL : (l.length : Int) ≤ 17 := by omega
  have VB := Lib.hid (val_bound hd hl)
  have HD := Lib.hid hd
  have HC := Lib.hid hcell
  clear hread hcell hd hl
  go_enter Tryd.func61, Tryd.ntmps61
  go_wp2
  go_loop [3, 9] (fun a b => ∃ k n : Nat, a = .int .i64 n ∧ b = .int .i64 k ∧ (k : Int) ≤ l.length ∧ Hid (n = decVal 0 (l.take k))) (fun _ b => l.length - (intOf b).toNat)
  case atStart => exact ⟨0, 0, rfl, rfl, by omega, Lib.hid rfl⟩
  case round =>
    obtain ⟨k, n, rfl, rfl, hk, hn⟩ := hrel
    have hnb : (n : Int) ≤ 100000000000000000 := by have := VB.out k; have := hn.out; omega
    by_cases hlt : (k : Int) < l.length
    · have hkl : k < l.length := by omega
      obtain ⟨x, hx⟩ : ∃ x : Nat, x = (l[k]).toNat := ⟨_, rfl⟩
      have hxd := isD_iff (HD.out l[k] (List.getElem_mem hkl))
      unfold isDig at hxd
      rw [← hx] at hxd
      have x0 : (48 : Int) ≤ x := by omega
      have x1 : (x : Int) ≤ 57 := by omega
      have hc := HC.out k (.int .u8 x) (by rw [List.getElem?_eq_getElem (by simpa using hkl), bv_getElem, hx])
      rw [Nat.zero_add] at hc
      have hn2 : Hid (n * 10 + (x - 48) = decVal 0 (l.take (k + 1))) := Lib.hid (by rw [val_take hkl, ← hn.out, hx])
      have wu : IntKind.u8.wrap ((x : Int) - 48) = (x : Int) - 48 := IntWalk.u8_in _ (by omega)
      clear hxd hkl hx hn
      go_wp2
      go_round
      case rel => exact ⟨k + 1, n * 10 + (x - 48), by congr 1; omega, by go_num, by omega, hn2⟩
      case measure => simp [intOf]; omega
    · have hn2 : Hid (n = decVal 0 l) := Lib.hid (by rw [hn.out, List.take_of_length_le (by omega)])
      go_wp2
      go_ret
      exact ⟨by rw [← hn2.out]; rfl, hb⟩
end Go.Proofs.YtmjlbglnlpfadaaDoor
