import Derived.Test.YtelehfefhlgbkaaGreatDoorG7
import Derived.Test.YtelehfefhlgbkaaGreatDoorG10
import Derived.Lib.ConvBytes
import Derived.Lib.AtoiErrMem
import Derived.Lib.AtoiAllMem
import Derived.Laws.Strings3
import Derived.Laws.Closers25
import Derived.Laws.Closers25b
import Derived.Lib.Hide
import Derived.Test.YtelehfefhlgbkaaGreatDoorG9
import Derived.Test.YtelehfefhlgbkaaGreatDoorG4
import Derived.Test.YtelehfefhlgbkaaGreatDoorG1
import Derived.Lib.LaidU8T
import Derived.MakeChecks
/- Four hexadecimal digits: the program's answer (strconv.ParseUint at base 16 and 16 bits) and the model's. -/
namespace Go.Proofs.YtelehfefhlgbkaaGreatDoor
open Go.RowKit Go.Shelf
set_option maxRecDepth 100000
/-- the byte with the bit 32 set -/
def lowv (c : UInt8) : Int := if c.toNat / 32 % 2 = 1 then c.toNat else (c.toNat : Int) + 32
theorem lowv_or (c : UInt8) : bits .or .u8 (c.toNat : Int) 32 = lowv c := by
  have : ∀ n : Fin 256, bits .or .u8 (((UInt8.ofNat n.val).toNat : Nat) : Int) 32 = lowv (UInt8.ofNat n.val) := by decide +kernel
  have h := this ⟨c.toNat, UInt8.toNat_lt c⟩
  simpa using h
theorem lowv_dig (c : UInt8) : (48 ≤ c.toNat ∧ c.toNat ≤ 57 ∧ dig16 c = c.toNat - 48) ∨ (¬ (48 ≤ c.toNat ∧ c.toNat ≤ 57) ∧ 97 ≤ lowv c ∧ lowv c ≤ 102 ∧ dig16 c = lowv c - 87) ∨ (¬ (48 ≤ c.toNat ∧ c.toNat ≤ 57) ∧ 103 ≤ lowv c ∧ lowv c ≤ 122 ∧ dig16 c = -1) ∨ (¬ (48 ≤ c.toNat ∧ c.toNat ≤ 57) ∧ (lowv c < 97 ∨ 122 < lowv c) ∧ 0 ≤ lowv c ∧ lowv c ≤ 255 ∧ dig16 c = -1) := by
  have : ∀ n : Fin 256, (48 ≤ (UInt8.ofNat n.val).toNat ∧ (UInt8.ofNat n.val).toNat ≤ 57 ∧ dig16 (UInt8.ofNat n.val) = (UInt8.ofNat n.val).toNat - 48) ∨ (¬ (48 ≤ (UInt8.ofNat n.val).toNat ∧ (UInt8.ofNat n.val).toNat ≤ 57) ∧ 97 ≤ lowv (UInt8.ofNat n.val) ∧ lowv (UInt8.ofNat n.val) ≤ 102 ∧ dig16 (UInt8.ofNat n.val) = lowv (UInt8.ofNat n.val) - 87) ∨ (¬ (48 ≤ (UInt8.ofNat n.val).toNat ∧ (UInt8.ofNat n.val).toNat ≤ 57) ∧ 103 ≤ lowv (UInt8.ofNat n.val) ∧ lowv (UInt8.ofNat n.val) ≤ 122 ∧ dig16 (UInt8.ofNat n.val) = -1) ∨ (¬ (48 ≤ (UInt8.ofNat n.val).toNat ∧ (UInt8.ofNat n.val).toNat ≤ 57) ∧ (lowv (UInt8.ofNat n.val) < 97 ∨ 122 < lowv (UInt8.ofNat n.val)) ∧ 0 ≤ lowv (UInt8.ofNat n.val) ∧ lowv (UInt8.ofNat n.val) ≤ 255 ∧ dig16 (UInt8.ofNat n.val) = -1) := by decide +kernel
  have h := this ⟨c.toNat, UInt8.toNat_lt c⟩
  simpa using h
theorem low_not95 (c : UInt8) (h : lowv c ≤ 122) : c.toNat ≠ 95 := by
  intro e
  unfold lowv at h
  rw [e] at h
  simp at h
/-- what internal/strconv.ParseUint hands back at base 16 -/
def innerV (l : List UInt8) : Value := match hexN 0 l with
  | some n => .tuple #[.int .u64 n, .nilIface]
  | none => .tuple #[.int .u64 0, .iface 152 (.int .i64 2)]
theorem inner_some {l : List UInt8} {n : Int} (h : hexN 0 l = some n) : innerV l = .tuple #[.int .u64 n, .nilIface] := by unfold innerV; rw [h]
theorem inner_none {l : List UInt8} (h : hexN 0 l = none) : innerV l = .tuple #[.int .u64 0, .iface 152 (.int .i64 2)] := by unfold innerV; rw [h]
set_option maxHeartbeats 8000000 in
theorem parse16_inner (l : List UInt8) (h4 : l.length = 4) (w : World) : Calls Tryz.prog 130 #[.string ⟨l.toArray⟩, .int .i64 16, .int .i64 16] w fun e w' => e = .returned (innerV l) ∧ Below w.heap.size w w' := by
  have hemp : (ByteArray.mk l.toArray).toList.isEmpty = false := by
    match l, h4 with
    | [a, b, c, d], _ => simp
  have hcv := Lib.run_convert_string_bytes (P := Tryz.prog) w 9 22 5 (ByteArray.mk l.toArray) (u := .string) Tryz.underlying9 Tryz.underlying22 Tryz.underlying5
  have hB : ∀ j (hj : j < l.length), (Lib.bytesWorld w 5 (ByteArray.mk l.toArray)).cell? ⟨w.heap.size, j, none⟩ = some (.int .u8 (l[j]).toNat) := fun j hj => by
    have := Lib.bytesWorld_cell w 5 (ByteArray.mk l.toArray) j (by rw [size_l]; exact hj)
    rw [this]; congr 3; simp [hj]
  have hbw := Lib.bytesWorld_below w 5 (ByteArray.mk l.toArray)
  obtain ⟨W1, hW1⟩ : ∃ W1, W1 = Lib.bytesWorld w 5 (ByteArray.mk l.toArray) := ⟨_, rfl⟩
  rw [← hW1] at hcv hB hbw
  clear hW1
  have hsz : (ByteArray.mk l.toArray).size = 4 := by rw [size_l, h4]
  generalize (ByteArray.mk l.toArray) = t at *
  have hmv : IntKind.u64.wrap (IntKind.u64.wrap 65536 - 1) = 65535 := by
    rw [IntKind.wrap_u64, IntKind.wrap_u64]
    decide
  have HB := Lib.hid hB
  have HW := Lib.hid hbw
  obtain ⟨R, hR⟩ : ∃ R, R = innerV l := ⟨_, rfl⟩
  rw [← hR]
  have HR := Lib.hid hR
  clear hB hbw hR
  go_enter Tryz.func130, Tryz.ntmps130
  go_wp2
  go_loopw [12, 13, 101] (fun vu vn vi wr => ∃ (k : Nat) (a : Int), vu = .bool false ∧ vn = .int .u64 a ∧ vi = .int .i64 k ∧ k ≤ 4 ∧ wr = W1 ∧ Hid (0 ≤ a ∧ a < 16 ^ k ∧ hexN 0 l = hexN a (l.drop k))) (fun _ _ vi _ => 4 - (intOf vi).toNat)
  case atStart => exact ⟨0, 0, rfl, rfl, rfl, by omega, rfl, Lib.hid ⟨by omega, by decide, rfl⟩⟩
  case round =>
    obtain ⟨k, a, rfl, rfl, rfl, hk, rfl, hh⟩ := hrel
    obtain ⟨a0, ha, hdec⟩ := hh.out
    clear hh
    have HB := HB
    by_cases hkn : k < l.length
    · have hc := HB.out k hkn
      have hdrop : l.drop k = l[k] :: l.drop (k + 1) := List.drop_eq_getElem_cons hkn
      rw [hdrop] at hdec
      generalize l[k] = c at hc hdec
      have hp : (16 : Int) ^ (k + 1) = 16 ^ k * 16 := Int.pow_succ 16 k
      have hp3 : (16 : Int) ^ k ≤ 4096 := by
        have : k = 0 ∨ k = 1 ∨ k = 2 ∨ k = 3 := by omega
        rcases this with rfl | rfl | rfl | rfl <;> decide
      have hdr := dig16_range c
      have hlw := lowv_or c
      have hk4 : (k : Int) < 4 := by omega
      clear hdrop
      rcases lowv_dig c with ⟨g1, g2, g3⟩ | ⟨g0, g1, g2, g3⟩ | ⟨g0, g1, g2, g3⟩ | ⟨g0, g1, g2, g4, g3⟩
      · -- a digit
        have hd0 : 0 ≤ dig16 c := by omega
        rw [hexN_good hd0, g3] at hdec
        have e1 : 16 * a + ((c.toNat : Int) - 48) = a * 16 + ((c.toNat : Int) - 48) := by omega
        rw [e1] at hdec
        have HN : Hid (0 ≤ a * 16 + ((c.toNat : Int) - 48) ∧ a * 16 + ((c.toNat : Int) - 48) < 16 ^ (k + 1) ∧ hexN 0 l = hexN (a * 16 + ((c.toNat : Int) - 48)) (l.drop (k + 1))) := Lib.hid ⟨by omega, by rw [hp]; omega, hdec⟩
        have i1 : (48 : Int) ≤ c.toNat := by omega
        have i2 : (c.toNat : Int) ≤ 57 := by omega
        have i3 : a ≤ 4095 := by omega
        generalize c.toNat = x at *
        clear hdec hp hp3 hdr hlw g1 g2 g3 hd0 e1 ha
        go_wp2
        go_roundw
        case rel => exact ⟨k + 1, _, by simp, rfl, by go_num, by omega, by simp, HN⟩
        case measure => simp [intOf]; omega
      · -- a letter up to f
        have hd0 : 0 ≤ dig16 c := by omega
        rw [hexN_good hd0, g3] at hdec
        have e1 : 16 * a + (lowv c - 87) = a * 16 + (lowv c - 97 + 10) := by omega
        rw [e1] at hdec
        have HN : Hid (0 ≤ a * 16 + (lowv c - 97 + 10) ∧ a * 16 + (lowv c - 97 + 10) < 16 ^ (k + 1) ∧ hexN 0 l = hexN (a * 16 + (lowv c - 97 + 10)) (l.drop (k + 1))) := Lib.hid ⟨by omega, by rw [hp]; omega, hdec⟩
        have i3 : a ≤ 4095 := by omega
        have hc256 : (c.toNat : Int) < 256 := by have : c.toNat < 256 := UInt8.toNat_lt c; omega
        have cl := fun w => Tryz.internal_strconv_lower (c.toNat : Int) w
        rw [hlw] at cl
        have g0' : (c.toNat : Int) < 48 ∨ ((48 : Int) ≤ c.toNat ∧ 57 < (c.toNat : Int)) := by omega
        have n95 : ((c.toNat : Int) == 95) = false := by have := low_not95 c (by omega); simp; omega
        generalize lowv c = v at *
        generalize c.toNat = x at *
        clear hdec hp hp3 hdr hlw g3 hd0 e1 ha g0
        rcases g0' with g0' | ⟨g0', g0''⟩
        all_goals
          go_wp2_with (go_at_call 135; refine (cl _).mono ?_; rintro e w' ⟨rfl, rfl⟩)
          go_roundw
          case rel => exact ⟨k + 1, _, by simp, rfl, by go_num, by omega, by simp, HN⟩
          case measure => simp [intOf]; omega
      · -- a letter beyond f
        have hd0 : ¬ 0 ≤ dig16 c := by omega
        rw [hexN_bad hd0] at hdec
        have hRR := HR.out.trans (inner_none hdec)
        have HQ := Lib.hid hRR
        clear hRR
        have hc256 : (c.toNat : Int) < 256 := by have : c.toNat < 256 := UInt8.toNat_lt c; omega
        have cl := fun w => Tryz.internal_strconv_lower (c.toNat : Int) w
        rw [hlw] at cl
        have g0' : (c.toNat : Int) < 48 ∨ ((48 : Int) ≤ c.toNat ∧ 57 < (c.toNat : Int)) := by omega
        have n95 : ((c.toNat : Int) == 95) = false := by have := low_not95 c (by omega); simp; omega
        generalize lowv c = v at *
        generalize c.toNat = x at *
        clear hdec hp hp3 hdr hlw g3 hd0 ha g0 a0
        rcases g0' with g0' | ⟨g0', g0''⟩
        all_goals
          go_wp2_with (go_at_call 135; refine (cl _).mono ?_; rintro e w' ⟨rfl, rfl⟩)
          go_ret2
          exact ⟨by rw [HQ.out]; rfl, HW.out⟩
      · -- no letter
        have hd0 : ¬ 0 ≤ dig16 c := by omega
        rw [hexN_bad hd0] at hdec
        have hRR := HR.out.trans (inner_none hdec)
        have HQ := Lib.hid hRR
        clear hRR
        have hc256 : (c.toNat : Int) < 256 := by have : c.toNat < 256 := UInt8.toNat_lt c; omega
        have cl := fun w => Tryz.internal_strconv_lower (c.toNat : Int) w
        rw [hlw] at cl
        have g0' : (c.toNat : Int) < 48 ∨ ((48 : Int) ≤ c.toNat ∧ 57 < (c.toNat : Int)) := by omega
        have g1' : lowv c < 97 ∨ (97 ≤ lowv c ∧ 122 < lowv c) := by omega
        by_cases h95 : c.toNat = 95
        · have cl := fun w => Tryz.internal_strconv_lower 95 w
          rw [show bits .or .u8 95 32 = 127 by decide] at cl
          rw [h95] at hc
          clear hdec hp hp3 hdr hlw g3 hd0 ha g0 a0 g1 g0' g1' g2 g4 h95 hc256
          go_wp2_with (go_at_call 135; refine (cl _).mono ?_; rintro e w' ⟨rfl, rfl⟩)
          go_ret2
          exact ⟨by rw [HQ.out]; rfl, HW.out⟩
        have n95 : ((c.toNat : Int) == 95) = false := by simp; omega
        generalize lowv c = v at *
        generalize c.toNat = x at *
        clear hdec hp hp3 hdr hlw g3 hd0 ha g0 a0 g1 h95
        rcases g0' with g0' | ⟨g0', g0''⟩ <;> rcases g1' with g1' | ⟨g1', g1''⟩
        all_goals
          go_wp2_with (go_at_call 135; refine (cl _).mono ?_; rintro e w' ⟨rfl, rfl⟩)
          go_ret2
          exact ⟨by rw [HQ.out]; rfl, HW.out⟩
    · have hk4 : k = l.length := by omega
      rw [List.drop_eq_nil_of_le (by omega)] at hdec
      have hx : hexN 0 l = some a := hdec
      have hRR := HR.out.trans (inner_some hx)
      have HQ := Lib.hid hRR
      clear hRR
      have hk5 : (k : Int) = 4 := by omega
      clear hdec ha hk4 hkn hx hk
      obtain rfl : k = 4 := by omega
      go_wp2
      go_ret2
      exact ⟨by rw [HQ.out]; rfl, HW.out⟩
theorem parse16_some (l : List UInt8) (n : Int) (h4 : l.length = 4) (hx : hexN 0 l = some n) (w : World) : Calls Tryz.prog 126 #[.string ⟨l.toArray⟩, .int .i64 16, .int .i64 16] w fun e w' => e = .returned (.tuple #[.int .u64 n, .nilIface]) ∧ Below w.heap.size w w' := by
  have ci := parse16_inner l h4 w
  rw [inner_some hx] at ci
  generalize (ByteArray.mk l.toArray) = t at *
  clear hx h4
  go_enter Tryz.func126, Tryz.ntmps126
  go_wp2_with fail
  refine ci.mono ?_
  rintro e w1 ⟨rfl, b1⟩
  go_wp2
  go_ret2
  exact ⟨rfl, b1⟩
theorem parse16_none (l : List UInt8) (h4 : l.length = 4) (hx : hexN 0 l = none) (w : World) (ts : TypeId) (ps : Value) (hS : w.var? Tryz.prog "strconv.ErrSyntax" = some #[.iface ts ps]) : Calls Tryz.prog 126 #[.string ⟨l.toArray⟩, .int .i64 16, .int .i64 16] w fun e w' => (∃ N, e = .returned (.tuple #[.int .u64 0, .iface 154 (.pointer (some ⟨N, 0, none⟩))])) ∧ Below w.heap.size w w' := by
  have ci := parse16_inner l h4 w
  rw [inner_none hx] at ci
  have hv : w.cell? ⟨6, 0, none⟩ = some (.iface ts ps) := by have h0 := World.var?_cell gES hS 0; simpa using h0
  have hG := Lib.lt_of_cell hv
  have CT := Lib.hid (fun w hv => Tryz.strconv_toError_syntax ⟨#[80, 97, 114, 115, 101, 85, 105, 110, 116]⟩ ⟨l.toArray⟩ 16 16 (.iface ts ps) w (by rw [size_l]; omega) hv (Or.inr ⟨ts, ps, rfl⟩))
  generalize (ByteArray.mk l.toArray) = t at *
  have HV := Lib.hid hv
  clear hx h4 hS hv
  go_enter Tryz.func126, Tryz.ntmps126
  go_wp2_with fail
  refine ci.mono ?_
  rintro e w1 ⟨rfl, b1⟩
  have hv1 : w1.cell? ⟨6, 0, none⟩ = some (.iface ts ps) := (b1.cell (show (⟨6, 0, none⟩ : Addr).block < w.heap.size from hG)).trans HV.out
  have ct := CT.out w1 hv1
  have B1 := Lib.hid b1
  clear b1 hv1 ci
  go_wp2_with fail
  refine ct.mono ?_
  rintro e w2 ⟨N, rfl, _, _, b2⟩
  have B2 := Lib.hid (B1.out.trans (b2.mono B1.out.size))
  clear b2 ct
  go_wp2
  go_ret2
  exact ⟨⟨N, rfl⟩, B2.out⟩
end Go.Proofs.YtelehfefhlgbkaaGreatDoor
/- ReadFour: the program's and the model's answers. -/
namespace Go.Proofs.YtelehfefhlgbkaaGreatDoor
open Go.RowKit Go.Shelf
set_option maxRecDepth 100000
theorem digit_spec (c : UInt8) (w : World) : Calls Tryz.prog 103 #[.int .u8 c.toNat] w fun e w' => e = .returned (.int .i64 (dig16 c)) ∧ w = w' := by
  have hc : (c.toNat : Int) < 256 := by have : c.toNat < 256 := UInt8.toNat_lt c; omega
  by_cases h : 65 ≤ c.toNat ∧ c.toNat ≤ 70
  · have e : dig16 c = (c.toNat : Int) - 65 + 10 := by unfold dig16; rw [if_pos h]; omega
    rw [e]
    have ci := in_yes (c.toNat : Int) 65 70 w (by omega) (by omega)
    have h1 : (65 : Int) ≤ c.toNat := by omega
    generalize c.toNat = x at *
    clear h e
    go_enter Tryz.func103, Tryz.ntmps103
    go_wp2_with fail
    refine ci.mono ?_
    rintro e w' ⟨rfl, rfl⟩
    go_wp2
    go_ret
    exact ⟨rfl, rfl⟩
  · have e : dig16 c = hexv c := by unfold dig16; rw [if_neg h]
    rw [e]
    have ci := in_no (c.toNat : Int) 65 70 w (by omega)
    have ch := l3hex_any c w
    generalize hexv c = v at *
    generalize c.toNat = x at *
    clear h e
    go_enter Tryz.func103, Tryz.ntmps103
    go_wp2_with fail
    refine ci.mono ?_
    rintro e w' ⟨rfl, rfl⟩
    go_wp2_with fail
    refine ch.mono ?_
    rintro e w' ⟨rfl, rfl⟩
    go_wp2
    go_ret
    exact ⟨rfl, rfl⟩
theorem fourV_low {l : List UInt8} {a : Int} (h : a < 0) : fourV l a = .tuple #[.int .i64 0, .bool false] := by unfold fourV; rw [if_neg (by omega)]
theorem fourV_high {l : List UInt8} {a : Int} (h : 0 ≤ a) (h2 : (l.length : Int) - 4 < a) : fourV l a = .tuple #[.int .i64 0, .bool false] := by
  unfold fourV; rw [if_pos h, fourAt_out (by omega)]
theorem fourV_in {l : List UInt8} {i : Nat} : fourV l (i : Int) = match fourAt l i with
    | none => .tuple #[.int .i64 0, .bool false]
    | some n => .tuple #[.int .i64 n, .bool true] := by
  unfold fourV; rw [if_pos (by omega), Int.toNat_natCast]
  cases fourAt l i <;> rfl
theorem fourV_some {l : List UInt8} {i : Nat} {n : Int} (h : fourAt l i = some n) : fourV l (i : Int) = .tuple #[.int .i64 n, .bool true] := by rw [fourV_in, h]
theorem fourV_none {l : List UInt8} {i : Nat} (h : fourAt l i = none) : fourV l (i : Int) = .tuple #[.int .i64 0, .bool false] := by rw [fourV_in, h]
theorem ba_extract (l : List UInt8) (i j : Nat) : (ByteArray.mk l.toArray).extract i j = ⟨((l.drop i).take (j - i)).toArray⟩ := by
  apply ByteArray.ext
  rw [ByteArray.data_extract]
  apply Array.ext'
  rw [Array.toList_extract]
theorem readfour_spec (l : List UInt8) (a : Int) (w : World) (hl : l.length ≤ 1099511627776) (h0 : -9223372036854775808 ≤ a) (h1 : a ≤ 9223372036854775807) : Calls Tryz.prog 86 #[.string ⟨l.toArray⟩, .int .i64 a] w fun e w' => e = .returned (fourV l a) ∧ w = w' := by
  have hsz := size_l l
  have IX := Lib.hid (hx_indexZ l)
  generalize hgs : (ByteArray.mk l.toArray) = s at *
  clear hgs
  have hlz : (l.length : Int) ≤ 1099511627776 := by omega
  by_cases ha : a < 0
  · rw [fourV_low ha]
    go_enter Tryz.func86, Tryz.ntmps86
    go_wp2
    go_ret2
    exact ⟨rfl, rfl⟩
  by_cases hb : (l.length : Int) - 4 < a
  · rw [fourV_high (by omega) hb]
    have ha' : 0 ≤ a := by omega
    clear ha
    go_enter Tryz.func86, Tryz.ntmps86
    go_wp2
    go_ret2
    exact ⟨rfl, rfl⟩
  obtain ⟨i, rfl⟩ : ∃ i : Nat, a = i := ⟨a.toNat, by omega⟩
  have hi : i + 4 ≤ l.length := by omega
  have hin := fourAt_in hi
  generalize hL : (l.drop i).take 4 = L at *
  have hL4 : L.length = 4 := by rw [← hL]; simp; omega
  have hLk : ∀ k (h : k < L.length) (h2 : i + k < l.length), L[k] = l[i + k] := by intro k h h2; subst hL; simp
  have HK := Lib.hid hLk
  have HIN := Lib.hid hin
  have HI := Lib.hid hi
  have hia : (i : Int) ≤ (l.length : Int) - 4 := by omega
  clear ha hb h0 h1 hL hLk hin hi
  obtain ⟨R, hR⟩ : ∃ R, R = fourV l (i : Int) := ⟨_, rfl⟩
  rw [← hR]
  have HR := Lib.hid hR
  clear hR
  have CD := Lib.hid digit_spec
  go_enter Tryz.func86, Tryz.ntmps86
  go_wp2
  go_loopw [6, 7] (fun vn vi wr => ∃ (k : Nat) (m : Int), vn = .int .i64 m ∧ vi = .int .i64 ((i : Int) + k) ∧ k ≤ 4 ∧ w = wr ∧ Hid (0 ≤ m ∧ m < 16 ^ k ∧ hexN 0 L = hexN m (L.drop k))) (fun _ vi _ => i + 4 - (intOf vi).toNat)
  case atStart => exact ⟨0, 0, rfl, by simp, by omega, rfl, Lib.hid ⟨by omega, by decide, rfl⟩⟩
  case round =>
    obtain ⟨k, m, rfl, rfl, hk, rfl, hh⟩ := hrel
    obtain ⟨a0, ha, hdec⟩ := hh.out
    clear hh
    by_cases hkn : k < 4
    · have hdrop : L.drop k = L[k] :: L.drop (k + 1) := List.drop_eq_getElem_cons (by omega)
      have hik : i + k < l.length := by have := HI.out; omega
      rw [hdrop, HK.out k (by omega) hik] at hdec
      have ix := IX.out (i + k) ((i : Int) + k) (by omega) hik w
      generalize l[i + k]'hik = c at *
      have cd := CD.out c w
      have hp : (16 : Int) ^ (k + 1) = 16 ^ k * 16 := Int.pow_succ 16 k
      have hp3 : (16 : Int) ^ k ≤ 4096 := by
        have : k = 0 ∨ k = 1 ∨ k = 2 ∨ k = 3 := by omega
        rcases this with rfl | rfl | rfl | rfl <;> decide
      have hdr := dig16_range c
      have hk4 : (i : Int) + k < i + 4 := by omega
      have HKN := Lib.hid hkn
      by_cases hd0 : 0 ≤ dig16 c
      · rw [hexN_good hd0] at hdec
        have HN : Hid (0 ≤ 16 * m + dig16 c ∧ 16 * m + dig16 c < 16 ^ (k + 1) ∧ hexN 0 L = hexN (16 * m + dig16 c) (L.drop (k + 1))) := Lib.hid ⟨by omega, by rw [hp]; omega, hdec⟩
        have i3 : m ≤ 4095 := by omega
        generalize dig16 c = d at *
        clear hdec hp hp3 ha hdrop hkn hik
        go_wp2_with fail
        refine cd.mono ?_
        rintro e w' ⟨rfl, rfl⟩
        go_wp2
        go_roundw
        case rel => exact ⟨k + 1, _, rfl, by go_num, by have := HKN.out; omega, by trivial, HN⟩
        case measure => simp [intOf]; omega
      · rw [hexN_bad hd0] at hdec
        have hRR := HR.out.trans (fourV_none (HIN.out.trans hdec))
        have HQ := Lib.hid hRR
        have hd1 : dig16 c < 0 := by omega
        generalize dig16 c = d at *
        clear hdec hp hp3 ha hdrop hkn hRR hd0 hik
        go_wp2_with fail
        refine cd.mono ?_
        rintro e w' ⟨rfl, rfl⟩
        go_wp2
        go_ret2
        exact ⟨by rw [HQ.out]; rfl, rfl⟩
    · obtain rfl : k = 4 := by omega
      rw [List.drop_eq_nil_of_le (by omega)] at hdec
      have hx : hexN 0 L = some m := hdec
      have hRR := HR.out.trans (fourV_some (HIN.out.trans hx))
      have HQ := Lib.hid hRR
      clear hdec ha hkn hx hk hRR
      go_wp2
      go_ret2
      exact ⟨by rw [HQ.out]; rfl, rfl⟩
theorem readfour_impl (l : List UInt8) (a : Int) (w : World) (hl : l.length ≤ 1099511627776) (h0 : -9223372036854775808 ≤ a) (h1 : a ≤ 9223372036854775807) (ts : TypeId) (ps : Value) (hS : w.var? Tryz.prog "strconv.ErrSyntax" = some #[.iface ts ps]) :
    Calls Tryz.prog 118 #[.string ⟨l.toArray⟩, .int .i64 a] w fun e w' => e = .returned (fourV l a) ∧ Below w.heap.size w w' := by
  have hsz := size_l l
  have hlz : (l.length : Int) ≤ 1099511627776 := by omega
  by_cases ha : a < 0
  · rw [fourV_low ha]
    generalize (ByteArray.mk l.toArray) = s at *
    go_enter Tryz.func118, Tryz.ntmps118
    go_wp2
    go_ret2
    exact ⟨rfl, Below.refl _ _⟩
  by_cases hb : (l.length : Int) - 4 < a
  · rw [fourV_high (by omega) hb]
    have ha' : 0 ≤ a := by omega
    clear ha
    generalize (ByteArray.mk l.toArray) = s at *
    go_enter Tryz.func118, Tryz.ntmps118
    go_wp2
    go_ret2
    exact ⟨rfl, Below.refl _ _⟩
  obtain ⟨i, rfl⟩ : ∃ i : Nat, a = i := ⟨a.toNat, by omega⟩
  have hi : i + 4 ≤ l.length := by omega
  have hin := fourAt_in hi
  have hx := ba_extract l i (i + 4)
  rw [show i + 4 - i = 4 by omega] at hx
  have hL4 : ((l.drop i).take 4).length = 4 := by simp; omega
  generalize (l.drop i).take 4 = L at *
  have hia : (i : Int) ≤ (l.length : Int) - 4 := by omega
  have hn0 : ¬ ((i : Int) < 0) := by omega
  have hsl : (Instr.slice 9 (.string ⟨l.toArray⟩) (some (.int .i64 (i : Int))) (some (.int .i64 ((i : Int) + 4))) none).run Tryz.prog w = .ok (.string ((ByteArray.mk l.toArray).extract i (i + 4))) w := by
    have := run_slice_string (P := Tryz.prog) (w := w) 9 (ByteArray.mk l.toArray) .i64 .i64 (i : Int) ((i : Int) + 4) Tryz.underlying9 (by omega) (by omega) (by rw [size_l]; omega)
    rw [this]
    congr 3
  cases hr : hexN 0 L with
  | some n =>
    have hf := fourV_some (hin.trans hr)
    have hrg := fourAt_range (hin.trans hr)
    have cp := parse16_some L n hL4 hr w
    rw [← hx] at cp
    have hn1 : (n : Int) ≤ 65535 := hrg.2.1
    have hn2 : (0 : Int) ≤ n := hrg.1
    rw [hf]
    generalize (ByteArray.mk l.toArray) = s at *
    clear ha hb h0 h1 hin hx hrg hf hr
    go_enter Tryz.func118, Tryz.ntmps118
    go_wp2_with fail
    refine cp.mono ?_
    rintro e w1 ⟨rfl, b1⟩
    go_wp2
    go_ret2
    exact ⟨rfl, b1⟩
  | none =>
    have hf := fourV_none (hin.trans hr)
    have cp := parse16_none L hL4 hr w ts ps hS
    rw [← hx] at cp
    rw [hf]
    generalize (ByteArray.mk l.toArray) = s at *
    clear ha hb h0 h1 hin hx hf hr hS
    go_enter Tryz.func118, Tryz.ntmps118
    go_wp2_with fail
    refine cp.mono ?_
    rintro e w1 ⟨⟨N, rfl⟩, b1⟩
    go_wp2
    go_ret2
    exact ⟨rfl, b1⟩
end Go.Proofs.YtelehfefhlgbkaaGreatDoor
/- The program's map from the letters behind a backslash to their characters. -/
namespace Go.Proofs.YtelehfefhlgbkaaGreatDoor
open Go.RowKit Go.Maps
set_option maxRecDepth 100000
def invL (k : Int) : Option Int := if k = 34 then some 34 else if k = 92 then some 92 else if k = 98 then some 8 else if k = 116 then some 9 else if k = 110 then some 10 else if k = 102 then some 12 else if k = 114 then some 13 else none
def f2 (k : Int) : Option Int := if k = 47 then some 47 else invL k
theorem f2_unB (c : UInt8) : f2 (c.toNat : Int) = unB c := by
  have : ∀ n : Fin 256, f2 ((UInt8.ofNat n.val).toNat : Int) = unB (UInt8.ofNat n.val) := by decide +kernel
  have h := this ⟨c.toNat, UInt8.toNat_lt c⟩
  simpa using h
theorem f1_inv {n k : Int} (h : f1 n = some k) : invL k = some n ∧ k ≠ 47 ∧ 0 ≤ k ∧ k < 256 ∧ 0 ≤ n ∧ n < 128 := by
  unfold f1 at h
  rcases escB_cases n with ⟨rfl, e⟩ | ⟨rfl, e⟩ | ⟨rfl, e⟩ | ⟨rfl, e⟩ | ⟨rfl, e⟩ | ⟨rfl, e⟩ | ⟨rfl, e⟩ | ⟨_, _, _, _, _, _, _, e⟩
  all_goals (rw [e] at h; cases h)
  all_goals decide
theorem inv_f1 {n k : Int} (h : invL k = some n) : f1 n = some k := by
  unfold invL at h
  repeat' (split at h; · cases h; subst k; rfl)
  cases h
/-- what the map holds while the characters n with left n are still to come -/
def midF (left : Int → Bool) (k : Int) : Option Int := if k = 47 then some 47 else match invL k with
  | none => none
  | some n => if left n then none else some n
theorem mid_start : midF (fun n => (f1 n).isSome) = upd (fun _ => none) 47 47 := by
  funext k
  unfold midF upd
  by_cases h : k = 47
  · rw [if_pos h, if_pos h]
  · rw [if_neg h, if_neg h]
    cases hi : invL k with
    | none => rfl
    | some n => simp [inv_f1 hi]
theorem mid_end {left : Int → Bool} (h : ∀ n, left n = false) : midF left = f2 := by
  funext k
  unfold midF f2
  by_cases hk : k = 47
  · rw [if_pos hk, if_pos hk]
  · rw [if_neg hk, if_neg hk]
    cases hi : invL k with
    | none => rfl
    | some n => simp [h n]
theorem mid_step {left left' : Int → Bool} {x c : Int} (hx : f1 x = some c) (hl : ∀ n, left' n = (left n && decide (n ≠ x))) : upd (midF left) c x = midF left' := by
  obtain ⟨hi, h47, _⟩ := f1_inv hx
  funext k
  unfold upd
  by_cases hk : k = c
  · rw [if_pos hk]
    subst hk
    unfold midF
    rw [if_neg h47, hi]
    simp only
    rw [hl x]
    simp
  · rw [if_neg hk]
    unfold midF
    by_cases h47' : k = 47
    · rw [if_pos h47', if_pos h47']
    · rw [if_neg h47', if_neg h47']
      cases hik : invL k with
      | none => rfl
      | some n =>
        have hne : n ≠ x := by
          intro e; subst e
          have := inv_f1 hik
          rw [hx] at this
          injection this with this
          exact hk this.symm
        simp only
        rw [hl n, decide_eq_true hne, Bool.and_true]
/-- block b is the program's map of the letters behind a backslash -/
def MapU (w : World) (b : Nat) : Prop := MapI Tryz.prog 5 3 .u8 .i64 w b 8 f2
theorem MapU.kept {w w' : World} {b : Nat} {row : Option Nat} (h : MapU w b) (hg : w.grownBy w' row) (hne : some b ≠ row) : MapU w' b := MapI.kept h hg hne
theorem MapU.below {w w' : World} {b N : Nat} (h : MapU w b) (hb : Below N w w') (hN : b < N) : MapU w' b := MapI.below h hb hN
theorem MapU.lt {w : World} {b : Nat} (h : MapU w b) : b < w.heap.size := MapI.lt h
theorem zero64 (w : World) : (zeroValue 3).run Tryz.prog w = .ok (.int .i64 0) w := by kernel_rfl
theorem mapI_mono {P : Program} {K E : TypeId} {qk qe : IntKind} {w : World} {b n m : Nat} {f : Int → Option Int} (h : MapI P K E qk qe w b n f) (hm : n ≤ m) : MapI P K E qk qe w b m f := by
  obtain ⟨D, ho, hr⟩ := h
  exact ⟨D, ho.mono hm, hr⟩
theorem mapI_has {D : DataW Unit} {x c : Int} (hr : ReadsF .i64 .u8 D f1) (hat : ∀ zd, D.atKey (.int .i64 x) zd = .lit (.int .u8 c)) : f1 x = some c := by
  have h := (hr x).2 .nil
  rw [hat] at h
  cases hf : f1 x with
  | none => rw [hf] at h; cases h
  | some d => rw [hf] at h; simp only at h; injection h with h; injection h with _ h; rw [h]
theorem escaped_impl (w : World) : Calls Tryz.prog 80 #[] w fun e w' => ∃ b, e = .returned (.map (some b)) ∧ w.heap.size ≤ b ∧ MapU w' b ∧ Below w.heap.size w w' := by
  have hmm := @run_makeMap Tryz.prog
  have hown : MapI Tryz.prog 5 3 .u8 .i64 (w.alloc (.map #[] 0)) w.heap.size 0 (fun _ => none) := MapI.made w
  have hb := below_alloc w (.map #[] 0)
  have CL := Lib.hid (fun w => letters_impl w)
  go_enter Tryz.func80, Tryz.ntmps80
  go_wp2_with (first | (refine wpList_insert_I _ rfl _ _ _ _ rfl 5 3 .u8 .i64 Tryz.underlying5 Tryz.underlying3 Tryz.underlying97 _ _ _ rfl hown (by unfold maxLen; omega) _ _ rfl rfl (by decide) (by decide) ?_; intro w1 h1 g1; replace hb := hb.trans (grown_belowN g1 hb.size (fun k hk => by cases hk; exact Nat.le_refl _)); replace hown := h1; clear h1 g1) | fail)
  refine (CL.out _).mono ?_
  rintro e w2 ⟨b1, rfl, hb1, hM, hb2⟩
  have hown2 := MapI.below hown hb2 hown.lt
  have hB := hb.trans (hb2.mono hb.size)
  have hlt := hown.lt
  obtain ⟨D0, ho0, hr0⟩ := hM
  have hsz0 := ho0.size_le
  have HB := Lib.hid hB
  have HO := Lib.hid hown2
  have hne : w.heap.size < b1 := by omega
  clear hown hown2 hb hb2 hB hmm
  go_wp2_with (at_range; refine wpList_range_own _ rfl _ 76 rfl 3 5 (int_keyed Tryz.underlying3) Tryz.underlying76 _ b1 7 D0 rfl ho0 ?_; intro w3 hrg0 hg0 hs0)
  go_frame
  have hst : MapI Tryz.prog 5 3 .u8 .i64 w3 w.heap.size (8 - Maps.size D0) (midF (fun n => Maps.has D0 (.int .i64 n))) := by
    have e1 : (fun n : Int => Maps.has D0 (.int .i64 n)) = fun n => (f1 n).isSome := funext fun n => (hr0 n).1
    rw [e1, mid_start]
    exact mapI_mono (MapI.kept HO.out hg0 (by simp)) (by omega)
  have HST := Lib.hid hst
  have HB3 := Lib.hid (show Below w.heap.size w w3 from HB.out.grown hg0 HB.out.size (fun j hj => by cases hj))
  have hw2 : w.heap.size < w2.heap.size := HO.out.lt
  clear hst HO HB hg0
  go_loopw [2] (fun _ wr => ∃ (left : Lit → Bool) (cnt : Nat), wr.ranges Tryz.prog 3 (plainElem Tryz.prog 5) b1 w2.heap.size 7 D0 left cnt ∧ cnt ≤ 7 ∧ MapI Tryz.prog 5 3 .u8 .i64 wr w.heap.size (8 - cnt) (midF (fun n => left (.int .i64 n))) ∧ Below w.heap.size w wr)
    (fun _ wr => wr.rangeLeft b1 w2.heap.size)
  case atStart => exact ⟨_, _, hrg0, hsz0, HST.out, HB3.out⟩
  case round =>
    obtain ⟨left, cnt, hrg, hcs, hout, hnx⟩ := hrel
    go_wp2_with (first
      | (at_next; refine wpList_next_ranges_ii _ rfl _ rfl 3 5 .i64 .u8 (int_keyed Tryz.underlying3) Tryz.underlying3 Tryz.underlying5 b1 w2.heap.size 7 _ _ _ rfl hrg ?_ ?_)
      | fail)
    · intro hc0 hl0
      rw [mid_end (fun n => hl0 _)] at hout
      have HO := Lib.hid (mapI_mono hout (show 8 - cnt ≤ 8 by omega))
      clear hout hrg
      go_wp2
      go_ret
      exact ⟨_, rfl, Nat.le_refl _, HO.out, hnx⟩
    · intro x c w4 cnt1 hwx hwc hlx hat hrg1 hlt1 hg1 hs1 hen
      have hx := mapI_has hr0 hat
      have hfx := f1_inv hx
      have hout1 := MapI.kept hout hg1 (fun e => by have := Option.some.inj e; omega)
      have hw4 : w.heap.size < w4.heap.size := hout1.lt
      go_wp2_with (first
        | (at_mapUpdate; refine wpList_update_I _ rfl _ _ _ _ rfl 5 3 .u8 .i64 Tryz.underlying5 Tryz.underlying3 Tryz.underlying97 w.heap.size _ _ rfl hout1 (by unfold maxLen; omega) c x rfl rfl hwc hwx ?_; intro w5 hout2 hg2; go_frame)
        | fail)
      have hrg2 := hrg1.kept hg2 (fun e => by have := Option.some.inj e; omega) (fun e => by have := Option.some.inj e; omega)
      rw [mid_step (left' := fun n => (left (.int .i64 n) && !(Lit.int .i64 n).sameKey (.int .i64 x))) hx (fun n => by
        by_cases hnx : n = x
        · subst hnx; simp [Lit.sameKey]
        · have : (Lit.int .i64 n).sameKey (.int .i64 x) = false := Maps.sameKey_ne (by intro e; injection e with _ e; exact hnx e)
          rw [this]; simp [hnx])] at hout2
      go_roundw
      case rel =>
        exact ⟨_, cnt1, hrg2, by omega, mapI_mono hout2 (by omega), (hnx.grown hg1 hnx.size (fun j hj => by cases hj; omega)).grown hg2 (by omega) (fun j hj => by cases hj; exact Nat.le_refl _)⟩
      case measure => rw [hrg2.left_eq, hrg.left_eq]; exact hlt1
end Go.Proofs.YtelehfefhlgbkaaGreatDoor
/- The library's decoder at given bytes; the program's GetRune for every place; what the row's list of variables gives. -/
namespace Go.Proofs.YtelehfefhlgbkaaGreatDoor
open Go.RowKit
def Tabs (w : World) : Prop := Lib.Utf8Tabs 2 3 w
theorem Tabs.below {w w' : World} (h : Tabs w) (hb : Below w.heap.size w w') : Tabs w' := Utf8Tabs_below h hb
def U8ren : Go.Shelf.Ren := ⟨fun n => n, fun | 5 => 5 | 119 => 139 | 138 => 141 | 139 => 142 | n => n, fun | 3 => 2 | 4 => 3 | n => n⟩
theorem size_m (l : List UInt8) : (ByteArray.mk l.toArray).size = l.length := by simp [ByteArray.size]
theorem dec_drop0 (l : List UInt8) (i : Nat) : dec (l.drop i) 0 = dec l i := by
  have hb : ∀ j, byteN (l.drop i) j = byteN l (i + j) := byteN_drop l i
  rw [dec_eq, dec_eq, hb, hb, hb, hb]
  simp only [List.length_drop, Nat.zero_add, Nat.sub_zero, Nat.add_zero]
end Go.Proofs.YtelehfefhlgbkaaGreatDoor
/- What reading quoted text wants of the package-level variables: the tables of unicode/utf8, and strconv's error of the syntax. -/
namespace Go.Proofs.YtelehfefhlgbkaaGreatDoor
open Go.RowKit
def Env (w : World) : Prop := Tabs w ∧ ∃ ts ps, w.var? Tryz.prog "strconv.ErrSyntax" = some #[.iface ts ps]
theorem evar_below {P : Program} {w w' : World} {n : String} {cs : Array Value} (hb : Below w.heap.size w w') (h : w.var? P n = some cs) : w'.var? P n = some cs := by
  unfold World.var? at h ⊢
  cases hg : P.globalNamed n with
  | none => rw [hg] at h; cases h
  | some g =>
    rw [hg] at h
    have hlt : g < w.heap.size := by
      rcases Nat.lt_or_ge g w.heap.size with h' | h'
      · exact h'
      · simp [Array.getElem?_eq_none h'] at h
    simp only [Option.bind_some] at h ⊢
    rw [hb.block g hlt]
    exact h
theorem Env.below {w w' : World} (h : Env w) (hb : Below w.heap.size w w') : Env w' := by
  obtain ⟨hT, ts, ps, hS⟩ := h
  exact ⟨hT.below hb, ts, ps, evar_below hb hS⟩
theorem env_of {a b c : String × DataW Unit} {r : List (String × DataW Unit)} {W : World} (h : laidMet Tryz.prog (a :: b :: c :: ("unicode/utf8.acceptRanges", Rows.laid_unicode_utf8_acceptRanges) :: ("strconv.ErrRange", Rows.laid_strconv_ErrRange) :: ("strconv.ErrSyntax", Rows.laid_strconv_ErrSyntax) :: ("unicode/utf8.first", Rows.laid_unicode_utf8_first) :: r) W) : Env W := by
  have h1 := h.tail.tail.tail.tail.tail
  obtain ⟨a1, _, hv1, _⟩ := laid_sentinel h1 gES gESType Tryz.underlying68 rowErr Tryz.underlying160 Tryz.underlying162 rfl rfl Tryz.underlying9 cellsErr cellsStr
  have e1 : (Rows.laid_unicode_utf8_first : DataW Unit) = Lib.firstData := by kernel_rfl
  have e2 : (Rows.laid_unicode_utf8_acceptRanges : DataW Unit) = Lib.acceptData := by kernel_rfl
  rw [e1, e2] at h
  refine ⟨utf8Tabs_of_readsT (P := Tryz.prog) (ρ := U8ren) ⟨Tryz.underlying5, Tryz.underlying139, Tryz.underlying141, Tryz.underlying142⟩ ⟨by kernel_rfl, by kernel_rfl, by kernel_rfl, by kernel_rfl, by kernel_rfl, by kernel_rfl, by kernel_rfl⟩
    (Lib.laidMet.reads h (.tail _ (.tail _ (.tail _ (.tail _ (.tail _ (.tail _ (.head _)))))))) (Lib.laidMet.reads h (.tail _ (.tail _ (.tail _ (.head _))))), _, _, hv1⟩
theorem decode_string (l : List UInt8) (i : Nat) (hi : i < l.length) (w : World) (hT : Tabs w) : Calls Tryz.prog 106 #[.string ((ByteArray.mk l.toArray).extract i l.length)] w fun e w' => e = .returned (.tuple #[.int .i32 (dec l i).1, .int .i64 (dec l i).2]) ∧ Below w.heap.size w w' := by
  have h := Tryz.utf8_DecodeRuneInString ((ByteArray.mk l.toArray).extract i l.length) w hT
  have hx : (ByteArray.mk l.toArray).extract i l.length = ⟨(l.drop i).toArray⟩ := by
    apply ByteArray.ext
    rw [ByteArray.data_extract]
    apply Array.ext'
    rw [Array.toList_extract]
    show (l.drop i).take (l.length - i) = l.drop i
    rw [List.take_of_length_le (by simp)]
  have e : Lib.decodeGo ((ByteArray.mk l.toArray).extract i l.length) = dec l i := by
    rw [hx]
    unfold Lib.decodeGo
    rw [if_neg (by rw [size_m]; simp; omega)]
    exact dec_drop0 l i
  rw [e] at h
  exact h
theorem decode_string_end (l : List UInt8) (i : Nat) (hi : i = l.length) (w : World) (hT : Tabs w) : Calls Tryz.prog 106 #[.string ((ByteArray.mk l.toArray).extract i l.length)] w fun e w' => e = .returned (.tuple #[.int .i32 65533, .int .i64 0]) ∧ Below w.heap.size w w' := by
  have h := Tryz.utf8_DecodeRuneInString ((ByteArray.mk l.toArray).extract i l.length) w hT
  have hx : (ByteArray.mk l.toArray).extract i l.length = ⟨([] : List UInt8).toArray⟩ := by
    subst hi
    apply ByteArray.ext
    rw [ByteArray.data_extract]
    apply Array.ext'
    rw [Array.toList_extract]
    simp
  have e : Lib.decodeGo ((ByteArray.mk l.toArray).extract i l.length) = (65533, 0) := by
    rw [hx]
    rfl
  rw [e] at h
  exact h
end Go.Proofs.YtelehfefhlgbkaaGreatDoor
/- One character of a quoted string: the program's answers. -/
namespace Go.Proofs.YtelehfefhlgbkaaGreatDoor
open Go.RowKit Go.Maps
set_option maxRecDepth 100000
def charV (c : Option (Int × Nat)) : Value := match c with
  | none => .tuple #[.int .i64 0, .int .i64 0, .bool false]
  | some (n, j) => .tuple #[.int .i64 n, .int .i64 j, .bool true]
theorem inS_one' (l : List UInt8) (c : UInt8) (i : Nat) : inS l [c] i = decide (l[i]? = some c) := by
  rcases Nat.lt_or_ge i l.length with h | h
  · rw [inS_get h, List.getElem?_eq_getElem h]
    by_cases e : l[i] = c
    · subst e; simp
    · have : ¬ (some l[i] = some c) := fun g => e (Option.some.inj g)
      rw [decide_eq_false this]; simp; exact e
  · rw [inS_out h, List.getElem?_eq_none h]; simp
theorem plain_impl (l : List UInt8) (i : Nat) (w : World) (hl : l.length ≤ 1099511627776) (hi : i ≤ l.length) (hE : Env w) (h92 : ¬ l[i]? = some 92) :
    Calls Tryz.prog 97 #[.string ⟨l.toArray⟩, .int .i64 i] w fun e w' => e = .returned (charV (charAt l i)) ∧ Below w.heap.size w w' := by
  have hsz := size_l l
  by_cases hp : i < l.length
  · have cd := decode_string l i hp w hE.1
    have hwd := dec_pos hp
    have hle : (dec l i).1 ≤ 2147483647 := by have := (dec_shape l i hp).1; omega
    have hR : charAt l i = if dec l i = (65533, 1) then none else if (dec l i).1 < 32 then none else some (((dec l i).1 : Int), i + (dec l i).2) := by
      by_cases hb : dec l i = (65533, 1)
      · rw [if_pos hb, char_bad h92 hb]
      · rw [if_neg hb]
        by_cases h32 : (dec l i).1 < 32
        · rw [if_pos h32, char_low h92 h32]
        · rw [if_neg h32, char_plain hp h92 hb (by omega)]
    rw [hR]
    clear hR h92 hE
    have hz : (i : Int) ≤ l.length := by omega
    generalize hg : dec l i = d at *
    obtain ⟨r, k⟩ := d
    simp only at cd hwd hle ⊢
    clear hg
    generalize (ByteArray.mk l.toArray) = s at *
    by_cases hr : r = 65533
    · subst hr
      by_cases hk : k = 1
      · subst hk
        rw [if_pos rfl]
        go_enter Tryz.func97, Tryz.ntmps97
        go_wp2_with fail
        refine cd.mono ?_
        rintro e w1 ⟨rfl, b1⟩
        go_wp2
        go_ret3
        exact ⟨rfl, b1⟩
      · rw [if_neg (by intro e; injection e with _ e; exact hk e), if_neg (by omega)]
        have hk1 : (1 : Int) < k := by omega
        have hik : (i : Int) + k ≤ l.length := by omega
        clear hk
        go_enter Tryz.func97, Tryz.ntmps97
        go_wp2_with fail
        refine cd.mono ?_
        rintro e w1 ⟨rfl, b1⟩
        go_wp2
        go_ret3
        exact ⟨rfl, b1⟩
    · rw [if_neg (by intro e; injection e with e _; exact hr e)]
      have hr2 : ((r : Int) == 65533) = false := by simp; omega
      have hik : (i : Int) + k ≤ l.length := by omega
      by_cases h32 : r < 32
      · rw [if_pos h32]
        have h32' : (r : Int) < 32 := by omega
        clear hr
        go_enter Tryz.func97, Tryz.ntmps97
        go_wp2_with fail
        refine cd.mono ?_
        rintro e w1 ⟨rfl, b1⟩
        go_wp2
        go_ret3
        exact ⟨rfl, b1⟩
      · rw [if_neg h32]
        have h32' : (32 : Int) ≤ r := by omega
        have hle' : (r : Int) ≤ 2147483647 := by omega
        clear hr h32
        go_enter Tryz.func97, Tryz.ntmps97
        go_wp2_with fail
        refine cd.mono ?_
        rintro e w1 ⟨rfl, b1⟩
        go_wp2
        go_ret3
        exact ⟨rfl, b1⟩
  · have hil : i = l.length := by omega
    have cd := decode_string_end l i hil w hE.1
    rw [char_end (Nat.le_of_eq hil.symm)]
    have hz : (i : Int) ≤ l.length := by omega
    generalize (ByteArray.mk l.toArray) = s at *
    clear h92 hE hp hil
    go_enter Tryz.func97, Tryz.ntmps97
    go_wp2_with fail
    refine cd.mono ?_
    rintro e w1 ⟨rfl, b1⟩
    go_wp2
    go_ret3
    exact ⟨rfl, b1⟩
def numEsc (l : List UInt8) (i : Nat) : Option (Int × Nat) := if l[i]? = some 92 ∧ l[i + 1]? = some 117 then (fourAt l (i + 2)).map (fun n => (n, i + 6)) else none
theorem pre_u (l : List UInt8) (i : Nat) : Lib.hasPrefix (l.drop i) [92, 117] = decide (l[i]? = some 92 ∧ l[i + 1]? = some 117) := by
  unfold Lib.hasPrefix
  have h0 : l[i]? = (l.drop i)[0]? := by simp
  have h1 : l[i + 1]? = (l.drop i)[1]? := by simp
  rw [h0, h1]
  match l.drop i with
  | [] => rfl
  | [a] => simp [List.isPrefixOf]
  | a :: b :: r =>
    by_cases ha : a = 92
    · subst ha
      by_cases hb : b = 117
      · subst hb; rfl
      · have h2 : ((117 : UInt8) == b) = false := by simp; exact fun h => hb h.symm
        rw [decide_eq_false (by intro h; exact hb (Option.some.inj h.2))]
        show (((92 : UInt8) == 92) && (((117 : UInt8) == b) && List.isPrefixOf [] r)) = false
        rw [h2]; rfl
    · have h2 : ((92 : UInt8) == a) = false := by simp; exact fun h => ha h.symm
      rw [decide_eq_false (by intro h; exact ha (Option.some.inj h.1))]
      show (((92 : UInt8) == a) && List.isPrefixOf [117] (b :: r)) = false
      rw [h2]; rfl
theorem numesc_impl (l : List UInt8) (i : Nat) (w : World) (hl : l.length ≤ 1099511627776) (hi : i ≤ l.length) (hE : Env w) :
    Calls Tryz.prog 107 #[.string ⟨l.toArray⟩, .int .i64 i] w fun e w' => e = .returned (charV (numEsc l i)) ∧ Below w.heap.size w w' := by
  have hsz := size_l l
  have hp := Tryz.strings_HasPrefix ((ByteArray.mk l.toArray).extract i l.length) ⟨#[92, 117]⟩ w
  rw [data_l _ _ _ (by omega), show (ByteArray.mk #[92, 117]).data.toList = [92, 117] from rfl, pre_u] at hp
  obtain ⟨_, ts, ps, hS⟩ := hE
  have cf := readfour_impl l (i + 2) w hl (by omega) (by omega) ts ps hS
  have hz : (i : Int) ≤ l.length := by omega
  unfold numEsc
  by_cases hu : l[i]? = some 92 ∧ l[i + 1]? = some 117
  · rw [decide_eq_true hu] at hp
    rw [if_pos hu]
    have hv : fourV l ((i : Int) + 2) = match fourAt l (i + 2) with | none => .tuple #[.int .i64 0, .bool false] | some n => .tuple #[.int .i64 n, .bool true] := by
      have := fourV_in (l := l) (i := i + 2); exact this
    rw [hv] at cf
    clear hv hu hS
    cases h4 : fourAt l (i + 2) with
    | none =>
      rw [h4] at cf
      generalize (ByteArray.mk l.toArray) = s at *
      clear h4
      go_enter Tryz.func107, Tryz.ntmps107
      go_wp2_with fail
      refine hp.mono ?_
      rintro e w1 ⟨rfl, rfl⟩
      go_wp2_with fail
      refine cf.mono ?_
      rintro e w2 ⟨rfl, b2⟩
      go_wp2
      go_ret3
      exact ⟨rfl, b2⟩
    | some n =>
      rw [h4] at cf
      generalize (ByteArray.mk l.toArray) = s at *
      clear h4
      go_enter Tryz.func107, Tryz.ntmps107
      go_wp2_with fail
      refine hp.mono ?_
      rintro e w1 ⟨rfl, rfl⟩
      go_wp2_with fail
      refine cf.mono ?_
      rintro e w2 ⟨rfl, b2⟩
      go_wp2
      go_ret3
      exact ⟨rfl, b2⟩
  · rw [decide_eq_false hu] at hp
    rw [if_neg hu]
    generalize (ByteArray.mk l.toArray) = s at *
    clear hu hS cf
    go_enter Tryz.func107, Tryz.ntmps107
    go_wp2_with fail
    refine hp.mono ?_
    rintro e w1 ⟨rfl, rfl⟩
    go_wp2
    go_ret3
    exact ⟨rfl, Below.refl _ _⟩
end Go.Proofs.YtelehfefhlgbkaaGreatDoor
