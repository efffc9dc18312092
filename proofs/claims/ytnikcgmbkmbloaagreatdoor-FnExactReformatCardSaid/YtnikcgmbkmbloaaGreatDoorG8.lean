import Derived.Test.YtnikcgmbkmbloaaGreatDoorG4
import Derived.Test.YtnikcgmbkmbloaaGreatDoorG7
import Derived.Lib.ConvBytes
import Derived.Lib.AtoiErrMem
import Derived.Lib.AtoiAllMem
import Derived.Laws.Strings3
import Derived.Laws.Closers25
import Derived.Laws.Closers25b
import Derived.Lib.Hide
import Derived.Test.YtnikcgmbkmbloaaGreatDoorRows
import Derived.WalkKit
import Derived.ProofKit
import Derived.Maps.OwnSet
import Derived.Maps.RangeWalk
import Derived.Lib.AppendStr
/- Four hexadecimal digits: the program's answer (strconv.ParseUint at base 16 and 16 bits) and the model's. -/
namespace Go.Proofs.YtnikcgmbkmbloaaGreatDoor
open Go.RowKit Go.Shelf
set_option maxRecDepth 100000
/-- the byte with the bit 32 set -/
def lowv (c : UInt8) : Int := if c.toNat / 32 % 2 = 1 then c.toNat else (c.toNat : Int) + 32
theorem lowv_or (c : UInt8) : bits .or .u8 (c.toNat : Int) 32 = lowv c := by
  have : ∀ n : Fin 256, bits .or .u8 (((UInt8.ofNat n.val).toNat : Nat) : Int) 32 = lowv (UInt8.ofNat n.val) := by decide +kernel
  have h := this ⟨c.toNat, UInt8.toNat_lt c⟩
  simpa using h
theorem lowv_dig (c : UInt8) : (48 ≤ c.toNat ∧ c.toNat ≤ 57 ∧ dig16 c = c.toNat - 48) ∨ (¬ (48 ≤ c.toNat ∧ c.toNat ≤ 57) ∧ 97 ≤ lowv c ∧ lowv c ≤ 102 ∧ dig16 c = lowv c - 87) ∨ (¬ (48 ≤ c.toNat ∧ c.toNat ≤ 57) ∧ 103 ≤ lowv c ∧ lowv c ≤ 122 ∧ dig16 c = -1) ∨ (¬ (48 ≤ c.toNat ∧ c.toNat ≤ 57) ∧ (lowv c < 97 ∨ 122 < lowv c) ∧ 0 ≤ lowv c ∧ lowv c ≤ 255 ∧ dig16 c = -1) := by
  have : ∀ n : Fin 256, (48 ≤ (UInt8.ofNat n.val).toNat ∧ (UInt8.ofNat n.val).toNat ≤ 57 ∧ dig16 (UInt8.ofNat n.val) = (UInt8.ofNat n.val).toNat - 48) ∨ (¬ (48 ≤ (UInt8.ofNat n.val).toNat ∧ (UInt8.ofNat n.val).toNat ≤ 57) ∧ 97 ≤ lowv (UInt8.ofNat n.val) ∧ lowv (UInt8.ofNat n.val) ≤ 102 ∧ dig16 (UInt8.ofNat n.val) = lowv (UInt8.ofNat n.val) - 87) ∨ (¬ (48 ≤ (UInt8.ofNat n.val).toNat ∧ (UInt8.ofNat n.val).toNat ≤ 57) ∧ 103 ≤ lowv (UInt8.ofNat n.val) ∧ lowv (UInt8.ofNat n.val) ≤ 122 ∧ dig16 (UInt8.ofNat n.val) = -1) ∨ (¬ (48 ≤ (UInt8.ofNat n.val).toNat ∧ (UInt8.ofNat n.val).toNat ≤ 57) ∧ (lowv (UInt8.ofNat n.val) < 97 ∨ 122 < lowv (UInt8.ofNat n.val)) ∧ 0 ≤ lowv (UInt8.ofNat n.val) ∧ lowv (UInt8.ofNat n.val) ≤ 255 ∧ dig16 (UInt8.ofNat n.val) = -1) := by decide +kernel
  have h := this ⟨c.toNat, UInt8.toNat_lt c⟩
  simpa using h
theorem low_not95 (c : UInt8) (h : lowv c ≤ 122) : c.toNat ≠ 95 := by
  intro e
  unfold lowv at h
  rw [e] at h
  simp at h
/-- what internal/strconv.ParseUint hands back at base 16 -/
def innerV (l : List UInt8) : Value := match hexN 0 l with
  | some n => .tuple #[.int .u64 n, .nilIface]
  | none => .tuple #[.int .u64 0, .iface 282 (.int .i64 2)]
theorem inner_some {l : List UInt8} {n : Int} (h : hexN 0 l = some n) : innerV l = .tuple #[.int .u64 n, .nilIface] := by unfold innerV; rw [h]
theorem inner_none {l : List UInt8} (h : hexN 0 l = none) : innerV l = .tuple #[.int .u64 0, .iface 282 (.int .i64 2)] := by unfold innerV; rw [h]
set_option maxHeartbeats 8000000 in
theorem parse16_inner (l : List UInt8) (h4 : l.length = 4) (w : World) : Calls Tryz.prog 277 #[.string ⟨l.toArray⟩, .int .i64 16, .int .i64 16] w fun e w' => e = .returned (innerV l) ∧ Below w.heap.size w w' := by
  have hemp : (ByteArray.mk l.toArray).toList.isEmpty = false := by
    match l, h4 with
    | [a, b, c, d], _ => simp
  have hcv := Lib.run_convert_string_bytes (P := Tryz.prog) w 9 22 5 (ByteArray.mk l.toArray) (u := .string) Tryz.underlying9 Tryz.underlying22 Tryz.underlying5
  have hB : ∀ j (hj : j < l.length), (Lib.bytesWorld w 5 (ByteArray.mk l.toArray)).cell? ⟨w.heap.size, j, none⟩ = some (.int .u8 (l[j]).toNat) := fun j hj => by
    have := Lib.bytesWorld_cell w 5 (ByteArray.mk l.toArray) j (by rw [size_l]; exact hj)
    rw [this]; congr 3; simp [hj]
  have hbw := Lib.bytesWorld_below w 5 (ByteArray.mk l.toArray)
  obtain ⟨W1, hW1⟩ : ∃ W1, W1 = Lib.bytesWorld w 5 (ByteArray.mk l.toArray) := ⟨_, rfl⟩
  rw [← hW1] at hcv hB hbw
  clear hW1
  have hsz : (ByteArray.mk l.toArray).size = 4 := by rw [size_l, h4]
  generalize (ByteArray.mk l.toArray) = t at *
  have hmv : IntKind.u64.wrap (IntKind.u64.wrap 65536 - 1) = 65535 := by
    rw [IntKind.wrap_u64, IntKind.wrap_u64]
    decide
  have HB := Lib.hid hB
  have HW := Lib.hid hbw
  obtain ⟨R, hR⟩ : ∃ R, R = innerV l := ⟨_, rfl⟩
  rw [← hR]
  have HR := Lib.hid hR
  clear hB hbw hR
  go_enter Tryz.func277, Tryz.ntmps277
  go_wp2
  go_loopw [12, 13, 101] (fun vu vn vi wr => ∃ (k : Nat) (a : Int), vu = .bool false ∧ vn = .int .u64 a ∧ vi = .int .i64 k ∧ k ≤ 4 ∧ wr = W1 ∧ Hid (0 ≤ a ∧ a < 16 ^ k ∧ hexN 0 l = hexN a (l.drop k))) (fun _ _ vi _ => 4 - (intOf vi).toNat)
  case atStart => exact ⟨0, 0, rfl, rfl, rfl, by omega, rfl, Lib.hid ⟨by omega, by decide, rfl⟩⟩
  case round =>
    obtain ⟨k, a, rfl, rfl, rfl, hk, rfl, hh⟩ := hrel
    obtain ⟨a0, ha, hdec⟩ := hh.out
    clear hh
    have HB := HB
    by_cases hkn : k < l.length
    · have hc := HB.out k hkn
      have hdrop : l.drop k = l[k] :: l.drop (k + 1) := List.drop_eq_getElem_cons hkn
      rw [hdrop] at hdec
      generalize l[k] = c at hc hdec
      have hp : (16 : Int) ^ (k + 1) = 16 ^ k * 16 := Int.pow_succ 16 k
      have hp3 : (16 : Int) ^ k ≤ 4096 := by
        have : k = 0 ∨ k = 1 ∨ k = 2 ∨ k = 3 := by omega
        rcases this with rfl | rfl | rfl | rfl <;> decide
      have hdr := dig16_range c
      have hlw := lowv_or c
      have hk4 : (k : Int) < 4 := by omega
      clear hdrop
      rcases lowv_dig c with ⟨g1, g2, g3⟩ | ⟨g0, g1, g2, g3⟩ | ⟨g0, g1, g2, g3⟩ | ⟨g0, g1, g2, g4, g3⟩
      · -- a digit
        have hd0 : 0 ≤ dig16 c := by omega
        rw [hexN_good hd0, g3] at hdec
        have e1 : 16 * a + ((c.toNat : Int) - 48) = a * 16 + ((c.toNat : Int) - 48) := by omega
        rw [e1] at hdec
        have HN : Hid (0 ≤ a * 16 + ((c.toNat : Int) - 48) ∧ a * 16 + ((c.toNat : Int) - 48) < 16 ^ (k + 1) ∧ hexN 0 l = hexN (a * 16 + ((c.toNat : Int) - 48)) (l.drop (k + 1))) := Lib.hid ⟨by omega, by rw [hp]; omega, hdec⟩
        have i1 : (48 : Int) ≤ c.toNat := by omega
        have i2 : (c.toNat : Int) ≤ 57 := by omega
        have i3 : a ≤ 4095 := by omega
        generalize c.toNat = x at *
        clear hdec hp hp3 hdr hlw g1 g2 g3 hd0 e1 ha
        go_wp2
        go_roundw
        case rel => exact ⟨k + 1, _, by simp, rfl, by go_num, by omega, by simp, HN⟩
        case measure => simp [intOf]; omega
      · -- a letter up to f
        have hd0 : 0 ≤ dig16 c := by omega
        rw [hexN_good hd0, g3] at hdec
        have e1 : 16 * a + (lowv c - 87) = a * 16 + (lowv c - 97 + 10) := by omega
        rw [e1] at hdec
        have HN : Hid (0 ≤ a * 16 + (lowv c - 97 + 10) ∧ a * 16 + (lowv c - 97 + 10) < 16 ^ (k + 1) ∧ hexN 0 l = hexN (a * 16 + (lowv c - 97 + 10)) (l.drop (k + 1))) := Lib.hid ⟨by omega, by rw [hp]; omega, hdec⟩
        have i3 : a ≤ 4095 := by omega
        have hc256 : (c.toNat : Int) < 256 := by have : c.toNat < 256 := UInt8.toNat_lt c; omega
        have cl := fun w => Tryz.internal_strconv_lower (c.toNat : Int) w
        rw [hlw] at cl
        have g0' : (c.toNat : Int) < 48 ∨ ((48 : Int) ≤ c.toNat ∧ 57 < (c.toNat : Int)) := by omega
        have n95 : ((c.toNat : Int) == 95) = false := by have := low_not95 c (by omega); simp; omega
        generalize lowv c = v at *
        generalize c.toNat = x at *
        clear hdec hp hp3 hdr hlw g3 hd0 e1 ha g0
        rcases g0' with g0' | ⟨g0', g0''⟩
        all_goals
          go_wp2_with (go_at_call 282; refine (cl _).mono ?_; rintro e w' ⟨rfl, rfl⟩)
          go_roundw
          case rel => exact ⟨k + 1, _, by simp, rfl, by go_num, by omega, by simp, HN⟩
          case measure => simp [intOf]; omega
      · -- a letter beyond f
        have hd0 : ¬ 0 ≤ dig16 c := by omega
        rw [hexN_bad hd0] at hdec
        have hRR := HR.out.trans (inner_none hdec)
        have HQ := Lib.hid hRR
        clear hRR
        have hc256 : (c.toNat : Int) < 256 := by have : c.toNat < 256 := UInt8.toNat_lt c; omega
        have cl := fun w => Tryz.internal_strconv_lower (c.toNat : Int) w
        rw [hlw] at cl
        have g0' : (c.toNat : Int) < 48 ∨ ((48 : Int) ≤ c.toNat ∧ 57 < (c.toNat : Int)) := by omega
        have n95 : ((c.toNat : Int) == 95) = false := by have := low_not95 c (by omega); simp; omega
        generalize lowv c = v at *
        generalize c.toNat = x at *
        clear hdec hp hp3 hdr hlw g3 hd0 ha g0 a0
        rcases g0' with g0' | ⟨g0', g0''⟩
        all_goals
          go_wp2_with (go_at_call 282; refine (cl _).mono ?_; rintro e w' ⟨rfl, rfl⟩)
          go_ret2
          exact ⟨by rw [HQ.out]; rfl, HW.out⟩
      · -- no letter
        have hd0 : ¬ 0 ≤ dig16 c := by omega
        rw [hexN_bad hd0] at hdec
        have hRR := HR.out.trans (inner_none hdec)
        have HQ := Lib.hid hRR
        clear hRR
        have hc256 : (c.toNat : Int) < 256 := by have : c.toNat < 256 := UInt8.toNat_lt c; omega
        have cl := fun w => Tryz.internal_strconv_lower (c.toNat : Int) w
        rw [hlw] at cl
        have g0' : (c.toNat : Int) < 48 ∨ ((48 : Int) ≤ c.toNat ∧ 57 < (c.toNat : Int)) := by omega
        have g1' : lowv c < 97 ∨ (97 ≤ lowv c ∧ 122 < lowv c) := by omega
        by_cases h95 : c.toNat = 95
        · have cl := fun w => Tryz.internal_strconv_lower 95 w
          rw [show bits .or .u8 95 32 = 127 by decide] at cl
          rw [h95] at hc
          clear hdec hp hp3 hdr hlw g3 hd0 ha g0 a0 g1 g0' g1' g2 g4 h95 hc256
          go_wp2_with (go_at_call 282; refine (cl _).mono ?_; rintro e w' ⟨rfl, rfl⟩)
          go_ret2
          exact ⟨by rw [HQ.out]; rfl, HW.out⟩
        have n95 : ((c.toNat : Int) == 95) = false := by simp; omega
        generalize lowv c = v at *
        generalize c.toNat = x at *
        clear hdec hp hp3 hdr hlw g3 hd0 ha g0 a0 g1 h95
        rcases g0' with g0' | ⟨g0', g0''⟩ <;> rcases g1' with g1' | ⟨g1', g1''⟩
        all_goals
          go_wp2_with (go_at_call 282; refine (cl _).mono ?_; rintro e w' ⟨rfl, rfl⟩)
          go_ret2
          exact ⟨by rw [HQ.out]; rfl, HW.out⟩
    · have hk4 : k = l.length := by omega
      rw [List.drop_eq_nil_of_le (by omega)] at hdec
      have hx : hexN 0 l = some a := hdec
      have hRR := HR.out.trans (inner_some hx)
      have HQ := Lib.hid hRR
      clear hRR
      have hk5 : (k : Int) = 4 := by omega
      clear hdec ha hk4 hkn hx hk
      obtain rfl : k = 4 := by omega
      go_wp2
      go_ret2
      exact ⟨by rw [HQ.out]; rfl, HW.out⟩
theorem parse16_some (l : List UInt8) (n : Int) (h4 : l.length = 4) (hx : hexN 0 l = some n) (w : World) : Calls Tryz.prog 273 #[.string ⟨l.toArray⟩, .int .i64 16, .int .i64 16] w fun e w' => e = .returned (.tuple #[.int .u64 n, .nilIface]) ∧ Below w.heap.size w w' := by
  have ci := parse16_inner l h4 w
  rw [inner_some hx] at ci
  generalize (ByteArray.mk l.toArray) = t at *
  clear hx h4
  go_enter Tryz.func273, Tryz.ntmps273
  go_wp2_with fail
  refine ci.mono ?_
  rintro e w1 ⟨rfl, b1⟩
  go_wp2
  go_ret2
  exact ⟨rfl, b1⟩
theorem parse16_none (l : List UInt8) (h4 : l.length = 4) (hx : hexN 0 l = none) (w : World) (ts : TypeId) (ps : Value) (hS : w.var? Tryz.prog "strconv.ErrSyntax" = some #[.iface ts ps]) : Calls Tryz.prog 273 #[.string ⟨l.toArray⟩, .int .i64 16, .int .i64 16] w fun e w' => (∃ N, e = .returned (.tuple #[.int .u64 0, .iface 284 (.pointer (some ⟨N, 0, none⟩))])) ∧ Below w.heap.size w w' := by
  have ci := parse16_inner l h4 w
  rw [inner_none hx] at ci
  have hv : w.cell? ⟨6, 0, none⟩ = some (.iface ts ps) := by have h0 := World.var?_cell gES hS 0; simpa using h0
  have hG := Lib.lt_of_cell hv
  have CT := Lib.hid (fun w hv => Tryz.strconv_toError_syntax ⟨#[80, 97, 114, 115, 101, 85, 105, 110, 116]⟩ ⟨l.toArray⟩ 16 16 (.iface ts ps) w (by rw [size_l]; omega) hv (Or.inr ⟨ts, ps, rfl⟩))
  generalize (ByteArray.mk l.toArray) = t at *
  have HV := Lib.hid hv
  clear hx h4 hS hv
  go_enter Tryz.func273, Tryz.ntmps273
  go_wp2_with fail
  refine ci.mono ?_
  rintro e w1 ⟨rfl, b1⟩
  have hv1 : w1.cell? ⟨6, 0, none⟩ = some (.iface ts ps) := (b1.cell (show (⟨6, 0, none⟩ : Addr).block < w.heap.size from hG)).trans HV.out
  have ct := CT.out w1 hv1
  have B1 := Lib.hid b1
  clear b1 hv1 ci
  go_wp2_with fail
  refine ct.mono ?_
  rintro e w2 ⟨N, rfl, _, _, b2⟩
  have B2 := Lib.hid (B1.out.trans (b2.mono B1.out.size))
  clear b2 ct
  go_wp2
  go_ret2
  exact ⟨⟨N, rfl⟩, B2.out⟩
end Go.Proofs.YtnikcgmbkmbloaaGreatDoor
/- ReadFour: the program's and the model's answers. -/
namespace Go.Proofs.YtnikcgmbkmbloaaGreatDoor
open Go.RowKit Go.Shelf
set_option maxRecDepth 100000
theorem digit_spec (c : UInt8) (w : World) : Calls Tryz.prog 244 #[.int .u8 c.toNat] w fun e w' => e = .returned (.int .i64 (dig16 c)) ∧ w = w' := by
  have hc : (c.toNat : Int) < 256 := by have : c.toNat < 256 := UInt8.toNat_lt c; omega
  by_cases h : 65 ≤ c.toNat ∧ c.toNat ≤ 70
  · have e : dig16 c = (c.toNat : Int) - 65 + 10 := by unfold dig16; rw [if_pos h]; omega
    rw [e]
    have ci := in_yes (c.toNat : Int) 65 70 w (by omega) (by omega)
    have h1 : (65 : Int) ≤ c.toNat := by omega
    generalize c.toNat = x at *
    clear h e
    go_enter Tryz.func244, Tryz.ntmps244
    go_wp2_with fail
    refine ci.mono ?_
    rintro e w' ⟨rfl, rfl⟩
    go_wp2
    go_ret
    exact ⟨rfl, rfl⟩
  · have e : dig16 c = hexv c := by unfold dig16; rw [if_neg h]
    rw [e]
    have ci := in_no (c.toNat : Int) 65 70 w (by omega)
    have ch := l3hex_any c w
    generalize hexv c = v at *
    generalize c.toNat = x at *
    clear h e
    go_enter Tryz.func244, Tryz.ntmps244
    go_wp2_with fail
    refine ci.mono ?_
    rintro e w' ⟨rfl, rfl⟩
    go_wp2_with fail
    refine ch.mono ?_
    rintro e w' ⟨rfl, rfl⟩
    go_wp2
    go_ret
    exact ⟨rfl, rfl⟩
theorem fourV_low {l : List UInt8} {a : Int} (h : a < 0) : fourV l a = .tuple #[.int .i64 0, .bool false] := by unfold fourV; rw [if_neg (by omega)]
theorem fourV_high {l : List UInt8} {a : Int} (h : 0 ≤ a) (h2 : (l.length : Int) - 4 < a) : fourV l a = .tuple #[.int .i64 0, .bool false] := by
  unfold fourV; rw [if_pos h, fourAt_out (by omega)]
theorem fourV_in {l : List UInt8} {i : Nat} : fourV l (i : Int) = match fourAt l i with
    | none => .tuple #[.int .i64 0, .bool false]
    | some n => .tuple #[.int .i64 n, .bool true] := by
  unfold fourV; rw [if_pos (by omega), Int.toNat_natCast]
  cases fourAt l i <;> rfl
theorem fourV_some {l : List UInt8} {i : Nat} {n : Int} (h : fourAt l i = some n) : fourV l (i : Int) = .tuple #[.int .i64 n, .bool true] := by rw [fourV_in, h]
theorem fourV_none {l : List UInt8} {i : Nat} (h : fourAt l i = none) : fourV l (i : Int) = .tuple #[.int .i64 0, .bool false] := by rw [fourV_in, h]
theorem ba_extract (l : List UInt8) (i j : Nat) : (ByteArray.mk l.toArray).extract i j = ⟨((l.drop i).take (j - i)).toArray⟩ := by
  apply ByteArray.ext
  rw [ByteArray.data_extract]
  apply Array.ext'
  rw [Array.toList_extract]
theorem readfour_spec (l : List UInt8) (a : Int) (w : World) (hl : l.length ≤ 1099511627776) (h0 : -9223372036854775808 ≤ a) (h1 : a ≤ 9223372036854775807) : Calls Tryz.prog 216 #[.string ⟨l.toArray⟩, .int .i64 a] w fun e w' => e = .returned (fourV l a) ∧ w = w' := by
  have hsz := size_l l
  have IX := Lib.hid (hx_indexZ l)
  generalize hgs : (ByteArray.mk l.toArray) = s at *
  clear hgs
  have hlz : (l.length : Int) ≤ 1099511627776 := by omega
  by_cases ha : a < 0
  · rw [fourV_low ha]
    go_enter Tryz.func216, Tryz.ntmps216
    go_wp2
    go_ret2
    exact ⟨rfl, rfl⟩
  by_cases hb : (l.length : Int) - 4 < a
  · rw [fourV_high (by omega) hb]
    have ha' : 0 ≤ a := by omega
    clear ha
    go_enter Tryz.func216, Tryz.ntmps216
    go_wp2
    go_ret2
    exact ⟨rfl, rfl⟩
  obtain ⟨i, rfl⟩ : ∃ i : Nat, a = i := ⟨a.toNat, by omega⟩
  have hi : i + 4 ≤ l.length := by omega
  have hin := fourAt_in hi
  generalize hL : (l.drop i).take 4 = L at *
  have hL4 : L.length = 4 := by rw [← hL]; simp; omega
  have hLk : ∀ k (h : k < L.length) (h2 : i + k < l.length), L[k] = l[i + k] := by intro k h h2; subst hL; simp
  have HK := Lib.hid hLk
  have HIN := Lib.hid hin
  have HI := Lib.hid hi
  have hia : (i : Int) ≤ (l.length : Int) - 4 := by omega
  clear ha hb h0 h1 hL hLk hin hi
  obtain ⟨R, hR⟩ : ∃ R, R = fourV l (i : Int) := ⟨_, rfl⟩
  rw [← hR]
  have HR := Lib.hid hR
  clear hR
  have CD := Lib.hid digit_spec
  go_enter Tryz.func216, Tryz.ntmps216
  go_wp2
  go_loopw [6, 7] (fun vn vi wr => ∃ (k : Nat) (m : Int), vn = .int .i64 m ∧ vi = .int .i64 ((i : Int) + k) ∧ k ≤ 4 ∧ w = wr ∧ Hid (0 ≤ m ∧ m < 16 ^ k ∧ hexN 0 L = hexN m (L.drop k))) (fun _ vi _ => i + 4 - (intOf vi).toNat)
  case atStart => exact ⟨0, 0, rfl, by simp, by omega, rfl, Lib.hid ⟨by omega, by decide, rfl⟩⟩
  case round =>
    obtain ⟨k, m, rfl, rfl, hk, rfl, hh⟩ := hrel
    obtain ⟨a0, ha, hdec⟩ := hh.out
    clear hh
    by_cases hkn : k < 4
    · have hdrop : L.drop k = L[k] :: L.drop (k + 1) := List.drop_eq_getElem_cons (by omega)
      have hik : i + k < l.length := by have := HI.out; omega
      rw [hdrop, HK.out k (by omega) hik] at hdec
      have ix := IX.out (i + k) ((i : Int) + k) (by omega) hik w
      generalize l[i + k]'hik = c at *
      have cd := CD.out c w
      have hp : (16 : Int) ^ (k + 1) = 16 ^ k * 16 := Int.pow_succ 16 k
      have hp3 : (16 : Int) ^ k ≤ 4096 := by
        have : k = 0 ∨ k = 1 ∨ k = 2 ∨ k = 3 := by omega
        rcases this with rfl | rfl | rfl | rfl <;> decide
      have hdr := dig16_range c
      have hk4 : (i : Int) + k < i + 4 := by omega
      have HKN := Lib.hid hkn
      by_cases hd0 : 0 ≤ dig16 c
      · rw [hexN_good hd0] at hdec
        have HN : Hid (0 ≤ 16 * m + dig16 c ∧ 16 * m + dig16 c < 16 ^ (k + 1) ∧ hexN 0 L = hexN (16 * m + dig16 c) (L.drop (k + 1))) := Lib.hid ⟨by omega, by rw [hp]; omega, hdec⟩
        have i3 : m ≤ 4095 := by omega
        generalize dig16 c = d at *
        clear hdec hp hp3 ha hdrop hkn hik
        go_wp2_with fail
        refine cd.mono ?_
        rintro e w' ⟨rfl, rfl⟩
        go_wp2
        go_roundw
        case rel => exact ⟨k + 1, _, rfl, by go_num, by have := HKN.out; omega, by trivial, HN⟩
        case measure => simp [intOf]; omega
      · rw [hexN_bad hd0] at hdec
        have hRR := HR.out.trans (fourV_none (HIN.out.trans hdec))
        have HQ := Lib.hid hRR
        have hd1 : dig16 c < 0 := by omega
        generalize dig16 c = d at *
        clear hdec hp hp3 ha hdrop hkn hRR hd0 hik
        go_wp2_with fail
        refine cd.mono ?_
        rintro e w' ⟨rfl, rfl⟩
        go_wp2
        go_ret2
        exact ⟨by rw [HQ.out]; rfl, rfl⟩
    · obtain rfl : k = 4 := by omega
      rw [List.drop_eq_nil_of_le (by omega)] at hdec
      have hx : hexN 0 L = some m := hdec
      have hRR := HR.out.trans (fourV_some (HIN.out.trans hx))
      have HQ := Lib.hid hRR
      clear hdec ha hkn hx hk hRR
      go_wp2
      go_ret2
      exact ⟨by rw [HQ.out]; rfl, rfl⟩
theorem readfour_impl (l : List UInt8) (a : Int) (w : World) (hl : l.length ≤ 1099511627776) (h0 : -9223372036854775808 ≤ a) (h1 : a ≤ 9223372036854775807) (ts : TypeId) (ps : Value) (hS : w.var? Tryz.prog "strconv.ErrSyntax" = some #[.iface ts ps]) :
    Calls Tryz.prog 266 #[.string ⟨l.toArray⟩, .int .i64 a] w fun e w' => e = .returned (fourV l a) ∧ Below w.heap.size w w' := by
  have hsz := size_l l
  have hlz : (l.length : Int) ≤ 1099511627776 := by omega
  by_cases ha : a < 0
  · rw [fourV_low ha]
    generalize (ByteArray.mk l.toArray) = s at *
    go_enter Tryz.func266, Tryz.ntmps266
    go_wp2
    go_ret2
    exact ⟨rfl, Below.refl _ _⟩
  by_cases hb : (l.length : Int) - 4 < a
  · rw [fourV_high (by omega) hb]
    have ha' : 0 ≤ a := by omega
    clear ha
    generalize (ByteArray.mk l.toArray) = s at *
    go_enter Tryz.func266, Tryz.ntmps266
    go_wp2
    go_ret2
    exact ⟨rfl, Below.refl _ _⟩
  obtain ⟨i, rfl⟩ : ∃ i : Nat, a = i := ⟨a.toNat, by omega⟩
  have hi : i + 4 ≤ l.length := by omega
  have hin := fourAt_in hi
  have hx := ba_extract l i (i + 4)
  rw [show i + 4 - i = 4 by omega] at hx
  have hL4 : ((l.drop i).take 4).length = 4 := by simp; omega
  generalize (l.drop i).take 4 = L at *
  have hia : (i : Int) ≤ (l.length : Int) - 4 := by omega
  have hn0 : ¬ ((i : Int) < 0) := by omega
  have hsl : (Instr.slice 9 (.string ⟨l.toArray⟩) (some (.int .i64 (i : Int))) (some (.int .i64 ((i : Int) + 4))) none).run Tryz.prog w = .ok (.string ((ByteArray.mk l.toArray).extract i (i + 4))) w := by
    have := run_slice_string (P := Tryz.prog) (w := w) 9 (ByteArray.mk l.toArray) .i64 .i64 (i : Int) ((i : Int) + 4) Tryz.underlying9 (by omega) (by omega) (by rw [size_l]; omega)
    rw [this]
    congr 3
  cases hr : hexN 0 L with
  | some n =>
    have hf := fourV_some (hin.trans hr)
    have hrg := fourAt_range (hin.trans hr)
    have cp := parse16_some L n hL4 hr w
    rw [← hx] at cp
    have hn1 : (n : Int) ≤ 65535 := hrg.2.1
    have hn2 : (0 : Int) ≤ n := hrg.1
    rw [hf]
    generalize (ByteArray.mk l.toArray) = s at *
    clear ha hb h0 h1 hin hx hrg hf hr
    go_enter Tryz.func266, Tryz.ntmps266
    go_wp2_with fail
    refine cp.mono ?_
    rintro e w1 ⟨rfl, b1⟩
    go_wp2
    go_ret2
    exact ⟨rfl, b1⟩
  | none =>
    have hf := fourV_none (hin.trans hr)
    have cp := parse16_none L hL4 hr w ts ps hS
    rw [← hx] at cp
    rw [hf]
    generalize (ByteArray.mk l.toArray) = s at *
    clear ha hb h0 h1 hin hx hf hr hS
    go_enter Tryz.func266, Tryz.ntmps266
    go_wp2_with fail
    refine cp.mono ?_
    rintro e w1 ⟨⟨N, rfl⟩, b1⟩
    go_wp2
    go_ret2
    exact ⟨rfl, b1⟩
end Go.Proofs.YtnikcgmbkmbloaaGreatDoor
/- A map from integers to integers that the call makes, as a function: filled, asked, ranged over. -/
namespace Go.Proofs.YtnikcgmbkmbloaaGreatDoor
open Go.RowKit Go.Maps
section
variable {P : Program} {K E t : TypeId} {qk qe : IntKind} {w : World} {b n : Nat} {f : Int → Option Int}
/-- the datum D reads as f -/
def ReadsF (qk qe : IntKind) (D : DataW Unit) (f : Int → Option Int) : Prop := ∀ k, Maps.has D (.int qk k) = (f k).isSome ∧ ∀ z, D.atKey (.int qk k) z = match f k with | some c => .lit (.int qe c) | none => z
/-- block b is a map that reads as f -/
def MapI (P : Program) (K E : TypeId) (qk qe : IntKind) (w : World) (b n : Nat) (f : Int → Option Int) : Prop := ∃ D : DataW Unit, w.ownsMap P K (plainElem P E) b n D ∧ ReadsF qk qe D f
def upd (f : Int → Option Int) (k c : Int) : Int → Option Int := fun x => if x = k then some c else f x
theorem reads_put {D : DataW Unit} (hD : Maps.IsMap D) (h : ReadsF qk qe D f) (k c : Int) : ReadsF qk qe (D.put (.int qk k) (.lit (.int qe c))) (upd f k c) := by
  intro x
  unfold upd
  by_cases hx : x = k
  · subst hx
    simp only [if_pos]
    have hl : WideAt.IsKeyLit (Lit.int qk x) := trivial
    exact ⟨Maps.has_put_same hD hl _, fun z => Maps.atKey_put_same hD hl _ z⟩
  · have hne : (Lit.int qk x) ≠ .int qk k := fun e => hx (by injection e)
    simp only [if_neg hx]
    exact ⟨(Maps.has_put_other hne _).trans (h x).1, fun z => (Maps.atKey_put_other hne _ z).trans ((h x).2 z)⟩
theorem MapI.made (w : World) : MapI P K E qk qe (w.alloc (.map #[] 0)) w.heap.size 0 (fun _ => none) := ⟨.map [], World.ownsMap_made _ _ _ _, fun _ => ⟨rfl, fun _ => rfl⟩⟩
theorem MapI.lt (h : MapI P K E qk qe w b n f) : b < w.heap.size := by obtain ⟨D, ho, _⟩ := h; exact ho.lt
theorem MapI.kept {w' : World} {row : Option Nat} (h : MapI P K E qk qe w b n f) (hg : w.grownBy w' row) (hne : some b ≠ row) : MapI P K E qk qe w' b n f := by
  obtain ⟨D, ho, hr⟩ := h
  exact ⟨D, ho.kept hg hne, hr⟩
theorem MapI.below {w' : World} {N : Nat} (h : MapI P K E qk qe w b n f) (hb : Below N w w') (hN : b < N) : MapI P K E qk qe w' b n f := by
  obtain ⟨D, ⟨es, clock, h1, h2⟩, hr⟩ := h
  exact ⟨D, ⟨es, clock, (hb.block b hN).trans h1, h2⟩, hr⟩
theorem wpList_insert_I (w : World) {ops : Array Oper} {rest : List Oper} {o : Oper} {a : Act} {Q : Exit → Act → World → Prop} (hg : o.guard = none) (m x v : Operand) (t : TypeId) (hop : o.op = Op.insert t m x v)
    (K E : TypeId) (qk qe : IntKind) (hK : P.underlying K = some (.int qk)) (hE : P.underlying E = some (.int qe)) (ht : P.underlying t = some (.map K E)) (b n : Nat) (f : Int → Option Int) (hm : a.eval m = .map (some b))
    (h : MapI P K E qk qe w b n f) (hn : n < maxLen) (k c : Int) (hx : a.eval x = .int qk k) (hv : a.eval v = .int qe c) (wk : (Lit.int qk k).wf = true) (wc : (Lit.int qe c).wf = true)
    (hk : ∀ w', MapI P K E qk qe w' b (n + 1) (upd f k c) → w.grownBy w' (some b) → wpList P ops Q rest (a.put o.dst undef) w') : wpList P ops Q (o :: rest) a w := by
  obtain ⟨D, ho, hr⟩ := h
  refine wpList_plain hg fun K' hK' => ?_
  obtain ⟨w', hrun, r1, r2⟩ := ho.update (int_keyed hK) ht hn (keyOf_int_mk hK wk) (plainElem_int hE wc)
  unfold Oper.wp
  simp [execOp, hop, hm, hx, hv, hrun, Result.andThen]
  exact hK' _ _ (hk w' ⟨_, r1, reads_put ho.isMap hr k c⟩ r2)
theorem wpList_update_I (w : World) {ops : Array Oper} {rest : List Oper} {o : Oper} {a : Act} {Q : Exit → Act → World → Prop} (hg : o.guard = none) (m x v : Operand) (t : TypeId) (hop : o.op = Op.mapUpdate t m x v)
    (K E : TypeId) (qk qe : IntKind) (hK : P.underlying K = some (.int qk)) (hE : P.underlying E = some (.int qe)) (ht : P.underlying t = some (.map K E)) (b n : Nat) (f : Int → Option Int) (hm : a.eval m = .map (some b))
    (h : MapI P K E qk qe w b n f) (hn : n < maxLen) (k c : Int) (hx : a.eval x = .int qk k) (hv : a.eval v = .int qe c) (wk : (Lit.int qk k).wf = true) (wc : (Lit.int qe c).wf = true)
    (hk : ∀ w', MapI P K E qk qe w' b (n + 1) (upd f k c) → w.grownBy w' (some b) → wpList P ops Q rest (a.put o.dst undef) w') : wpList P ops Q (o :: rest) a w := by
  obtain ⟨D, ho, hr⟩ := h
  refine wpList_plain hg fun K' hK' => ?_
  obtain ⟨w', hrun, r1, r2⟩ := ho.update (int_keyed hK) ht hn (keyOf_int_mk hK wk) (plainElem_int hE wc)
  unfold Oper.wp
  simp [execOp, hop, hm, hx, hv, hrun, Result.andThen]
  exact hK' _ _ (hk w' ⟨_, r1, reads_put ho.isMap hr k c⟩ r2)
theorem MapI.look (h : MapI P K E qk qe w b n f) (hK : P.underlying K = some (.int qk)) (hE : P.underlying E = some (.int qe)) (ht : P.underlying t = some (.map K E)) (hz : (zeroValue E).run P w = .ok (.int qe 0) w) (k : Int) (wk : (Lit.int qk k).wf = true) :
    (Instr.lookup t (.map (some b)) (.int qk k) true).run P w = .ok (.tuple #[.int qe ((f k).getD 0), .bool (f k).isSome]) w := by
  obtain ⟨D, ho, hr⟩ := h
  obtain ⟨v, ps, hrun, hv⟩ := ho.look_ok (int_keyed hK) ht hz (plainElem_int hE (by cases qe <;> decide)) (keyOf_int_mk hK wk)
  obtain ⟨c, rfl, hc, _⟩ := plainElem_int_inv hE hv
  rw [hrun, (hr k).1]
  have h2 := (hr k).2 (.lit (.int qe 0))
  have hc1 : D.atKey (.int qk k) (.lit (.int qe 0)) = .lit (.int qe c) := congrArg Prod.fst hc
  rw [hc1] at h2
  cases hf : f k with
  | none => rw [hf] at h2; simp only at h2; injection h2 with h2; injection h2 with _ h2; rw [h2]; rfl
  | some d => rw [hf] at h2; simp only at h2; injection h2 with h2; injection h2 with _ h2; rw [h2]; rfl
end
end Go.Proofs.YtnikcgmbkmbloaaGreatDoor
/- The escape of a character: the program's (a map, a row under way) and the model's answers. -/
namespace Go.Proofs.YtnikcgmbkmbloaaGreatDoor
open Go.RowKit Go.Maps
set_option maxRecDepth 100000
def f1 (k : Int) : Option Int := (escB k).map fun c => (c.toNat : Int)
theorem f1_upd : upd (upd (upd (upd (upd (upd (upd (fun _ => none) 34 34) 92 92) 8 98) 9 116) 10 110) 12 102) 13 114 = f1 := by
  funext x
  rcases escB_cases x with ⟨rfl, e⟩ | ⟨rfl, e⟩ | ⟨rfl, e⟩ | ⟨rfl, e⟩ | ⟨rfl, e⟩ | ⟨rfl, e⟩ | ⟨rfl, e⟩ | ⟨h1, h2, h3, h4, h5, h6, h7, e⟩
  all_goals unfold f1; rw [e]
  all_goals first | rfl | (unfold upd; simp only [if_neg h1, if_neg h2, if_neg h3, if_neg h4, if_neg h5, if_neg h6, if_neg h7]; rfl)
/-- block b is the program's map of letters -/
def MapL (w : World) (b : Nat) : Prop := MapI Tryz.prog 3 5 .i64 .u8 w b 7 f1
theorem MapL.kept {w w' : World} {b : Nat} {row : Option Nat} (h : MapL w b) (hg : w.grownBy w' row) (hne : some b ≠ row) : MapL w' b := MapI.kept h hg hne
theorem MapL.below {w w' : World} {b N : Nat} (h : MapL w b) (hb : Below N w w') (hN : b < N) : MapL w' b := MapI.below h hb hN
theorem MapL.lt {w : World} {b : Nat} (h : MapL w b) : b < w.heap.size := MapI.lt h
theorem zero8 (w : World) : (zeroValue 5).run Tryz.prog w = .ok (.int .u8 0) w := by kernel_rfl
theorem wf_i64 {n : Int} (h0 : -9223372036854775808 ≤ n) (h1 : n ≤ 9223372036854775807) : (Lit.int .i64 n).wf = true := WalkArith.wf_i64 (by omega)
theorem letters_impl (w : World) : Calls Tryz.prog 191 #[] w fun e w' => ∃ b, e = .returned (.map (some b)) ∧ w.heap.size ≤ b ∧ MapL w' b ∧ Below w.heap.size w w' := by
  have hmm := @run_makeMap Tryz.prog
  have hown : MapI Tryz.prog 3 5 .i64 .u8 (w.alloc (.map #[] 0)) w.heap.size 0 (fun _ => none) := MapI.made w
  have hb := below_alloc w (.map #[] 0)
  go_enter Tryz.func191, Tryz.ntmps191
  go_wp2_with (refine wpList_insert_I _ rfl _ _ _ _ rfl 3 5 .i64 .u8 Tryz.underlying3 Tryz.underlying5 Tryz.underlying201 _ _ _ rfl hown (by unfold maxLen; omega) _ _ rfl rfl (by decide) (by decide) ?_; intro w1 h1 g1; replace hb := hb.trans (grown_belowN g1 hb.size (fun k hk => by cases hk; exact Nat.le_refl _)); replace hown := h1; clear h1 g1)
  rw [f1_upd] at hown
  go_ret
  exact ⟨_, rfl, Nat.le_refl _, hown, hb⟩
/-- a row under way that has come to hold l -/
def Grew (w : World) (B : Nat) (v : Value) (l : List UInt8) (e : Ending) (w' : World) : Prop :=
  ∃ v', e = .returned v' ∧ w'.ownsRow B 5 1 v' l.length (bv l) ∧ w.grownBy w' v.ownBlock
theorem alloc_grown {w w' : World} {o : Obj} {r : Option Nat} (h : (w.alloc o).grownBy w' r) : w.grownBy w' r :=
  ⟨h.os, h.tape, h.output, by have := h.size; simp at this; omega, fun i hi hr => (h.block i (by simp; omega) hr).trans (heap_alloc_old w o hi)⟩
theorem append_grown (w : World) (B : Nat) (v : Value) (l : List UInt8) (n : Int) (hown : w.ownsRow B 5 1 v l.length (bv l)) (hB : B ≤ w.heap.size) (hl : l.length ≤ 140737488355000) :
    Calls Tryz.prog 201 #[v, .int .i64 n] w (Grew w B v (l ++ encR n)) := by
  by_cases h : okR n
  · have c := runeok_impl_yes h w
    have h2 := okR_un h
    have hn0 : -2147483648 ≤ n := by omega
    have hn1 : n ≤ 2147483647 := by omega
    have ca := Tryz.utf8_AppendRune_plain B v l.length (bv l) n hn0 hn1 w hown (by omega) hB
    have e1 : Lib.runeCells n = bv (encR n) := by
      unfold encR; rw [if_pos h, bv_cells, Lib.byteCells_encodeRune]
    rw [e1, bv_length] at ca
    clear h2 hown
    go_enter Tryz.func201, Tryz.ntmps201
    go_wp2_with fail
    refine c.mono ?_
    rintro e w' ⟨rfl, rfl⟩
    go_wp2_with fail
    refine ca.mono ?_
    rintro e w' ⟨v', rfl, hown, o, hg⟩
    go_wp2
    go_ret
    exact ⟨_, rfl, by rw [List.length_append, bv_append]; exact hown, alloc_grown hg⟩
  · have c := runeok_impl_no h w
    rw [enc_bad h, List.append_nil]
    go_enter Tryz.func201, Tryz.ntmps201
    go_wp2_with fail
    refine c.mono ?_
    rintro e w' ⟨rfl, rfl⟩
    go_wp2
    go_ret
    exact ⟨_, rfl, hown, ⟨rfl, rfl, rfl, Nat.le_refl _, fun _ _ _ => rfl⟩⟩
theorem below_grown {w w1 w2 : World} {r : Option Nat} (hb : Below w.heap.size w w1) (h : w1.grownBy w2 r) : w.grownBy w2 r :=
  ⟨h.os.trans hb.os, h.tape.trans hb.tape, h.output.trans hb.output, Nat.le_trans hb.size h.size, fun i hi hr => (h.block i (Nat.lt_of_lt_of_le hi hb.size) hr).trans (hb.block i hi)⟩
theorem bv_two (c d : UInt8) : bv [c, d] = [.int .u8 c.toNat, .int .u8 d.toNat] := rfl
theorem one_byte {n : Int} (h0 : 0 ≤ n) (h1 : n < 256) : bv [UInt8.ofNat n.toNat] = [.int .u8 n] := by
  have : (UInt8.ofNat n.toNat).toNat = n.toNat := by simp; omega
  show [Value.int .u8 ((UInt8.ofNat n.toNat).toNat : Int)] = _
  rw [this]; congr 2; omega
theorem one_slc (w : World) (n : Int) (h0 : 0 ≤ n) (h1 : n < 256) : Slc (w.alloc (.cells #[.int .u8 n] 5)) (.slice (some ⟨w.heap.size, 0, none⟩) 1 1) (bv [UInt8.ofNat n.toNat]) := by
  rw [one_byte h0 h1]
  refine .inr ⟨_, 0, 1, rfl, fun j u hu => ?_⟩
  match j, hu with
  | 0, hu => have := cell_one_new w (.int .u8 n) 5 0 u hu; rw [addr_add] at this; exact this
  | (j + 1), hu => simp at hu
theorem ba_app (a b : List UInt8) : (ByteArray.mk a.toArray) ++ (ByteArray.mk b.toArray) = ByteArray.mk (a ++ b).toArray := by apply ByteArray.ext; simp
theorem size_cat4 (h : List UInt8) : (({ data := #[92, 117, 48, 48] } : ByteArray) ++ { data := h.toArray }).size = 4 + h.length := by simp [ByteArray.size]; omega
theorem str_cat4 (h : List UInt8) : Lib.strCells (({ data := #[92, 117, 48, 48] } : ByteArray) ++ { data := h.toArray }) = bv ([92, 117, 48, 48] ++ h) := by simp [Lib.strCells, bv]
theorem appescape_impl (w : World) (B : Nat) (v : Value) (l : List UInt8) (n : Int) (b : Nat) (h0 : -9223372036854775808 ≤ n) (h1 : n ≤ 9223372036854775807) (hown : w.ownsRow B 5 1 v l.length (bv l)) (hB : B ≤ w.heap.size) (hl : l.length ≤ 140737488350000) (hM : MapL w b) :
    Calls Tryz.prog 192 #[v, .int .i64 n, .map (some b)] w (Grew w B v (l ++ escL n)) := by
  obtain ⟨i0, hi, hz0, hz1, hz2⟩ := info_parts byteInfo'
  have hlk := MapI.look hM Tryz.underlying3 Tryz.underlying5 Tryz.underlying201 (zero8 w) n (wf_i64 h0 h1)
  have HO := Lib.hid hown
  clear hown hM
  cases hE : escB n with
  | some c =>
    have e1 : f1 n = some (c.toNat : Int) := by unfold f1; rw [hE]; rfl
    rw [e1] at hlk
    rw [escL_letter hE]
    simp only [Option.getD_some, Option.isSome_some] at hlk
    clear hE e1
    go_enter Tryz.func192, Tryz.ntmps192
    go_wp2_with (at_builtin; refine wpList_append_own _ rfl _ _ 22 rfl B 5 i0 (.int .u8 0) 1 1 Tryz.underlying22 hi hz0 hz1 hz2 rfl (by decide) _ _ _ rfl (HO.out.alloc _) ⟨w.heap.size, 0, none⟩ 2 2 [.int .u8 92, .int .u8 c.toNat] rfl rfl ?c1 ?c2 ?c3 ?c4 ?c5 ?_)
    case c1 => exact World.news_of_block (cs := #[.int .u8 92, .int .u8 c.toNat]) (t := 5) (fr := (0, 0)) (heap_alloc_new w _)
    case c2 => intro u hu; simp at hu; rcases hu with rfl | rfl <;> rfl
    case c3 => unfold maxLen; omega
    case c4 => omega
    case c5 => simp; omega
    intro v' w1 hown1 hg1 _
    go_wp2
    go_ret
    refine ⟨_, rfl, ?_, alloc_grown hg1⟩
    rw [List.length_append, bv_append]
    exact hown1
  | none =>
    have e1 : f1 n = none := by unfold f1; rw [hE]; rfl
    rw [e1] at hlk
    simp only [Option.getD_none, Option.isSome_none] at hlk
    clear e1
    by_cases hn : 0 ≤ n ∧ n < 32
    · rw [escL_low hE hn.1 hn.2]
      obtain ⟨hn0, hn1⟩ := hn
      have hcv := conv_str (w.alloc (.cells #[.int .u8 n] 5)) _ _ (one_slc w n hn0 (by omega))
      have hx := hextext_impl [UInt8.ofNat n.toNat] (w.alloc (.cells #[.int .u8 n] 5)) (by simp)
      have hwr : IntKind.u8.wrap n = n := by rw [IntKind.wrap_u8']; omega
      have hxl : (hexL [UInt8.ofNat n.toNat]).length = 2 := rfl
      generalize hexL [UInt8.ofNat n.toNat] = hx2 at *
      have hsz : (ByteArray.mk hx2.toArray).size = 2 := by rw [size_l]; exact hxl
      clear hE h0 h1
      generalize (ByteArray.mk [UInt8.ofNat n.toNat].toArray) = s1 at *
      go_enter Tryz.func192, Tryz.ntmps192
      go_wp2_with fail
      refine hx.mono ?_
      rintro e w1 ⟨rfl, b1⟩
      have hb1 : Below w.heap.size w w1 := (below_alloc w _).trans (b1.mono (by simp))
      have hown1 := own_below HO.out hb1
      have HO1 := Lib.hid hown1
      have HB1 := Lib.hid hb1
      clear b1 hown1 hb1 hcv hx
      have hcat : ¬ (9223372036854775807 < [(92 : UInt8), 117, 48, 48].length + hx2.length) := by simp; omega
      go_wp2_with (at_builtin; refine Lib.wpList_append_own_string _ rfl _ _ 22 9 rfl B 5 i0 Tryz.underlying22 Tryz.underlying9 hi hz0 hz1 hz2 _ _ _ rfl HO1.out _ rfl ?c3 ?c4 ?c5 ?_)
      case c3 => simp only [size_cat4, hxl]; unfold maxLen; omega
      case c4 => simp only [size_cat4, hxl]; omega
      case c5 => exact Nat.le_trans hB HB1.out.size
      intro v' w2 hown2 hg2 _
      have hg := below_grown HB1.out hg2
      rw [str_cat4] at hown2
      have HO2 := Lib.hid hown2
      have HG2 := Lib.hid hg
      clear hown2 hg2 hg hcat
      go_wp2
      go_ret
      refine ⟨_, rfl, ?_, HG2.out⟩
      have hfin := HO2.out
      have e6 : l.length + 6 = l.length + ([92, 117, 48, 48] ++ hx2).length := by simp; omega
      rw [e6] at hfin
      rw [List.length_append, bv_append]
      exact hfin
    · rw [escL_plain hE hn]
      have ca := append_grown w B v l n HO.out hB (by omega)
      have hn' : ¬ (0 ≤ n) ∨ (0 ≤ n ∧ ¬ n < 32) := by omega
      clear hE
      rcases hn' with hn | ⟨hn, hn2⟩
      · clear h0 h1
        go_enter Tryz.func192, Tryz.ntmps192
        go_wp2_with fail
        refine ca.mono ?_
        rintro e w1 ⟨v', rfl, hown1, hg1⟩
        go_wp2
        go_ret
        exact ⟨_, rfl, hown1, hg1⟩
      · clear h0 h1
        go_enter Tryz.func192, Tryz.ntmps192
        go_wp2_with fail
        refine ca.mono ?_
        rintro e w1 ⟨v', rfl, hown1, hg1⟩
        go_wp2
        go_ret
        exact ⟨_, rfl, hown1, hg1⟩
theorem ok_encL {n : Int} (h : escB n = none) (hn : 32 ≤ n) : escL n = encR n := escL_plain h (by omega)
set_option maxHeartbeats 1000000 in
theorem escapeof_spec (n : Int) (w : World) : Calls Tryz.prog 138 #[.int .i64 n] w fun e w' => e = .returned (.string ⟨(escL n).toArray⟩) ∧ Below w.heap.size w w' := by
  by_cases hok : okR n
  · have c := runeok_spec_yes hok w
    rcases escB_cases n with ⟨rfl, e⟩ | ⟨rfl, e⟩ | ⟨rfl, e⟩ | ⟨rfl, e⟩ | ⟨rfl, e⟩ | ⟨rfl, e⟩ | ⟨rfl, e⟩ | ⟨h1, h2, h3, h4, h5, h6, h7, e⟩
    all_goals first
      | (rw [escL_letter e]
         clear e hok
         go_enter Tryz.func138, Tryz.ntmps138
         go_wp2_with fail
         refine c.mono ?_
         rintro e w' ⟨rfl, rfl⟩
         go_wp2
         go_ret
         exact ⟨rfl, Below.refl _ _⟩)
      | skip
    have g1 : ((n : Int) == 34) = false := by simp; exact h1
    have g2 : ((n : Int) == 92) = false := by simp; exact h2
    have g3 : ((n : Int) == 8) = false := by simp; exact h3
    have g4 : ((n : Int) == 9) = false := by simp; exact h4
    have g5 : ((n : Int) == 10) = false := by simp; exact h5
    have g6 : ((n : Int) == 12) = false := by simp; exact h6
    have g7 : ((n : Int) == 13) = false := by simp; exact h7
    have hu := okR_un hok
    have hn0 : 0 ≤ n := by omega
    clear h1 h2 h3 h4 h5 h6 h7
    by_cases hn : n < 32
    · rw [escL_low e hn0 hn]
      have hcv := conv_str (w.alloc (.cells #[.int .u8 n] 5)) _ _ (one_slc w n hn0 (by omega))
      have hx := hextext_spec [UInt8.ofNat n.toNat] (w.alloc (.cells #[.int .u8 n] 5)) (by simp)
      have hwr : IntKind.u8.wrap n = n := by rw [IntKind.wrap_u8']; omega
      have hxl : (hexL [UInt8.ofNat n.toNat]).length = 2 := rfl
      generalize hexL [UInt8.ofNat n.toNat] = hx2 at *
      have hcat : ¬ (9223372036854775807 < [(92 : UInt8), 117, 48, 48].length + hx2.length) := by simp; omega
      have hsz : (ByteArray.mk hx2.toArray).size = 2 := by rw [size_l]; exact hxl
      clear e hok hu
      generalize (ByteArray.mk [UInt8.ofNat n.toNat].toArray) = s1 at *
      go_enter Tryz.func138, Tryz.ntmps138
      go_wp2_with fail
      refine c.mono ?_
      rintro e w' ⟨rfl, rfl⟩
      go_wp2_with fail
      refine hx.mono ?_
      rintro e w1 ⟨rfl, b1⟩
      have hb1 : Below w.heap.size w w1 := (below_alloc w _).trans (b1.mono (by simp))
      have HB1 := Lib.hid hb1
      clear b1 hb1 hcv hx
      go_wp2
      go_ret
      exact ⟨by simp; exact ba_app [92, 117, 48, 48] hx2, HB1.out⟩
    · rw [escL_plain e (by omega)]
      have cf := fromrunes_spec (w.alloc (.cells #[.int .i64 n] 3)) (.slice (some ⟨w.heap.size, 0, none⟩) 1 1) [n] (one_reads w n) (by simp)
      rw [flat_one] at cf
      clear e hok hu hn0
      go_enter Tryz.func138, Tryz.ntmps138
      go_wp2_with fail
      refine c.mono ?_
      rintro e w' ⟨rfl, rfl⟩
      go_wp2_with fail
      refine cf.mono ?_
      rintro e w1 ⟨rfl, b1⟩
      have hb1 : Below w.heap.size w w1 := (below_alloc w _).trans (b1.mono (by simp))
      go_wp2
      go_ret
      exact ⟨rfl, hb1⟩
  · have c := runeok_spec_no hok w
    have e1 : escL n = [] := by
      have hne : escB n = none := by
        cases h : escB n with
        | none => rfl
        | some c => have := escB_ok h; exact absurd (okR_mk (by omega)) hok
      have : ¬ (0 ≤ n ∧ n < 32) := fun g => hok (okR_mk (by omega))
      rw [escL_plain hne this, enc_bad' hok]
    rw [e1]
    clear e1 hok
    go_enter Tryz.func138, Tryz.ntmps138
    go_wp2_with fail
    refine c.mono ?_
    rintro e w' ⟨rfl, rfl⟩
    go_wp2
    go_ret
    exact ⟨rfl, Below.refl _ _⟩
where
  one_reads (w : World) (n : Int) : Reads (w.alloc (.cells #[.int .i64 n] 3)) (.slice (some ⟨w.heap.size, 0, none⟩) 1 1) (iv [n]) := by
    refine ⟨_, 1, rfl, fun j hj => ⟨w.heap.size, 0, rfl, ?_⟩⟩
    match j, hj with
    | 0, _ => have := cell_one_new w (.int .i64 n) 3 0 _ rfl; rw [addr_add] at this; exact this
end Go.Proofs.YtnikcgmbkmbloaaGreatDoor
