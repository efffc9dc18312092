/- Four hexadecimal digits: the program's answer (strconv.ParseUint at base 16 and 16 bits) and the model's. -/
import Derived.Test.YtaelepaogkakmaaDoorQuoteMath
import Derived.Test.YtaelepaogkakmaaDoorUnhex
import Derived.Test.YtaelepaogkakmaaDoorTabs
import Derived.Lib.ConvBytes
import Derived.Lib.AtoiErrMem
import Derived.Lib.AtoiAllMem
import Derived.Laws.Strings3
import Derived.Laws.Closers25
import Derived.Laws.Closers25b
import Derived.Lib.Hide
namespace Go.Proofs.YtaelepaogkakmaaDoor
open Go.RowKit Go.Shelf
set_option maxRecDepth 100000
/-- the byte with the bit 32 set -/
def lowv (c : UInt8) : Int := if c.toNat / 32 % 2 = 1 then c.toNat else (c.toNat : Int) + 32
theorem lowv_or (c : UInt8) : bits .or .u8 (c.toNat : Int) 32 = lowv c := by
  have : ∀ n : Fin 256, bits .or .u8 (((UInt8.ofNat n.val).toNat : Nat) : Int) 32 = lowv (UInt8.ofNat n.val) := by decide +kernel
  have h := this ⟨c.toNat, UInt8.toNat_lt c⟩
  simpa using h
theorem lowv_dig (c : UInt8) : (48 ≤ c.toNat ∧ c.toNat ≤ 57 ∧ dig16 c = c.toNat - 48) ∨ (¬ (48 ≤ c.toNat ∧ c.toNat ≤ 57) ∧ 97 ≤ lowv c ∧ lowv c ≤ 102 ∧ dig16 c = lowv c - 87) ∨ (¬ (48 ≤ c.toNat ∧ c.toNat ≤ 57) ∧ 103 ≤ lowv c ∧ lowv c ≤ 122 ∧ dig16 c = -1) ∨ (¬ (48 ≤ c.toNat ∧ c.toNat ≤ 57) ∧ (lowv c < 97 ∨ 122 < lowv c) ∧ 0 ≤ lowv c ∧ lowv c ≤ 255 ∧ dig16 c = -1) := by
  have : ∀ n : Fin 256, (48 ≤ (UInt8.ofNat n.val).toNat ∧ (UInt8.ofNat n.val).toNat ≤ 57 ∧ dig16 (UInt8.ofNat n.val) = (UInt8.ofNat n.val).toNat - 48) ∨ (¬ (48 ≤ (UInt8.ofNat n.val).toNat ∧ (UInt8.ofNat n.val).toNat ≤ 57) ∧ 97 ≤ lowv (UInt8.ofNat n.val) ∧ lowv (UInt8.ofNat n.val) ≤ 102 ∧ dig16 (UInt8.ofNat n.val) = lowv (UInt8.ofNat n.val) - 87) ∨ (¬ (48 ≤ (UInt8.ofNat n.val).toNat ∧ (UInt8.ofNat n.val).toNat ≤ 57) ∧ 103 ≤ lowv (UInt8.ofNat n.val) ∧ lowv (UInt8.ofNat n.val) ≤ 122 ∧ dig16 (UInt8.ofNat n.val) = -1) ∨ (¬ (48 ≤ (UInt8.ofNat n.val).toNat ∧ (UInt8.ofNat n.val).toNat ≤ 57) ∧ (lowv (UInt8.ofNat n.val) < 97 ∨ 122 < lowv (UInt8.ofNat n.val)) ∧ 0 ≤ lowv (UInt8.ofNat n.val) ∧ lowv (UInt8.ofNat n.val) ≤ 255 ∧ dig16 (UInt8.ofNat n.val) = -1) := by decide +kernel
  have h := this ⟨c.toNat, UInt8.toNat_lt c⟩
  simpa using h
theorem low_not95 (c : UInt8) (h : lowv c ≤ 122) : c.toNat ≠ 95 := by
  intro e
  unfold lowv at h
  rw [e] at h
  simp at h
/-- what internal/strconv.ParseUint hands back at base 16 -/
def innerV (l : List UInt8) : Value := match hexN 0 l with
  | some n => .tuple #[.int .u64 n, .nilIface]
  | none => .tuple #[.int .u64 0, .iface 81 (.int .i64 2)]
theorem inner_some {l : List UInt8} {n : Int} (h : hexN 0 l = some n) : innerV l = .tuple #[.int .u64 n, .nilIface] := by unfold innerV; rw [h]
theorem inner_none {l : List UInt8} (h : hexN 0 l = none) : innerV l = .tuple #[.int .u64 0, .iface 81 (.int .i64 2)] := by unfold innerV; rw [h]
set_option maxHeartbeats 8000000 in
theorem parse16_inner (l : List UInt8) (h4 : l.length = 4) (w : World) : Calls Tryd.prog 63 #[.string ⟨l.toArray⟩, .int .i64 16, .int .i64 16] w fun e w' => e = .returned (innerV l) ∧ Below w.heap.size w w' := by
  have hemp : (ByteArray.mk l.toArray).toList.isEmpty = false := by
    match l, h4 with
    | [a, b, c, d], _ => simp
  have hcv := Lib.run_convert_string_bytes (P := Tryd.prog) w 9 22 5 (ByteArray.mk l.toArray) (u := .string) Tryd.underlying9 Tryd.underlying22 Tryd.underlying5
  have hB : ∀ j (hj : j < l.length), (Lib.bytesWorld w 5 (ByteArray.mk l.toArray)).cell? ⟨w.heap.size, j, none⟩ = some (.int .u8 (l[j]).toNat) := fun j hj => by
    have := Lib.bytesWorld_cell w 5 (ByteArray.mk l.toArray) j (by rw [size_l]; exact hj)
    rw [this]; congr 3; simp [hj]
  have hbw := Lib.bytesWorld_below w 5 (ByteArray.mk l.toArray)
  obtain ⟨W1, hW1⟩ : ∃ W1, W1 = Lib.bytesWorld w 5 (ByteArray.mk l.toArray) := ⟨_, rfl⟩
  rw [← hW1] at hcv hB hbw
  clear hW1
  have hsz : (ByteArray.mk l.toArray).size = 4 := by rw [size_l, h4]
  generalize (ByteArray.mk l.toArray) = t at *
  have hmv : IntKind.u64.wrap (IntKind.u64.wrap 65536 - 1) = 65535 := by
    rw [IntKind.wrap_u64, IntKind.wrap_u64]
    decide
  have HB := Lib.hid hB
  have HW := Lib.hid hbw
  obtain ⟨R, hR⟩ : ∃ R, R = innerV l := ⟨_, rfl⟩
  rw [← hR]
  have HR := Lib.hid hR
  clear hB hbw hR
  go_enter Tryd.func63, Tryd.ntmps63
  go_wp2
  go_loopw [12, 13, 101] (fun vu vn vi wr => ∃ (k : Nat) (a : Int), vu = .bool false ∧ vn = .int .u64 a ∧ vi = .int .i64 k ∧ k ≤ 4 ∧ wr = W1 ∧ Hid (0 ≤ a ∧ a < 16 ^ k ∧ hexN 0 l = hexN a (l.drop k))) (fun _ _ vi _ => 4 - (intOf vi).toNat)
  case atStart => exact ⟨0, 0, rfl, rfl, rfl, by omega, rfl, Lib.hid ⟨by omega, by decide, rfl⟩⟩
  case round =>
    obtain ⟨k, a, rfl, rfl, rfl, hk, rfl, hh⟩ := hrel
    obtain ⟨a0, ha, hdec⟩ := hh.out
    clear hh
    have HB := HB
    by_cases hkn : k < l.length
    · have hc := HB.out k hkn
      have hdrop : l.drop k = l[k] :: l.drop (k + 1) := List.drop_eq_getElem_cons hkn
      rw [hdrop] at hdec
      generalize l[k] = c at hc hdec
      have hp : (16 : Int) ^ (k + 1) = 16 ^ k * 16 := Int.pow_succ 16 k
      have hp3 : (16 : Int) ^ k ≤ 4096 := by
        have : k = 0 ∨ k = 1 ∨ k = 2 ∨ k = 3 := by omega
        rcases this with rfl | rfl | rfl | rfl <;> decide
      have hdr := dig16_range c
      have hlw := lowv_or c
      have hk4 : (k : Int) < 4 := by omega
      clear hdrop
      rcases lowv_dig c with ⟨g1, g2, g3⟩ | ⟨g0, g1, g2, g3⟩ | ⟨g0, g1, g2, g3⟩ | ⟨g0, g1, g2, g4, g3⟩
      · -- a digit
        have hd0 : 0 ≤ dig16 c := by omega
        rw [hexN_good hd0, g3] at hdec
        have e1 : 16 * a + ((c.toNat : Int) - 48) = a * 16 + ((c.toNat : Int) - 48) := by omega
        rw [e1] at hdec
        have HN : Hid (0 ≤ a * 16 + ((c.toNat : Int) - 48) ∧ a * 16 + ((c.toNat : Int) - 48) < 16 ^ (k + 1) ∧ hexN 0 l = hexN (a * 16 + ((c.toNat : Int) - 48)) (l.drop (k + 1))) := Lib.hid ⟨by omega, by rw [hp]; omega, hdec⟩
        have i1 : (48 : Int) ≤ c.toNat := by omega
        have i2 : (c.toNat : Int) ≤ 57 := by omega
        have i3 : a ≤ 4095 := by omega
        generalize c.toNat = x at *
        clear hdec hp hp3 hdr hlw g1 g2 g3 hd0 e1 ha
        go_wp2
        go_roundw
        case rel => exact ⟨k + 1, _, by simp, rfl, by go_num, by omega, by simp, HN⟩
        case measure => simp [intOf]; omega
      · -- a letter up to f
        have hd0 : 0 ≤ dig16 c := by omega
        rw [hexN_good hd0, g3] at hdec
        have e1 : 16 * a + (lowv c - 87) = a * 16 + (lowv c - 97 + 10) := by omega
        rw [e1] at hdec
        have HN : Hid (0 ≤ a * 16 + (lowv c - 97 + 10) ∧ a * 16 + (lowv c - 97 + 10) < 16 ^ (k + 1) ∧ hexN 0 l = hexN (a * 16 + (lowv c - 97 + 10)) (l.drop (k + 1))) := Lib.hid ⟨by omega, by rw [hp]; omega, hdec⟩
        have i3 : a ≤ 4095 := by omega
        have hc256 : (c.toNat : Int) < 256 := by have : c.toNat < 256 := UInt8.toNat_lt c; omega
        have cl := fun w => Tryd.internal_strconv_lower (c.toNat : Int) w
        rw [hlw] at cl
        have g0' : (c.toNat : Int) < 48 ∨ ((48 : Int) ≤ c.toNat ∧ 57 < (c.toNat : Int)) := by omega
        have n95 : ((c.toNat : Int) == 95) = false := by have := low_not95 c (by omega); simp; omega
        generalize lowv c = v at *
        generalize c.toNat = x at *
        clear hdec hp hp3 hdr hlw g3 hd0 e1 ha g0
        rcases g0' with g0' | ⟨g0', g0''⟩
        all_goals
          go_wp2_with (go_at_call 72; refine (cl _).mono ?_; rintro e w' ⟨rfl, rfl⟩)
          go_roundw
          case rel => exact ⟨k + 1, _, by simp, rfl, by go_num, by omega, by simp, HN⟩
          case measure => simp [intOf]; omega
      · -- a letter beyond f
        have hd0 : ¬ 0 ≤ dig16 c := by omega
        rw [hexN_bad hd0] at hdec
        have hRR := HR.out.trans (inner_none hdec)
        have HQ := Lib.hid hRR
        clear hRR
        have hc256 : (c.toNat : Int) < 256 := by have : c.toNat < 256 := UInt8.toNat_lt c; omega
        have cl := fun w => Tryd.internal_strconv_lower (c.toNat : Int) w
        rw [hlw] at cl
        have g0' : (c.toNat : Int) < 48 ∨ ((48 : Int) ≤ c.toNat ∧ 57 < (c.toNat : Int)) := by omega
        have n95 : ((c.toNat : Int) == 95) = false := by have := low_not95 c (by omega); simp; omega
        generalize lowv c = v at *
        generalize c.toNat = x at *
        clear hdec hp hp3 hdr hlw g3 hd0 ha g0 a0
        rcases g0' with g0' | ⟨g0', g0''⟩
        all_goals
          go_wp2_with (go_at_call 72; refine (cl _).mono ?_; rintro e w' ⟨rfl, rfl⟩)
          go_ret2
          exact ⟨by rw [HQ.out]; rfl, HW.out⟩
      · -- no letter
        have hd0 : ¬ 0 ≤ dig16 c := by omega
        rw [hexN_bad hd0] at hdec
        have hRR := HR.out.trans (inner_none hdec)
        have HQ := Lib.hid hRR
        clear hRR
        have hc256 : (c.toNat : Int) < 256 := by have : c.toNat < 256 := UInt8.toNat_lt c; omega
        have cl := fun w => Tryd.internal_strconv_lower (c.toNat : Int) w
        rw [hlw] at cl
        have g0' : (c.toNat : Int) < 48 ∨ ((48 : Int) ≤ c.toNat ∧ 57 < (c.toNat : Int)) := by omega
        have g1' : lowv c < 97 ∨ (97 ≤ lowv c ∧ 122 < lowv c) := by omega
        by_cases h95 : c.toNat = 95
        · have cl := fun w => Tryd.internal_strconv_lower 95 w
          rw [show bits .or .u8 95 32 = 127 by decide] at cl
          rw [h95] at hc
          clear hdec hp hp3 hdr hlw g3 hd0 ha g0 a0 g1 g0' g1' g2 g4 h95 hc256
          go_wp2_with (go_at_call 72; refine (cl _).mono ?_; rintro e w' ⟨rfl, rfl⟩)
          go_ret2
          exact ⟨by rw [HQ.out]; rfl, HW.out⟩
        have n95 : ((c.toNat : Int) == 95) = false := by simp; omega
        generalize lowv c = v at *
        generalize c.toNat = x at *
        clear hdec hp hp3 hdr hlw g3 hd0 ha g0 a0 g1 h95
        rcases g0' with g0' | ⟨g0', g0''⟩ <;> rcases g1' with g1' | ⟨g1', g1''⟩
        all_goals
          go_wp2_with (go_at_call 72; refine (cl _).mono ?_; rintro e w' ⟨rfl, rfl⟩)
          go_ret2
          exact ⟨by rw [HQ.out]; rfl, HW.out⟩
    · have hk4 : k = l.length := by omega
      rw [List.drop_eq_nil_of_le (by omega)] at hdec
      have hx : hexN 0 l = some a := hdec
      have hRR := HR.out.trans (inner_some hx)
      have HQ := Lib.hid hRR
      clear hRR
      have hk5 : (k : Int) = 4 := by omega
      clear hdec ha hk4 hkn hx hk
      obtain rfl : k = 4 := by omega
      go_wp2
      go_ret2
      exact ⟨by rw [HQ.out]; rfl, HW.out⟩
theorem parse16_some (l : List UInt8) (n : Int) (h4 : l.length = 4) (hx : hexN 0 l = some n) (w : World) : Calls Tryd.prog 48 #[.string ⟨l.toArray⟩, .int .i64 16, .int .i64 16] w fun e w' => e = .returned (.tuple #[.int .u64 n, .nilIface]) ∧ Below w.heap.size w w' := by
  have ci := parse16_inner l h4 w
  rw [inner_some hx] at ci
  generalize (ByteArray.mk l.toArray) = t at *
  clear hx h4
  go_enter Tryd.func48, Tryd.ntmps48
  go_wp2_with fail
  refine ci.mono ?_
  rintro e w1 ⟨rfl, b1⟩
  go_wp2
  go_ret2
  exact ⟨rfl, b1⟩
theorem parse16_none (l : List UInt8) (h4 : l.length = 4) (hx : hexN 0 l = none) (w : World) (ts : TypeId) (ps : Value) (hS : w.var? Tryd.prog "strconv.ErrSyntax" = some #[.iface ts ps]) : Calls Tryd.prog 48 #[.string ⟨l.toArray⟩, .int .i64 16, .int .i64 16] w fun e w' => (∃ N, e = .returned (.tuple #[.int .u64 0, .iface 83 (.pointer (some ⟨N, 0, none⟩))])) ∧ Below w.heap.size w w' := by
  have ci := parse16_inner l h4 w
  rw [inner_none hx] at ci
  have hv : w.cell? ⟨0, 0, none⟩ = some (.iface ts ps) := by have h0 := World.var?_cell gES hS 0; simpa using h0
  have hG := Lib.lt_of_cell hv
  have CT := Lib.hid (fun w hv => Tryd.strconv_toError_syntax ⟨#[80, 97, 114, 115, 101, 85, 105, 110, 116]⟩ ⟨l.toArray⟩ 16 16 (.iface ts ps) w (by rw [size_l]; omega) hv (Or.inr ⟨ts, ps, rfl⟩))
  generalize (ByteArray.mk l.toArray) = t at *
  have HV := Lib.hid hv
  clear hx h4 hS hv
  go_enter Tryd.func48, Tryd.ntmps48
  go_wp2_with fail
  refine ci.mono ?_
  rintro e w1 ⟨rfl, b1⟩
  have hv1 : w1.cell? ⟨0, 0, none⟩ = some (.iface ts ps) := (b1.cell (show (⟨0, 0, none⟩ : Addr).block < w.heap.size from hG)).trans HV.out
  have ct := CT.out w1 hv1
  have B1 := Lib.hid b1
  clear b1 hv1 ci
  go_wp2_with fail
  refine ct.mono ?_
  rintro e w2 ⟨N, rfl, _, _, b2⟩
  have B2 := Lib.hid (B1.out.trans (b2.mono B1.out.size))
  clear b2 ct
  go_wp2
  go_ret2
  exact ⟨⟨N, rfl⟩, B2.out⟩
end Go.Proofs.YtaelepaogkakmaaDoor
