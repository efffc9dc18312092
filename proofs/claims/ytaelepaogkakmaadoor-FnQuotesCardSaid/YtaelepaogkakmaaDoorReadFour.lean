/- ReadFour: the program's and the model's answers. -/
import Derived.Test.YtaelepaogkakmaaDoorFour
namespace Go.Proofs.YtaelepaogkakmaaDoor
open Go.RowKit Go.Shelf
set_option maxRecDepth 100000
theorem digit_spec (c : UInt8) (w : World) : Calls Tryd.prog 49 #[.int .u8 c.toNat] w fun e w' => e = .returned (.int .i64 (dig16 c)) ∧ w = w' := by
  have hc : (c.toNat : Int) < 256 := by have : c.toNat < 256 := UInt8.toNat_lt c; omega
  by_cases h : 65 ≤ c.toNat ∧ c.toNat ≤ 70
  · have e : dig16 c = (c.toNat : Int) - 65 + 10 := by unfold dig16; rw [if_pos h]; omega
    rw [e]
    have ci := in_yes (c.toNat : Int) 65 70 w (by omega) (by omega)
    have h1 : (65 : Int) ≤ c.toNat := by omega
    generalize c.toNat = x at *
    clear h e
    go_enter Tryd.func49, Tryd.ntmps49
    go_wp2_with fail
    refine ci.mono ?_
    rintro e w' ⟨rfl, rfl⟩
    go_wp2
    go_ret
    exact ⟨rfl, rfl⟩
  · have e : dig16 c = hexv c := by unfold dig16; rw [if_neg h]
    rw [e]
    have ci := in_no (c.toNat : Int) 65 70 w (by omega)
    have ch := l3hex_any c w
    generalize hexv c = v at *
    generalize c.toNat = x at *
    clear h e
    go_enter Tryd.func49, Tryd.ntmps49
    go_wp2_with fail
    refine ci.mono ?_
    rintro e w' ⟨rfl, rfl⟩
    go_wp2_with fail
    refine ch.mono ?_
    rintro e w' ⟨rfl, rfl⟩
    go_wp2
    go_ret
    exact ⟨rfl, rfl⟩
theorem fourV_low {l : List UInt8} {a : Int} (h : a < 0) : fourV l a = .tuple #[.int .i64 0, .bool false] := by unfold fourV; rw [if_neg (by omega)]
theorem fourV_high {l : List UInt8} {a : Int} (h : 0 ≤ a) (h2 : (l.length : Int) - 4 < a) : fourV l a = .tuple #[.int .i64 0, .bool false] := by
  unfold fourV; rw [if_pos h, fourAt_out (by omega)]
theorem fourV_in {l : List UInt8} {i : Nat} : fourV l (i : Int) = match fourAt l i with
    | none => .tuple #[.int .i64 0, .bool false]
    | some n => .tuple #[.int .i64 n, .bool true] := by
  unfold fourV; rw [if_pos (by omega), Int.toNat_natCast]
  cases fourAt l i <;> rfl
theorem fourV_some {l : List UInt8} {i : Nat} {n : Int} (h : fourAt l i = some n) : fourV l (i : Int) = .tuple #[.int .i64 n, .bool true] := by rw [fourV_in, h]
theorem fourV_none {l : List UInt8} {i : Nat} (h : fourAt l i = none) : fourV l (i : Int) = .tuple #[.int .i64 0, .bool false] := by rw [fourV_in, h]
theorem ba_extract (l : List UInt8) (i j : Nat) : (ByteArray.mk l.toArray).extract i j = ⟨((l.drop i).take (j - i)).toArray⟩ := by
  apply ByteArray.ext
  rw [ByteArray.data_extract]
  apply Array.ext'
  rw [Array.toList_extract]
theorem readfour_spec (l : List UInt8) (a : Int) (w : World) (hl : l.length ≤ 1099511627776) (h0 : -9223372036854775808 ≤ a) (h1 : a ≤ 9223372036854775807) : Calls Tryd.prog 22 #[.string ⟨l.toArray⟩, .int .i64 a] w fun e w' => e = .returned (fourV l a) ∧ w = w' := by
  have hsz := size_l l
  have IX := Lib.hid (str_indexZ l)
  generalize hgs : (ByteArray.mk l.toArray) = s at *
  clear hgs
  have hlz : (l.length : Int) ≤ 1099511627776 := by omega
  by_cases ha : a < 0
  · rw [fourV_low ha]
    go_enter Tryd.func22, Tryd.ntmps22
    go_wp2
    go_ret2
    exact ⟨rfl, rfl⟩
  by_cases hb : (l.length : Int) - 4 < a
  · rw [fourV_high (by omega) hb]
    have ha' : 0 ≤ a := by omega
    clear ha
    go_enter Tryd.func22, Tryd.ntmps22
    go_wp2
    go_ret2
    exact ⟨rfl, rfl⟩
  obtain ⟨i, rfl⟩ : ∃ i : Nat, a = i := ⟨a.toNat, by omega⟩
  have hi : i + 4 ≤ l.length := by omega
  have hin := fourAt_in hi
  generalize hL : (l.drop i).take 4 = L at *
  have hL4 : L.length = 4 := by rw [← hL]; simp; omega
  have hLk : ∀ k (h : k < L.length) (h2 : i + k < l.length), L[k] = l[i + k] := by intro k h h2; subst hL; simp
  have HK := Lib.hid hLk
  have HIN := Lib.hid hin
  have HI := Lib.hid hi
  have hia : (i : Int) ≤ (l.length : Int) - 4 := by omega
  clear ha hb h0 h1 hL hLk hin hi
  obtain ⟨R, hR⟩ : ∃ R, R = fourV l (i : Int) := ⟨_, rfl⟩
  rw [← hR]
  have HR := Lib.hid hR
  clear hR
  have CD := Lib.hid digit_spec
  go_enter Tryd.func22, Tryd.ntmps22
  go_wp2
  go_loopw [6, 7] (fun vn vi wr => ∃ (k : Nat) (m : Int), vn = .int .i64 m ∧ vi = .int .i64 ((i : Int) + k) ∧ k ≤ 4 ∧ w = wr ∧ Hid (0 ≤ m ∧ m < 16 ^ k ∧ hexN 0 L = hexN m (L.drop k))) (fun _ vi _ => i + 4 - (intOf vi).toNat)
  case atStart => exact ⟨0, 0, rfl, by simp, by omega, rfl, Lib.hid ⟨by omega, by decide, rfl⟩⟩
  case round =>
    obtain ⟨k, m, rfl, rfl, hk, rfl, hh⟩ := hrel
    obtain ⟨a0, ha, hdec⟩ := hh.out
    clear hh
    by_cases hkn : k < 4
    · have hdrop : L.drop k = L[k] :: L.drop (k + 1) := List.drop_eq_getElem_cons (by omega)
      have hik : i + k < l.length := by have := HI.out; omega
      rw [hdrop, HK.out k (by omega) hik] at hdec
      have ix := IX.out (i + k) ((i : Int) + k) (by omega) hik w
      generalize l[i + k]'hik = c at *
      have cd := CD.out c w
      have hp : (16 : Int) ^ (k + 1) = 16 ^ k * 16 := Int.pow_succ 16 k
      have hp3 : (16 : Int) ^ k ≤ 4096 := by
        have : k = 0 ∨ k = 1 ∨ k = 2 ∨ k = 3 := by omega
        rcases this with rfl | rfl | rfl | rfl <;> decide
      have hdr := dig16_range c
      have hk4 : (i : Int) + k < i + 4 := by omega
      have HKN := Lib.hid hkn
      by_cases hd0 : 0 ≤ dig16 c
      · rw [hexN_good hd0] at hdec
        have HN : Hid (0 ≤ 16 * m + dig16 c ∧ 16 * m + dig16 c < 16 ^ (k + 1) ∧ hexN 0 L = hexN (16 * m + dig16 c) (L.drop (k + 1))) := Lib.hid ⟨by omega, by rw [hp]; omega, hdec⟩
        have i3 : m ≤ 4095 := by omega
        generalize dig16 c = d at *
        clear hdec hp hp3 ha hdrop hkn hik
        go_wp2_with fail
        refine cd.mono ?_
        rintro e w' ⟨rfl, rfl⟩
        go_wp2
        go_roundw
        case rel => exact ⟨k + 1, _, rfl, by go_num, by have := HKN.out; omega, by trivial, HN⟩
        case measure => simp [intOf]; omega
      · rw [hexN_bad hd0] at hdec
        have hRR := HR.out.trans (fourV_none (HIN.out.trans hdec))
        have HQ := Lib.hid hRR
        have hd1 : dig16 c < 0 := by omega
        generalize dig16 c = d at *
        clear hdec hp hp3 ha hdrop hkn hRR hd0 hik
        go_wp2_with fail
        refine cd.mono ?_
        rintro e w' ⟨rfl, rfl⟩
        go_wp2
        go_ret2
        exact ⟨by rw [HQ.out]; rfl, rfl⟩
    · obtain rfl : k = 4 := by omega
      rw [List.drop_eq_nil_of_le (by omega)] at hdec
      have hx : hexN 0 L = some m := hdec
      have hRR := HR.out.trans (fourV_some (HIN.out.trans hx))
      have HQ := Lib.hid hRR
      clear hdec ha hkn hx hk hRR
      go_wp2
      go_ret2
      exact ⟨by rw [HQ.out]; rfl, rfl⟩
theorem readfour_impl (l : List UInt8) (a : Int) (w : World) (hl : l.length ≤ 1099511627776) (h0 : -9223372036854775808 ≤ a) (h1 : a ≤ 9223372036854775807) (ts : TypeId) (ps : Value) (hS : w.var? Tryd.prog "strconv.ErrSyntax" = some #[.iface ts ps]) :
    Calls Tryd.prog 21 #[.string ⟨l.toArray⟩, .int .i64 a] w fun e w' => e = .returned (fourV l a) ∧ Below w.heap.size w w' := by
  have hsz := size_l l
  have hlz : (l.length : Int) ≤ 1099511627776 := by omega
  by_cases ha : a < 0
  · rw [fourV_low ha]
    generalize (ByteArray.mk l.toArray) = s at *
    go_enter Tryd.func21, Tryd.ntmps21
    go_wp2
    go_ret2
    exact ⟨rfl, Below.refl _ _⟩
  by_cases hb : (l.length : Int) - 4 < a
  · rw [fourV_high (by omega) hb]
    have ha' : 0 ≤ a := by omega
    clear ha
    generalize (ByteArray.mk l.toArray) = s at *
    go_enter Tryd.func21, Tryd.ntmps21
    go_wp2
    go_ret2
    exact ⟨rfl, Below.refl _ _⟩
  obtain ⟨i, rfl⟩ : ∃ i : Nat, a = i := ⟨a.toNat, by omega⟩
  have hi : i + 4 ≤ l.length := by omega
  have hin := fourAt_in hi
  have hx := ba_extract l i (i + 4)
  rw [show i + 4 - i = 4 by omega] at hx
  have hL4 : ((l.drop i).take 4).length = 4 := by simp; omega
  generalize (l.drop i).take 4 = L at *
  have hia : (i : Int) ≤ (l.length : Int) - 4 := by omega
  have hn0 : ¬ ((i : Int) < 0) := by omega
  have hsl : (Instr.slice 9 (.string ⟨l.toArray⟩) (some (.int .i64 (i : Int))) (some (.int .i64 ((i : Int) + 4))) none).run Tryd.prog w = .ok (.string ((ByteArray.mk l.toArray).extract i (i + 4))) w := by
    have := run_slice_string (P := Tryd.prog) (w := w) 9 (ByteArray.mk l.toArray) .i64 .i64 (i : Int) ((i : Int) + 4) Tryd.underlying9 (by omega) (by omega) (by rw [size_l]; omega)
    rw [this]
    congr 3
  cases hr : hexN 0 L with
  | some n =>
    have hf := fourV_some (hin.trans hr)
    have hrg := fourAt_range (hin.trans hr)
    have cp := parse16_some L n hL4 hr w
    rw [← hx] at cp
    have hn1 : (n : Int) ≤ 65535 := hrg.2.1
    have hn2 : (0 : Int) ≤ n := hrg.1
    rw [hf]
    generalize (ByteArray.mk l.toArray) = s at *
    clear ha hb h0 h1 hin hx hrg hf hr
    go_enter Tryd.func21, Tryd.ntmps21
    go_wp2_with fail
    refine cp.mono ?_
    rintro e w1 ⟨rfl, b1⟩
    go_wp2
    go_ret2
    exact ⟨rfl, b1⟩
  | none =>
    have hf := fourV_none (hin.trans hr)
    have cp := parse16_none L hL4 hr w ts ps hS
    rw [← hx] at cp
    rw [hf]
    generalize (ByteArray.mk l.toArray) = s at *
    clear ha hb h0 h1 hin hx hf hr hS
    go_enter Tryd.func21, Tryd.ntmps21
    go_wp2_with fail
    refine cp.mono ?_
    rintro e w1 ⟨⟨N, rfl⟩, b1⟩
    go_wp2
    go_ret2
    exact ⟨rfl, b1⟩
end Go.Proofs.YtaelepaogkakmaaDoor
