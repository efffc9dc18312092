/- The character at a place of given bytes: what the model answers, by the model's own decoder of strings. -/
import Derived.Test.YtaelepaogkakmaaDoorRows
import Derived.Test.YtaelepaogkakmaaDoorIn
import Derived.Test.YtaelepaogkakmaaDoorMem
import Derived.Test.YtaelepaogkakmaaDoorRune
import Derived.WalkKit
import Derived.Lib.Hide
import Derived.Lib.DecodeN
import Derived.Lib.MapLaws
import Derived.Outline
import Derived.ProofKit
namespace Go.Proofs.YtaelepaogkakmaaDoor
open Go.RowKit
def accB (x0 : Int) (y : Nat → Int) : Nat → Int
  | 0 => x0
  | k + 1 => 64 * accB x0 y k + y (k + 1) - 128
theorem accB_bound (x0 : Int) (y : Nat → Int) (k : Nat) (h0 : 0 ≤ x0) (h1 : x0 ≤ 31) (hk : k ≤ 3) (hok : ∀ j, 1 ≤ j → j ≤ k → 128 ≤ y j ∧ y j ≤ 191) : 0 ≤ accB x0 y k ∧ accB x0 y k ≤ 8388607 := by
  match k, hk, hok with
  | 0, _, _ => exact ⟨h0, by simp only [accB, Nat.zero_add, Nat.reduceAdd]; omega⟩
  | 1, _, hok => have a := hok 1 (by omega) (by omega); simp only [accB, Nat.zero_add, Nat.reduceAdd]; omega
  | 2, _, hok => have a := hok 1 (by omega) (by omega); have b := hok 2 (by omega) (by omega); simp only [accB, Nat.zero_add, Nat.reduceAdd]; omega
  | 3, _, hok => have a := hok 1 (by omega) (by omega); have b := hok 2 (by omega) (by omega); have c := hok 3 (by omega) (by omega); simp only [accB, Nat.zero_add, Nat.reduceAdd]; omega
def badG : Value := .tuple #[.int .i64 0, .int .i64 0, .bool false]
theorem ret_bad {R : Value} (h : R = badG) : Ending.returned (.tuple #[.int .i64 0, .int .i64 0, .bool false]) = .returned R := by rw [h]; rfl
theorem ret_good {R : Value} {q a : Int} (h : R = .tuple #[.int .i64 q, .int .i64 a, .bool true]) : Ending.returned (.tuple #[.int .i64 q, .int .i64 a, .bool true]) = .returned R := by rw [h]
theorem get_spec_2 (w : World) (b o len cap at_ : Nat) (x : Int) (y : Nat → Int) (R : Value) (hat : at_ < len) (hlen : len ≤ 1099511627776) (hx : w.cell? ⟨b, o + at_, none⟩ = some (.int .u8 x)) (hx0 : 192 ≤ x) (hx1 : x ≤ 223)
    (hy : ∀ j : Nat, 1 ≤ j → j < 2 → at_ + j < len → w.cell? ⟨b, o + (at_ + j), none⟩ = some (.int .u8 (y j)) ∧ 0 ≤ y j ∧ y j ≤ 255)
    (hshort : len < at_ + 2 → R = badG)
    (hbad : at_ + 2 ≤ len → ∀ j, 1 ≤ j → j < 2 → ¬ (128 ≤ y j ∧ y j ≤ 191) → R = badG)
    (hend : at_ + 2 ≤ len → (∀ j, 1 ≤ j → j < 2 → 128 ≤ y j ∧ y j ≤ 191) → (wideR (accB (x - 192) y 1) = 2 → R = .tuple #[.int .i64 (accB (x - 192) y 1), .int .i64 (at_ + 2), .bool true]) ∧ (wideR (accB (x - 192) y 1) ≠ 2 → R = badG)) :
    Calls Tryd.prog 42 #[.slice (some ⟨b, o, none⟩) len cap, .int .i64 at_] w fun e w' => e = .returned R ∧ w = w' := by
  have HY := Lib.hid hy
  have HB := Lib.hid hbad
  have HE := Lib.hid hend
  have HS := Lib.hid hshort
  have HR := Lib.hid (trivial : True)
  clear hy hbad hend hshort
  have i1 := in_yes x 192 223 w hx0 hx1
  have ca : ¬ ((at_ : Int) < 0) := by omega
  have cl : ¬ ((len : Int) ≤ (at_ : Int)) := by omega
  have ca2 : (at_ : Int) ≤ 1099511627776 := by omega
  have cb : (len : Int) ≤ 1099511627776 := by omega
  have c128 : ¬ x < 128 := by omega
  have hW0 : (0 : Int) ≤ x - 192 ∧ x - 192 ≤ 31 := by omega
  by_cases hs : len < at_ + 2
  · have hs' : (len : Int) - at_ < 2 := by omega
    have cw := Lib.hid (HS.out hs)
    clear hs
    go_enter Tryd.func42, Tryd.ntmps42
    go_wp2_with (go_at_call 53; (first | (with_reducible refine i1.mono ?_)); rintro e w' ⟨rfl, rfl⟩)
    go_ret3
    exact ⟨ret_bad cw.out, rfl⟩
  · have hs' : ¬ ((len : Int) - at_ < 2) := by omega
    have hle : at_ + 2 ≤ len := by omega
    have HL := Lib.hid hle
    clear hs hle
    go_enter Tryd.func42, Tryd.ntmps42
    go_wp2_with (go_at_call 53; (first | (with_reducible refine i1.mono ?_)); rintro e w' ⟨rfl, rfl⟩)
    go_loop [9, 10] (fun n i => ∃ k : Nat, k < 2 ∧ i = .int .i64 ((k : Int) + 1) ∧ n = .int .i64 (accB (x - 192) y k) ∧ ∀ j, 1 ≤ j → j ≤ k → 128 ≤ y j ∧ y j ≤ 191) (fun _ i => 2 - (intOf i).toNat)
    case atStart => exact ⟨0, by omega, rfl, rfl, fun j h1 h2 => by omega⟩
    case round =>
      obtain ⟨k, hk, rfl, rfl, hok⟩ := hrel
      have HO := Lib.hid hok
      have hbd := accB_bound (x - 192) y k hW0.1 hW0.2 (by omega) hok
      clear hok
      generalize hq : accB (x - 192) y k = q at *
      have HQ := Lib.hid hq
      clear hq
      by_cases hkw : k + 1 < 2
      · have hkw' : (k : Int) + 1 < 2 := by omega
        have hlt : at_ + (k + 1) < len := by have := HL.out; omega
        obtain ⟨hc, hy0, hy1⟩ := HY.out (k + 1) (by omega) hkw hlt
        have HYY := Lib.hid (rfl : y (k + 1) = y (k + 1))
        generalize hz : y (k + 1) = z at hc hy0 hy1
        have HZ := Lib.hid hz
        clear hz HYY
        by_cases hz2 : 128 ≤ z ∧ z ≤ 191
        · have iy := in_yes z 128 191 w hz2.1 hz2.2
          go_wp2_with (go_at_call 53; refine iy.mono ?_; rintro e w' ⟨rfl, rfl⟩)
          go_round
          case rel =>
            refine ⟨k + 1, hkw, by go_num, ?_, fun j h1 h2 => ?_⟩
            · simp only [accB]; rw [HQ.out, HZ.out]
            · by_cases hj : j ≤ k
              · exact HO.out j h1 hj
              · obtain rfl : j = k + 1 := by omega
                rw [HZ.out]; exact hz2
          case measure => simp [intOf]; omega
        · have iy := in_no z 128 191 w (by omega)
          have hR := Lib.hid (HB.out HL.out (k + 1) (by omega) hkw (by rw [HZ.out]; exact hz2))
          clear hz2
          go_wp2_with (go_at_call 53; refine iy.mono ?_; rintro e w' ⟨rfl, rfl⟩)
          go_ret3
          exact ⟨ret_bad hR.out, rfl⟩
      · obtain rfl : k = 1 := by omega
        have hE := HE.out HL.out (fun j h1 h2 => HO.out j h1 (by omega))
        rw [HQ.out] at hE
        have cw := wide_spec q w
        by_cases hw : wideR q = 2
        · have hR := Lib.hid (hE.1 hw)
          rw [hw] at cw
          clear hE hw
          go_wp2_with (go_at_call 61; refine cw.mono ?_; rintro e w' ⟨rfl, rfl⟩)
          go_ret3
          exact ⟨ret_good hR.out, rfl⟩
        · have hR := Lib.hid (hE.2 hw)
          have hw' : (((wideR q : Nat) : Int) != 2) = true := by simp; omega
          clear hE hw
          go_wp2_with (go_at_call 61; refine cw.mono ?_; rintro e w' ⟨rfl, rfl⟩)
          go_ret3
          exact ⟨ret_bad hR.out, rfl⟩
theorem get_spec_3 (w : World) (b o len cap at_ : Nat) (x : Int) (y : Nat → Int) (R : Value) (hat : at_ < len) (hlen : len ≤ 1099511627776) (hx : w.cell? ⟨b, o + at_, none⟩ = some (.int .u8 x)) (hx0 : 224 ≤ x) (hx1 : x ≤ 239)
    (hy : ∀ j : Nat, 1 ≤ j → j < 3 → at_ + j < len → w.cell? ⟨b, o + (at_ + j), none⟩ = some (.int .u8 (y j)) ∧ 0 ≤ y j ∧ y j ≤ 255)
    (hshort : len < at_ + 3 → R = badG)
    (hbad : at_ + 3 ≤ len → ∀ j, 1 ≤ j → j < 3 → ¬ (128 ≤ y j ∧ y j ≤ 191) → R = badG)
    (hend : at_ + 3 ≤ len → (∀ j, 1 ≤ j → j < 3 → 128 ≤ y j ∧ y j ≤ 191) → (wideR (accB (x - 224) y 2) = 3 → R = .tuple #[.int .i64 (accB (x - 224) y 2), .int .i64 (at_ + 3), .bool true]) ∧ (wideR (accB (x - 224) y 2) ≠ 3 → R = badG)) :
    Calls Tryd.prog 42 #[.slice (some ⟨b, o, none⟩) len cap, .int .i64 at_] w fun e w' => e = .returned R ∧ w = w' := by
  have HY := Lib.hid hy
  have HB := Lib.hid hbad
  have HE := Lib.hid hend
  have HS := Lib.hid hshort
  have HR := Lib.hid (trivial : True)
  clear hy hbad hend hshort
  have i1 := in_no x 192 223 w (by omega)
  have i2 := in_yes x 224 239 w hx0 hx1
  have ca : ¬ ((at_ : Int) < 0) := by omega
  have cl : ¬ ((len : Int) ≤ (at_ : Int)) := by omega
  have ca2 : (at_ : Int) ≤ 1099511627776 := by omega
  have cb : (len : Int) ≤ 1099511627776 := by omega
  have c128 : ¬ x < 128 := by omega
  have hW0 : (0 : Int) ≤ x - 224 ∧ x - 224 ≤ 31 := by omega
  by_cases hs : len < at_ + 3
  · have hs' : (len : Int) - at_ < 3 := by omega
    have cw := Lib.hid (HS.out hs)
    clear hs
    go_enter Tryd.func42, Tryd.ntmps42
    go_wp2_with (go_at_call 53; (first | (with_reducible refine i1.mono ?_) | (with_reducible refine i2.mono ?_)); rintro e w' ⟨rfl, rfl⟩)
    go_ret3
    exact ⟨ret_bad cw.out, rfl⟩
  · have hs' : ¬ ((len : Int) - at_ < 3) := by omega
    have hle : at_ + 3 ≤ len := by omega
    have HL := Lib.hid hle
    clear hs hle
    go_enter Tryd.func42, Tryd.ntmps42
    go_wp2_with (go_at_call 53; (first | (with_reducible refine i1.mono ?_) | (with_reducible refine i2.mono ?_)); rintro e w' ⟨rfl, rfl⟩)
    go_loop [9, 10] (fun n i => ∃ k : Nat, k < 3 ∧ i = .int .i64 ((k : Int) + 1) ∧ n = .int .i64 (accB (x - 224) y k) ∧ ∀ j, 1 ≤ j → j ≤ k → 128 ≤ y j ∧ y j ≤ 191) (fun _ i => 3 - (intOf i).toNat)
    case atStart => exact ⟨0, by omega, rfl, rfl, fun j h1 h2 => by omega⟩
    case round =>
      obtain ⟨k, hk, rfl, rfl, hok⟩ := hrel
      have HO := Lib.hid hok
      have hbd := accB_bound (x - 224) y k hW0.1 hW0.2 (by omega) hok
      clear hok
      generalize hq : accB (x - 224) y k = q at *
      have HQ := Lib.hid hq
      clear hq
      by_cases hkw : k + 1 < 3
      · have hkw' : (k : Int) + 1 < 3 := by omega
        have hlt : at_ + (k + 1) < len := by have := HL.out; omega
        obtain ⟨hc, hy0, hy1⟩ := HY.out (k + 1) (by omega) hkw hlt
        have HYY := Lib.hid (rfl : y (k + 1) = y (k + 1))
        generalize hz : y (k + 1) = z at hc hy0 hy1
        have HZ := Lib.hid hz
        clear hz HYY
        by_cases hz2 : 128 ≤ z ∧ z ≤ 191
        · have iy := in_yes z 128 191 w hz2.1 hz2.2
          go_wp2_with (go_at_call 53; refine iy.mono ?_; rintro e w' ⟨rfl, rfl⟩)
          go_round
          case rel =>
            refine ⟨k + 1, hkw, by go_num, ?_, fun j h1 h2 => ?_⟩
            · simp only [accB]; rw [HQ.out, HZ.out]
            · by_cases hj : j ≤ k
              · exact HO.out j h1 hj
              · obtain rfl : j = k + 1 := by omega
                rw [HZ.out]; exact hz2
          case measure => simp [intOf]; omega
        · have iy := in_no z 128 191 w (by omega)
          have hR := Lib.hid (HB.out HL.out (k + 1) (by omega) hkw (by rw [HZ.out]; exact hz2))
          clear hz2
          go_wp2_with (go_at_call 53; refine iy.mono ?_; rintro e w' ⟨rfl, rfl⟩)
          go_ret3
          exact ⟨ret_bad hR.out, rfl⟩
      · obtain rfl : k = 2 := by omega
        have hE := HE.out HL.out (fun j h1 h2 => HO.out j h1 (by omega))
        rw [HQ.out] at hE
        have cw := wide_spec q w
        by_cases hw : wideR q = 3
        · have hR := Lib.hid (hE.1 hw)
          rw [hw] at cw
          clear hE hw
          go_wp2_with (go_at_call 61; refine cw.mono ?_; rintro e w' ⟨rfl, rfl⟩)
          go_ret3
          exact ⟨ret_good hR.out, rfl⟩
        · have hR := Lib.hid (hE.2 hw)
          have hw' : (((wideR q : Nat) : Int) != 3) = true := by simp; omega
          clear hE hw
          go_wp2_with (go_at_call 61; refine cw.mono ?_; rintro e w' ⟨rfl, rfl⟩)
          go_ret3
          exact ⟨ret_bad hR.out, rfl⟩
theorem get_spec_4 (w : World) (b o len cap at_ : Nat) (x : Int) (y : Nat → Int) (R : Value) (hat : at_ < len) (hlen : len ≤ 1099511627776) (hx : w.cell? ⟨b, o + at_, none⟩ = some (.int .u8 x)) (hx0 : 240 ≤ x) (hx1 : x ≤ 247)
    (hy : ∀ j : Nat, 1 ≤ j → j < 4 → at_ + j < len → w.cell? ⟨b, o + (at_ + j), none⟩ = some (.int .u8 (y j)) ∧ 0 ≤ y j ∧ y j ≤ 255)
    (hshort : len < at_ + 4 → R = badG)
    (hbad : at_ + 4 ≤ len → ∀ j, 1 ≤ j → j < 4 → ¬ (128 ≤ y j ∧ y j ≤ 191) → R = badG)
    (hend : at_ + 4 ≤ len → (∀ j, 1 ≤ j → j < 4 → 128 ≤ y j ∧ y j ≤ 191) → (wideR (accB (x - 240) y 3) = 4 → R = .tuple #[.int .i64 (accB (x - 240) y 3), .int .i64 (at_ + 4), .bool true]) ∧ (wideR (accB (x - 240) y 3) ≠ 4 → R = badG)) :
    Calls Tryd.prog 42 #[.slice (some ⟨b, o, none⟩) len cap, .int .i64 at_] w fun e w' => e = .returned R ∧ w = w' := by
  have HY := Lib.hid hy
  have HB := Lib.hid hbad
  have HE := Lib.hid hend
  have HS := Lib.hid hshort
  have HR := Lib.hid (trivial : True)
  clear hy hbad hend hshort
  have i1 := in_no x 192 223 w (by omega)
  have i2 := in_no x 224 239 w (by omega)
  have i3 := in_yes x 240 247 w hx0 hx1
  have ca : ¬ ((at_ : Int) < 0) := by omega
  have cl : ¬ ((len : Int) ≤ (at_ : Int)) := by omega
  have ca2 : (at_ : Int) ≤ 1099511627776 := by omega
  have cb : (len : Int) ≤ 1099511627776 := by omega
  have c128 : ¬ x < 128 := by omega
  have hW0 : (0 : Int) ≤ x - 240 ∧ x - 240 ≤ 31 := by omega
  by_cases hs : len < at_ + 4
  · have hs' : (len : Int) - at_ < 4 := by omega
    have cw := Lib.hid (HS.out hs)
    clear hs
    go_enter Tryd.func42, Tryd.ntmps42
    go_wp2_with (go_at_call 53; (first | (with_reducible refine i1.mono ?_) | (with_reducible refine i2.mono ?_) | (with_reducible refine i3.mono ?_)); rintro e w' ⟨rfl, rfl⟩)
    go_ret3
    exact ⟨ret_bad cw.out, rfl⟩
  · have hs' : ¬ ((len : Int) - at_ < 4) := by omega
    have hle : at_ + 4 ≤ len := by omega
    have HL := Lib.hid hle
    clear hs hle
    go_enter Tryd.func42, Tryd.ntmps42
    go_wp2_with (go_at_call 53; (first | (with_reducible refine i1.mono ?_) | (with_reducible refine i2.mono ?_) | (with_reducible refine i3.mono ?_)); rintro e w' ⟨rfl, rfl⟩)
    go_loop [9, 10] (fun n i => ∃ k : Nat, k < 4 ∧ i = .int .i64 ((k : Int) + 1) ∧ n = .int .i64 (accB (x - 240) y k) ∧ ∀ j, 1 ≤ j → j ≤ k → 128 ≤ y j ∧ y j ≤ 191) (fun _ i => 4 - (intOf i).toNat)
    case atStart => exact ⟨0, by omega, rfl, rfl, fun j h1 h2 => by omega⟩
    case round =>
      obtain ⟨k, hk, rfl, rfl, hok⟩ := hrel
      have HO := Lib.hid hok
      have hbd := accB_bound (x - 240) y k hW0.1 hW0.2 (by omega) hok
      clear hok
      generalize hq : accB (x - 240) y k = q at *
      have HQ := Lib.hid hq
      clear hq
      by_cases hkw : k + 1 < 4
      · have hkw' : (k : Int) + 1 < 4 := by omega
        have hlt : at_ + (k + 1) < len := by have := HL.out; omega
        obtain ⟨hc, hy0, hy1⟩ := HY.out (k + 1) (by omega) hkw hlt
        have HYY := Lib.hid (rfl : y (k + 1) = y (k + 1))
        generalize hz : y (k + 1) = z at hc hy0 hy1
        have HZ := Lib.hid hz
        clear hz HYY
        by_cases hz2 : 128 ≤ z ∧ z ≤ 191
        · have iy := in_yes z 128 191 w hz2.1 hz2.2
          go_wp2_with (go_at_call 53; refine iy.mono ?_; rintro e w' ⟨rfl, rfl⟩)
          go_round
          case rel =>
            refine ⟨k + 1, hkw, by go_num, ?_, fun j h1 h2 => ?_⟩
            · simp only [accB]; rw [HQ.out, HZ.out]
            · by_cases hj : j ≤ k
              · exact HO.out j h1 hj
              · obtain rfl : j = k + 1 := by omega
                rw [HZ.out]; exact hz2
          case measure => simp [intOf]; omega
        · have iy := in_no z 128 191 w (by omega)
          have hR := Lib.hid (HB.out HL.out (k + 1) (by omega) hkw (by rw [HZ.out]; exact hz2))
          clear hz2
          go_wp2_with (go_at_call 53; refine iy.mono ?_; rintro e w' ⟨rfl, rfl⟩)
          go_ret3
          exact ⟨ret_bad hR.out, rfl⟩
      · obtain rfl : k = 3 := by omega
        have hE := HE.out HL.out (fun j h1 h2 => HO.out j h1 (by omega))
        rw [HQ.out] at hE
        have cw := wide_spec q w
        by_cases hw : wideR q = 4
        · have hR := Lib.hid (hE.1 hw)
          rw [hw] at cw
          clear hE hw
          go_wp2_with (go_at_call 61; refine cw.mono ?_; rintro e w' ⟨rfl, rfl⟩)
          go_ret3
          exact ⟨ret_good hR.out, rfl⟩
        · have hR := Lib.hid (hE.2 hw)
          have hw' : (((wideR q : Nat) : Int) != 4) = true := by simp; omega
          clear hE hw
          go_wp2_with (go_at_call 61; refine cw.mono ?_; rintro e w' ⟨rfl, rfl⟩)
          go_ret3
          exact ⟨ret_bad hR.out, rfl⟩
/-- the decoder of strings, at place i of the bytes l -/
def dec (l : List UInt8) (i : Nat) : Nat × Nat := Utf8.decode ⟨l.toArray⟩ i
def byteN (l : List UInt8) (i : Nat) : Nat := ((ByteArray.mk l.toArray).get! i).toNat
theorem byteN_lt (l : List UInt8) (i : Nat) : byteN l i < 256 := UInt8.toNat_lt _
theorem byteN_at (l : List UInt8) (i : Nat) (h : i < l.length) : byteN l i = (l[i]).toNat := by
  have : (ByteArray.mk l.toArray).get! i = l[i] := (getElem!_pos l.toArray i (by simpa using h)).trans (by simp)
  unfold byteN
  rw [this]
theorem dec_eq (l : List UInt8) (i : Nat) : dec l i = Lib.decodeN (l.length - i) (byteN l i) (byteN l (i + 1)) (byteN l (i + 2)) (byteN l (i + 3)) := by
  unfold dec byteN
  rw [Lib.decode_at]
  rfl
theorem byteN_out (m : List UInt8) (k : Nat) (hk : ¬ k < m.length) : byteN m k = 0 := by
  have : (ByteArray.mk m.toArray).get! k = 0 := getElem!_neg m.toArray k (by simpa using hk)
  unfold byteN; rw [this]; rfl
theorem byteN_drop (l : List UInt8) (i j : Nat) : byteN (l.drop i) j = byteN l (i + j) := by
  by_cases h : i + j < l.length
  · rw [byteN_at _ _ h, byteN_at _ _ (by simp; omega), List.getElem_drop]
  · rw [byteN_out _ _ h, byteN_out _ _ (by simp; omega)]
theorem dec_shape (l : List UInt8) (i : Nat) (h : i < l.length) : (dec l i).1 ≤ 1114111 ∧ 1 ≤ (dec l i).2 ∧ i + (dec l i).2 ≤ l.length := by
  have b0 := byteN_lt l i
  have b1 := byteN_lt l (i + 1)
  have b2 := byteN_lt l (i + 2)
  have b3 := byteN_lt l (i + 3)
  rw [dec_eq]
  rcases Lib.decodeN_shape (l.length - i) (byteN l i) (byteN l (i + 1)) (byteN l (i + 2)) (byteN l (i + 3)) with ⟨h1, h2⟩ | ⟨h1, h3, h4, h5, h2⟩ | ⟨h1, h3, h4, h5, h6, h7, h2⟩ | ⟨h1, h3, h4, h5, h6, h7, h8, h2⟩ | h2
  all_goals rw [h2]; simp only; omega
/-- what GetRune answers at place a of the bytes l -/
def getV (l : List UInt8) (a : Int) : Value :=
  if 0 ≤ a ∧ a < l.length then (if dec l a.toNat = (65533, 1) then badG else .tuple #[.int .i64 (dec l a.toNat).1, .int .i64 (a + (dec l a.toNat).2), .bool true]) else badG
theorem getV_out {l : List UInt8} {a : Int} (h : ¬ (0 ≤ a ∧ a < l.length)) : getV l a = badG := by unfold getV; rw [if_neg h]
theorem getV_bad {l : List UInt8} {i : Nat} (h : dec l i = (65533, 1)) : getV l i = badG := by
  unfold getV; split
  · rw [Int.toNat_natCast, if_pos h]
  · rfl
theorem getV_good {l : List UInt8} {i : Nat} {r k : Nat} (hi : i < l.length) (h : dec l i = (r, k)) (hne : ¬ (r = 65533 ∧ k = 1)) : getV l i = .tuple #[.int .i64 r, .int .i64 (i + k), .bool true] := by
  unfold getV
  rw [if_pos (by omega), Int.toNat_natCast, if_neg (by rw [h]; simpa using hne), h]
theorem wide2 {q : Int} : wideR q = 2 ↔ 128 ≤ q ∧ q < 2048 := by rcases wideR_cases q with h | h | h | h | ⟨h, e⟩ <;> first | omega | (have : ¬ (128 ≤ q ∧ q < 2048) := fun g => h (okR_mk (by omega)); omega)
theorem wide3 {q : Int} : wideR q = 3 ↔ 2048 ≤ q ∧ q < 65536 ∧ (q < 55296 ∨ 57343 < q) := by rcases wideR_cases q with h | h | h | h | ⟨h, e⟩ <;> first | omega | (have : ¬ (2048 ≤ q ∧ q < 65536 ∧ (q < 55296 ∨ 57343 < q)) := fun g => h (okR_mk (by omega)); omega)
theorem wide4 {q : Int} : wideR q = 4 ↔ 65536 ≤ q ∧ q ≤ 1114111 := by rcases wideR_cases q with h | h | h | h | ⟨h, e⟩ <;> first | omega | (have : ¬ (65536 ≤ q ∧ q ≤ 1114111) := fun g => h (okR_mk (by omega)); omega)
theorem decN_two {n b0 b1 b2 b3 : Nat} (h : 192 ≤ b0 ∧ b0 ≤ 223) (h1 : b1 < 256) : (2 ≤ n ∧ 128 ≤ b1 ∧ b1 ≤ 191 ∧ 128 ≤ 64 * (b0 - 192) + (b1 - 128) ∧ Lib.decodeN n b0 b1 b2 b3 = (64 * (b0 - 192) + (b1 - 128), 2)) ∨ (¬ (2 ≤ n ∧ 128 ≤ b1 ∧ b1 ≤ 191 ∧ 128 ≤ 64 * (b0 - 192) + (b1 - 128)) ∧ Lib.decodeN n b0 b1 b2 b3 = (65533, 1)) := by
  unfold Lib.decodeN
  repeat' split
  all_goals first
    | (exfalso; omega)
    | (left; exact ⟨by omega, by omega, by omega, by omega, by apply Prod.ext <;> simp only <;> omega⟩)
    | (right; exact ⟨by omega, rfl⟩)
theorem decN_three {n b0 b1 b2 b3 : Nat} (h : 224 ≤ b0 ∧ b0 ≤ 239) (h1 : b1 < 256) (h2 : b2 < 256) :
    (3 ≤ n ∧ 128 ≤ b1 ∧ b1 ≤ 191 ∧ 128 ≤ b2 ∧ b2 ≤ 191 ∧ (2048 ≤ 64 * (64 * (b0 - 224) + (b1 - 128)) + (b2 - 128) ∧ (64 * (64 * (b0 - 224) + (b1 - 128)) + (b2 - 128) < 55296 ∨ 57343 < 64 * (64 * (b0 - 224) + (b1 - 128)) + (b2 - 128))) ∧ Lib.decodeN n b0 b1 b2 b3 = (64 * (64 * (b0 - 224) + (b1 - 128)) + (b2 - 128), 3)) ∨
    (¬ (3 ≤ n ∧ 128 ≤ b1 ∧ b1 ≤ 191 ∧ 128 ≤ b2 ∧ b2 ≤ 191 ∧ (2048 ≤ 64 * (64 * (b0 - 224) + (b1 - 128)) + (b2 - 128) ∧ (64 * (64 * (b0 - 224) + (b1 - 128)) + (b2 - 128) < 55296 ∨ 57343 < 64 * (64 * (b0 - 224) + (b1 - 128)) + (b2 - 128)))) ∧ Lib.decodeN n b0 b1 b2 b3 = (65533, 1)) := by
  unfold Lib.decodeN
  repeat' split
  all_goals first
    | (exfalso; omega)
    | (left; exact ⟨by omega, by omega, by omega, by omega, by omega, by omega, by apply Prod.ext <;> simp only <;> omega⟩)
    | (right; exact ⟨by omega, rfl⟩)
theorem decN_four {n b0 b1 b2 b3 : Nat} (h : 240 ≤ b0 ∧ b0 ≤ 247) (h1 : b1 < 256) (h2 : b2 < 256) (h3 : b3 < 256) :
    (4 ≤ n ∧ 128 ≤ b1 ∧ b1 ≤ 191 ∧ 128 ≤ b2 ∧ b2 ≤ 191 ∧ 128 ≤ b3 ∧ b3 ≤ 191 ∧ (65536 ≤ 64 * (64 * (64 * (b0 - 240) + (b1 - 128)) + (b2 - 128)) + (b3 - 128) ∧ 64 * (64 * (64 * (b0 - 240) + (b1 - 128)) + (b2 - 128)) + (b3 - 128) ≤ 1114111) ∧ Lib.decodeN n b0 b1 b2 b3 = (64 * (64 * (64 * (b0 - 240) + (b1 - 128)) + (b2 - 128)) + (b3 - 128), 4)) ∨
    (¬ (4 ≤ n ∧ 128 ≤ b1 ∧ b1 ≤ 191 ∧ 128 ≤ b2 ∧ b2 ≤ 191 ∧ 128 ≤ b3 ∧ b3 ≤ 191 ∧ (65536 ≤ 64 * (64 * (64 * (b0 - 240) + (b1 - 128)) + (b2 - 128)) + (b3 - 128) ∧ 64 * (64 * (64 * (b0 - 240) + (b1 - 128)) + (b2 - 128)) + (b3 - 128) ≤ 1114111)) ∧ Lib.decodeN n b0 b1 b2 b3 = (65533, 1)) := by
  unfold Lib.decodeN
  repeat' split
  all_goals first
    | (exfalso; omega)
    | (left; exact ⟨by omega, by omega, by omega, by omega, by omega, by omega, by omega, by omega, by apply Prod.ext <;> simp only <;> omega⟩)
    | (right; exact ⟨by omega, rfl⟩)
theorem decN_bad {n b0 b1 b2 b3 : Nat} (h : (128 ≤ b0 ∧ b0 < 192) ∨ 248 ≤ b0) (h0 : b0 < 256) : Lib.decodeN n b0 b1 b2 b3 = (65533, 1) := by
  unfold Lib.decodeN
  repeat' split
  all_goals first | (exfalso; omega) | rfl
theorem decN_one {n b0 b1 b2 b3 : Nat} (h : b0 < 128) : Lib.decodeN n b0 b1 b2 b3 = (b0, 1) := by unfold Lib.decodeN; rw [if_pos h]
end Go.Proofs.YtaelepaogkakmaaDoor
