import Derived.Test.YtnikcgmbkmbloaaGreatDoorRows
import Derived.Test.YtnikcgmbkmbloaaGreatDoorG0
import Derived.Test.YtnikcgmbkmbloaaGreatDoorG2
import Derived.WalkKit
import Derived.Lib.Hide
import Derived.Lib.DecodeN
import Derived.Lib.MapLaws
import Derived.Outline
import Derived.ProofKit
import Derived.Lib.RuneCount
/- The character at a place of given bytes: what the model answers, by the model's own decoder of strings. -/
namespace Go.Proofs.YtnikcgmbkmbloaaGreatDoor
open Go.RowKit
def accB (x0 : Int) (y : Nat → Int) : Nat → Int
  | 0 => x0
  | k + 1 => 64 * accB x0 y k + y (k + 1) - 128
theorem accB_bound (x0 : Int) (y : Nat → Int) (k : Nat) (h0 : 0 ≤ x0) (h1 : x0 ≤ 31) (hk : k ≤ 3) (hok : ∀ j, 1 ≤ j → j ≤ k → 128 ≤ y j ∧ y j ≤ 191) : 0 ≤ accB x0 y k ∧ accB x0 y k ≤ 8388607 := by
  match k, hk, hok with
  | 0, _, _ => exact ⟨h0, by simp only [accB, Nat.zero_add, Nat.reduceAdd]; omega⟩
  | 1, _, hok => have a := hok 1 (by omega) (by omega); simp only [accB, Nat.zero_add, Nat.reduceAdd]; omega
  | 2, _, hok => have a := hok 1 (by omega) (by omega); have b := hok 2 (by omega) (by omega); simp only [accB, Nat.zero_add, Nat.reduceAdd]; omega
  | 3, _, hok => have a := hok 1 (by omega) (by omega); have b := hok 2 (by omega) (by omega); have c := hok 3 (by omega) (by omega); simp only [accB, Nat.zero_add, Nat.reduceAdd]; omega
def badG : Value := .tuple #[.int .i64 0, .int .i64 0, .bool false]
theorem ret_bad {R : Value} (h : R = badG) : Ending.returned (.tuple #[.int .i64 0, .int .i64 0, .bool false]) = .returned R := by rw [h]; rfl
theorem ret_good {R : Value} {q a : Int} (h : R = .tuple #[.int .i64 q, .int .i64 a, .bool true]) : Ending.returned (.tuple #[.int .i64 q, .int .i64 a, .bool true]) = .returned R := by rw [h]
theorem get_spec_2 (w : World) (b o len cap at_ : Nat) (x : Int) (y : Nat → Int) (R : Value) (hat : at_ < len) (hlen : len ≤ 1099511627776) (hx : w.cell? ⟨b, o + at_, none⟩ = some (.int .u8 x)) (hx0 : 192 ≤ x) (hx1 : x ≤ 223)
    (hy : ∀ j : Nat, 1 ≤ j → j < 2 → at_ + j < len → w.cell? ⟨b, o + (at_ + j), none⟩ = some (.int .u8 (y j)) ∧ 0 ≤ y j ∧ y j ≤ 255)
    (hshort : len < at_ + 2 → R = badG)
    (hbad : at_ + 2 ≤ len → ∀ j, 1 ≤ j → j < 2 → ¬ (128 ≤ y j ∧ y j ≤ 191) → R = badG)
    (hend : at_ + 2 ≤ len → (∀ j, 1 ≤ j → j < 2 → 128 ≤ y j ∧ y j ≤ 191) → (wideR (accB (x - 192) y 1) = 2 → R = .tuple #[.int .i64 (accB (x - 192) y 1), .int .i64 (at_ + 2), .bool true]) ∧ (wideR (accB (x - 192) y 1) ≠ 2 → R = badG)) :
    Calls Tryz.prog 144 #[.slice (some ⟨b, o, none⟩) len cap, .int .i64 at_] w fun e w' => e = .returned R ∧ w = w' := by
  have HY := Lib.hid hy
  have HB := Lib.hid hbad
  have HE := Lib.hid hend
  have HS := Lib.hid hshort
  have HR := Lib.hid (trivial : True)
  clear hy hbad hend hshort
  have i1 := in_yes x 192 223 w hx0 hx1
  have ca : ¬ ((at_ : Int) < 0) := by omega
  have cl : ¬ ((len : Int) ≤ (at_ : Int)) := by omega
  have ca2 : (at_ : Int) ≤ 1099511627776 := by omega
  have cb : (len : Int) ≤ 1099511627776 := by omega
  have c128 : ¬ x < 128 := by omega
  have hW0 : (0 : Int) ≤ x - 192 ∧ x - 192 ≤ 31 := by omega
  by_cases hs : len < at_ + 2
  · have hs' : (len : Int) - at_ < 2 := by omega
    have cw := Lib.hid (HS.out hs)
    clear hs
    go_enter Tryz.func144, Tryz.ntmps144
    go_wp2_with (go_at_call 97; (first | (with_reducible refine i1.mono ?_)); rintro e w' ⟨rfl, rfl⟩)
    go_ret3
    exact ⟨ret_bad cw.out, rfl⟩
  · have hs' : ¬ ((len : Int) - at_ < 2) := by omega
    have hle : at_ + 2 ≤ len := by omega
    have HL := Lib.hid hle
    clear hs hle
    go_enter Tryz.func144, Tryz.ntmps144
    go_wp2_with (go_at_call 97; (first | (with_reducible refine i1.mono ?_)); rintro e w' ⟨rfl, rfl⟩)
    go_loop [9, 10] (fun n i => ∃ k : Nat, k < 2 ∧ i = .int .i64 ((k : Int) + 1) ∧ n = .int .i64 (accB (x - 192) y k) ∧ ∀ j, 1 ≤ j → j ≤ k → 128 ≤ y j ∧ y j ≤ 191) (fun _ i => 2 - (intOf i).toNat)
    case atStart => exact ⟨0, by omega, rfl, rfl, fun j h1 h2 => by omega⟩
    case round =>
      obtain ⟨k, hk, rfl, rfl, hok⟩ := hrel
      have HO := Lib.hid hok
      have hbd := accB_bound (x - 192) y k hW0.1 hW0.2 (by omega) hok
      clear hok
      generalize hq : accB (x - 192) y k = q at *
      have HQ := Lib.hid hq
      clear hq
      by_cases hkw : k + 1 < 2
      · have hkw' : (k : Int) + 1 < 2 := by omega
        have hlt : at_ + (k + 1) < len := by have := HL.out; omega
        obtain ⟨hc, hy0, hy1⟩ := HY.out (k + 1) (by omega) hkw hlt
        have HYY := Lib.hid (rfl : y (k + 1) = y (k + 1))
        generalize hz : y (k + 1) = z at hc hy0 hy1
        have HZ := Lib.hid hz
        clear hz HYY
        by_cases hz2 : 128 ≤ z ∧ z ≤ 191
        · have iy := in_yes z 128 191 w hz2.1 hz2.2
          go_wp2_with (go_at_call 97; refine iy.mono ?_; rintro e w' ⟨rfl, rfl⟩)
          go_round
          case rel =>
            refine ⟨k + 1, hkw, by go_num, ?_, fun j h1 h2 => ?_⟩
            · simp only [accB]; rw [HQ.out, HZ.out]
            · by_cases hj : j ≤ k
              · exact HO.out j h1 hj
              · obtain rfl : j = k + 1 := by omega
                rw [HZ.out]; exact hz2
          case measure => simp [intOf]; omega
        · have iy := in_no z 128 191 w (by omega)
          have hR := Lib.hid (HB.out HL.out (k + 1) (by omega) hkw (by rw [HZ.out]; exact hz2))
          clear hz2
          go_wp2_with (go_at_call 97; refine iy.mono ?_; rintro e w' ⟨rfl, rfl⟩)
          go_ret3
          exact ⟨ret_bad hR.out, rfl⟩
      · obtain rfl : k = 1 := by omega
        have hE := HE.out HL.out (fun j h1 h2 => HO.out j h1 (by omega))
        rw [HQ.out] at hE
        have cw := wide_spec q w
        by_cases hw : wideR q = 2
        · have hR := Lib.hid (hE.1 hw)
          rw [hw] at cw
          clear hE hw
          go_wp2_with (go_at_call 182; refine cw.mono ?_; rintro e w' ⟨rfl, rfl⟩)
          go_ret3
          exact ⟨ret_good hR.out, rfl⟩
        · have hR := Lib.hid (hE.2 hw)
          have hw' : (((wideR q : Nat) : Int) != 2) = true := by simp; omega
          clear hE hw
          go_wp2_with (go_at_call 182; refine cw.mono ?_; rintro e w' ⟨rfl, rfl⟩)
          go_ret3
          exact ⟨ret_bad hR.out, rfl⟩
theorem get_spec_3 (w : World) (b o len cap at_ : Nat) (x : Int) (y : Nat → Int) (R : Value) (hat : at_ < len) (hlen : len ≤ 1099511627776) (hx : w.cell? ⟨b, o + at_, none⟩ = some (.int .u8 x)) (hx0 : 224 ≤ x) (hx1 : x ≤ 239)
    (hy : ∀ j : Nat, 1 ≤ j → j < 3 → at_ + j < len → w.cell? ⟨b, o + (at_ + j), none⟩ = some (.int .u8 (y j)) ∧ 0 ≤ y j ∧ y j ≤ 255)
    (hshort : len < at_ + 3 → R = badG)
    (hbad : at_ + 3 ≤ len → ∀ j, 1 ≤ j → j < 3 → ¬ (128 ≤ y j ∧ y j ≤ 191) → R = badG)
    (hend : at_ + 3 ≤ len → (∀ j, 1 ≤ j → j < 3 → 128 ≤ y j ∧ y j ≤ 191) → (wideR (accB (x - 224) y 2) = 3 → R = .tuple #[.int .i64 (accB (x - 224) y 2), .int .i64 (at_ + 3), .bool true]) ∧ (wideR (accB (x - 224) y 2) ≠ 3 → R = badG)) :
    Calls Tryz.prog 144 #[.slice (some ⟨b, o, none⟩) len cap, .int .i64 at_] w fun e w' => e = .returned R ∧ w = w' := by
  have HY := Lib.hid hy
  have HB := Lib.hid hbad
  have HE := Lib.hid hend
  have HS := Lib.hid hshort
  have HR := Lib.hid (trivial : True)
  clear hy hbad hend hshort
  have i1 := in_no x 192 223 w (by omega)
  have i2 := in_yes x 224 239 w hx0 hx1
  have ca : ¬ ((at_ : Int) < 0) := by omega
  have cl : ¬ ((len : Int) ≤ (at_ : Int)) := by omega
  have ca2 : (at_ : Int) ≤ 1099511627776 := by omega
  have cb : (len : Int) ≤ 1099511627776 := by omega
  have c128 : ¬ x < 128 := by omega
  have hW0 : (0 : Int) ≤ x - 224 ∧ x - 224 ≤ 31 := by omega
  by_cases hs : len < at_ + 3
  · have hs' : (len : Int) - at_ < 3 := by omega
    have cw := Lib.hid (HS.out hs)
    clear hs
    go_enter Tryz.func144, Tryz.ntmps144
    go_wp2_with (go_at_call 97; (first | (with_reducible refine i1.mono ?_) | (with_reducible refine i2.mono ?_)); rintro e w' ⟨rfl, rfl⟩)
    go_ret3
    exact ⟨ret_bad cw.out, rfl⟩
  · have hs' : ¬ ((len : Int) - at_ < 3) := by omega
    have hle : at_ + 3 ≤ len := by omega
    have HL := Lib.hid hle
    clear hs hle
    go_enter Tryz.func144, Tryz.ntmps144
    go_wp2_with (go_at_call 97; (first | (with_reducible refine i1.mono ?_) | (with_reducible refine i2.mono ?_)); rintro e w' ⟨rfl, rfl⟩)
    go_loop [9, 10] (fun n i => ∃ k : Nat, k < 3 ∧ i = .int .i64 ((k : Int) + 1) ∧ n = .int .i64 (accB (x - 224) y k) ∧ ∀ j, 1 ≤ j → j ≤ k → 128 ≤ y j ∧ y j ≤ 191) (fun _ i => 3 - (intOf i).toNat)
    case atStart => exact ⟨0, by omega, rfl, rfl, fun j h1 h2 => by omega⟩
    case round =>
      obtain ⟨k, hk, rfl, rfl, hok⟩ := hrel
      have HO := Lib.hid hok
      have hbd := accB_bound (x - 224) y k hW0.1 hW0.2 (by omega) hok
      clear hok
      generalize hq : accB (x - 224) y k = q at *
      have HQ := Lib.hid hq
      clear hq
      by_cases hkw : k + 1 < 3
      · have hkw' : (k : Int) + 1 < 3 := by omega
        have hlt : at_ + (k + 1) < len := by have := HL.out; omega
        obtain ⟨hc, hy0, hy1⟩ := HY.out (k + 1) (by omega) hkw hlt
        have HYY := Lib.hid (rfl : y (k + 1) = y (k + 1))
        generalize hz : y (k + 1) = z at hc hy0 hy1
        have HZ := Lib.hid hz
        clear hz HYY
        by_cases hz2 : 128 ≤ z ∧ z ≤ 191
        · have iy := in_yes z 128 191 w hz2.1 hz2.2
          go_wp2_with (go_at_call 97; refine iy.mono ?_; rintro e w' ⟨rfl, rfl⟩)
          go_round
          case rel =>
            refine ⟨k + 1, hkw, by go_num, ?_, fun j h1 h2 => ?_⟩
            · simp only [accB]; rw [HQ.out, HZ.out]
            · by_cases hj : j ≤ k
              · exact HO.out j h1 hj
              · obtain rfl : j = k + 1 := by omega
                rw [HZ.out]; exact hz2
          case measure => simp [intOf]; omega
        · have iy := in_no z 128 191 w (by omega)
          have hR := Lib.hid (HB.out HL.out (k + 1) (by omega) hkw (by rw [HZ.out]; exact hz2))
          clear hz2
          go_wp2_with (go_at_call 97; refine iy.mono ?_; rintro e w' ⟨rfl, rfl⟩)
          go_ret3
          exact ⟨ret_bad hR.out, rfl⟩
      · obtain rfl : k = 2 := by omega
        have hE := HE.out HL.out (fun j h1 h2 => HO.out j h1 (by omega))
        rw [HQ.out] at hE
        have cw := wide_spec q w
        by_cases hw : wideR q = 3
        · have hR := Lib.hid (hE.1 hw)
          rw [hw] at cw
          clear hE hw
          go_wp2_with (go_at_call 182; refine cw.mono ?_; rintro e w' ⟨rfl, rfl⟩)
          go_ret3
          exact ⟨ret_good hR.out, rfl⟩
        · have hR := Lib.hid (hE.2 hw)
          have hw' : (((wideR q : Nat) : Int) != 3) = true := by simp; omega
          clear hE hw
          go_wp2_with (go_at_call 182; refine cw.mono ?_; rintro e w' ⟨rfl, rfl⟩)
          go_ret3
          exact ⟨ret_bad hR.out, rfl⟩
theorem get_spec_4 (w : World) (b o len cap at_ : Nat) (x : Int) (y : Nat → Int) (R : Value) (hat : at_ < len) (hlen : len ≤ 1099511627776) (hx : w.cell? ⟨b, o + at_, none⟩ = some (.int .u8 x)) (hx0 : 240 ≤ x) (hx1 : x ≤ 247)
    (hy : ∀ j : Nat, 1 ≤ j → j < 4 → at_ + j < len → w.cell? ⟨b, o + (at_ + j), none⟩ = some (.int .u8 (y j)) ∧ 0 ≤ y j ∧ y j ≤ 255)
    (hshort : len < at_ + 4 → R = badG)
    (hbad : at_ + 4 ≤ len → ∀ j, 1 ≤ j → j < 4 → ¬ (128 ≤ y j ∧ y j ≤ 191) → R = badG)
    (hend : at_ + 4 ≤ len → (∀ j, 1 ≤ j → j < 4 → 128 ≤ y j ∧ y j ≤ 191) → (wideR (accB (x - 240) y 3) = 4 → R = .tuple #[.int .i64 (accB (x - 240) y 3), .int .i64 (at_ + 4), .bool true]) ∧ (wideR (accB (x - 240) y 3) ≠ 4 → R = badG)) :
    Calls Tryz.prog 144 #[.slice (some ⟨b, o, none⟩) len cap, .int .i64 at_] w fun e w' => e = .returned R ∧ w = w' := by
  have HY := Lib.hid hy
  have HB := Lib.hid hbad
  have HE := Lib.hid hend
  have HS := Lib.hid hshort
  have HR := Lib.hid (trivial : True)
  clear hy hbad hend hshort
  have i1 := in_no x 192 223 w (by omega)
  have i2 := in_no x 224 239 w (by omega)
  have i3 := in_yes x 240 247 w hx0 hx1
  have ca : ¬ ((at_ : Int) < 0) := by omega
  have cl : ¬ ((len : Int) ≤ (at_ : Int)) := by omega
  have ca2 : (at_ : Int) ≤ 1099511627776 := by omega
  have cb : (len : Int) ≤ 1099511627776 := by omega
  have c128 : ¬ x < 128 := by omega
  have hW0 : (0 : Int) ≤ x - 240 ∧ x - 240 ≤ 31 := by omega
  by_cases hs : len < at_ + 4
  · have hs' : (len : Int) - at_ < 4 := by omega
    have cw := Lib.hid (HS.out hs)
    clear hs
    go_enter Tryz.func144, Tryz.ntmps144
    go_wp2_with (go_at_call 97; (first | (with_reducible refine i1.mono ?_) | (with_reducible refine i2.mono ?_) | (with_reducible refine i3.mono ?_)); rintro e w' ⟨rfl, rfl⟩)
    go_ret3
    exact ⟨ret_bad cw.out, rfl⟩
  · have hs' : ¬ ((len : Int) - at_ < 4) := by omega
    have hle : at_ + 4 ≤ len := by omega
    have HL := Lib.hid hle
    clear hs hle
    go_enter Tryz.func144, Tryz.ntmps144
    go_wp2_with (go_at_call 97; (first | (with_reducible refine i1.mono ?_) | (with_reducible refine i2.mono ?_) | (with_reducible refine i3.mono ?_)); rintro e w' ⟨rfl, rfl⟩)
    go_loop [9, 10] (fun n i => ∃ k : Nat, k < 4 ∧ i = .int .i64 ((k : Int) + 1) ∧ n = .int .i64 (accB (x - 240) y k) ∧ ∀ j, 1 ≤ j → j ≤ k → 128 ≤ y j ∧ y j ≤ 191) (fun _ i => 4 - (intOf i).toNat)
    case atStart => exact ⟨0, by omega, rfl, rfl, fun j h1 h2 => by omega⟩
    case round =>
      obtain ⟨k, hk, rfl, rfl, hok⟩ := hrel
      have HO := Lib.hid hok
      have hbd := accB_bound (x - 240) y k hW0.1 hW0.2 (by omega) hok
      clear hok
      generalize hq : accB (x - 240) y k = q at *
      have HQ := Lib.hid hq
      clear hq
      by_cases hkw : k + 1 < 4
      · have hkw' : (k : Int) + 1 < 4 := by omega
        have hlt : at_ + (k + 1) < len := by have := HL.out; omega
        obtain ⟨hc, hy0, hy1⟩ := HY.out (k + 1) (by omega) hkw hlt
        have HYY := Lib.hid (rfl : y (k + 1) = y (k + 1))
        generalize hz : y (k + 1) = z at hc hy0 hy1
        have HZ := Lib.hid hz
        clear hz HYY
        by_cases hz2 : 128 ≤ z ∧ z ≤ 191
        · have iy := in_yes z 128 191 w hz2.1 hz2.2
          go_wp2_with (go_at_call 97; refine iy.mono ?_; rintro e w' ⟨rfl, rfl⟩)
          go_round
          case rel =>
            refine ⟨k + 1, hkw, by go_num, ?_, fun j h1 h2 => ?_⟩
            · simp only [accB]; rw [HQ.out, HZ.out]
            · by_cases hj : j ≤ k
              · exact HO.out j h1 hj
              · obtain rfl : j = k + 1 := by omega
                rw [HZ.out]; exact hz2
          case measure => simp [intOf]; omega
        · have iy := in_no z 128 191 w (by omega)
          have hR := Lib.hid (HB.out HL.out (k + 1) (by omega) hkw (by rw [HZ.out]; exact hz2))
          clear hz2
          go_wp2_with (go_at_call 97; refine iy.mono ?_; rintro e w' ⟨rfl, rfl⟩)
          go_ret3
          exact ⟨ret_bad hR.out, rfl⟩
      · obtain rfl : k = 3 := by omega
        have hE := HE.out HL.out (fun j h1 h2 => HO.out j h1 (by omega))
        rw [HQ.out] at hE
        have cw := wide_spec q w
        by_cases hw : wideR q = 4
        · have hR := Lib.hid (hE.1 hw)
          rw [hw] at cw
          clear hE hw
          go_wp2_with (go_at_call 182; refine cw.mono ?_; rintro e w' ⟨rfl, rfl⟩)
          go_ret3
          exact ⟨ret_good hR.out, rfl⟩
        · have hR := Lib.hid (hE.2 hw)
          have hw' : (((wideR q : Nat) : Int) != 4) = true := by simp; omega
          clear hE hw
          go_wp2_with (go_at_call 182; refine cw.mono ?_; rintro e w' ⟨rfl, rfl⟩)
          go_ret3
          exact ⟨ret_bad hR.out, rfl⟩
/-- the decoder of strings, at place i of the bytes l -/
def dec (l : List UInt8) (i : Nat) : Nat × Nat := Utf8.decode ⟨l.toArray⟩ i
def byteN (l : List UInt8) (i : Nat) : Nat := ((ByteArray.mk l.toArray).get! i).toNat
theorem byteN_lt (l : List UInt8) (i : Nat) : byteN l i < 256 := UInt8.toNat_lt _
theorem byteN_at (l : List UInt8) (i : Nat) (h : i < l.length) : byteN l i = (l[i]).toNat := by
  have : (ByteArray.mk l.toArray).get! i = l[i] := (getElem!_pos l.toArray i (by simpa using h)).trans (by simp)
  unfold byteN
  rw [this]
theorem dec_eq (l : List UInt8) (i : Nat) : dec l i = Lib.decodeN (l.length - i) (byteN l i) (byteN l (i + 1)) (byteN l (i + 2)) (byteN l (i + 3)) := by
  unfold dec byteN
  rw [Lib.decode_at]
  rfl
theorem byteN_out (m : List UInt8) (k : Nat) (hk : ¬ k < m.length) : byteN m k = 0 := by
  have : (ByteArray.mk m.toArray).get! k = 0 := getElem!_neg m.toArray k (by simpa using hk)
  unfold byteN; rw [this]; rfl
theorem byteN_drop (l : List UInt8) (i j : Nat) : byteN (l.drop i) j = byteN l (i + j) := by
  by_cases h : i + j < l.length
  · rw [byteN_at _ _ h, byteN_at _ _ (by simp; omega), List.getElem_drop]
  · rw [byteN_out _ _ h, byteN_out _ _ (by simp; omega)]
theorem dec_shape (l : List UInt8) (i : Nat) (h : i < l.length) : (dec l i).1 ≤ 1114111 ∧ 1 ≤ (dec l i).2 ∧ i + (dec l i).2 ≤ l.length := by
  have b0 := byteN_lt l i
  have b1 := byteN_lt l (i + 1)
  have b2 := byteN_lt l (i + 2)
  have b3 := byteN_lt l (i + 3)
  rw [dec_eq]
  rcases Lib.decodeN_shape (l.length - i) (byteN l i) (byteN l (i + 1)) (byteN l (i + 2)) (byteN l (i + 3)) with ⟨h1, h2⟩ | ⟨h1, h3, h4, h5, h2⟩ | ⟨h1, h3, h4, h5, h6, h7, h2⟩ | ⟨h1, h3, h4, h5, h6, h7, h8, h2⟩ | h2
  all_goals rw [h2]; simp only; omega
/-- what GetRune answers at place a of the bytes l -/
def getV (l : List UInt8) (a : Int) : Value :=
  if 0 ≤ a ∧ a < l.length then (if dec l a.toNat = (65533, 1) then badG else .tuple #[.int .i64 (dec l a.toNat).1, .int .i64 (a + (dec l a.toNat).2), .bool true]) else badG
theorem getV_out {l : List UInt8} {a : Int} (h : ¬ (0 ≤ a ∧ a < l.length)) : getV l a = badG := by unfold getV; rw [if_neg h]
theorem getV_bad {l : List UInt8} {i : Nat} (h : dec l i = (65533, 1)) : getV l i = badG := by
  unfold getV; split
  · rw [Int.toNat_natCast, if_pos h]
  · rfl
theorem getV_good {l : List UInt8} {i : Nat} {r k : Nat} (hi : i < l.length) (h : dec l i = (r, k)) (hne : ¬ (r = 65533 ∧ k = 1)) : getV l i = .tuple #[.int .i64 r, .int .i64 (i + k), .bool true] := by
  unfold getV
  rw [if_pos (by omega), Int.toNat_natCast, if_neg (by rw [h]; simpa using hne), h]
theorem wide2 {q : Int} : wideR q = 2 ↔ 128 ≤ q ∧ q < 2048 := by rcases wideR_cases q with h | h | h | h | ⟨h, e⟩ <;> first | omega | (have : ¬ (128 ≤ q ∧ q < 2048) := fun g => h (okR_mk (by omega)); omega)
theorem wide3 {q : Int} : wideR q = 3 ↔ 2048 ≤ q ∧ q < 65536 ∧ (q < 55296 ∨ 57343 < q) := by rcases wideR_cases q with h | h | h | h | ⟨h, e⟩ <;> first | omega | (have : ¬ (2048 ≤ q ∧ q < 65536 ∧ (q < 55296 ∨ 57343 < q)) := fun g => h (okR_mk (by omega)); omega)
theorem wide4 {q : Int} : wideR q = 4 ↔ 65536 ≤ q ∧ q ≤ 1114111 := by rcases wideR_cases q with h | h | h | h | ⟨h, e⟩ <;> first | omega | (have : ¬ (65536 ≤ q ∧ q ≤ 1114111) := fun g => h (okR_mk (by omega)); omega)
theorem decN_two {n b0 b1 b2 b3 : Nat} (h : 192 ≤ b0 ∧ b0 ≤ 223) (h1 : b1 < 256) : (2 ≤ n ∧ 128 ≤ b1 ∧ b1 ≤ 191 ∧ 128 ≤ 64 * (b0 - 192) + (b1 - 128) ∧ Lib.decodeN n b0 b1 b2 b3 = (64 * (b0 - 192) + (b1 - 128), 2)) ∨ (¬ (2 ≤ n ∧ 128 ≤ b1 ∧ b1 ≤ 191 ∧ 128 ≤ 64 * (b0 - 192) + (b1 - 128)) ∧ Lib.decodeN n b0 b1 b2 b3 = (65533, 1)) := by
  unfold Lib.decodeN
  repeat' split
  all_goals first
    | (exfalso; omega)
    | (left; exact ⟨by omega, by omega, by omega, by omega, by apply Prod.ext <;> simp only <;> omega⟩)
    | (right; exact ⟨by omega, rfl⟩)
theorem decN_three {n b0 b1 b2 b3 : Nat} (h : 224 ≤ b0 ∧ b0 ≤ 239) (h1 : b1 < 256) (h2 : b2 < 256) :
    (3 ≤ n ∧ 128 ≤ b1 ∧ b1 ≤ 191 ∧ 128 ≤ b2 ∧ b2 ≤ 191 ∧ (2048 ≤ 64 * (64 * (b0 - 224) + (b1 - 128)) + (b2 - 128) ∧ (64 * (64 * (b0 - 224) + (b1 - 128)) + (b2 - 128) < 55296 ∨ 57343 < 64 * (64 * (b0 - 224) + (b1 - 128)) + (b2 - 128))) ∧ Lib.decodeN n b0 b1 b2 b3 = (64 * (64 * (b0 - 224) + (b1 - 128)) + (b2 - 128), 3)) ∨
    (¬ (3 ≤ n ∧ 128 ≤ b1 ∧ b1 ≤ 191 ∧ 128 ≤ b2 ∧ b2 ≤ 191 ∧ (2048 ≤ 64 * (64 * (b0 - 224) + (b1 - 128)) + (b2 - 128) ∧ (64 * (64 * (b0 - 224) + (b1 - 128)) + (b2 - 128) < 55296 ∨ 57343 < 64 * (64 * (b0 - 224) + (b1 - 128)) + (b2 - 128)))) ∧ Lib.decodeN n b0 b1 b2 b3 = (65533, 1)) := by
  unfold Lib.decodeN
  repeat' split
  all_goals first
    | (exfalso; omega)
    | (left; exact ⟨by omega, by omega, by omega, by omega, by omega, by omega, by apply Prod.ext <;> simp only <;> omega⟩)
    | (right; exact ⟨by omega, rfl⟩)
theorem decN_four {n b0 b1 b2 b3 : Nat} (h : 240 ≤ b0 ∧ b0 ≤ 247) (h1 : b1 < 256) (h2 : b2 < 256) (h3 : b3 < 256) :
    (4 ≤ n ∧ 128 ≤ b1 ∧ b1 ≤ 191 ∧ 128 ≤ b2 ∧ b2 ≤ 191 ∧ 128 ≤ b3 ∧ b3 ≤ 191 ∧ (65536 ≤ 64 * (64 * (64 * (b0 - 240) + (b1 - 128)) + (b2 - 128)) + (b3 - 128) ∧ 64 * (64 * (64 * (b0 - 240) + (b1 - 128)) + (b2 - 128)) + (b3 - 128) ≤ 1114111) ∧ Lib.decodeN n b0 b1 b2 b3 = (64 * (64 * (64 * (b0 - 240) + (b1 - 128)) + (b2 - 128)) + (b3 - 128), 4)) ∨
    (¬ (4 ≤ n ∧ 128 ≤ b1 ∧ b1 ≤ 191 ∧ 128 ≤ b2 ∧ b2 ≤ 191 ∧ 128 ≤ b3 ∧ b3 ≤ 191 ∧ (65536 ≤ 64 * (64 * (64 * (b0 - 240) + (b1 - 128)) + (b2 - 128)) + (b3 - 128) ∧ 64 * (64 * (64 * (b0 - 240) + (b1 - 128)) + (b2 - 128)) + (b3 - 128) ≤ 1114111)) ∧ Lib.decodeN n b0 b1 b2 b3 = (65533, 1)) := by
  unfold Lib.decodeN
  repeat' split
  all_goals first
    | (exfalso; omega)
    | (left; exact ⟨by omega, by omega, by omega, by omega, by omega, by omega, by omega, by omega, by apply Prod.ext <;> simp only <;> omega⟩)
    | (right; exact ⟨by omega, rfl⟩)
theorem decN_bad {n b0 b1 b2 b3 : Nat} (h : (128 ≤ b0 ∧ b0 < 192) ∨ 248 ≤ b0) (h0 : b0 < 256) : Lib.decodeN n b0 b1 b2 b3 = (65533, 1) := by
  unfold Lib.decodeN
  repeat' split
  all_goals first | (exfalso; omega) | rfl
theorem decN_one {n b0 b1 b2 b3 : Nat} (h : b0 < 128) : Lib.decodeN n b0 b1 b2 b3 = (b0, 1) := by unfold Lib.decodeN; rw [if_pos h]
end Go.Proofs.YtnikcgmbkmbloaaGreatDoor
/- Strings as characters: plain facts over the model's own decoder. No run in this text. -/
namespace Go.Proofs.YtnikcgmbkmbloaaGreatDoor
theorem dec_drop (l : List UInt8) (i : Nat) : dec l i = Lib.decodeL (l.drop i) := by
  have e : Lib.decodeL (l.drop i) = dec (l.drop i) 0 := rfl
  have hb : ∀ j, byteN (l.drop i) j = byteN l (i + j) := by
    intro j
    by_cases h : i + j < l.length
    · rw [byteN_at _ _ h, byteN_at _ _ (by simp; omega), List.getElem_drop]
    · have g1 : ∀ (m : List UInt8) (k : Nat), ¬ k < m.length → byteN m k = 0 := by
        intro m k hk
        have : (ByteArray.mk m.toArray).get! k = 0 := getElem!_neg m.toArray k (by simpa using hk)
        unfold byteN; rw [this]; rfl
      rw [g1 _ _ h, g1 _ _ (by simp; omega)]
  rw [e, dec_eq, dec_eq, hb, hb, hb, hb]
  simp only [List.length_drop, Nat.zero_add, Nat.sub_zero, Nat.add_zero]
theorem decL_pos (l : List UInt8) (h : l ≠ []) : 1 ≤ (Lib.decodeL l).2 ∧ (Lib.decodeL l).2 ≤ l.length := by
  refine ⟨?_, Lib.decodeL_le l h⟩
  have : 0 < l.length := List.length_pos_iff.2 h
  exact Lib.decode_width_pos ⟨l.toArray⟩ 0 (by simpa [ByteArray.size] using this)
def runesF : Nat → List UInt8 → Option (List Int)
  | _, [] => some []
  | 0, _ :: _ => none
  | n + 1, x :: l => if Lib.decodeL (x :: l) = (65533, 1) then none else (runesF n ((x :: l).drop (Lib.decodeL (x :: l)).2)).map (fun r => ((Lib.decodeL (x :: l)).1 : Int) :: r)
def runes (l : List UInt8) : Option (List Int) := runesF l.length l
theorem runesF_fuel : ∀ (n m : Nat) (l : List UInt8), l.length ≤ n → l.length ≤ m → runesF n l = runesF m l
  | _, _, [], _, _ => by simp [runesF]
  | 0, _, _ :: _, h, _ => by simp at h
  | _, 0, _ :: _, _, h => by simp at h
  | n + 1, m + 1, x :: l, h, k => by
    have hp := decL_pos (x :: l) (by simp)
    simp only [runesF]
    rw [runesF_fuel n m]
    · simp at h ⊢; omega
    · simp at k ⊢; omega
theorem runes_nil : runes [] = some [] := rfl
theorem runes_step (l : List UInt8) (h : l ≠ []) : runes l = if Lib.decodeL l = (65533, 1) then none else (runes (l.drop (Lib.decodeL l).2)).map (fun r => ((Lib.decodeL l).1 : Int) :: r) := by
  cases l with
  | nil => exact absurd rfl h
  | cons x l =>
    have hp := decL_pos (x :: l) (by simp)
    show runesF (l.length + 1) (x :: l) = _
    simp only [runesF]
    rw [show runes (List.drop (Lib.decodeL (x :: l)).2 (x :: l)) = runesF l.length (List.drop (Lib.decodeL (x :: l)).2 (x :: l)) from runesF_fuel _ _ _ (Nat.le_refl _) (by simp; omega)]
def runesAt (l : List UInt8) (i : Nat) : Option (List Int) := runes (l.drop i)
theorem runesAt_end {l : List UInt8} {i : Nat} (h : ¬ i < l.length) : runesAt l i = some [] := by
  unfold runesAt; rw [List.drop_eq_nil_of_le (by omega)]; rfl
theorem dec_pos {l : List UInt8} {i : Nat} (h : i < l.length) : 1 ≤ (dec l i).2 ∧ i + (dec l i).2 ≤ l.length := by
  rw [dec_drop]
  have := decL_pos (l.drop i) (by intro e; have := congrArg List.length e; simp at this; omega)
  rw [List.length_drop] at this
  omega
theorem runesAt_bad {l : List UInt8} {i : Nat} (h : i < l.length) (hb : dec l i = (65533, 1)) : runesAt l i = none := by
  unfold runesAt
  rw [dec_drop] at hb
  rw [runes_step _ (by intro e; have := congrArg List.length e; simp at this; omega), if_pos hb]
theorem runesAt_good {l : List UInt8} {i : Nat} (h : i < l.length) (hb : dec l i ≠ (65533, 1)) : runesAt l i = (runesAt l (i + (dec l i).2)).map (fun r => ((dec l i).1 : Int) :: r) := by
  unfold runesAt
  rw [dec_drop] at hb
  rw [runes_step _ (by intro e; have := congrArg List.length e; simp at this; omega), if_neg hb, List.drop_drop, ← dec_drop]
theorem decL_ok (l : List UInt8) (h : l ≠ []) : okR ((Lib.decodeL l).1 : Int) := by
  have e : Lib.decodeL l = dec l 0 := rfl
  have b0 := byteN_lt l 0
  have b1 := byteN_lt l 1
  have b2 := byteN_lt l 2
  have b3 := byteN_lt l 3
  rw [e, dec_eq]
  apply okR_mk
  rcases Lib.decodeN_shape (l.length - 0) (byteN l 0) (byteN l (0 + 1)) (byteN l (0 + 2)) (byteN l (0 + 3)) with ⟨h1, h2⟩ | ⟨h1, h3, h4, h5, h2⟩ | ⟨h1, h3, h4, h5, h6, h7, h2⟩ | ⟨h1, h3, h4, h5, h6, h7, h8, h2⟩ | h2
  all_goals rw [h2]; simp only; omega
/-- the bytes of characters one behind the other -/
def flat (rs : List Int) : List UInt8 := rs.flatMap encR
theorem flat_runes : ∀ (n : Nat) (l : List UInt8) (rs : List Int), l.length ≤ n → runes l = some rs → flat rs = l
  | 0, l, rs, h, k => by
    obtain rfl : l = [] := List.eq_nil_of_length_eq_zero (by omega)
    rw [runes_nil] at k
    obtain rfl : [] = rs := Option.some.inj k
    rfl
  | n + 1, l, rs, h, k => by
    by_cases hl : l = []
    · subst hl
      rw [runes_nil] at k
      obtain rfl : [] = rs := Option.some.inj k
      rfl
    · rw [runes_step l hl] at k
      split at k
      · cases k
      · rename_i hb
        rw [Option.map_eq_some_iff] at k
        obtain ⟨r, hr, rfl⟩ := k
        have hp := decL_pos l hl
        have ih := flat_runes n _ r (by simp; omega) hr
        show encR _ ++ flat r = l
        rw [ih]
        unfold encR
        rw [if_pos (decL_ok l hl), Lib.encode_decode l hl (fun g => hb (Prod.ext g.1 g.2)), List.take_append_drop]
theorem runes_len : ∀ (n : Nat) (l : List UInt8) (rs : List Int), l.length ≤ n → runes l = some rs → rs.length ≤ l.length
  | 0, l, rs, h, k => by
    obtain rfl : l = [] := List.eq_nil_of_length_eq_zero (by omega)
    rw [runes_nil] at k
    obtain rfl : [] = rs := Option.some.inj k
    exact Nat.zero_le _
  | n + 1, l, rs, h, k => by
    by_cases hl : l = []
    · subst hl
      rw [runes_nil] at k
      obtain rfl : [] = rs := Option.some.inj k
      exact Nat.zero_le _
    · rw [runes_step l hl] at k
      split at k
      · cases k
      · rw [Option.map_eq_some_iff] at k
        obtain ⟨r, hr, rfl⟩ := k
        have hp := decL_pos l hl
        have ih := runes_len n _ r (by simp; omega) hr
        simp at ih ⊢
        omega
theorem runesD_len (l : List UInt8) : ((runes l).getD []).length ≤ l.length := by
  cases h : runes l with
  | none => exact Nat.zero_le _
  | some rs => exact runes_len _ l rs (Nat.le_refl _) h
theorem map8 (z : Int) (n : Nat) (h : z = n) (k : n < 256) : (z.toNat.toUInt8).toNat = n := by
  subst h
  rw [Int.toNat_natCast]
  exact (UInt8.toNat_ofNat' (n := n)).trans (Nat.mod_eq_of_lt k)
theorem byte_cons0 (x : UInt8) (l : List UInt8) : byteN (x :: l) 0 = x.toNat := byteN_at _ _ (by simp)
theorem byte_cons1 (x y : UInt8) (l : List UInt8) : byteN (x :: y :: l) 1 = y.toNat := byteN_at _ _ (by simp)
theorem byte_cons2 (x y z : UInt8) (l : List UInt8) : byteN (x :: y :: z :: l) 2 = z.toNat := byteN_at _ _ (by simp)
theorem byte_cons3 (x y z u : UInt8) (l : List UInt8) : byteN (x :: y :: z :: u :: l) 3 = u.toNat := byteN_at _ _ (by simp)
set_option maxRecDepth 100000 in
theorem decode_enc (n : Nat) (rest : List UInt8) (h : okR n) : Lib.decodeL (encR n ++ rest) = (n, wideR n) := by
  have e : ∀ l, Lib.decodeL l = dec l 0 := fun _ => rfl
  rw [e, dec_eq]
  simp only [Nat.zero_add, Nat.sub_zero]
  have en : encR n = (Lib.encodeRuneZ n).map fun x => x.toNat.toUInt8 := by unfold encR; rw [if_pos h]; rfl
  have hok := okR_un h
  rcases wideR_cases n with ⟨h0, h1, hw⟩ | ⟨h0, h1, hw⟩ | ⟨h0, h1, h2, hw⟩ | ⟨h0, h1, hw⟩ | ⟨h0, hw⟩
  · rw [hw, en, Lib.encodeRuneZ_one (by omega) (by omega)]
    simp only [List.map_cons, List.map_nil, List.cons_append, List.nil_append]
    rw [byte_cons0, map8 _ n rfl (by omega), decN_one (by omega)]
  · rw [hw, en, Lib.encodeRuneZ_two (by omega) (by omega)]
    simp only [List.map_cons, List.map_nil, List.cons_append, List.nil_append]
    rw [byte_cons0, byte_cons1, map8 (192 + (n : Int) / 64) (192 + n / 64) (by omega) (by omega), map8 (128 + (n : Int) % 64) (128 + n % 64) (by omega) (by omega)]
    rcases decN_two (n := (((192 + (n : Int) / 64).toNat.toUInt8) :: ((128 + (n : Int) % 64).toNat.toUInt8) :: rest).length) (b0 := 192 + n / 64) (b1 := 128 + n % 64) (b2 := byteN (((192 + (n : Int) / 64).toNat.toUInt8) :: ((128 + (n : Int) % 64).toNat.toUInt8) :: rest) 2) (b3 := byteN (((192 + (n : Int) / 64).toNat.toUInt8) :: ((128 + (n : Int) % 64).toNat.toUInt8) :: rest) 3) (by omega) (by omega) with ⟨_, _, _, _, g⟩ | ⟨g, _⟩
    · rw [g]; apply Prod.ext <;> simp only <;> omega
    · exact absurd ⟨by simp, by omega, by omega, by omega⟩ g
  · rw [hw, en, Lib.encodeRuneZ_three (by omega)]
    simp only [List.map_cons, List.map_nil, List.cons_append, List.nil_append]
    rw [byte_cons0, byte_cons1, byte_cons2, map8 (224 + (n : Int) / 4096) (224 + n / 4096) (by omega) (by omega), map8 (128 + (n : Int) / 64 % 64) (128 + n / 64 % 64) (by omega) (by omega), map8 (128 + (n : Int) % 64) (128 + n % 64) (by omega) (by omega)]
    generalize hL : (((224 + (n : Int) / 4096).toNat.toUInt8) :: ((128 + (n : Int) / 64 % 64).toNat.toUInt8) :: ((128 + (n : Int) % 64).toNat.toUInt8) :: rest) = L
    have hLL : 3 ≤ L.length := by rw [← hL]; simp
    rcases decN_three (n := L.length) (b0 := 224 + n / 4096) (b1 := 128 + n / 64 % 64) (b2 := 128 + n % 64) (b3 := byteN L 3) (by omega) (by omega) (by omega) with ⟨_, _, _, _, _, _, g⟩ | ⟨g, _⟩
    · rw [g]; apply Prod.ext <;> simp only <;> omega
    · exact absurd ⟨hLL, by omega, by omega, by omega, by omega, by omega⟩ g
  · rw [hw, en, Lib.encodeRuneZ_four (by omega) (by omega)]
    simp only [List.map_cons, List.map_nil, List.cons_append, List.nil_append]
    rw [byte_cons0, byte_cons1, byte_cons2, byte_cons3, map8 (240 + (n : Int) / 262144) (240 + n / 262144) (by omega) (by omega), map8 (128 + (n : Int) / 4096 % 64) (128 + n / 4096 % 64) (by omega) (by omega), map8 (128 + (n : Int) / 64 % 64) (128 + n / 64 % 64) (by omega) (by omega), map8 (128 + (n : Int) % 64) (128 + n % 64) (by omega) (by omega)]
    generalize hL : (((240 + (n : Int) / 262144).toNat.toUInt8) :: ((128 + (n : Int) / 4096 % 64).toNat.toUInt8) :: ((128 + (n : Int) / 64 % 64).toNat.toUInt8) :: ((128 + (n : Int) % 64).toNat.toUInt8) :: rest) = L
    have hLL : 4 ≤ L.length := by rw [← hL]; simp
    rcases decN_four (n := L.length) (b0 := 240 + n / 262144) (b1 := 128 + n / 4096 % 64) (b2 := 128 + n / 64 % 64) (b3 := 128 + n % 64) (by omega) (by omega) (by omega) (by omega) with ⟨_, _, _, _, _, _, _, _, g⟩ | ⟨g, _⟩
    · rw [g]; apply Prod.ext <;> simp only <;> omega
    · exact absurd ⟨hLL, by omega, by omega, by omega, by omega, by omega, by omega, by omega⟩ g
  · exact absurd h h0
theorem runes_flat : ∀ (rs : List Int), runes (flat rs) = some (rs.filter fun n => decide (okR n))
  | [] => rfl
  | n :: rs => by
    have ih := runes_flat rs
    show runes (encR n ++ flat rs) = _
    by_cases h : okR n
    · have hn := okR_un h
      obtain ⟨m, rfl⟩ : ∃ m : Nat, n = m := ⟨n.toNat, by omega⟩
      have hd := decode_enc m (flat rs) h
      have hlen := encR_len m
      have hw : wideR m ≠ 0 := by rcases wideR_cases m with h' | h' | h' | h' | ⟨h', _⟩ <;> first | omega | exact absurd h h'
      have hne : encR m ++ flat rs ≠ [] := by
        intro g; have := congrArg List.length g; rw [List.length_append, hlen] at this; simp only [List.length_nil] at this; omega
      have hbad : ¬ ((m, wideR m) = (65533, 1)) := by
        intro g
        rw [Prod.mk.injEq] at g
        obtain ⟨g1, g2⟩ := g
        rcases wideR_cases m with h' | h' | h' | h' | ⟨h', _⟩ <;> first | omega | exact absurd h h'
      rw [runes_step _ hne, hd, if_neg hbad]
      simp only
      rw [← hlen, List.drop_left, ih]
      simp [h]
    · rw [show encR n = [] from enc_bad' h, List.nil_append, ih]
      simp [h]
end Go.Proofs.YtnikcgmbkmbloaaGreatDoor
/- Hexadecimal digits: plain facts. -/
namespace Go.Proofs.YtnikcgmbkmbloaaGreatDoor
/-- the digit of x -/
def hexd (x : Nat) : UInt8 := if x < 10 then UInt8.ofNat (48 + x) else UInt8.ofNat (87 + x)
def hexL (l : List UInt8) : List UInt8 := l.flatMap fun c => [hexd (c.toNat / 16), hexd (c.toNat % 16)]
theorem hexL_nil : hexL [] = [] := rfl
theorem hexL_append (a b : List UInt8) : hexL (a ++ b) = hexL a ++ hexL b := by simp [hexL]
theorem hexL_take (l : List UInt8) (i : Nat) (h : i < l.length) : hexL (l.take (i + 1)) = hexL (l.take i) ++ [hexd (l[i].toNat / 16), hexd (l[i].toNat % 16)] := by
  rw [List.take_succ_eq_append_getElem h, hexL_append]
  rfl
theorem hexL_len (l : List UInt8) : (hexL l).length = 2 * l.length := by
  induction l with
  | nil => rfl
  | cons c l ih =>
    have : hexL (c :: l) = [hexd (c.toNat / 16), hexd (c.toNat % 16)] ++ hexL l := rfl
    rw [this, List.length_append, ih, List.length_cons]
    simp
    omega
/-- the number of a digit; -1: it is none -/
def hexv (c : UInt8) : Int := if 48 ≤ c.toNat ∧ c.toNat ≤ 57 then c.toNat - 48 else if 97 ≤ c.toNat ∧ c.toNat ≤ 102 then c.toNat - 87 else -1
theorem hexv_hexd (x : Nat) (h : x < 16) : hexv (hexd x) = x := by
  have h1 : x = 0 ∨ x = 1 ∨ x = 2 ∨ x = 3 ∨ x = 4 ∨ x = 5 ∨ x = 6 ∨ x = 7 ∨ x = 8 ∨ x = 9 ∨ x = 10 ∨ x = 11 ∨ x = 12 ∨ x = 13 ∨ x = 14 ∨ x = 15 := by omega
  rcases h1 with rfl | rfl | rfl | rfl | rfl | rfl | rfl | rfl | rfl | rfl | rfl | rfl | rfl | rfl | rfl | rfl <;> decide
theorem hexv_range (c : UInt8) : -1 ≤ hexv c ∧ hexv c ≤ 15 := by unfold hexv; split <;> (try split) <;> omega
theorem hexd_hexv (c : UInt8) (h : 0 ≤ hexv c) : hexd (hexv c).toNat = c := by
  have e : UInt8.ofNat c.toNat = c := by simp
  unfold hexv at h ⊢
  by_cases h1 : 48 ≤ c.toNat ∧ c.toNat ≤ 57
  · rw [if_pos h1] at h ⊢
    unfold hexd
    rw [if_pos (by omega), show 48 + ((c.toNat : Int) - 48).toNat = c.toNat by omega, e]
  · rw [if_neg h1] at h ⊢
    by_cases h2 : 97 ≤ c.toNat ∧ c.toNat ≤ 102
    · rw [if_pos h2] at h ⊢
      unfold hexd
      rw [if_neg (by omega), show 87 + ((c.toNat : Int) - 87).toNat = c.toNat by omega, e]
    · rw [if_neg h2] at h; omega
/-- the bytes that digits stand for -/
def unhex : List UInt8 → Option (List UInt8)
  | [] => some []
  | [_] => none
  | a :: b :: r => if 0 ≤ hexv a ∧ 0 ≤ hexv b then (unhex r).map fun l => UInt8.ofNat (16 * hexv a + hexv b).toNat :: l else none
theorem unhex_hexL : ∀ l : List UInt8, unhex (hexL l) = some l
  | [] => rfl
  | c :: l => by
    have hc : c.toNat < 256 := UInt8.toNat_lt c
    have h1 := hexv_hexd (c.toNat / 16) (by omega)
    have h2 := hexv_hexd (c.toNat % 16) (by omega)
    have e : hexL (c :: l) = hexd (c.toNat / 16) :: hexd (c.toNat % 16) :: hexL l := rfl
    rw [e, unhex, unhex_hexL l, h1, h2, if_pos (by omega)]
    have e2 : (16 * ((c.toNat / 16 : Nat) : Int) + ((c.toNat % 16 : Nat) : Int)).toNat = c.toNat := by omega
    rw [e2]
    simp
theorem hexL_unhex : ∀ (n : Nat) (l r : List UInt8), l.length ≤ n → unhex l = some r → hexL r = l
  | _, [], r, _, h => by simp [unhex] at h; subst h; rfl
  | _, [a], r, _, h => by simp [unhex] at h
  | 0, a :: b :: l, r, hn, h => by simp at hn
  | n + 1, a :: b :: l, r, hn, h => by
    rw [unhex] at h
    by_cases hab : 0 ≤ hexv a ∧ 0 ≤ hexv b
    · rw [if_pos hab] at h
      cases hu : unhex l with
      | none => rw [hu] at h; simp at h
      | some r' =>
        rw [hu] at h
        simp only [Option.map_some, Option.some.injEq] at h
        subst h
        have ih := hexL_unhex n l r' (by simp at hn; omega) hu
        have ra := hexv_range a
        have rb := hexv_range b
        have e0 : (UInt8.ofNat (16 * hexv a + hexv b).toNat).toNat = (16 * hexv a + hexv b).toNat := by
          have : (UInt8.ofNat (16 * hexv a + hexv b).toNat).toNat = (16 * hexv a + hexv b).toNat % 256 := by simp
          omega
        have e : hexL (UInt8.ofNat (16 * hexv a + hexv b).toNat :: r') = hexd ((UInt8.ofNat (16 * hexv a + hexv b).toNat).toNat / 16) :: hexd ((UInt8.ofNat (16 * hexv a + hexv b).toNat).toNat % 16) :: hexL r' := rfl
        rw [e, ih, e0]
        have e1 : (16 * hexv a + hexv b).toNat / 16 = (hexv a).toNat := by omega
        have e2 : (16 * hexv a + hexv b).toNat % 16 = (hexv b).toNat := by omega
        rw [e1, e2, hexd_hexv a hab.1, hexd_hexv b hab.2]
    · rw [if_neg hab] at h; simp at h
theorem unhex_len : ∀ (n : Nat) (l r : List UInt8), l.length ≤ n → unhex l = some r → l.length = 2 * r.length := by
  intro n l r hn h
  rw [← hexL_unhex n l r hn h, hexL_len]
/-- a pair at place 2 i -/
theorem unhex_step (l : List UInt8) (i : Nat) (h : 2 * i + 1 < l.length) : unhex (l.drop (2 * i)) = if 0 ≤ hexv l[2 * i] ∧ 0 ≤ hexv l[2 * i + 1] then (unhex (l.drop (2 * (i + 1)))).map (fun r => UInt8.ofNat (16 * hexv l[2 * i] + hexv l[2 * i + 1]).toNat :: r) else none := by
  rw [List.drop_eq_getElem_cons (by omega : 2 * i < l.length), List.drop_eq_getElem_cons h, unhex]
  rfl
theorem unhex_end (l : List UInt8) (i : Nat) (h : ¬ 2 * i + 1 < l.length) (hi : 2 * i ≤ l.length) : unhex (l.drop (2 * i)) = if l.length = 2 * i then some [] else none := by
  by_cases e : l.length = 2 * i
  · rw [List.drop_eq_nil_of_le (by omega), if_pos e]; rfl
  · rw [List.drop_eq_getElem_cons (by omega), List.drop_eq_nil_of_le (by omega), if_neg e]; rfl
end Go.Proofs.YtnikcgmbkmbloaaGreatDoor
