/- The character at a place of given bytes: the model's GetRune, for every place and all bytes. -/
import Derived.Test.YtaelepaogkakmaaDoorGetSpec
import Derived.Test.YtaelepaogkakmaaDoorMem
namespace Go.Proofs.YtaelepaogkakmaaDoor
open Go.RowKit
theorem reads_at {w : World} {v : Value} {l : List UInt8} {i : Nat} (h : Reads w v (bv l)) (hi : i < l.length) : ∃ b o cap, v = .slice (some ⟨b, o, none⟩) l.length cap ∧ ∀ j, j < l.length → w.cell? ⟨b, o + j, none⟩ = some (.int .u8 (byteN l j)) := by
  obtain ⟨a, cap, rfl, hc⟩ := reads_byte h
  obtain ⟨b, o, rfl, _⟩ := hc i hi
  refine ⟨b, o, cap, rfl, fun j hj => ?_⟩
  obtain ⟨b', o', he, hcl⟩ := hc j hj
  simp only [Option.some.injEq, Addr.mk.injEq, and_true] at he
  obtain ⟨rfl, rfl⟩ := he
  rw [byteN_at l j hj]; exact hcl
theorem tup_eq {a b c d : Int} (h : a = b) (k : c = d) : Value.tuple #[.int .i64 a, .int .i64 c, .bool true] = .tuple #[.int .i64 b, .int .i64 d, .bool true] := by rw [h, k]
theorem get_spec_low (w : World) (v : Value) (l : List UInt8) (a : Int) (h : Reads w v (bv l)) (ha : a < 0) :
    Calls Tryd.prog 42 #[v, .int .i64 a] w fun e w' => e = .returned (getV l a) ∧ w = w' := by
  obtain ⟨_, cap, rfl, hc⟩ := reads_byte h
  clear hc h
  have hb := Lib.hid (getV_out (l := l) (a := a) (by omega))
  go_enter Tryd.func42, Tryd.ntmps42
  go_wp2
  go_ret3
  exact ⟨ret_bad hb.out, rfl⟩
theorem get_spec_high (w : World) (v : Value) (l : List UInt8) (a : Int) (h : Reads w v (bv l)) (ha : 0 ≤ a) (hl : (l.length : Int) ≤ a) :
    Calls Tryd.prog 42 #[v, .int .i64 a] w fun e w' => e = .returned (getV l a) ∧ w = w' := by
  obtain ⟨_, cap, rfl, hc⟩ := reads_byte h
  clear hc h
  have hb := Lib.hid (getV_out (l := l) (a := a) (by omega))
  have ha' : ¬ a < 0 := by omega
  go_enter Tryd.func42, Tryd.ntmps42
  go_wp2
  go_ret3
  exact ⟨ret_bad hb.out, rfl⟩
theorem get_spec_one (w : World) (b o len cap at_ : Nat) (x : Int) (hat : at_ < len) (hlen : len ≤ 1099511627776) (hx : w.cell? ⟨b, o + at_, none⟩ = some (.int .u8 x)) (hx0 : 0 ≤ x) (hx1 : x < 128) :
    Calls Tryd.prog 42 #[.slice (some ⟨b, o, none⟩) len cap, .int .i64 at_] w fun e w' => e = .returned (.tuple #[.int .i64 x, .int .i64 (at_ + 1), .bool true]) ∧ w = w' := by
  have cw := wide_spec x w
  rw [wideR_one hx0 hx1] at cw
  have ca : ¬ ((at_ : Int) < 0) := by omega
  have cl : ¬ ((len : Int) ≤ (at_ : Int)) := by omega
  have ca2 : (at_ : Int) ≤ 1099511627776 := by omega
  have cb : (len : Int) ≤ 1099511627776 := by omega
  have hs : ¬ ((len : Int) - at_ < 1) := by omega
  go_enter Tryd.func42, Tryd.ntmps42
  go_wp2
  go_loop [9, 10] (fun n i => i = .int .i64 1 ∧ n = .int .i64 x) (fun _ i => 0)
  case atStart => exact ⟨rfl, rfl⟩
  case round =>
    obtain ⟨rfl, rfl⟩ := hrel
    go_wp2_with (go_at_call 61; refine cw.mono ?_; rintro e w' ⟨rfl, rfl⟩)
    go_ret3
    exact ⟨rfl, rfl⟩
theorem get_spec_none (w : World) (b o len cap at_ : Nat) (x : Int) (hat : at_ < len) (hlen : len ≤ 1099511627776) (hx : w.cell? ⟨b, o + at_, none⟩ = some (.int .u8 x)) (hx0 : (128 ≤ x ∧ x < 192) ∨ 248 ≤ x) (hx1 : x ≤ 255) :
    Calls Tryd.prog 42 #[.slice (some ⟨b, o, none⟩) len cap, .int .i64 at_] w fun e w' => e = .returned badG ∧ w = w' := by
  have i1 := in_no x 192 223 w (by omega)
  have i2 := in_no x 224 239 w (by omega)
  have i3 := in_no x 240 247 w (by omega)
  have ca : ¬ ((at_ : Int) < 0) := by omega
  have cl : ¬ ((len : Int) ≤ (at_ : Int)) := by omega
  have c128 : ¬ x < 128 := by omega
  clear hx0
  go_enter Tryd.func42, Tryd.ntmps42
  go_wp2_with (go_at_call 53; (first | (with_reducible refine i1.mono ?_) | (with_reducible refine i2.mono ?_) | (with_reducible refine i3.mono ?_)); rintro e w' ⟨rfl, rfl⟩)
  go_ret3
  exact ⟨ret_bad rfl, rfl⟩
theorem get_spec_any (w : World) (v : Value) (l : List UInt8) (a : Int) (h : Reads w v (bv l)) (hl : l.length ≤ 1099511627776) :
    Calls Tryd.prog 42 #[v, .int .i64 a] w fun e w' => e = .returned (getV l a) ∧ w = w' := by
  by_cases h0 : a < 0
  · exact get_spec_low w v l a h h0
  by_cases h1 : (l.length : Int) ≤ a
  · exact get_spec_high w v l a h (by omega) h1
  obtain ⟨i, rfl⟩ : ∃ i : Nat, a = i := ⟨a.toNat, by omega⟩
  have hi : i < l.length := by omega
  obtain ⟨b, o, cap, rfl, hc⟩ := reads_at h hi
  have hd := dec_eq l i
  have b0 := byteN_lt l i
  have b1 := byteN_lt l (i + 1)
  have b2 := byteN_lt l (i + 2)
  have b3 := byteN_lt l (i + 3)
  have hy : ∀ j : Nat, i + j < l.length → w.cell? ⟨b, o + (i + j), none⟩ = some (.int .u8 (((fun j => (byteN l (i + j) : Int)) : Nat → Int) j)) ∧ 0 ≤ (((fun j => (byteN l (i + j) : Int)) : Nat → Int) j) ∧ (((fun j => (byteN l (i + j) : Int)) : Nat → Int) j) ≤ 255 := by
    intro j hj
    have := byteN_lt l (i + j)
    exact ⟨hc (i + j) hj, by show (0 : Int) ≤ (byteN l (i + j) : Int); omega, by show (byteN l (i + j) : Int) ≤ 255; omega⟩
  have hx := hc i hi
  by_cases c1 : byteN l i < 128
  · rw [decN_one c1] at hd
    rw [getV_good hi hd (by omega)]
    exact get_spec_one w b o _ cap i _ hi hl hx (by omega) (by omega)
  by_cases c2 : byteN l i < 192 ∨ 248 ≤ byteN l i
  · rw [decN_bad (by omega) b0] at hd
    rw [getV_bad hd]
    exact get_spec_none w b o _ cap i _ hi hl hx (by omega) (by omega)
  by_cases c3 : byteN l i ≤ 223
  · refine get_spec_2 w b o _ cap i _ _ (getV l i) hi hl hx (by omega) (by omega) (fun j _ _ => hy j) ?_ ?_ ?_
    all_goals rcases decN_two (n := l.length - i) (b2 := byteN l (i + 2)) (b3 := byteN l (i + 3)) (show 192 ≤ byteN l i ∧ byteN l i ≤ 223 by omega) b1 with ⟨g1, g2, g3, g4, g5⟩ | ⟨g1, g5⟩
    · intro hs; omega
    · intro hs; exact getV_bad (hd.trans g5)
    · intro hs j j1 j2 hb
      obtain rfl : j = 1 := by omega
      exact absurd (show 128 ≤ (byteN l (i + 1) : Int) ∧ (byteN l (i + 1) : Int) ≤ 191 by omega) hb
    · intro hs j j1 j2 hb
      exact getV_bad (hd.trans g5)
    · intro hs ho
      simp only [accB]
      refine ⟨fun hw => ?_, fun hw => ?_⟩
      · rw [getV_good hi (hd.trans g5) (by omega)]
        exact tup_eq (by first | omega | (simp only [Nat.zero_add, Nat.reduceAdd]; omega)) (by omega)
      · exact absurd (wide2.2 (by simp only [Nat.zero_add]; omega)) hw
    · intro hs ho
      have h1 : 128 ≤ (byteN l (i + 1) : Int) ∧ (byteN l (i + 1) : Int) ≤ 191 := ho 1 (by omega) (by omega)
      refine ⟨fun hw => ?_, fun hw => getV_bad (hd.trans g5)⟩
      have hw := wide2.1 hw
      simp only [accB, Nat.zero_add] at hw
      omega
  by_cases c4 : byteN l i ≤ 239
  · refine get_spec_3 w b o _ cap i _ _ (getV l i) hi hl hx (by omega) (by omega) (fun j _ _ => hy j) ?_ ?_ ?_
    all_goals rcases decN_three (n := l.length - i) (b3 := byteN l (i + 3)) (show 224 ≤ byteN l i ∧ byteN l i ≤ 239 by omega) b1 b2 with ⟨g1, g2, g3, g4, g6, g7, g5⟩ | ⟨g1, g5⟩
    · intro hs; omega
    · intro hs; exact getV_bad (hd.trans g5)
    · intro hs j j1 j2 hb
      have : j = 1 ∨ j = 2 := by omega
      rcases this with rfl | rfl
      · exact absurd (show 128 ≤ (byteN l (i + 1) : Int) ∧ (byteN l (i + 1) : Int) ≤ 191 by omega) hb
      · exact absurd (show 128 ≤ (byteN l (i + 2) : Int) ∧ (byteN l (i + 2) : Int) ≤ 191 by omega) hb
    · intro hs j j1 j2 hb
      exact getV_bad (hd.trans g5)
    · intro hs ho
      simp only [accB]
      refine ⟨fun hw => ?_, fun hw => ?_⟩
      · rw [getV_good hi (hd.trans g5) (by omega)]
        exact tup_eq (by first | omega | (simp only [Nat.zero_add, Nat.reduceAdd]; omega)) (by omega)
      · exact absurd (wide3.2 (by simp only [Nat.zero_add, Nat.reduceAdd]; omega)) hw
    · intro hs ho
      have h1 : 128 ≤ (byteN l (i + 1) : Int) ∧ (byteN l (i + 1) : Int) ≤ 191 := ho 1 (by omega) (by omega)
      have h2 : 128 ≤ (byteN l (i + 2) : Int) ∧ (byteN l (i + 2) : Int) ≤ 191 := ho 2 (by omega) (by omega)
      refine ⟨fun hw => ?_, fun hw => getV_bad (hd.trans g5)⟩
      have hw := wide3.1 hw
      simp only [accB, Nat.zero_add, Nat.reduceAdd] at hw
      omega
  · refine get_spec_4 w b o _ cap i _ _ (getV l i) hi hl hx (by omega) (by omega) (fun j _ _ => hy j) ?_ ?_ ?_
    all_goals rcases decN_four (n := l.length - i) (show 240 ≤ byteN l i ∧ byteN l i ≤ 247 by omega) b1 b2 b3 with ⟨g1, g2, g3, g4, g6, g7, g8, g9, g5⟩ | ⟨g1, g5⟩
    · intro hs; omega
    · intro hs; exact getV_bad (hd.trans g5)
    · intro hs j j1 j2 hb
      have : j = 1 ∨ j = 2 ∨ j = 3 := by omega
      rcases this with rfl | rfl | rfl
      · exact absurd (show 128 ≤ (byteN l (i + 1) : Int) ∧ (byteN l (i + 1) : Int) ≤ 191 by omega) hb
      · exact absurd (show 128 ≤ (byteN l (i + 2) : Int) ∧ (byteN l (i + 2) : Int) ≤ 191 by omega) hb
      · exact absurd (show 128 ≤ (byteN l (i + 3) : Int) ∧ (byteN l (i + 3) : Int) ≤ 191 by omega) hb
    · intro hs j j1 j2 hb
      exact getV_bad (hd.trans g5)
    · intro hs ho
      simp only [accB]
      refine ⟨fun hw => ?_, fun hw => ?_⟩
      · rw [getV_good hi (hd.trans g5) (by omega)]
        exact tup_eq (by first | omega | (simp only [Nat.zero_add, Nat.reduceAdd]; omega)) (by omega)
      · exact absurd (wide4.2 (by simp only [Nat.zero_add, Nat.reduceAdd]; omega)) hw
    · intro hs ho
      have h1 : 128 ≤ (byteN l (i + 1) : Int) ∧ (byteN l (i + 1) : Int) ≤ 191 := ho 1 (by omega) (by omega)
      have h2 : 128 ≤ (byteN l (i + 2) : Int) ∧ (byteN l (i + 2) : Int) ≤ 191 := ho 2 (by omega) (by omega)
      have h3 : 128 ≤ (byteN l (i + 3) : Int) ∧ (byteN l (i + 3) : Int) ≤ 191 := ho 3 (by omega) (by omega)
      refine ⟨fun hw => ?_, fun hw => getV_bad (hd.trans g5)⟩
      have hw := wide4.1 hw
      simp only [accB, Nat.zero_add, Nat.reduceAdd] at hw
      omega
end Go.Proofs.YtaelepaogkakmaaDoor
