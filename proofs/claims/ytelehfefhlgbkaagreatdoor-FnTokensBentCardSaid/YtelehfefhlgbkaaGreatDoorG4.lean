import Derived.Test.YtelehfefhlgbkaaGreatDoorG3
import Derived.Test.YtelehfefhlgbkaaGreatDoorG0
import Derived.Test.YtelehfefhlgbkaaGreatDoorG2
import Derived.Test.YtelehfefhlgbkaaGreatDoorG1
import Derived.Laws.RangeString
import Derived.Laws.RangeAny
import Derived.Lib.OthersKept
import Derived.Laws.IdiomStrings
import Derived.Lib.Hide
import Derived.Deep.RegionHeld3
import Derived.Test.YtelehfefhlgbkaaGreatDoorRows
import Derived.WalkKit
import Derived.Outline
import Derived.ProofKit
/- The character at a place of given bytes: the model's GetRune, for every place and all bytes. -/
namespace Go.Proofs.YtelehfefhlgbkaaGreatDoor
open Go.RowKit
theorem reads_at {w : World} {v : Value} {l : List UInt8} {i : Nat} (h : Reads w v (bv l)) (hi : i < l.length) : ∃ b o cap, v = .slice (some ⟨b, o, none⟩) l.length cap ∧ ∀ j, j < l.length → w.cell? ⟨b, o + j, none⟩ = some (.int .u8 (byteN l j)) := by
  obtain ⟨a, cap, rfl, hc⟩ := reads_byte h
  obtain ⟨b, o, rfl, _⟩ := hc i hi
  refine ⟨b, o, cap, rfl, fun j hj => ?_⟩
  obtain ⟨b', o', he, hcl⟩ := hc j hj
  simp only [Option.some.injEq, Addr.mk.injEq, and_true] at he
  obtain ⟨rfl, rfl⟩ := he
  rw [byteN_at l j hj]; exact hcl
theorem tup_eq {a b c d : Int} (h : a = b) (k : c = d) : Value.tuple #[.int .i64 a, .int .i64 c, .bool true] = .tuple #[.int .i64 b, .int .i64 d, .bool true] := by rw [h, k]
theorem get_spec_low (w : World) (v : Value) (l : List UInt8) (a : Int) (h : Reads w v (bv l)) (ha : a < 0) :
    Calls Tryz.prog 64 #[v, .int .i64 a] w fun e w' => e = .returned (getV l a) ∧ w = w' := by
  obtain ⟨_, cap, rfl, hc⟩ := reads_byte h
  clear hc h
  have hb := Lib.hid (getV_out (l := l) (a := a) (by omega))
  go_enter Tryz.func64, Tryz.ntmps64
  go_wp2
  go_ret3
  exact ⟨ret_bad hb.out, rfl⟩
theorem get_spec_high (w : World) (v : Value) (l : List UInt8) (a : Int) (h : Reads w v (bv l)) (ha : 0 ≤ a) (hl : (l.length : Int) ≤ a) :
    Calls Tryz.prog 64 #[v, .int .i64 a] w fun e w' => e = .returned (getV l a) ∧ w = w' := by
  obtain ⟨_, cap, rfl, hc⟩ := reads_byte h
  clear hc h
  have hb := Lib.hid (getV_out (l := l) (a := a) (by omega))
  have ha' : ¬ a < 0 := by omega
  go_enter Tryz.func64, Tryz.ntmps64
  go_wp2
  go_ret3
  exact ⟨ret_bad hb.out, rfl⟩
theorem get_spec_one (w : World) (b o len cap at_ : Nat) (x : Int) (hat : at_ < len) (hlen : len ≤ 1099511627776) (hx : w.cell? ⟨b, o + at_, none⟩ = some (.int .u8 x)) (hx0 : 0 ≤ x) (hx1 : x < 128) :
    Calls Tryz.prog 64 #[.slice (some ⟨b, o, none⟩) len cap, .int .i64 at_] w fun e w' => e = .returned (.tuple #[.int .i64 x, .int .i64 (at_ + 1), .bool true]) ∧ w = w' := by
  have cw := wide_spec x w
  rw [wideR_one hx0 hx1] at cw
  have ca : ¬ ((at_ : Int) < 0) := by omega
  have cl : ¬ ((len : Int) ≤ (at_ : Int)) := by omega
  have ca2 : (at_ : Int) ≤ 1099511627776 := by omega
  have cb : (len : Int) ≤ 1099511627776 := by omega
  have hs : ¬ ((len : Int) - at_ < 1) := by omega
  go_enter Tryz.func64, Tryz.ntmps64
  go_wp2
  go_loop [9, 10] (fun n i => i = .int .i64 1 ∧ n = .int .i64 x) (fun _ i => 0)
  case atStart => exact ⟨rfl, rfl⟩
  case round =>
    obtain ⟨rfl, rfl⟩ := hrel
    go_wp2_with (go_at_call 85; refine cw.mono ?_; rintro e w' ⟨rfl, rfl⟩)
    go_ret3
    exact ⟨rfl, rfl⟩
theorem get_spec_none (w : World) (b o len cap at_ : Nat) (x : Int) (hat : at_ < len) (hlen : len ≤ 1099511627776) (hx : w.cell? ⟨b, o + at_, none⟩ = some (.int .u8 x)) (hx0 : (128 ≤ x ∧ x < 192) ∨ 248 ≤ x) (hx1 : x ≤ 255) :
    Calls Tryz.prog 64 #[.slice (some ⟨b, o, none⟩) len cap, .int .i64 at_] w fun e w' => e = .returned badG ∧ w = w' := by
  have i1 := in_no x 192 223 w (by omega)
  have i2 := in_no x 224 239 w (by omega)
  have i3 := in_no x 240 247 w (by omega)
  have ca : ¬ ((at_ : Int) < 0) := by omega
  have cl : ¬ ((len : Int) ≤ (at_ : Int)) := by omega
  have c128 : ¬ x < 128 := by omega
  clear hx0
  go_enter Tryz.func64, Tryz.ntmps64
  go_wp2_with (go_at_call 42; (first | (with_reducible refine i1.mono ?_) | (with_reducible refine i2.mono ?_) | (with_reducible refine i3.mono ?_)); rintro e w' ⟨rfl, rfl⟩)
  go_ret3
  exact ⟨ret_bad rfl, rfl⟩
theorem get_spec_any (w : World) (v : Value) (l : List UInt8) (a : Int) (h : Reads w v (bv l)) (hl : l.length ≤ 1099511627776) :
    Calls Tryz.prog 64 #[v, .int .i64 a] w fun e w' => e = .returned (getV l a) ∧ w = w' := by
  by_cases h0 : a < 0
  · exact get_spec_low w v l a h h0
  by_cases h1 : (l.length : Int) ≤ a
  · exact get_spec_high w v l a h (by omega) h1
  obtain ⟨i, rfl⟩ : ∃ i : Nat, a = i := ⟨a.toNat, by omega⟩
  have hi : i < l.length := by omega
  obtain ⟨b, o, cap, rfl, hc⟩ := reads_at h hi
  have hd := dec_eq l i
  have b0 := byteN_lt l i
  have b1 := byteN_lt l (i + 1)
  have b2 := byteN_lt l (i + 2)
  have b3 := byteN_lt l (i + 3)
  have hy : ∀ j : Nat, i + j < l.length → w.cell? ⟨b, o + (i + j), none⟩ = some (.int .u8 (((fun j => (byteN l (i + j) : Int)) : Nat → Int) j)) ∧ 0 ≤ (((fun j => (byteN l (i + j) : Int)) : Nat → Int) j) ∧ (((fun j => (byteN l (i + j) : Int)) : Nat → Int) j) ≤ 255 := by
    intro j hj
    have := byteN_lt l (i + j)
    exact ⟨hc (i + j) hj, by show (0 : Int) ≤ (byteN l (i + j) : Int); omega, by show (byteN l (i + j) : Int) ≤ 255; omega⟩
  have hx := hc i hi
  by_cases c1 : byteN l i < 128
  · rw [decN_one c1] at hd
    rw [getV_good hi hd (by omega)]
    exact get_spec_one w b o _ cap i _ hi hl hx (by omega) (by omega)
  by_cases c2 : byteN l i < 192 ∨ 248 ≤ byteN l i
  · rw [decN_bad (by omega) b0] at hd
    rw [getV_bad hd]
    exact get_spec_none w b o _ cap i _ hi hl hx (by omega) (by omega)
  by_cases c3 : byteN l i ≤ 223
  · refine get_spec_2 w b o _ cap i _ _ (getV l i) hi hl hx (by omega) (by omega) (fun j _ _ => hy j) ?_ ?_ ?_
    all_goals rcases decN_two (n := l.length - i) (b2 := byteN l (i + 2)) (b3 := byteN l (i + 3)) (show 192 ≤ byteN l i ∧ byteN l i ≤ 223 by omega) b1 with ⟨g1, g2, g3, g4, g5⟩ | ⟨g1, g5⟩
    · intro hs; omega
    · intro hs; exact getV_bad (hd.trans g5)
    · intro hs j j1 j2 hb
      obtain rfl : j = 1 := by omega
      exact absurd (show 128 ≤ (byteN l (i + 1) : Int) ∧ (byteN l (i + 1) : Int) ≤ 191 by omega) hb
    · intro hs j j1 j2 hb
      exact getV_bad (hd.trans g5)
    · intro hs ho
      simp only [accB]
      refine ⟨fun hw => ?_, fun hw => ?_⟩
      · rw [getV_good hi (hd.trans g5) (by omega)]
        exact tup_eq (by first | omega | (simp only [Nat.zero_add, Nat.reduceAdd]; omega)) (by omega)
      · exact absurd (wide2.2 (by simp only [Nat.zero_add]; omega)) hw
    · intro hs ho
      have h1 : 128 ≤ (byteN l (i + 1) : Int) ∧ (byteN l (i + 1) : Int) ≤ 191 := ho 1 (by omega) (by omega)
      refine ⟨fun hw => ?_, fun hw => getV_bad (hd.trans g5)⟩
      have hw := wide2.1 hw
      simp only [accB, Nat.zero_add] at hw
      omega
  by_cases c4 : byteN l i ≤ 239
  · refine get_spec_3 w b o _ cap i _ _ (getV l i) hi hl hx (by omega) (by omega) (fun j _ _ => hy j) ?_ ?_ ?_
    all_goals rcases decN_three (n := l.length - i) (b3 := byteN l (i + 3)) (show 224 ≤ byteN l i ∧ byteN l i ≤ 239 by omega) b1 b2 with ⟨g1, g2, g3, g4, g6, g7, g5⟩ | ⟨g1, g5⟩
    · intro hs; omega
    · intro hs; exact getV_bad (hd.trans g5)
    · intro hs j j1 j2 hb
      have : j = 1 ∨ j = 2 := by omega
      rcases this with rfl | rfl
      · exact absurd (show 128 ≤ (byteN l (i + 1) : Int) ∧ (byteN l (i + 1) : Int) ≤ 191 by omega) hb
      · exact absurd (show 128 ≤ (byteN l (i + 2) : Int) ∧ (byteN l (i + 2) : Int) ≤ 191 by omega) hb
    · intro hs j j1 j2 hb
      exact getV_bad (hd.trans g5)
    · intro hs ho
      simp only [accB]
      refine ⟨fun hw => ?_, fun hw => ?_⟩
      · rw [getV_good hi (hd.trans g5) (by omega)]
        exact tup_eq (by first | omega | (simp only [Nat.zero_add, Nat.reduceAdd]; omega)) (by omega)
      · exact absurd (wide3.2 (by simp only [Nat.zero_add, Nat.reduceAdd]; omega)) hw
    · intro hs ho
      have h1 : 128 ≤ (byteN l (i + 1) : Int) ∧ (byteN l (i + 1) : Int) ≤ 191 := ho 1 (by omega) (by omega)
      have h2 : 128 ≤ (byteN l (i + 2) : Int) ∧ (byteN l (i + 2) : Int) ≤ 191 := ho 2 (by omega) (by omega)
      refine ⟨fun hw => ?_, fun hw => getV_bad (hd.trans g5)⟩
      have hw := wide3.1 hw
      simp only [accB, Nat.zero_add, Nat.reduceAdd] at hw
      omega
  · refine get_spec_4 w b o _ cap i _ _ (getV l i) hi hl hx (by omega) (by omega) (fun j _ _ => hy j) ?_ ?_ ?_
    all_goals rcases decN_four (n := l.length - i) (show 240 ≤ byteN l i ∧ byteN l i ≤ 247 by omega) b1 b2 b3 with ⟨g1, g2, g3, g4, g6, g7, g8, g9, g5⟩ | ⟨g1, g5⟩
    · intro hs; omega
    · intro hs; exact getV_bad (hd.trans g5)
    · intro hs j j1 j2 hb
      have : j = 1 ∨ j = 2 ∨ j = 3 := by omega
      rcases this with rfl | rfl | rfl
      · exact absurd (show 128 ≤ (byteN l (i + 1) : Int) ∧ (byteN l (i + 1) : Int) ≤ 191 by omega) hb
      · exact absurd (show 128 ≤ (byteN l (i + 2) : Int) ∧ (byteN l (i + 2) : Int) ≤ 191 by omega) hb
      · exact absurd (show 128 ≤ (byteN l (i + 3) : Int) ∧ (byteN l (i + 3) : Int) ≤ 191 by omega) hb
    · intro hs j j1 j2 hb
      exact getV_bad (hd.trans g5)
    · intro hs ho
      simp only [accB]
      refine ⟨fun hw => ?_, fun hw => ?_⟩
      · rw [getV_good hi (hd.trans g5) (by omega)]
        exact tup_eq (by first | omega | (simp only [Nat.zero_add, Nat.reduceAdd]; omega)) (by omega)
      · exact absurd (wide4.2 (by simp only [Nat.zero_add, Nat.reduceAdd]; omega)) hw
    · intro hs ho
      have h1 : 128 ≤ (byteN l (i + 1) : Int) ∧ (byteN l (i + 1) : Int) ≤ 191 := ho 1 (by omega) (by omega)
      have h2 : 128 ≤ (byteN l (i + 2) : Int) ∧ (byteN l (i + 2) : Int) ≤ 191 := ho 2 (by omega) (by omega)
      have h3 : 128 ≤ (byteN l (i + 3) : Int) ∧ (byteN l (i + 3) : Int) ≤ 191 := ho 3 (by omega) (by omega)
      refine ⟨fun hw => ?_, fun hw => getV_bad (hd.trans g5)⟩
      have hw := wide4.1 hw
      simp only [accB, Nat.zero_add, Nat.reduceAdd] at hw
      omega
end Go.Proofs.YtelehfefhlgbkaaGreatDoor
/- Whether a string is characters throughout: the program's and the model's answers, for every string. -/
namespace Go.Proofs.YtelehfefhlgbkaaGreatDoor
open Go.RowKit
theorem data_l (l : List UInt8) (i j : Nat) (h : l.length ≤ j) : ((ByteArray.mk l.toArray).extract i j).data.toList = l.drop i := by
  simp
  rw [List.take_of_length_le (by simp; omega)]
theorem pre_bad {l : List UInt8} {i : Nat} (h : i < l.length) (hb : dec l i = (65533, 1)) : Lib.hasPrefix (l.drop i) [239, 191, 189] = false := by
  cases hp : Lib.hasPrefix (l.drop i) [239, 191, 189] with
  | false => rfl
  | true =>
    obtain ⟨t, ht⟩ := List.isPrefixOf_iff_prefix.1 hp
    rw [dec_drop, ← ht, show ([239, 191, 189] : List UInt8) = encR ((65533 : Nat) : Int) from rfl, decode_enc 65533 t (okR_mk (by omega)), Prod.mk.injEq] at hb
    have := wideR_three (n := ((65533 : Nat) : Int)) (by omega) (by omega) (by omega)
    omega
theorem pre_good {l : List UInt8} {i : Nat} (h : i < l.length) (h1 : (dec l i).1 = 65533) (hb : dec l i ≠ (65533, 1)) : Lib.hasPrefix (l.drop i) [239, 191, 189] = true := by
  rw [dec_drop] at h1 hb
  have hne : l.drop i ≠ [] := by intro e; have := congrArg List.length e; simp at this; omega
  have he := Lib.encode_decode (l.drop i) hne (fun g => hb (Prod.ext g.1 g.2))
  rw [h1] at he
  refine List.isPrefixOf_iff_prefix.2 ?_
  have : ([239, 191, 189] : List UInt8) = List.take (Lib.decodeL (l.drop i)).2 (l.drop i) := by rw [← he]; rfl
  rw [this]
  exact List.take_prefix _ _
theorem textok_impl (l : List UInt8) (w : World) (hl : l.length ≤ 1099511627776) :
    Calls Tryz.prog 52 #[.string ⟨l.toArray⟩] w fun e w' => e = .returned (.bool (runes l).isSome) ∧ Below w.heap.size w w' := by
  have hp : ∀ (i : Nat) (v : Bool), Lib.hasPrefix (l.drop i) [239, 191, 189] = v → ∀ w, Calls Tryz.prog 73 #[.string ((ByteArray.mk l.toArray).extract i l.length), .string ⟨#[239, 191, 189]⟩] w fun e w' => e = .returned (.bool v) ∧ w' = w := by
    intro i v hv w
    have := Tryz.strings_HasPrefix ((ByteArray.mk l.toArray).extract i l.length) ⟨#[239, 191, 189]⟩ w
    rw [data_l _ _ _ (by omega), show (ByteArray.mk #[239, 191, 189]).data.toList = [239, 191, 189] from rfl, hv] at this
    exact this
  have HP := Lib.hid hp
  have hsz := size_l l
  have hszz : ((ByteArray.mk l.toArray).size : Int) = l.length := by rw [hsz]
  clear hp
  generalize hs : (ByteArray.mk l.toArray) = s at *
  have HS := Lib.hid hs
  clear hs
  go_enter Tryz.func52, Tryz.ntmps52
  go_wp2
  go_loopw [] (fun wr => ∃ pos : Nat, wr = w.iter s pos ∧ pos ≤ l.length ∧ (runesAt l pos).isSome = (runes l).isSome) (fun wr => l.length - wr.iterPos w.heap.size)
  case atStart => exact ⟨0, rfl, Nat.zero_le _, rfl⟩
  case round =>
    obtain ⟨pos, rfl, hpos, hr⟩ := hrel
    have hd : Utf8.decode s pos = dec l pos := by rw [← HS.out]; rfl
    by_cases hp : pos < l.length
    · have hpz : pos < s.size := by omega
      have hnx : ∀ ty, (Instr.next (.pointer (some ⟨w.heap.size, 0, none⟩)) true ty).run Tryz.prog (w.iter s pos) = _ := fun ty => run_next_any w s pos ty hpz
      rw [hd] at hnx
      have hwd := dec_pos hp
      have hle : (dec l pos).1 ≤ 2147483647 := by rw [← hd]; exact decode_le s pos
      by_cases h1 : (dec l pos).1 = 65533
      · by_cases hb : dec l pos = (65533, 1)
        · have hq := HP.out pos false (pre_bad hp hb)
          have hR := Lib.hid (runesAt_bad hp hb)
          rw [hb] at hnx
          have h1' : ((65533 : Int) == 65533) = true := by decide
          clear hb h1 hwd hle hd
          rw [hR.out] at hr
          have HR := Lib.hid hr
          clear hr
          go_wp2_with (go_at_call 73; refine (hq _).mono ?_; rintro e w' ⟨rfl, rfl⟩)
          go_ret
          exact ⟨by rw [← HR.out]; rfl, (Below.refl w.heap.size w).alloc (Nat.le_refl _) _⟩
        · have hq := HP.out pos true (pre_good hp h1 hb)
          have hR := Lib.hid (runesAt_good hp hb)
          have HD := Lib.hid h1
          generalize hk : (dec l pos).2 = k at *
          have HW := Lib.hid hwd
          have HR := Lib.hid hr
          rw [h1] at hnx
          clear hb h1 hle hd hwd hk hr
          go_wp2_with (go_at_call 73; refine (hq _).mono ?_; rintro e w' ⟨rfl, rfl⟩)
          go_roundw
          case rel =>
            refine ⟨pos + k, rfl, by have := HW.out; omega, ?_⟩
            rw [← HR.out, hR.out, Option.isSome_map]
          case measure =>
            have := HW.out
            simp
            omega
      · have hb : dec l pos ≠ (65533, 1) := fun g => h1 (by rw [g])
        have hR := Lib.hid (runesAt_good hp hb)
        have h1' : (((dec l pos).1 : Int) == 65533) = false := by simp; omega
        generalize hk : (dec l pos).2 = k at *
        generalize hr0 : (dec l pos).1 = r at *
        have HW := Lib.hid hwd
        have HR := Lib.hid hr
        clear hb h1 hle hd hwd hk hr hr0
        go_wp2
        go_roundw
        case rel =>
          refine ⟨pos + k, rfl, by have := HW.out; omega, ?_⟩
          rw [← HR.out, hR.out, Option.isSome_map]
        case measure =>
          have := HW.out
          simp
          omega
    · have hpz : ¬ pos < s.size := by omega
      have hnx : ∀ ty, (Instr.next (.pointer (some ⟨w.heap.size, 0, none⟩)) true ty).run Tryz.prog (w.iter s pos) = _ := fun ty => run_next_end w s pos ty hpz
      rw [runesAt_end hp] at hr
      have HR := Lib.hid hr
      clear hr hd
      go_wp2
      go_ret
      exact ⟨by rw [← HR.out]; rfl, (Below.refl w.heap.size w).alloc (Nat.le_refl _) _⟩
theorem getV_cases (l : List UInt8) (i : Nat) (h : i < l.length) : (dec l i = (65533, 1) ∧ getV l i = .tuple #[.int .i64 0, .int .i64 0, .bool false]) ∨ (dec l i ≠ (65533, 1) ∧ getV l i = .tuple #[.int .i64 (dec l i).1, .int .i64 (i + (dec l i).2), .bool true]) := by
  by_cases hb : dec l i = (65533, 1)
  · exact .inl ⟨hb, getV_bad hb⟩
  · exact .inr ⟨hb, getV_good h rfl (fun g => hb (Prod.ext g.1 g.2))⟩
theorem textok_spec (l : List UInt8) (w : World) (hl : l.length ≤ 1099511627776) :
    Calls Tryz.prog 56 #[.string ⟨l.toArray⟩] w fun e w' => e = .returned (.bool (runes l).isSome) ∧ Below w.heap.size w w' := by
  obtain ⟨cap, w1, hcv, hR, hb1, _⟩ := conv_bytes w l
  have cg := fun a => get_spec_any w1 _ l a hR hl
  have HG := Lib.hid cg
  clear cg hR
  generalize (ByteArray.mk l.toArray) = s at *
  go_enter Tryz.func56, Tryz.ntmps56
  go_wp2
  go_loopw [4] (fun i wr => ∃ pos : Nat, i = .int .i64 pos ∧ wr = w1 ∧ pos ≤ l.length ∧ (runesAt l pos).isSome = (runes l).isSome) (fun i _ => l.length - (intOf i).toNat)
  case atStart => exact ⟨0, rfl, rfl, Nat.zero_le _, rfl⟩
  case round =>
    obtain ⟨pos, rfl, rfl, hpos, hr⟩ := hrel
    have HR := Lib.hid hr
    clear hr
    by_cases hp : pos < l.length
    · have cg := HG.out pos
      have hwd := dec_pos hp
      have HP := Lib.hid hp
      rcases getV_cases l pos hp with ⟨hb, e⟩ | ⟨hb, e⟩
      · rw [e] at cg
        have HB := Lib.hid hb
        clear hb e hwd
        go_wp2_with (go_at_call 64; refine cg.mono ?_; rintro e w' ⟨rfl, rfl⟩)
        go_ret
        exact ⟨by rw [← HR.out, runesAt_bad HP.out HB.out]; rfl, hb1⟩
      · rw [e] at cg
        have HB := Lib.hid hb
        have hg := Lib.hid (runesAt_good hp hb)
        generalize hk : (dec l pos).2 = k at *
        generalize hq : (dec l pos).1 = q at *
        have HW := Lib.hid hwd
        clear hb e hwd hk hq
        go_wp2_with (go_at_call 64; refine cg.mono ?_; rintro e w' ⟨rfl, rfl⟩)
        go_roundw
        case rel =>
          exact ⟨pos + k, by go_num, by first | rfl | trivial, HW.out.2, by rw [← HR.out, hg.out, Option.isSome_map]⟩
        case measure =>
          have := HW.out
          have := HP.out
          simp [intOf]
          omega
    · have HP := Lib.hid hp
      go_wp2
      go_ret
      exact ⟨by rw [← HR.out, runesAt_end HP.out]; rfl, hb1⟩
end Go.Proofs.YtelehfefhlgbkaaGreatDoor
/- The characters of a string: the program's and the model's answers, and that they own their memory. -/
namespace Go.Proofs.YtelehfefhlgbkaaGreatDoor
open Go.RowKit
set_option maxRecDepth 100000
theorem intInfo' : (Tryz.prog.info? 3).map (fun i => (i.zero, i.size, i.bytes)) = some (some (.int .i64 0), 1, 8) := by kernel_rfl
theorem own_ne_iter {w : World} {B E n b : Nat} {v : Value} {xs : List Value} {s : ByteArray} {p : Nat} (h : w.ownsRow B E 1 v n xs) (hb : w.heap[b]? = some (.stringIter s p)) : v.ownBlock ≠ some b := by
  intro e
  rcases h.2 with ⟨rfl, _⟩ | ⟨g, cap, cur, rfl, _, hg, _⟩
  · simp [Value.ownBlock] at e
  · simp [Value.ownBlock] at e
    subst e
    rw [hg] at hb
    cases hb
theorem own_ne_cells {w : World} {B E n b T : Nat} {v : Value} {xs : List Value} {C : Array Value} {fz : Nat × Nat} (h : w.ownsRow B E 1 v n xs) (hb : w.heap[b]? = some (.cells C T fz)) (hT : E ≠ T) : v.ownBlock ≠ some b := by
  intro e
  rcases h.2 with ⟨rfl, _⟩ | ⟨g, cap, cur, rfl, _, hg, _⟩
  · simp [Value.ownBlock] at e
  · simp [Value.ownBlock] at e
    subst e
    rw [hg] at hb
    injection hb with hb
    injection hb with _ hb _
    exact hT hb
theorem iter_only (w : World) (k : Nat) (s : ByteArray) (p : Nat) : Only k w (w.iterAt k s p) :=
  ⟨rfl, rfl, rfl, by simp [World.iterAt], fun i _ hi => by simp [World.iterAt, Array.getElem?_setIfInBounds]; intro e; exact absurd e.symm hi⟩
theorem iter_new {w : World} {k : Nat} {s s' : ByteArray} {p p' : Nat} (h : w.heap[k]? = some (.stringIter s' p')) : (w.iterAt k s p).heap[k]? = some (.stringIter s p) := by
  have hk : k < w.heap.size := (Array.getElem?_eq_some_iff.1 h).1
  simp [World.iterAt, hk]
theorem reads_block {w w' : World} {b len cap : Nat} {xs : List Value} (h : Reads w (.slice (some ⟨b, 0, none⟩) len cap) xs) (hb : w'.heap[b]? = w.heap[b]?) : Reads w' (.slice (some ⟨b, 0, none⟩) len cap) xs := by
  obtain ⟨a, c, e, hc⟩ := h
  refine ⟨a, c, e, fun j hj => ?_⟩
  obtain ⟨b', o, ha, hcl⟩ := hc j hj
  refine ⟨b', o, ha, ?_⟩
  injection e with e1 e2 e3
  rw [ha] at e1
  injection e1 with e1
  injection e1 with e1 e4
  subst e1
  rw [World.cell?_of_block (w := w) (w' := w') hb]; exact hcl
/-- what RunesOf hands on: a row of its own that holds the ints l -/
def FreshI (w : World) (l : List Int) (e : Ending) (w' : World) : Prop := ∃ v', e = .returned v' ∧ w'.ownsRow w.heap.size 3 1 v' l.length (iv l) ∧ Below w.heap.size w w'
theorem own_new0 (w : World) (E : TypeId) : (w.alloc (.cells #[] E)).ownsRow w.heap.size E 1 (.slice (some ⟨w.heap.size, 0, none⟩) 0 0) 0 [] := World.ownsRow_made w #[] 0 (Nat.le_refl _) (by decide) rfl
theorem runesof_spec_none (l : List UInt8) (w : World) (hl : l.length ≤ 1073741824) (hr : runes l = none) : Calls Tryz.prog 57 #[.string ⟨l.toArray⟩] w (FreshI w []) := by
  have ct := fun w => textok_spec l w (by omega)
  rw [hr] at ct
  have CT := Lib.hid ct
  clear ct hr
  generalize (ByteArray.mk l.toArray) = s at *
  go_enter Tryz.func57, Tryz.ntmps57
  go_wp2_with fail
  refine (CT.out _).mono ?_
  rintro e w1 ⟨rfl, b1⟩
  have ho := own_below (own_new0 w 3) b1
  have hb : Below w.heap.size w w1 := ((Below.refl w.heap.size w).alloc (Nat.le_refl _) _).trans (b1.mono (by simp))
  clear b1
  go_wp2
  go_ret
  exact ⟨_, rfl, ho, hb⟩
theorem runesof_spec_some (l : List UInt8) (rs : List Int) (w : World) (hl : l.length ≤ 1073741824) (hr : runes l = some rs) : Calls Tryz.prog 57 #[.string ⟨l.toArray⟩] w (FreshI w rs) := by
  obtain ⟨i0, hi, hz0, hz1, hz2⟩ := info_parts intInfo'
  have ct := fun w => textok_spec l w (by omega)
  have hr0 : runesAt l 0 = some rs := hr
  rw [hr] at ct
  have CT := Lib.hid ct
  have CV := Lib.hid (fun w => conv_bytes w l)
  clear ct hr
  generalize (ByteArray.mk l.toArray) = s at *
  go_enter Tryz.func57, Tryz.ntmps57
  go_wp2_with fail
  refine (CT.out _).mono ?_
  rintro e w1 ⟨rfl, b1⟩
  have ho := own_below (own_new0 w 3) b1
  have hb : Below w.heap.size w w1 := ((Below.refl w.heap.size w).alloc (Nat.le_refl _) _).trans (b1.mono (by simp))
  obtain ⟨cap, w2, hcv, hR, hb2, C, fz, hC⟩ := CV.out w1
  have HO := Lib.hid (own_below ho hb2)
  have HB := Lib.hid (hb.trans (hb2.mono hb.size))
  have HR := Lib.hid hR
  have HC := Lib.hid hC
  clear b1 ho hb hb2 hR hC
  go_wp2
  go_loopw [3, 5] (fun v i wr => ∃ (pos : Nat) (acc rest : List Int), i = .int .i64 pos ∧ wr.heap[w1.heap.size]? = w2.heap[w1.heap.size]? ∧ wr.ownsRow w.heap.size 3 1 v acc.length (iv acc) ∧ Below w.heap.size w wr ∧ pos ≤ l.length ∧ runesAt l pos = some rest ∧ acc ++ rest = rs ∧ acc.length ≤ pos) (fun _ i _ => l.length - (intOf i).toNat)
  case atStart => exact ⟨0, [], rs, rfl, rfl, HO.out, HB.out, Nat.zero_le _, hr0, rfl, Nat.le_refl _⟩
  case round =>
    obtain ⟨pos, acc, rest, rfl, hit, hown, hb, hpos, hra, hac, hal⟩ := hrel
    have HP := Lib.hid hpos
    by_cases hp : pos < l.length
    · have hwd := dec_pos hp
      have hgood : dec l pos ≠ (65533, 1) := by
        intro g
        rw [runesAt_bad hp g] at hra
        cases hra
      have cg := get_spec_any wr _ l pos (reads_block HR.out hit) (by omega)
      rw [show getV l pos = .tuple #[.int .i64 (dec l pos).1, .int .i64 (pos + (dec l pos).2), .bool true] from getV_good hp rfl (fun g => hgood (Prod.ext g.1 g.2))] at cg
      rw [runesAt_good hp hgood, Option.map_eq_some_iff] at hra
      obtain ⟨rest', hra, rfl⟩ := hra
      generalize hk : (dec l pos).2 = k at *
      generalize hq : (dec l pos).1 = q at *
      have HI := Lib.hid hit
      have HW := Lib.hid hwd
      have HRA := Lib.hid hra
      have HA := Lib.hid hac
      have HL := Lib.hid hal
      have HO2 := Lib.hid hown
      have HB2 := Lib.hid hb
      clear hgood hk hq hit hwd hra hac hal hown hb
      go_wp2_with (first | (go_at_call 64; refine cg.mono ?_; rintro e w' ⟨rfl, rfl⟩) | (at_builtin; refine wpList_append_own _ rfl _ _ 53 rfl w.heap.size 3 i0 (.int .i64 0) 1 8 Tryz.underlying53 hi hz0 hz1 hz2 rfl (by decide) _ _ _ rfl (HO2.out.alloc _) ⟨wr.heap.size, 0, none⟩ 1 1 [.int .i64 q] rfl rfl ?c1 ?c2 ?c3 ?c4 ?c5 ?_))
      case c1 =>
        intro j u hj
        match j, hj with
        | 0, hj => simp at hj; subst hj; simp [Addr.add]
        | (j + 1), hj => simp at hj
      case c2 => intro u hu; simp at hu; rcases hu with rfl; rfl
      case c3 => have := HL.out; have := HP.out; unfold maxLen; omega
      case c4 => have := HL.out; have := HP.out; omega
      case c5 => have := HB2.out.size; simp; omega
      intro v' w3 hown3 hgrow _
      have hne := own_ne_cells HO2.out (HI.out.trans HC.out) (by decide)
      have hkeep : w3.heap[w1.heap.size]? = w2.heap[w1.heap.size]? := by
        have h1 : w1.heap.size < wr.heap.size := (Array.getElem?_eq_some_iff.1 (HI.out.trans HC.out)).1
        rw [hgrow.block _ (by simp; omega) (fun e => hne e.symm)]
        exact (heap_alloc_old wr _ h1).trans HI.out
      have hb3 := below_step HB2.out HB2.out.size HO2.out hgrow
      have HK := Lib.hid hkeep
      have HB3 := Lib.hid hb3
      have HO3 := Lib.hid hown3
      clear hkeep hb3 hown3 hgrow hne
      go_wp2
      go_roundw
      case rel =>
        have hw := HW.out
        refine ⟨pos + k, acc ++ [(q : Int)], rest', by go_num, HK.out, ?_, HB3.out, hw.2, HRA.out, by rw [List.append_assoc]; exact HA.out, by have := HL.out; simp; omega⟩
        rw [List.length_append, iv_append]; exact HO3.out
      case measure =>
        have hw := HW.out
        simp [intOf]
        omega
    · rw [runesAt_end hp] at hra
      injection hra with hra
      subst hra
      rw [List.append_nil] at hac
      subst hac
      have HO2 := Lib.hid hown
      have HB2 := Lib.hid hb
      clear hown hb hit
      go_wp2
      go_ret
      exact ⟨_, rfl, HO2.out, HB2.out⟩
theorem runesof_spec (l : List UInt8) (w : World) (hl : l.length ≤ 1073741824) : Calls Tryz.prog 57 #[.string ⟨l.toArray⟩] w (FreshI w ((runes l).getD [])) := by
  cases hr : runes l with
  | none => exact runesof_spec_none l w hl hr
  | some rs => exact runesof_spec_some l rs w hl hr
end Go.Proofs.YtelehfefhlgbkaaGreatDoor
/- What the model's draws for characters return: a number, a short string, a short list of numbers. -/
namespace Go.Proofs.YtelehfefhlgbkaaGreatDoor
open Go.RowKit
set_option maxRecDepth 100000
theorem own_base_t {w : World} {B B' E n : Nat} {v : Value} {xs : List Value} (h : w.ownsRow B E 1 v n xs) (hB : B' ≤ B) : w.ownsRow B' E 1 v n xs := own_base h hB
theorem text_good (w : World) (B : Nat) (hC : Cur w B) : Calls Tryz.prog 49 #[.pointer (some ⟨B, 0, none⟩)] w (StrPost B (fun l => l.length ≤ 1000 ∧ (runes l).isSome = true) w) := by
  obtain ⟨i0, hi, hz0, hz1, hz2⟩ := info_parts intInfo'
  have hBl := hC.lt
  go_enter Tryz.func49, Tryz.ntmps49
  go_wp2_with fail
  refine (once_any w B 2 hC (by decide)).mono ?_
  rintro e w1 ⟨b, rfl, ho, hc⟩
  have hs1 := ho.size
  cases b
  · have hc' := hc.alloc (.cells #[] 3)
    have ho' := ho.alloc (.cells #[] 3)
    have hown := own_base (own_new0 w1 3) hs1
    have HO := Lib.hid ho'
    have HW := Lib.hid hown
    have hs : w1.heap.size < (w1.alloc (.cells #[] 3)).heap.size := by simp
    clear ho hc hC ho' hown
    go_wp2_with fail
    refine (below_any _ B 4 hc' (by decide)).mono ?_
    rintro e w2 ⟨x, ⟨hx0, hx1⟩, rfl, ho2, hc2⟩
    obtain ⟨x, rfl⟩ : ∃ q : Nat, x = q := ⟨x.toNat, by omega⟩
    have hown2 := own_only HW.out ho2 (by simp [Value.ownBlock]; omega)
    have hO2 := HO.out.trans ho2
    have H2 := Lib.hid hown2
    have HO2 := Lib.hid hO2
    have HC2 := Lib.hid hc2
    clear hs HO HW hc' ho2 hc2 hown2 hO2
    go_wp2
    go_loopw [3, 4] (fun v i wr => ∃ (q : Nat) (acc : List Int), i = .int .i64 q ∧ acc.length + q ≤ 4 ∧ wr.ownsRow w.heap.size 3 1 v acc.length (iv acc) ∧ Only B w wr ∧ Cur wr B) (fun _ i _ => (intOf i).toNat)
    case atStart => exact ⟨x, [], rfl, by simp; omega, H2.out, HO2.out, HC2.out⟩
    case round =>
      obtain ⟨q, acc, rfl, hq, hown, hO, hcr⟩ := hrel
      have H3 := Lib.hid hown
      have HO3 := Lib.hid hO
      have HQ := Lib.hid hq
      by_cases hq0 : (0 : Int) < q
      · have HQ0 := Lib.hid hq0
        have hq5 : (q : Int) ≤ 5 := by omega
        clear hown hO hq
        go_wp2_with fail
        refine (rune_any wr B hcr).mono ?_
        rintro e w3 ⟨y, hy, rfl, ho3, hc3⟩
        have hown3 := own_only H3.out ho3 (fun e => by have := (H3.out.lt _ e).1; omega)
        have hO3 := HO3.out.trans ho3
        have hs3 := HO3.out.size
        have hs4 := ho3.size
        have HO4 := Lib.hid hO3
        have HC3 := Lib.hid hc3
        have H4 := Lib.hid hown3
        clear hcr hown3 hO3 hc3 ho3
        go_wp2_with (at_builtin; refine wpList_append_own _ rfl _ _ 53 rfl w.heap.size 3 i0 (.int .i64 0) 1 8 Tryz.underlying53 hi hz0 hz1 hz2 rfl (by decide) _ _ _ rfl (H4.out.alloc _) ⟨w3.heap.size, 0, none⟩ 1 1 [.int .i64 y] rfl rfl ?c1 ?c2 ?c3 ?c4 ?c5 ?_)
        case c1 =>
          intro j u hj
          match j, hj with
          | 0, hj => simp at hj; subst hj; simp [Addr.add]
          | (j + 1), hj => simp at hj
        case c2 => intro u hu; simp at hu; rcases hu with rfl; rfl
        case c3 => have := HQ.out; unfold maxLen; omega
        case c4 => have := HQ.out; omega
        case c5 => simp; omega
        intro v' w4 hown4 hgrow _
        have hb4 : Below w.heap.size w3 w4 := below_step (Below.refl _ _) (HO4.out.size) H4.out hgrow
        have H5 := Lib.hid hown4
        have HO5 := Lib.hid (HO4.out.then_below hb4 (Nat.le_refl _))
        have HC5 := Lib.hid (HC3.out.below hb4 hBl)
        clear hown4 hgrow hb4
        go_wp2
        go_roundw
        case rel =>
          have := HQ.out
          have := HQ0.out
          refine ⟨q - 1, acc ++ [y], by go_num, by simp; omega, ?_, HO5.out, HC5.out⟩
          rw [List.length_append, iv_append]; exact H5.out
        case measure => have := HQ0.out; simp [intOf]; omega
      · have cf := fromrunes_spec wr _ acc (own_reads H3.out) (by omega)
        have hfl := flat_len acc
        generalize hf : flat acc = fl at *
        have HF := Lib.hid hf
        have HFL := Lib.hid hfl
        have HC3 := Lib.hid hcr
        clear hown hO hq hcr hf hfl
        go_wp2_with fail
        refine cf.mono ?_
        rintro e w3 ⟨rfl, hb⟩
        have hs3 := HO3.out.size
        have HO4 := Lib.hid (HO3.out.then_below hb hs3)
        have HC4 := Lib.hid (HC3.out.below hb (by omega))
        clear cf hb
        go_wp2
        go_ret
        exact ⟨fl, ⟨by have := HFL.out; have := HQ.out; show fl.length ≤ 1000; omega, by rw [← HF.out, runes_flat]; rfl⟩, rfl, HO4.out, HC4.out⟩
  · have hd := str_lit w1 B [[], [97], [98], [107, 101, 121], [120, 32, 121], [49], [195, 169], [34], [92]] 9 (fun l => l.length ≤ 1000 ∧ (runes l).isSome = true) hc (by decide) (by decide) (by decide +kernel)
    go_wp2_with fail
    refine hd.mono ?_
    rintro e w2 ⟨l, hx, rfl, ho2, hc2⟩
    go_wp2
    go_ret
    exact ⟨_, hx, rfl, ho.trans ho2, hc2⟩
theorem text_any (w : World) (B : Nat) (hC : Cur w B) : Calls Tryz.prog 49 #[.pointer (some ⟨B, 0, none⟩)] w (StrPost B (fun l => l.length ≤ 1000) w) :=
  (text_good w B hC).mono fun _ _ ⟨l, h, he, ho, hc⟩ => ⟨l, h.1, he, ho, hc⟩
end Go.Proofs.YtelehfefhlgbkaaGreatDoor
/- Boxes of two ints: what they read as, that they stay. -/
namespace Go.Proofs.YtelehfefhlgbkaaGreatDoor
open Go.RowKit
theorem Only.setNew {B : Nat} {w W : World} (h : Only B w W) {p : Addr} (hp : w.heap.size ≤ p.block) (u : Value) : Only B w (W.setCell p u) :=
  ⟨h.os, h.tape, h.output, by simpa [World.setCell] using h.size, fun k hk hB => (Below.heap_setCell _ _ _ _ (by omega)).trans (h.block k hk hB)⟩
theorem Cur.setNew {B : Nat} {W : World} (h : Cur W B) {p : Addr} (hp : B < p.block) (u : Value) : Cur (W.setCell p u) B :=
  h.below ((Below.refl (B + 1) W).setCell (by omega) u) (by omega)
theorem Only.frozen {B : Nat} {w w' : World} (h : Only B w w') {p : Addr} (hp : p.block ≠ B) (hlt : p.block < w.heap.size) : w'.frozen? p = w.frozen? p := World.frozen?_of_block (w := w) (h.block p.block hlt hp)
/-- A box of two ints of the caller's own: what it reads as, that it may be written. -/
def Box (W : World) (r : Nat) (n x : Int) : Prop := W.cell? ⟨r, 0, none⟩ = some (.int .i64 n) ∧ W.cell? ⟨r, 1, none⟩ = some (.int .i64 x) ∧ W.frozen? ⟨r, 0, none⟩ = false ∧ W.frozen? ⟨r, 1, none⟩ = false
theorem box_new (w : World) (n x : Int) (T : TypeId) : Box (w.alloc (.cells #[.int .i64 n, .int .i64 x] T)) w.heap.size n x :=
  ⟨by simp [go_sem], by simp [go_sem], by simp [go_sem], by simp [go_sem]⟩
theorem Box.only {w W : World} {B r : Nat} {n x : Int} (h : Box w r n x) (ho : Only B w W) (hr : r ≠ B) : Box W r n x := by
  obtain ⟨h0, h1, h2, h3⟩ := h
  have hlt := cell_lt h0
  exact ⟨ho.cell hr h0, ho.cell hr h1, (ho.frozen (p := ⟨r, 0, none⟩) hr hlt).trans h2, (ho.frozen (p := ⟨r, 1, none⟩) hr hlt).trans h3⟩
theorem Box.below {w W : World} {N r : Nat} {n x : Int} (h : Box w r n x) (hb : Below N w W) (hr : r < N) : Box W r n x := by
  obtain ⟨h0, h1, h2, h3⟩ := h
  exact ⟨(hb.cell (p := ⟨r, 0, none⟩) hr).trans h0, (hb.cell (p := ⟨r, 1, none⟩) hr).trans h1, (hb.frozen (p := ⟨r, 0, none⟩) hr).trans h2, (hb.frozen (p := ⟨r, 1, none⟩) hr).trans h3⟩
theorem two_set {W : World} {r : Nat} {n x : Int} (h : Box W r n x) (u v : Value) : ((W.setCell ⟨r, 0, none⟩ u).setCell ⟨r, 1, none⟩ v).cell? ⟨r, 0, none⟩ = some u ∧ ((W.setCell ⟨r, 0, none⟩ u).setCell ⟨r, 1, none⟩ v).cell? ⟨r, 1, none⟩ = some v := by
  obtain ⟨h0, h1, _, _⟩ := h
  have e : (W.setCell ⟨r, 0, none⟩ u).cell? ⟨r, 1, none⟩ = some (.int .i64 x) := (World.cell?_setCell_other W ⟨r, 0, none⟩ ⟨r, 1, none⟩ u (by simp)).trans h1
  exact ⟨(World.cell?_setCell_other _ ⟨r, 1, none⟩ ⟨r, 0, none⟩ v (by simp)).trans (World.cell?_setCell_same _ _ _ h0), World.cell?_setCell_same _ _ _ e⟩
theorem two_set_alloc {W : World} {r : Nat} {n x : Int} (h : Box W r n x) (u v : Value) (o : Obj) : (((W.setCell ⟨r, 0, none⟩ u).setCell ⟨r, 1, none⟩ v).alloc o).cell? ⟨r, 0, none⟩ = some u ∧ (((W.setCell ⟨r, 0, none⟩ u).setCell ⟨r, 1, none⟩ v).alloc o).cell? ⟨r, 1, none⟩ = some v := by
  obtain ⟨e0, e1⟩ := two_set h u v
  exact ⟨by rw [World.cell?_alloc_some _ _ _ (by rw [e0]; rfl)]; exact e0, by rw [World.cell?_alloc_some _ _ _ (by rw [e1]; rfl)]; exact e1⟩
theorem Box.mk {w : World} {r : Nat} {n x : Int} (h0 : w.cell? ⟨r, 0, none⟩ = some (.int .i64 n)) (h1 : w.cell? ⟨r, 1, none⟩ = some (.int .i64 x)) (h2 : w.frozen? ⟨r, 0, none⟩ = false) (h3 : w.frozen? ⟨r, 1, none⟩ = false) : Box w r n x := ⟨h0, h1, h2, h3⟩
theorem Box.drew {w : World} {r : Nat} {n x : Int} (h : Box w r n x) : Box w.drew r n x := h
theorem Cur.drew {w : World} {B : Nat} (h : Cur w B) : Cur w.drew B := h
theorem far_set {W : World} {p : Addr} {q : Nat} {n x : Int} (h : Box W q n x) (hp : p.block ≠ q) (u : Value) : (W.setCell p u).cell? ⟨q, 0, none⟩ = W.cell? ⟨q, 0, none⟩ ∧ (W.setCell p u).cell? ⟨q, 1, none⟩ = W.cell? ⟨q, 1, none⟩ :=
  ⟨World.cell?_setCell_other _ _ _ _ (fun e => hp (by rw [e])), World.cell?_setCell_other _ _ _ _ (fun e => hp (by rw [e]))⟩
theorem two_cells {W : World} {r : Nat} {a b : Value} (h0 : W.cell? ⟨r, 0, none⟩ = some a) (h1 : W.cell? ⟨r, 1, none⟩ = some b) (u v : Value) : ((W.setCell ⟨r, 0, none⟩ u).setCell ⟨r, 1, none⟩ v).cell? ⟨r, 0, none⟩ = some u ∧ ((W.setCell ⟨r, 0, none⟩ u).setCell ⟨r, 1, none⟩ v).cell? ⟨r, 1, none⟩ = some v := by
  have e : (W.setCell ⟨r, 0, none⟩ u).cell? ⟨r, 1, none⟩ = some b := (World.cell?_setCell_other W ⟨r, 0, none⟩ ⟨r, 1, none⟩ u (by simp)).trans h1
  exact ⟨(World.cell?_setCell_other _ ⟨r, 1, none⟩ ⟨r, 0, none⟩ v (by simp)).trans (World.cell?_setCell_same _ _ _ h0), World.cell?_setCell_same _ _ _ e⟩
theorem far_cell (W : World) {p q : Addr} (hp : p.block ≠ q.block) (u : Value) : (W.setCell p u).cell? q = W.cell? q := World.cell?_setCell_other _ _ _ _ (fun e => hp (by rw [e]))
theorem four_set {W : World} {r q : Nat} {n x m y : Int} (hr : Box W r n x) (hq : Box W q m y) (hne : r ≠ q) (a b c d : Value) :
    ((((W.setCell ⟨r, 0, none⟩ a).setCell ⟨r, 1, none⟩ b).setCell ⟨q, 0, none⟩ c).setCell ⟨q, 1, none⟩ d).cell? ⟨r, 0, none⟩ = some a ∧ ((((W.setCell ⟨r, 0, none⟩ a).setCell ⟨r, 1, none⟩ b).setCell ⟨q, 0, none⟩ c).setCell ⟨q, 1, none⟩ d).cell? ⟨r, 1, none⟩ = some b ∧
      ((((W.setCell ⟨r, 0, none⟩ a).setCell ⟨r, 1, none⟩ b).setCell ⟨q, 0, none⟩ c).setCell ⟨q, 1, none⟩ d).cell? ⟨q, 0, none⟩ = some c ∧ ((((W.setCell ⟨r, 0, none⟩ a).setCell ⟨r, 1, none⟩ b).setCell ⟨q, 0, none⟩ c).setCell ⟨q, 1, none⟩ d).cell? ⟨q, 1, none⟩ = some d := by
  obtain ⟨e0, e1⟩ := two_cells hr.1 hr.2.1 a b
  have f0 : ((W.setCell ⟨r, 0, none⟩ a).setCell ⟨r, 1, none⟩ b).cell? ⟨q, 0, none⟩ = some (.int .i64 m) := by rw [far_cell _ hne, far_cell _ hne]; exact hq.1
  have f1 : ((W.setCell ⟨r, 0, none⟩ a).setCell ⟨r, 1, none⟩ b).cell? ⟨q, 1, none⟩ = some (.int .i64 y) := by rw [far_cell _ hne, far_cell _ hne]; exact hq.2.1
  obtain ⟨g0, g1⟩ := two_cells f0 f1 c d
  exact ⟨by rw [far_cell _ hne.symm, far_cell _ hne.symm]; exact e0, by rw [far_cell _ hne.symm, far_cell _ hne.symm]; exact e1, g0, g1⟩
theorem four_below {N : Nat} {w W : World} (h : Below N w W) {p q r s : Addr} (hp : N ≤ p.block) (hq : N ≤ q.block) (hr : N ≤ r.block) (hs : N ≤ s.block) (a b c d : Value) : Below N w ((((W.setCell p a).setCell q b).setCell r c).setCell s d) :=
  (((h.setCell hp a).setCell hq b).setCell hr c).setCell hs d
end Go.Proofs.YtelehfefhlgbkaaGreatDoor
/- What Digits of the program and Digits of the model return: the number of decimal digits, for every integer. -/
namespace Go.Proofs.YtelehfefhlgbkaaGreatDoor
open Go.RowKit
def digN (n : Nat) : Nat := if n = 0 then 0 else digN (n / 10) + 1
termination_by n
decreasing_by omega
theorem digN_zero : digN 0 = 0 := by rw [digN]; rfl
theorem digN_step (n : Nat) (h : n ≠ 0) : digN n = digN (n / 10) + 1 := by rw [digN, if_neg h]
theorem digN_le (n : Nat) : digN n ≤ n := by
  induction n using Nat.strongRecOn with
  | _ n ih =>
    by_cases h : n = 0
    · subst h; rw [digN_zero]; exact Nat.le_refl _
    · rw [digN_step n h]; have := ih (n / 10) (by omega); omega
def digV (n : Int) : Nat := 1 + digN (n.natAbs / 10)
theorem tdiv10 (x : Int) : (x.tdiv 10).natAbs = x.natAbs / 10 := by rw [Int.natAbs_tdiv]; rfl

theorem digits_spec (n : Int) (w : World) (h0 : -9223372036854775808 ≤ n) (h1 : n ≤ 9223372036854775807) : Calls Tryz.prog 89 #[.int .i64 n] w fun e w' => e = .returned (.int .i64 (digV n)) ∧ w = w' := by
  have t0 := tdiv10 n
  have t1 : -1000000000000000000 ≤ n.tdiv 10 := by omega
  have t2 : n.tdiv 10 ≤ 1000000000000000000 := by omega
  have hd := digN_le (n.natAbs / 10)
  have HD : Hid (digN (n.natAbs / 10) ≤ 1000000000000000000) := by show digN _ ≤ _; omega
  have T0 := Lib.hid t0
  unfold digV
  clear t0 hd
  clear h0 h1
  go_enter Tryz.func89, Tryz.ntmps89
  go_wp2
  go_loop [3, 4] (fun k x => ∃ (x' : Int) (k' : Nat), x = .int .i64 x' ∧ k = .int .i64 k' ∧ k' + digN x'.natAbs = 1 + digN (n.natAbs / 10) ∧ -1000000000000000000 ≤ x' ∧ x' ≤ 1000000000000000000) (fun _ x => (intOf x).natAbs)
  case atStart => exact ⟨_, 1, rfl, rfl, by rw [T0.out], t1, t2⟩
  case round =>
    obtain ⟨x', k', rfl, rfl, hk, b1, b2⟩ := hrel
    by_cases hz : x' = 0
    · subst hz
      go_wp2
      go_ret
      rw [show (0 : Int).natAbs = 0 from rfl, digN_zero] at hk
      exact ⟨ret_int (by omega), rfl⟩
    · have hs := digN_step x'.natAbs (by omega)
      have hb : (k' : Int) ≤ 2000000000000000000 := by have := HD.out; omega
      have hn : (x' != 0) = true := by simpa using hz
      have u0 := tdiv10 x'
      have u1 : -1000000000000000000 ≤ x'.tdiv 10 := by omega
      have u2 : x'.tdiv 10 ≤ 1000000000000000000 := by omega
      have u3 : (x'.tdiv 10).natAbs < x'.natAbs := by omega
      have HK := Lib.hid hk
      have HS := Lib.hid hs
      have U0 := Lib.hid u0
      clear hk hs u0
      go_wp2
      go_round
      case rel => exact ⟨_, k' + 1, rfl, by go_num, by rw [U0.out]; have := HK.out; have := HS.out; omega, u1, u2⟩
      case measure => exact u3
end Go.Proofs.YtelehfefhlgbkaaGreatDoor
