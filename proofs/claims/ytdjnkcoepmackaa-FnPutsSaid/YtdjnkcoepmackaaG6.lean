import Derived.Test.YtdjnkcoepmackaaG4
import Derived.Test.YtdjnkcoepmackaaG5
import Derived.Laws.BytesArg
import Derived.Test.YtdjnkcoepmackaaG0
import Derived.Laws.RangeString
import Derived.Laws.RangeAny
import Derived.Lib.OthersKept
import Derived.Laws.IdiomStrings
import Derived.Lib.Hide
import Derived.WalkKit
import Derived.ProofKit
/- The string of given characters: the program's and the model's answers. -/
namespace Go.Proofs.Ytdjnkcoepmackaa
open Go.RowKit
set_option maxRecDepth 100000
theorem flat_nil : flat [] = [] := rfl
theorem flat_append (a b : List Int) : flat (a ++ b) = flat a ++ flat b := by simp [flat]
theorem flat_one (n : Int) : flat [n] = encR n := by simp [flat]
theorem flat_len (l : List Int) : (flat l).length ≤ 4 * l.length := by
  induction l with
  | nil => exact Nat.zero_le _
  | cons n l ih =>
    have : flat (n :: l) = encR n ++ flat l := rfl
    rw [this, List.length_append, encR_len, List.length_cons]
    have : wideR n ≤ 4 := by rcases wideR_cases n with h | h | h | h | h <;> omega
    omega
theorem flat_take (l : List Int) (i : Nat) (h : i < l.length) : flat (l.take (i + 1)) = flat (l.take i) ++ encR l[i] := by
  rw [List.take_succ_eq_append_getElem h, flat_append, flat_one]
theorem fromrunes_spec (w : World) (v : Value) (l : List Int) (h : Reads w v (iv l)) (hl : l.length ≤ 1073741824) :
    Calls Try.prog 174 #[v] w fun e w' => e = .returned (.string ⟨(flat l).toArray⟩) ∧ Below w.heap.size w w' := by
  obtain ⟨a, cap, rfl, hc⟩ := reads_int h
  have HC := Lib.hid hc
  clear hc h
  go_enter Try.func174, Try.ntmps174
  go_wp2
  go_loopw [3, 4] (fun b i wr => ∃ (i' : Nat) (g c : Nat), i = .int .i64 i' ∧ i' ≤ l.length ∧ b = .slice (some ⟨g, 0, none⟩) (flat (l.take i')).length c ∧ wr.ownsRow w.heap.size 5 1 b (flat (l.take i')).length (bv (flat (l.take i'))) ∧ Below w.heap.size w wr) (fun _ i _ => l.length - (intOf i).toNat)
  case atStart => exact ⟨0, w.heap.size, 0, rfl, Nat.zero_le _, rfl, World.ownsRow_made w #[] 0 (Nat.le_refl _) (by decide) rfl, (Below.refl w.heap.size w).alloc (Nat.le_refl _) _⟩
  case round =>
    obtain ⟨i', g, c, rfl, hi', rfl, hown, hb⟩ := hrel
    have HO := Lib.hid hown
    have HB := Lib.hid hb
    by_cases hlt : i' < l.length
    · obtain ⟨b', o, rfl, hcl⟩ := HC.out i' hlt
      have hcl' : wr.cell? ⟨b', o + i', none⟩ = some (.int .i64 l[i']) := by rw [hb.cell (p := ⟨b', o + i', none⟩) (cell_lt hcl)]; exact hcl
      have hfl := flat_len (l.take i')
      rw [List.length_take] at hfl
      have ca := put_spec wr g 0 c (flat (l.take i')) l[i'] (fun j u hu => by rw [Nat.zero_add, hown.cellAt j (by have := (List.getElem?_eq_some_iff.1 hu).1; simpa using this)]; exact hu) (by omega)
      rw [← flat_take l i' hlt] at ca
      have HT := Lib.hid hlt
      generalize hq : l[i'] = q at *
      clear hq hcl hown hb hfl
      go_wp2_with (go_at_call 191; refine ca.mono ?_; rintro e w' ⟨v', rfl, hv, hown, hb⟩)
      obtain ⟨g', c', hv', _⟩ : ∃ g' c', v' = .slice (some ⟨g', 0, none⟩) (flat (l.take (i' + 1))).length c' ∧ True := by
        rcases hown.2 with ⟨h, _⟩ | ⟨g', cap', cur, h, _⟩
        · exact absurd h hv
        · exact ⟨g', cap', h, trivial⟩
      clear hv
      go_roundw
      case rel => exact ⟨i' + 1, g', c', by go_num, HT.out, hv', own_base hown (HB.out.size), HB.out.trans (hb.mono HB.out.size)⟩
      case measure => have := HT.out; simp [intOf]; omega
    · obtain rfl : i' = l.length := by omega
      have hcv := conv_str wr _ _ (own_slc hown)
      rw [List.take_of_length_le (Nat.le_refl _)] at hcv
      generalize hs : (ByteArray.mk (flat l).toArray) = s at hcv
      have HS := Lib.hid hs
      clear hown hb HO hs
      go_wp2
      go_ret
      exact ⟨by rw [HS.out]; rfl, HB.out⟩
end Go.Proofs.Ytdjnkcoepmackaa
/- The character at a place of given bytes: the model's GetRune, for every place and all bytes. -/
namespace Go.Proofs.Ytdjnkcoepmackaa
open Go.RowKit
theorem reads_at {w : World} {v : Value} {l : List UInt8} {i : Nat} (h : Reads w v (bv l)) (hi : i < l.length) : ∃ b o cap, v = .slice (some ⟨b, o, none⟩) l.length cap ∧ ∀ j, j < l.length → w.cell? ⟨b, o + j, none⟩ = some (.int .u8 (byteN l j)) := by
  obtain ⟨a, cap, rfl, hc⟩ := reads_byte h
  obtain ⟨b, o, rfl, _⟩ := hc i hi
  refine ⟨b, o, cap, rfl, fun j hj => ?_⟩
  obtain ⟨b', o', he, hcl⟩ := hc j hj
  simp only [Option.some.injEq, Addr.mk.injEq, and_true] at he
  obtain ⟨rfl, rfl⟩ := he
  rw [byteN_at l j hj]; exact hcl
theorem tup_eq {a b c d : Int} (h : a = b) (k : c = d) : Value.tuple #[.int .i64 a, .int .i64 c, .bool true] = .tuple #[.int .i64 b, .int .i64 d, .bool true] := by rw [h, k]
theorem get_spec_low (w : World) (v : Value) (l : List UInt8) (a : Int) (h : Reads w v (bv l)) (ha : a < 0) :
    Calls Try.prog 157 #[v, .int .i64 a] w fun e w' => e = .returned (getV l a) ∧ w = w' := by
  obtain ⟨_, cap, rfl, hc⟩ := reads_byte h
  clear hc h
  have hb := Lib.hid (getV_out (l := l) (a := a) (by omega))
  go_enter Try.func157, Try.ntmps157
  go_wp2
  go_ret3
  exact ⟨ret_bad hb.out, rfl⟩
theorem get_spec_high (w : World) (v : Value) (l : List UInt8) (a : Int) (h : Reads w v (bv l)) (ha : 0 ≤ a) (hl : (l.length : Int) ≤ a) :
    Calls Try.prog 157 #[v, .int .i64 a] w fun e w' => e = .returned (getV l a) ∧ w = w' := by
  obtain ⟨_, cap, rfl, hc⟩ := reads_byte h
  clear hc h
  have hb := Lib.hid (getV_out (l := l) (a := a) (by omega))
  have ha' : ¬ a < 0 := by omega
  go_enter Try.func157, Try.ntmps157
  go_wp2
  go_ret3
  exact ⟨ret_bad hb.out, rfl⟩
theorem get_spec_one (w : World) (b o len cap at_ : Nat) (x : Int) (hat : at_ < len) (hlen : len ≤ 1099511627776) (hx : w.cell? ⟨b, o + at_, none⟩ = some (.int .u8 x)) (hx0 : 0 ≤ x) (hx1 : x < 128) :
    Calls Try.prog 157 #[.slice (some ⟨b, o, none⟩) len cap, .int .i64 at_] w fun e w' => e = .returned (.tuple #[.int .i64 x, .int .i64 (at_ + 1), .bool true]) ∧ w = w' := by
  have cw := wide_spec x w
  rw [wideR_one hx0 hx1] at cw
  have ca : ¬ ((at_ : Int) < 0) := by omega
  have cl : ¬ ((len : Int) ≤ (at_ : Int)) := by omega
  have ca2 : (at_ : Int) ≤ 1099511627776 := by omega
  have cb : (len : Int) ≤ 1099511627776 := by omega
  have hs : ¬ ((len : Int) - at_ < 1) := by omega
  go_enter Try.func157, Try.ntmps157
  go_wp2
  go_loop [9, 10] (fun n i => i = .int .i64 1 ∧ n = .int .i64 x) (fun _ i => 0)
  case atStart => exact ⟨rfl, rfl⟩
  case round =>
    obtain ⟨rfl, rfl⟩ := hrel
    go_wp2_with (go_at_call 183; refine cw.mono ?_; rintro e w' ⟨rfl, rfl⟩)
    go_ret3
    exact ⟨rfl, rfl⟩
theorem get_spec_none (w : World) (b o len cap at_ : Nat) (x : Int) (hat : at_ < len) (hlen : len ≤ 1099511627776) (hx : w.cell? ⟨b, o + at_, none⟩ = some (.int .u8 x)) (hx0 : (128 ≤ x ∧ x < 192) ∨ 248 ≤ x) (hx1 : x ≤ 255) :
    Calls Try.prog 157 #[.slice (some ⟨b, o, none⟩) len cap, .int .i64 at_] w fun e w' => e = .returned badG ∧ w = w' := by
  have i1 := in_no x 192 223 w (by omega)
  have i2 := in_no x 224 239 w (by omega)
  have i3 := in_no x 240 247 w (by omega)
  have ca : ¬ ((at_ : Int) < 0) := by omega
  have cl : ¬ ((len : Int) ≤ (at_ : Int)) := by omega
  have c128 : ¬ x < 128 := by omega
  clear hx0
  go_enter Try.func157, Try.ntmps157
  go_wp2_with (go_at_call 114; (first | (with_reducible refine i1.mono ?_) | (with_reducible refine i2.mono ?_) | (with_reducible refine i3.mono ?_)); rintro e w' ⟨rfl, rfl⟩)
  go_ret3
  exact ⟨ret_bad rfl, rfl⟩
theorem get_spec_any (w : World) (v : Value) (l : List UInt8) (a : Int) (h : Reads w v (bv l)) (hl : l.length ≤ 1099511627776) :
    Calls Try.prog 157 #[v, .int .i64 a] w fun e w' => e = .returned (getV l a) ∧ w = w' := by
  by_cases h0 : a < 0
  · exact get_spec_low w v l a h h0
  by_cases h1 : (l.length : Int) ≤ a
  · exact get_spec_high w v l a h (by omega) h1
  obtain ⟨i, rfl⟩ : ∃ i : Nat, a = i := ⟨a.toNat, by omega⟩
  have hi : i < l.length := by omega
  obtain ⟨b, o, cap, rfl, hc⟩ := reads_at h hi
  have hd := dec_eq l i
  have b0 := byteN_lt l i
  have b1 := byteN_lt l (i + 1)
  have b2 := byteN_lt l (i + 2)
  have b3 := byteN_lt l (i + 3)
  have hy : ∀ j : Nat, i + j < l.length → w.cell? ⟨b, o + (i + j), none⟩ = some (.int .u8 (((fun j => (byteN l (i + j) : Int)) : Nat → Int) j)) ∧ 0 ≤ (((fun j => (byteN l (i + j) : Int)) : Nat → Int) j) ∧ (((fun j => (byteN l (i + j) : Int)) : Nat → Int) j) ≤ 255 := by
    intro j hj
    have := byteN_lt l (i + j)
    exact ⟨hc (i + j) hj, by show (0 : Int) ≤ (byteN l (i + j) : Int); omega, by show (byteN l (i + j) : Int) ≤ 255; omega⟩
  have hx := hc i hi
  by_cases c1 : byteN l i < 128
  · rw [decN_one c1] at hd
    rw [getV_good hi hd (by omega)]
    exact get_spec_one w b o _ cap i _ hi hl hx (by omega) (by omega)
  by_cases c2 : byteN l i < 192 ∨ 248 ≤ byteN l i
  · rw [decN_bad (by omega) b0] at hd
    rw [getV_bad hd]
    exact get_spec_none w b o _ cap i _ hi hl hx (by omega) (by omega)
  by_cases c3 : byteN l i ≤ 223
  · refine get_spec_2 w b o _ cap i _ _ (getV l i) hi hl hx (by omega) (by omega) (fun j _ _ => hy j) ?_ ?_ ?_
    all_goals rcases decN_two (n := l.length - i) (b2 := byteN l (i + 2)) (b3 := byteN l (i + 3)) (show 192 ≤ byteN l i ∧ byteN l i ≤ 223 by omega) b1 with ⟨g1, g2, g3, g4, g5⟩ | ⟨g1, g5⟩
    · intro hs; omega
    · intro hs; exact getV_bad (hd.trans g5)
    · intro hs j j1 j2 hb
      obtain rfl : j = 1 := by omega
      exact absurd (show 128 ≤ (byteN l (i + 1) : Int) ∧ (byteN l (i + 1) : Int) ≤ 191 by omega) hb
    · intro hs j j1 j2 hb
      exact getV_bad (hd.trans g5)
    · intro hs ho
      simp only [accB]
      refine ⟨fun hw => ?_, fun hw => ?_⟩
      · rw [getV_good hi (hd.trans g5) (by omega)]
        exact tup_eq (by first | omega | (simp only [Nat.zero_add, Nat.reduceAdd]; omega)) (by omega)
      · exact absurd (wide2.2 (by simp only [Nat.zero_add]; omega)) hw
    · intro hs ho
      have h1 : 128 ≤ (byteN l (i + 1) : Int) ∧ (byteN l (i + 1) : Int) ≤ 191 := ho 1 (by omega) (by omega)
      refine ⟨fun hw => ?_, fun hw => getV_bad (hd.trans g5)⟩
      have hw := wide2.1 hw
      simp only [accB, Nat.zero_add] at hw
      omega
  by_cases c4 : byteN l i ≤ 239
  · refine get_spec_3 w b o _ cap i _ _ (getV l i) hi hl hx (by omega) (by omega) (fun j _ _ => hy j) ?_ ?_ ?_
    all_goals rcases decN_three (n := l.length - i) (b3 := byteN l (i + 3)) (show 224 ≤ byteN l i ∧ byteN l i ≤ 239 by omega) b1 b2 with ⟨g1, g2, g3, g4, g6, g7, g5⟩ | ⟨g1, g5⟩
    · intro hs; omega
    · intro hs; exact getV_bad (hd.trans g5)
    · intro hs j j1 j2 hb
      have : j = 1 ∨ j = 2 := by omega
      rcases this with rfl | rfl
      · exact absurd (show 128 ≤ (byteN l (i + 1) : Int) ∧ (byteN l (i + 1) : Int) ≤ 191 by omega) hb
      · exact absurd (show 128 ≤ (byteN l (i + 2) : Int) ∧ (byteN l (i + 2) : Int) ≤ 191 by omega) hb
    · intro hs j j1 j2 hb
      exact getV_bad (hd.trans g5)
    · intro hs ho
      simp only [accB]
      refine ⟨fun hw => ?_, fun hw => ?_⟩
      · rw [getV_good hi (hd.trans g5) (by omega)]
        exact tup_eq (by first | omega | (simp only [Nat.zero_add, Nat.reduceAdd]; omega)) (by omega)
      · exact absurd (wide3.2 (by simp only [Nat.zero_add, Nat.reduceAdd]; omega)) hw
    · intro hs ho
      have h1 : 128 ≤ (byteN l (i + 1) : Int) ∧ (byteN l (i + 1) : Int) ≤ 191 := ho 1 (by omega) (by omega)
      have h2 : 128 ≤ (byteN l (i + 2) : Int) ∧ (byteN l (i + 2) : Int) ≤ 191 := ho 2 (by omega) (by omega)
      refine ⟨fun hw => ?_, fun hw => getV_bad (hd.trans g5)⟩
      have hw := wide3.1 hw
      simp only [accB, Nat.zero_add, Nat.reduceAdd] at hw
      omega
  · refine get_spec_4 w b o _ cap i _ _ (getV l i) hi hl hx (by omega) (by omega) (fun j _ _ => hy j) ?_ ?_ ?_
    all_goals rcases decN_four (n := l.length - i) (show 240 ≤ byteN l i ∧ byteN l i ≤ 247 by omega) b1 b2 b3 with ⟨g1, g2, g3, g4, g6, g7, g8, g9, g5⟩ | ⟨g1, g5⟩
    · intro hs; omega
    · intro hs; exact getV_bad (hd.trans g5)
    · intro hs j j1 j2 hb
      have : j = 1 ∨ j = 2 ∨ j = 3 := by omega
      rcases this with rfl | rfl | rfl
      · exact absurd (show 128 ≤ (byteN l (i + 1) : Int) ∧ (byteN l (i + 1) : Int) ≤ 191 by omega) hb
      · exact absurd (show 128 ≤ (byteN l (i + 2) : Int) ∧ (byteN l (i + 2) : Int) ≤ 191 by omega) hb
      · exact absurd (show 128 ≤ (byteN l (i + 3) : Int) ∧ (byteN l (i + 3) : Int) ≤ 191 by omega) hb
    · intro hs j j1 j2 hb
      exact getV_bad (hd.trans g5)
    · intro hs ho
      simp only [accB]
      refine ⟨fun hw => ?_, fun hw => ?_⟩
      · rw [getV_good hi (hd.trans g5) (by omega)]
        exact tup_eq (by first | omega | (simp only [Nat.zero_add, Nat.reduceAdd]; omega)) (by omega)
      · exact absurd (wide4.2 (by simp only [Nat.zero_add, Nat.reduceAdd]; omega)) hw
    · intro hs ho
      have h1 : 128 ≤ (byteN l (i + 1) : Int) ∧ (byteN l (i + 1) : Int) ≤ 191 := ho 1 (by omega) (by omega)
      have h2 : 128 ≤ (byteN l (i + 2) : Int) ∧ (byteN l (i + 2) : Int) ≤ 191 := ho 2 (by omega) (by omega)
      have h3 : 128 ≤ (byteN l (i + 3) : Int) ∧ (byteN l (i + 3) : Int) ≤ 191 := ho 3 (by omega) (by omega)
      refine ⟨fun hw => ?_, fun hw => getV_bad (hd.trans g5)⟩
      have hw := wide4.1 hw
      simp only [accB, Nat.zero_add, Nat.reduceAdd] at hw
      omega
end Go.Proofs.Ytdjnkcoepmackaa
/- Whether a string is characters throughout: the program's and the model's answers, for every string. -/
namespace Go.Proofs.Ytdjnkcoepmackaa
open Go.RowKit
theorem data_l (l : List UInt8) (i j : Nat) (h : l.length ≤ j) : ((ByteArray.mk l.toArray).extract i j).data.toList = l.drop i := by
  simp
  rw [List.take_of_length_le (by simp; omega)]
theorem pre_bad {l : List UInt8} {i : Nat} (h : i < l.length) (hb : dec l i = (65533, 1)) : Lib.hasPrefix (l.drop i) [239, 191, 189] = false := by
  cases hp : Lib.hasPrefix (l.drop i) [239, 191, 189] with
  | false => rfl
  | true =>
    obtain ⟨t, ht⟩ := List.isPrefixOf_iff_prefix.1 hp
    rw [dec_drop, ← ht, show ([239, 191, 189] : List UInt8) = encR ((65533 : Nat) : Int) from rfl, decode_enc 65533 t (okR_mk (by omega)), Prod.mk.injEq] at hb
    have := wideR_three (n := ((65533 : Nat) : Int)) (by omega) (by omega) (by omega)
    omega
theorem pre_good {l : List UInt8} {i : Nat} (h : i < l.length) (h1 : (dec l i).1 = 65533) (hb : dec l i ≠ (65533, 1)) : Lib.hasPrefix (l.drop i) [239, 191, 189] = true := by
  rw [dec_drop] at h1 hb
  have hne : l.drop i ≠ [] := by intro e; have := congrArg List.length e; simp at this; omega
  have he := Lib.encode_decode (l.drop i) hne (fun g => hb (Prod.ext g.1 g.2))
  rw [h1] at he
  refine List.isPrefixOf_iff_prefix.2 ?_
  have : ([239, 191, 189] : List UInt8) = List.take (Lib.decodeL (l.drop i)).2 (l.drop i) := by rw [← he]; rfl
  rw [this]
  exact List.take_prefix _ _
theorem textok_impl (l : List UInt8) (w : World) (hl : l.length ≤ 1099511627776) :
    Calls Try.prog 146 #[.string ⟨l.toArray⟩] w fun e w' => e = .returned (.bool (runes l).isSome) ∧ Below w.heap.size w w' := by
  have hp : ∀ (i : Nat) (v : Bool), Lib.hasPrefix (l.drop i) [239, 191, 189] = v → ∀ w, Calls Try.prog 180 #[.string ((ByteArray.mk l.toArray).extract i l.length), .string ⟨#[239, 191, 189]⟩] w fun e w' => e = .returned (.bool v) ∧ w' = w := by
    intro i v hv w
    have := Try.strings_HasPrefix ((ByteArray.mk l.toArray).extract i l.length) ⟨#[239, 191, 189]⟩ w
    rw [data_l _ _ _ (by omega), show (ByteArray.mk #[239, 191, 189]).data.toList = [239, 191, 189] from rfl, hv] at this
    exact this
  have HP := Lib.hid hp
  have hsz := size_l l
  have hszz : ((ByteArray.mk l.toArray).size : Int) = l.length := by rw [hsz]
  clear hp
  generalize hs : (ByteArray.mk l.toArray) = s at *
  have HS := Lib.hid hs
  clear hs
  go_enter Try.func146, Try.ntmps146
  go_wp2
  go_loopw [] (fun wr => ∃ pos : Nat, wr = w.iter s pos ∧ pos ≤ l.length ∧ (runesAt l pos).isSome = (runes l).isSome) (fun wr => l.length - wr.iterPos w.heap.size)
  case atStart => exact ⟨0, rfl, Nat.zero_le _, rfl⟩
  case round =>
    obtain ⟨pos, rfl, hpos, hr⟩ := hrel
    have hd : Utf8.decode s pos = dec l pos := by rw [← HS.out]; rfl
    by_cases hp : pos < l.length
    · have hpz : pos < s.size := by omega
      have hnx : ∀ ty, (Instr.next (.pointer (some ⟨w.heap.size, 0, none⟩)) true ty).run Try.prog (w.iter s pos) = _ := fun ty => run_next_any w s pos ty hpz
      rw [hd] at hnx
      have hwd := dec_pos hp
      have hle : (dec l pos).1 ≤ 2147483647 := by rw [← hd]; exact decode_le s pos
      by_cases h1 : (dec l pos).1 = 65533
      · by_cases hb : dec l pos = (65533, 1)
        · have hq := HP.out pos false (pre_bad hp hb)
          have hR := Lib.hid (runesAt_bad hp hb)
          rw [hb] at hnx
          have h1' : ((65533 : Int) == 65533) = true := by decide
          clear hb h1 hwd hle hd
          rw [hR.out] at hr
          have HR := Lib.hid hr
          clear hr
          go_wp2_with (go_at_call 180; refine (hq _).mono ?_; rintro e w' ⟨rfl, rfl⟩)
          go_ret
          exact ⟨by rw [← HR.out]; rfl, (Below.refl w.heap.size w).alloc (Nat.le_refl _) _⟩
        · have hq := HP.out pos true (pre_good hp h1 hb)
          have hR := Lib.hid (runesAt_good hp hb)
          have HD := Lib.hid h1
          generalize hk : (dec l pos).2 = k at *
          have HW := Lib.hid hwd
          have HR := Lib.hid hr
          rw [h1] at hnx
          clear hb h1 hle hd hwd hk hr
          go_wp2_with (go_at_call 180; refine (hq _).mono ?_; rintro e w' ⟨rfl, rfl⟩)
          go_roundw
          case rel =>
            refine ⟨pos + k, rfl, by have := HW.out; omega, ?_⟩
            rw [← HR.out, hR.out, Option.isSome_map]
          case measure =>
            have := HW.out
            simp
            omega
      · have hb : dec l pos ≠ (65533, 1) := fun g => h1 (by rw [g])
        have hR := Lib.hid (runesAt_good hp hb)
        have h1' : (((dec l pos).1 : Int) == 65533) = false := by simp; omega
        generalize hk : (dec l pos).2 = k at *
        generalize hr0 : (dec l pos).1 = r at *
        have HW := Lib.hid hwd
        have HR := Lib.hid hr
        clear hb h1 hle hd hwd hk hr hr0
        go_wp2
        go_roundw
        case rel =>
          refine ⟨pos + k, rfl, by have := HW.out; omega, ?_⟩
          rw [← HR.out, hR.out, Option.isSome_map]
        case measure =>
          have := HW.out
          simp
          omega
    · have hpz : ¬ pos < s.size := by omega
      have hnx : ∀ ty, (Instr.next (.pointer (some ⟨w.heap.size, 0, none⟩)) true ty).run Try.prog (w.iter s pos) = _ := fun ty => run_next_end w s pos ty hpz
      rw [runesAt_end hp] at hr
      have HR := Lib.hid hr
      clear hr hd
      go_wp2
      go_ret
      exact ⟨by rw [← HR.out]; rfl, (Below.refl w.heap.size w).alloc (Nat.le_refl _) _⟩
theorem getV_cases (l : List UInt8) (i : Nat) (h : i < l.length) : (dec l i = (65533, 1) ∧ getV l i = .tuple #[.int .i64 0, .int .i64 0, .bool false]) ∨ (dec l i ≠ (65533, 1) ∧ getV l i = .tuple #[.int .i64 (dec l i).1, .int .i64 (i + (dec l i).2), .bool true]) := by
  by_cases hb : dec l i = (65533, 1)
  · exact .inl ⟨hb, getV_bad hb⟩
  · exact .inr ⟨hb, getV_good h rfl (fun g => hb (Prod.ext g.1 g.2))⟩
theorem textok_spec (l : List UInt8) (w : World) (hl : l.length ≤ 1099511627776) :
    Calls Try.prog 117 #[.string ⟨l.toArray⟩] w fun e w' => e = .returned (.bool (runes l).isSome) ∧ Below w.heap.size w w' := by
  obtain ⟨cap, w1, hcv, hR, hb1, _⟩ := conv_bytes w l
  have cg := fun a => get_spec_any w1 _ l a hR hl
  have HG := Lib.hid cg
  clear cg hR
  generalize (ByteArray.mk l.toArray) = s at *
  go_enter Try.func117, Try.ntmps117
  go_wp2
  go_loopw [4] (fun i wr => ∃ pos : Nat, i = .int .i64 pos ∧ wr = w1 ∧ pos ≤ l.length ∧ (runesAt l pos).isSome = (runes l).isSome) (fun i _ => l.length - (intOf i).toNat)
  case atStart => exact ⟨0, rfl, rfl, Nat.zero_le _, rfl⟩
  case round =>
    obtain ⟨pos, rfl, rfl, hpos, hr⟩ := hrel
    have HR := Lib.hid hr
    clear hr
    by_cases hp : pos < l.length
    · have cg := HG.out pos
      have hwd := dec_pos hp
      have HP := Lib.hid hp
      rcases getV_cases l pos hp with ⟨hb, e⟩ | ⟨hb, e⟩
      · rw [e] at cg
        have HB := Lib.hid hb
        clear hb e hwd
        go_wp2_with (go_at_call 157; refine cg.mono ?_; rintro e w' ⟨rfl, rfl⟩)
        go_ret
        exact ⟨by rw [← HR.out, runesAt_bad HP.out HB.out]; rfl, hb1⟩
      · rw [e] at cg
        have HB := Lib.hid hb
        have hg := Lib.hid (runesAt_good hp hb)
        generalize hk : (dec l pos).2 = k at *
        generalize hq : (dec l pos).1 = q at *
        have HW := Lib.hid hwd
        clear hb e hwd hk hq
        go_wp2_with (go_at_call 157; refine cg.mono ?_; rintro e w' ⟨rfl, rfl⟩)
        go_roundw
        case rel =>
          exact ⟨pos + k, by go_num, by first | rfl | trivial, HW.out.2, by rw [← HR.out, hg.out, Option.isSome_map]⟩
        case measure =>
          have := HW.out
          have := HP.out
          simp [intOf]
          omega
    · have HP := Lib.hid hp
      go_wp2
      go_ret
      exact ⟨by rw [← HR.out, runesAt_end HP.out]; rfl, hb1⟩
end Go.Proofs.Ytdjnkcoepmackaa
/- The characters of a string: the program's and the model's answers, and that they own their memory. -/
namespace Go.Proofs.Ytdjnkcoepmackaa
open Go.RowKit
set_option maxRecDepth 100000
theorem intInfo' : (Try.prog.info? 3).map (fun i => (i.zero, i.size, i.bytes)) = some (some (.int .i64 0), 1, 8) := by kernel_rfl
theorem own_ne_iter {w : World} {B E n b : Nat} {v : Value} {xs : List Value} {s : ByteArray} {p : Nat} (h : w.ownsRow B E 1 v n xs) (hb : w.heap[b]? = some (.stringIter s p)) : v.ownBlock ≠ some b := by
  intro e
  rcases h.2 with ⟨rfl, _⟩ | ⟨g, cap, cur, rfl, _, hg, _⟩
  · simp [Value.ownBlock] at e
  · simp [Value.ownBlock] at e
    subst e
    rw [hg] at hb
    cases hb
theorem own_ne_cells {w : World} {B E n b T : Nat} {v : Value} {xs : List Value} {C : Array Value} {fz : Nat × Nat} (h : w.ownsRow B E 1 v n xs) (hb : w.heap[b]? = some (.cells C T fz)) (hT : E ≠ T) : v.ownBlock ≠ some b := by
  intro e
  rcases h.2 with ⟨rfl, _⟩ | ⟨g, cap, cur, rfl, _, hg, _⟩
  · simp [Value.ownBlock] at e
  · simp [Value.ownBlock] at e
    subst e
    rw [hg] at hb
    injection hb with hb
    injection hb with _ hb _
    exact hT hb
theorem iter_only (w : World) (k : Nat) (s : ByteArray) (p : Nat) : Only k w (w.iterAt k s p) :=
  ⟨rfl, rfl, rfl, by simp [World.iterAt], fun i _ hi => by simp [World.iterAt, Array.getElem?_setIfInBounds]; intro e; exact absurd e.symm hi⟩
theorem iter_new {w : World} {k : Nat} {s s' : ByteArray} {p p' : Nat} (h : w.heap[k]? = some (.stringIter s' p')) : (w.iterAt k s p).heap[k]? = some (.stringIter s p) := by
  have hk : k < w.heap.size := (Array.getElem?_eq_some_iff.1 h).1
  simp [World.iterAt, hk]
theorem reads_block {w w' : World} {b len cap : Nat} {xs : List Value} (h : Reads w (.slice (some ⟨b, 0, none⟩) len cap) xs) (hb : w'.heap[b]? = w.heap[b]?) : Reads w' (.slice (some ⟨b, 0, none⟩) len cap) xs := by
  obtain ⟨a, c, e, hc⟩ := h
  refine ⟨a, c, e, fun j hj => ?_⟩
  obtain ⟨b', o, ha, hcl⟩ := hc j hj
  refine ⟨b', o, ha, ?_⟩
  injection e with e1 e2 e3
  rw [ha] at e1
  injection e1 with e1
  injection e1 with e1 e4
  subst e1
  rw [World.cell?_of_block (w := w) (w' := w') hb]; exact hcl
/-- what RunesOf hands on: a row of its own that holds the ints l -/
def FreshI (w : World) (l : List Int) (e : Ending) (w' : World) : Prop := ∃ v', e = .returned v' ∧ w'.ownsRow w.heap.size 3 1 v' l.length (iv l) ∧ Below w.heap.size w w'
theorem own_new0 (w : World) (E : TypeId) : (w.alloc (.cells #[] E)).ownsRow w.heap.size E 1 (.slice (some ⟨w.heap.size, 0, none⟩) 0 0) 0 [] := World.ownsRow_made w #[] 0 (Nat.le_refl _) (by decide) rfl
end Go.Proofs.Ytdjnkcoepmackaa
/- What the model's draws for characters return: a number, a short string, a short list of numbers. -/
namespace Go.Proofs.Ytdjnkcoepmackaa
open Go.RowKit
set_option maxRecDepth 100000
theorem own_base_t {w : World} {B B' E n : Nat} {v : Value} {xs : List Value} (h : w.ownsRow B E 1 v n xs) (hB : B' ≤ B) : w.ownsRow B' E 1 v n xs := own_base h hB
theorem text_any (w : World) (B : Nat) (hC : Cur w B) : Calls Try.prog 138 #[.pointer (some ⟨B, 0, none⟩)] w (StrPost B (fun l => l.length ≤ 1000) w) := by
  obtain ⟨i0, hi, hz0, hz1, hz2⟩ := info_parts intInfo'
  have hBl := hC.lt
  go_enter Try.func138, Try.ntmps138
  go_wp2_with fail
  refine (once_any w B 2 hC (by decide)).mono ?_
  rintro e w1 ⟨b, rfl, ho, hc⟩
  have hs1 := ho.size
  cases b
  · have hc' := hc.alloc (.cells #[] 3)
    have ho' := ho.alloc (.cells #[] 3)
    have hown := own_base (own_new0 w1 3) hs1
    have HO := Lib.hid ho'
    have HW := Lib.hid hown
    have hs : w1.heap.size < (w1.alloc (.cells #[] 3)).heap.size := by simp
    clear ho hc hC ho' hown
    go_wp2_with fail
    refine (below_any _ B 4 hc' (by decide)).mono ?_
    rintro e w2 ⟨x, ⟨hx0, hx1⟩, rfl, ho2, hc2⟩
    obtain ⟨x, rfl⟩ : ∃ q : Nat, x = q := ⟨x.toNat, by omega⟩
    have hown2 := own_only HW.out ho2 (by simp [Value.ownBlock]; omega)
    have hO2 := HO.out.trans ho2
    have H2 := Lib.hid hown2
    have HO2 := Lib.hid hO2
    have HC2 := Lib.hid hc2
    clear hs HO HW hc' ho2 hc2 hown2 hO2
    go_wp2
    go_loopw [3, 4] (fun v i wr => ∃ (q : Nat) (acc : List Int), i = .int .i64 q ∧ acc.length + q ≤ 4 ∧ wr.ownsRow w.heap.size 3 1 v acc.length (iv acc) ∧ Only B w wr ∧ Cur wr B) (fun _ i _ => (intOf i).toNat)
    case atStart => exact ⟨x, [], rfl, by simp; omega, H2.out, HO2.out, HC2.out⟩
    case round =>
      obtain ⟨q, acc, rfl, hq, hown, hO, hcr⟩ := hrel
      have H3 := Lib.hid hown
      have HO3 := Lib.hid hO
      have HQ := Lib.hid hq
      by_cases hq0 : (0 : Int) < q
      · have HQ0 := Lib.hid hq0
        have hq5 : (q : Int) ≤ 5 := by omega
        clear hown hO hq
        go_wp2_with fail
        refine (rune_any wr B hcr).mono ?_
        rintro e w3 ⟨y, hy, rfl, ho3, hc3⟩
        have hown3 := own_only H3.out ho3 (fun e => by have := (H3.out.lt _ e).1; omega)
        have hO3 := HO3.out.trans ho3
        have hs3 := HO3.out.size
        have hs4 := ho3.size
        have HO4 := Lib.hid hO3
        have HC3 := Lib.hid hc3
        have H4 := Lib.hid hown3
        clear hcr hown3 hO3 hc3 ho3
        go_wp2_with (at_builtin; refine wpList_append_own _ rfl _ _ 140 rfl w.heap.size 3 i0 (.int .i64 0) 1 8 Try.underlying140 hi hz0 hz1 hz2 rfl (by decide) _ _ _ rfl (H4.out.alloc _) ⟨w3.heap.size, 0, none⟩ 1 1 [.int .i64 y] rfl rfl ?c1 ?c2 ?c3 ?c4 ?c5 ?_)
        case c1 =>
          intro j u hj
          match j, hj with
          | 0, hj => simp at hj; subst hj; simp [Addr.add]
          | (j + 1), hj => simp at hj
        case c2 => intro u hu; simp at hu; rcases hu with rfl; rfl
        case c3 => have := HQ.out; unfold maxLen; omega
        case c4 => have := HQ.out; omega
        case c5 => simp; omega
        intro v' w4 hown4 hgrow _
        have hb4 : Below w.heap.size w3 w4 := below_step (Below.refl _ _) (HO4.out.size) H4.out hgrow
        have H5 := Lib.hid hown4
        have HO5 := Lib.hid (HO4.out.then_below hb4 (Nat.le_refl _))
        have HC5 := Lib.hid (HC3.out.below hb4 hBl)
        clear hown4 hgrow hb4
        go_wp2
        go_roundw
        case rel =>
          have := HQ.out
          have := HQ0.out
          refine ⟨q - 1, acc ++ [y], by go_num, by simp; omega, ?_, HO5.out, HC5.out⟩
          rw [List.length_append, iv_append]; exact H5.out
        case measure => have := HQ0.out; simp [intOf]; omega
      · have cf := fromrunes_spec wr _ acc (own_reads H3.out) (by omega)
        have hfl := flat_len acc
        generalize hf : flat acc = fl at *
        have HF := Lib.hid hf
        have HFL := Lib.hid hfl
        have HC3 := Lib.hid hcr
        clear hown hO hq hcr hf hfl
        go_wp2_with fail
        refine cf.mono ?_
        rintro e w3 ⟨rfl, hb⟩
        have hs3 := HO3.out.size
        have HO4 := Lib.hid (HO3.out.then_below hb hs3)
        have HC4 := Lib.hid (HC3.out.below hb (by omega))
        clear cf hb
        go_wp2
        go_ret
        exact ⟨fl, by have := HFL.out; have := HQ.out; show fl.length ≤ 1000; omega, rfl, HO4.out, HC4.out⟩
  · have hd := str_lit w1 B [[], [97], [98], [107, 101, 121], [120, 32, 121], [49], [195, 169], [34], [92]] 9 (fun l => l.length ≤ 1000) hc (by decide) (by decide) (by decide)
    go_wp2_with fail
    refine hd.mono ?_
    rintro e w2 ⟨l, hx, rfl, ho2, hc2⟩
    go_wp2
    go_ret
    exact ⟨_, hx, rfl, ho.trans ho2, hc2⟩
theorem strbent_any (w : World) (B : Nat) (hC : Cur w B) : Calls Try.prog 111 #[.pointer (some ⟨B, 0, none⟩)] w (StrPost B (fun l => l.length ≤ 1001) w) := by
  have hBl := hC.lt
  go_enter Try.func111, Try.ntmps111
  go_wp2_with fail
  refine (once_any w B 5 hC (by decide)).mono ?_
  rintro e w1 ⟨b, rfl, ho, hc⟩
  have hs1 := ho.size
  cases b
  · go_wp2_with fail
    refine (text_any w1 B hc).mono ?_
    rintro e w2 ⟨l, hl, rfl, ho2, hc2⟩
    go_wp2
    go_ret
    exact ⟨l, Nat.le_succ_of_le hl, rfl, ho.trans ho2, hc2⟩
  · go_wp2_with fail
    refine (text_any w1 B hc).mono ?_
    rintro e w2 ⟨l, hl, rfl, ho2, hc2⟩
    obtain ⟨cap, w3, hcv, hR, hb3, _⟩ := conv_bytes w2 l
    have hO2 := ho.trans ho2
    have hs2 := hO2.size
    have hO3 := hO2.then_below hb3 hs2
    have hC3 := hc2.below hb3 (by omega)
    have hl' : l.length ≤ 1000 := hl
    have cb := bent_any w3 B w2.heap.size 0 cap l hC3 (slice_cells hR).2 (by omega)
    generalize (ByteArray.mk l.toArray) = s at *
    have HO := Lib.hid hO3
    have HL := Lib.hid hl'
    clear ho ho2 hO2 hO3 hC3 hc2 hR hb3 hc hC hl hl'
    go_wp2_with (go_at_call 154; refine cb.mono ?_; rintro e w4 ⟨v4, l4, hl4, rfl, hn4, o4, ho4, hc4⟩; have hcv4 := conv_str w4 v4 l4 (own_slc o4); generalize hs4 : (ByteArray.mk l4.toArray) = s4 at hcv4)
    have HS := Lib.hid hs4
    clear hs4
    go_ret
    exact ⟨l4, by have h1 : l4.length ≤ l.length + 1 := hl4; have := HL.out; show l4.length ≤ 1001; omega, by rw [HS.out]; rfl, HO.out.trans ho4, hc4⟩
end Go.Proofs.Ytdjnkcoepmackaa
/- Trees (plain), and trees with the addresses at which their elements lie. -/
namespace Go.Proofs.Ytdjnkcoepmackaa
open Go.RowKit
theorem size_b (l : List UInt8) : (ByteArray.mk l.toArray).size = l.length := by simp [ByteArray.size]
/-- a plain tree: kind, N, X, bytes, elements -/
inductive PT where
  | mk (k n x : Int) (s : List UInt8) (l : List PT)
theorem PT.ind {P : PT → Prop} (h : ∀ k n x s l, (∀ t ∈ l, P t) → P (.mk k n x s l)) (T : PT) : P T :=
  PT.rec (motive_1 := P) (motive_2 := fun l => ∀ t ∈ l, P t) (fun k n x s l hl => h k n x s l hl) (by simp) (fun t l ht hl => by
    intro u hu
    rcases List.mem_cons.1 hu with rfl | hu
    · exact ht
    · exact hl u hu) T
mutual
def PT.cnt : PT → Nat
  | .mk _ _ _ _ l => PT.cntL l + 1
def PT.cntL : List PT → Nat
  | [] => 0
  | t :: l => t.cnt + PT.cntL l
end
mutual
def PT.deep : PT → Nat
  | .mk _ _ _ _ l => PT.deepL l + 1
def PT.deepL : List PT → Nat
  | [] => 0
  | t :: l => max t.deep (PT.deepL l)
end
mutual
def PT.sz : PT → Nat
  | .mk _ _ _ s l => s.length + (l.length + PT.szL l)
def PT.szL : List PT → Nat
  | [] => 0
  | t :: l => t.sz + PT.szL l
end
/-- the numbers and lengths are in range -/
inductive PT.Wf : PT → Prop
  | mk {k n x : Int} {s : List UInt8} {l : List PT} (hk : -9223372036854775808 ≤ k ∧ k ≤ 9223372036854775807) (hn : -9223372036854775808 ≤ n ∧ n ≤ 9223372036854775807) (hx : -9223372036854775808 ≤ x ∧ x ≤ 9223372036854775807)
      (hs : s.length ≤ 9223372036854775807) (hl : l.length ≤ 9223372036854775807) (sub : ∀ t ∈ l, t.Wf) : PT.Wf (.mk k n x s l)
theorem PT.Wf.sub' {k n x : Int} {s : List UInt8} {l : List PT} (h : PT.Wf (.mk k n x s l)) : ∀ t ∈ l, t.Wf := by cases h; assumption
/-- a tree with the address and the capacity of its elements' slice -/
inductive AT where
  | mk (k n x : Int) (s : List UInt8) (a : Option Addr) (cap : Nat) (l : List AT)
theorem AT.ind {P : AT → Prop} (h : ∀ k n x s a cap l, (∀ t ∈ l, P t) → P (.mk k n x s a cap l)) (T : AT) : P T :=
  AT.rec (motive_1 := P) (motive_2 := fun l => ∀ t ∈ l, P t) (fun k n x s a cap l hl => h k n x s a cap l hl) (by simp) (fun t l ht hl => by
    intro u hu
    rcases List.mem_cons.1 hu with rfl | hu
    · exact ht
    · exact hl u hu) T
mutual
def AT.pt : AT → PT
  | .mk k n x s _ _ l => .mk k n x s (AT.ptL l)
def AT.ptL : List AT → List PT
  | [] => []
  | t :: l => t.pt :: AT.ptL l
end
theorem AT.ptL_eq (l : List AT) : AT.ptL l = l.map AT.pt := by
  induction l with
  | nil => rfl
  | cons t l ih => simp [AT.ptL, ih]
@[simp] theorem AT.ptL_length (l : List AT) : (AT.ptL l).length = l.length := by simp [AT.ptL_eq]
def AT.k : AT → Int | .mk k _ _ _ _ _ _ => k
def AT.n : AT → Int | .mk _ n _ _ _ _ _ => n
def AT.x : AT → Int | .mk _ _ x _ _ _ _ => x
def AT.s : AT → List UInt8 | .mk _ _ _ s _ _ _ => s
def AT.a : AT → Option Addr | .mk _ _ _ _ a _ _ => a
def AT.cap : AT → Nat | .mk _ _ _ _ _ cap _ => cap
def AT.l : AT → List AT | .mk _ _ _ _ _ _ l => l
theorem AT.eta (T : AT) : AT.mk T.k T.n T.x T.s T.a T.cap T.l = T := by cases T; rfl
/-- the root as a value -/
@[reducible] def AT.val (T : AT) : Value := .agg #[.int .i64 T.k, .int .i64 T.n, .int .i64 T.x, .string ⟨T.s.toArray⟩, .slice T.a T.l.length T.cap]
/-- the five cells of a tree's root -/
def AT.cells (T : AT) : List Value := [.int .i64 T.k, .int .i64 T.n, .int .i64 T.x, .string ⟨T.s.toArray⟩, .slice T.a T.l.length T.cap]
theorem AT.cells_length (T : AT) : T.cells.length = 5 := rfl
theorem AT.pt_eq (T : AT) : T.pt = .mk T.k T.n T.x T.s (T.l.map AT.pt) := by cases T; simp [AT.pt, AT.ptL_eq, AT.k, AT.n, AT.x, AT.s, AT.l]
structure CellsAt (w : World) (b o : Nat) (T : AT) : Prop where
  c0 : w.cell? ⟨b, o, none⟩ = some (.int .i64 T.k)
  c1 : w.cell? ⟨b, o + 1, none⟩ = some (.int .i64 T.n)
  c2 : w.cell? ⟨b, o + 2, none⟩ = some (.int .i64 T.x)
  c3 : w.cell? ⟨b, o + 3, none⟩ = some (.string ⟨T.s.toArray⟩)
  c4 : w.cell? ⟨b, o + 4, none⟩ = some (.slice T.a T.l.length T.cap)
/-- the tree's elements lie at its address, in blocks below N, at all depths -/
inductive AT.In (w : World) (N : Nat) : AT → Prop
  | mk {k n x : Int} {s : List UInt8} {a : Option Addr} {cap : Nat} {l : List AT} (hc : l.length ≤ cap) (hcell : ∀ j (h : j < l.length), ∃ b o, a = some ⟨b, o, none⟩ ∧ b < N ∧ CellsAt w b (o + j * 5) l[j]) (hsub : ∀ t ∈ l, AT.In w N t) : AT.In w N (.mk k n x s a cap l)
/-- the same of a slice of trees -/
structure Lv (w : World) (N : Nat) (a : Option Addr) (cap : Nat) (l : List AT) : Prop where
  hc : l.length ≤ cap
  cell : ∀ j (h : j < l.length), ∃ b o, a = some ⟨b, o, none⟩ ∧ b < N ∧ CellsAt w b (o + j * 5) l[j]
  sub : ∀ t ∈ l, t.In w N
theorem AT.In.lv {w : World} {N : Nat} {k n x : Int} {s : List UInt8} {a : Option Addr} {cap : Nat} {l : List AT} (h : AT.In w N (.mk k n x s a cap l)) : Lv w N a cap l := by
  cases h with
  | mk hc hcell hsub => exact ⟨hc, hcell, hsub⟩
theorem Lv.in {w : World} {N : Nat} {k n x : Int} {s : List UInt8} {a : Option Addr} {cap : Nat} {l : List AT} (h : Lv w N a cap l) : AT.In w N (.mk k n x s a cap l) := .mk h.hc h.cell h.sub
theorem AT.In.lv' {w : World} {N : Nat} {T : AT} (h : T.In w N) : Lv w N T.a T.cap T.l := by cases T; exact h.lv
theorem CellsAt.keep {w w' : World} {b o : Nat} {T : AT} (h : CellsAt w b o T) (k : w'.heap[b]? = w.heap[b]?) : CellsAt w' b o T := by
  have e : ∀ q, w'.cell? ⟨b, q, none⟩ = w.cell? ⟨b, q, none⟩ := fun q => World.cell?_of_block (w := w) (w' := w') k
  exact ⟨(e _).trans h.c0, (e _).trans h.c1, (e _).trans h.c2, (e _).trans h.c3, (e _).trans h.c4⟩
theorem AT.In.blw {w w' : World} {N M : Nat} {T : AT} (h : T.In w N) (hb : Below M w w') (hN : N ≤ M) : T.In w' N := by
  induction T using AT.ind with
  | h k n x s a cap l ih =>
    cases h with
    | mk hc hcell hsub =>
      refine .mk hc (fun j hj => ?_) (fun t ht => ih t ht (hsub t ht))
      obtain ⟨b, o, ha, hbN, hC⟩ := hcell j hj
      exact ⟨b, o, ha, hbN, hC.keep (hb.block b (by omega))⟩
theorem AT.In.mono {w : World} {N M : Nat} {T : AT} (h : T.In w N) (hN : N ≤ M) : T.In w M := by
  induction T using AT.ind with
  | h k n x s a cap l ih =>
    cases h with
    | mk hc hcell hsub =>
      refine .mk hc (fun j hj => ?_) (fun t ht => ih t ht (hsub t ht))
      obtain ⟨b, o, ha, hbN, hC⟩ := hcell j hj
      exact ⟨b, o, ha, by omega, hC⟩
theorem Lv.below {w w' : World} {N M : Nat} {a : Option Addr} {cap : Nat} {l : List AT} (h : Lv w N a cap l) (hb : Below M w w') (hN : N ≤ M) : Lv w' N a cap l :=
  (AT.In.blw (T := .mk 0 0 0 [] a cap l) h.in hb hN).lv
theorem Lv.mono {w : World} {N M : Nat} {a : Option Addr} {cap : Nat} {l : List AT} (h : Lv w N a cap l) (hN : N ≤ M) : Lv w M a cap l :=
  (AT.In.mono (T := .mk 0 0 0 [] a cap l) h.in hN).lv
/-- a box of one value -/
theorem vbox (w : World) (o : Obj) : Below w.heap.size w (w.alloc o) := (Below.refl w.heap.size w).alloc (Nat.le_refl _) o
theorem szL_take (l : List PT) (i : Nat) (h : i < l.length) : PT.szL (l.take (i + 1)) = PT.szL (l.take i) + l[i].sz := by
  induction l generalizing i with
  | nil => simp at h
  | cons t l ih =>
    cases i with
    | zero => simp [PT.szL]
    | succ i =>
      simp only [List.take_succ_cons, PT.szL, List.getElem_cons_succ]
      rw [ih i (by simpa using h)]
      omega
theorem szL_take_le (l : List PT) (i : Nat) : PT.szL (l.take i) ≤ PT.szL l := by
  induction l generalizing i with
  | nil => simp
  | cons t l ih =>
    cases i with
    | zero => simp [PT.szL]
    | succ i => simp only [List.take_succ_cons, PT.szL]; have := ih i; omega
theorem cntL_take (l : List PT) (i : Nat) (h : i < l.length) : PT.cntL (l.take (i + 1)) = PT.cntL (l.take i) + l[i].cnt := by
  induction l generalizing i with
  | nil => simp at h
  | cons t l ih =>
    cases i with
    | zero => simp [PT.cntL]
    | succ i =>
      simp only [List.take_succ_cons, PT.cntL, List.getElem_cons_succ]
      rw [ih i (by simpa using h)]
      omega
theorem cntL_take_le (l : List PT) (i : Nat) : PT.cntL (l.take i) ≤ PT.cntL l := by
  induction l generalizing i with
  | nil => simp
  | cons t l ih =>
    cases i with
    | zero => simp [PT.cntL]
    | succ i => simp only [List.take_succ_cons, PT.cntL]; have := ih i; omega
theorem deepL_take (l : List PT) (i : Nat) (h : i < l.length) : PT.deepL (l.take (i + 1)) = max (PT.deepL (l.take i)) l[i].deep := by
  induction l generalizing i with
  | nil => simp at h
  | cons t l ih =>
    cases i with
    | zero => simp [PT.deepL]
    | succ i =>
      simp only [List.take_succ_cons, PT.deepL, List.getElem_cons_succ]
      rw [ih i (by simpa using h)]
      omega
/-- the number of values is at most the size, and one more -/
theorem cnt_le_sz (T : PT) : T.cnt ≤ T.sz + 1 := by
  induction T using PT.ind with
  | h k n x s l ih =>
    have : PT.cntL l ≤ l.length + PT.szL l := by
      induction l with
      | nil => simp [PT.cntL]
      | cons t l ihl =>
        have h1 := ih t (by simp)
        have h2 := ihl (fun u hu => ih u (by simp [hu]))
        simp only [PT.cntL, PT.szL, List.length_cons]
        omega
    simp only [PT.cnt, PT.sz]
    omega
theorem deep_le_cnt (T : PT) : T.deep ≤ T.cnt := by
  induction T using PT.ind with
  | h k n x s l ih =>
    have : PT.deepL l ≤ PT.cntL l := by
      induction l with
      | nil => simp [PT.deepL]
      | cons t l ihl =>
        have h1 := ih t (by simp)
        have h2 := ihl (fun u hu => ih u (by simp [hu]))
        simp only [PT.cntL, PT.deepL]
        omega
    simp only [PT.cnt, PT.deep]
    omega
theorem sz_mem {l : List PT} {t : PT} (h : t ∈ l) : t.sz ≤ PT.szL l := by
  induction l with
  | nil => simp at h
  | cons u l ih =>
    simp only [PT.szL]
    rcases List.mem_cons.1 h with rfl | h
    · omega
    · have := ih h; omega
end Go.Proofs.Ytdjnkcoepmackaa
