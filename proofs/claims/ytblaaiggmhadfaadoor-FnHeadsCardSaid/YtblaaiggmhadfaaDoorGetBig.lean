/- The integer that a big-endian encoding holds: the program's and the model's answers. -/
import Derived.Test.YtblaaiggmhadfaaDoorPutBig
namespace Go.Proofs.YtblaaiggmhadfaaDoor
open Go.RowKit
/-- what GetBig answers -/
def bigT (l : List UInt8) (a x : Int) : Value := .tuple #[.int .i64 (bigR l a x), .bool (decide (bigOk l a x))]
theorem bigT_eq (l : List UInt8) (a x : Int) : bigT l a x = .tuple #[.int .i64 (bigR l a x), .bool (decide (bigOk l a x))] := rfl
theorem bigT_yes {l : List UInt8} {a x : Int} (h : bigOk l a x) : bigT l a x = .tuple #[.int .i64 (bigN l a x), .bool true] := by unfold bigT; rw [bigR_yes h, decide_eq_true h]
theorem bigT_no {l : List UInt8} {a x : Int} (h : ¬ bigOk l a x) : bigT l a x = .tuple #[.int .i64 0, .bool false] := by unfold bigT; rw [bigR_no h, decide_eq_false h]
theorem ret_val {u v : Value} (h : u = v) : Ending.returned u = .returned v := by rw [h]
theorem val_small {s : List UInt8} {i : Nat} (h : i ≤ 7) : val (s.take i) < 72057594037927936 := by
  have h1 := val_lt (s.take i)
  have h2 : (s.take i).length ≤ 7 := by rw [List.length_take]; omega
  exact Nat.lt_of_lt_of_le h1 (Nat.pow_le_pow_right (by decide) h2)
theorem val_small8 {s : List UInt8} {i : Nat} (h : i ≤ 8) : val (s.take i) < 18446744073709551616 := by
  have h1 := val_lt (s.take i)
  have h2 : (s.take i).length ≤ 8 := by rw [List.length_take]; omega
  exact Nat.lt_of_lt_of_le h1 (Nat.pow_le_pow_right (by decide) h2)
theorem or_u64 (q c : Nat) (hq : q < 72057594037927936) (hc : c < 256) : bits .or .u64 ((q : Int) * 256) c = ((256 * q + c : Nat) : Int) := by
  have key : (BitVec.ofInt 64 ((q : Int) * 256) ||| BitVec.ofInt 64 (c : Int)).toNat = 256 * q + c := by
    have e1 : (BitVec.ofInt 64 ((q : Int) * 256)).toNat = 2 ^ 8 * q := by
      rw [BitVec.toNat_ofInt]
      omega
    have e2 : (BitVec.ofInt 64 (c : Int)).toNat = c := by
      rw [BitVec.toNat_ofInt]
      omega
    rw [BitVec.toNat_or, e1, e2, ← Nat.two_pow_add_eq_or_of_lt (by omega)]
  show IntKind.u64.wrap ((BitVec.ofInt 64 ((q : Int) * 256) ||| BitVec.ofInt 64 (c : Int)).toNat : Nat) = _
  rw [key, IntKind.wrap_u64]
  omega
theorem getbig_impl_in (w : World) (b o cap : Nat) (l : List UInt8) (a k : Nat) (hc : ∀ j u, (bv l)[j]? = some u → w.cell? ⟨b, o + j, none⟩ = some u) (hcap : l.length ≤ cap) (hm : cap ≤ maxLen) (hl : l.length ≤ 1099511627776) (hw : widOk k) (hin : a + k ≤ l.length) :
    Calls Tryd.prog 52 #[.slice (some ⟨b, o, none⟩) l.length cap, .int .i64 a, .int .i64 k] w fun e w' => e = .returned (bigT l a k) ∧ w = w' := by
  have hk8 : k ≤ 8 := by have := wid_un hw; omega
  have c1 := fits_yes (fit_zero.2 hw) w
  have c2 := holds_yes (ad := some ⟨b, o, none⟩) (cap := cap) (show holdB l.length a k from ⟨by omega, by omega, by omega⟩) (by omega) w
  have c3 := cut_any w b o cap l a k hc hin hcap hm
  have hsl : ((l.drop a).take k).length = k := by rw [List.length_take, List.length_drop]; omega
  have HW := Lib.hid hw
  have hbn : bigN l a k = val ((l.drop a).take k) := by unfold bigN; simp
  have HIN := Lib.hid (show bigIn l a k from ⟨hw, by omega, by omega⟩)
  generalize hs : (l.drop a).take k = s at *
  have HBN := Lib.hid hbn
  have HSL := Lib.hid hsl
  clear hw hc hbn hs hsl
  go_enter Tryd.func52, Tryd.ntmps52
  go_wp2_with fail
  refine c1.mono ?_
  rintro e w' ⟨rfl, rfl⟩
  go_wp2_with fail
  refine c2.mono ?_
  rintro e w' ⟨rfl, rfl⟩
  go_wp2_with fail
  refine c3.mono ?_
  rintro e w' ⟨o', rfl, hc, rfl⟩
  have HC := Lib.hid hc
  clear hc c1 c2 c3
  go_wp2
  go_loop [8, 10, 26] (fun n _ i => ∃ i' : Nat, i = .int .i64 i' ∧ i' ≤ k ∧ n = .int .u64 (val (s.take i'))) (fun _ _ i => k - (intOf i).toNat)
  case atStart => exact ⟨0, rfl, Nat.zero_le _, rfl⟩
  case round =>
    obtain ⟨i, rfl, hi, rfl⟩ := hrel
    by_cases hlt : i < k
    · have hls : i < s.length := by have := HSL.out; omega
      have hcl : w.cell? ⟨b, o' + i, none⟩ = some (.int .u8 (s[i]).toNat) := HC.out i _ (by rw [List.getElem?_eq_getElem (by simpa using hls), bv_getElem])
      have HT := Lib.hid (bval_take s i hls)
      have hq := val_small (s := s) (i := i) (by omega)
      generalize val (s.take i) = q at *
      have hq1 : (q : Int) < 72057594037927936 := by omega
      have hq0 : (0 : Int) ≤ q := by omega
      have hc1 : (s[i].toNat : Int) < 256 := by have : s[i].toNat < 256 := UInt8.toNat_lt _; omega
      generalize s[i].toNat = c at *
      have hc0 : (0 : Int) ≤ c := by omega
      have HL := Lib.hid hlt
      clear hq hls
      go_wp2
      go_round
      case rel => exact ⟨i + 1, by go_num, HL.out, by rw [or_u64 q c (by omega) (by omega), HT.out]⟩
      case measure => have := HL.out; simp [intOf]; omega
    · obtain rfl : i = k := by omega
      have hq := val_small8 (s := s) (i := i) hk8
      have e : s.take i = s := List.take_of_length_le (by have := HSL.out; omega)
      rw [e] at *
      by_cases hv : val s ≤ 1000000000000000
      · have HR := Lib.hid (bigT_yes ⟨HIN.out, by rw [HBN.out]; exact hv⟩ : bigT l a i = .tuple #[.int .i64 (bigN l a i), .bool true])
        rw [HBN.out] at HR
        have hz : (val s : Int) ≤ 1000000000000000 := by omega
        clear hv hq e
        generalize val s = q at *
        go_wp2
        go_ret2
        exact ⟨by rw [HR.out]; rfl, rfl⟩
      · have HR := Lib.hid (bigT_no (fun h => hv (by have := h.2; rw [HBN.out] at this; exact this)) : bigT l a i = .tuple #[.int .i64 0, .bool false])
        have hz : ¬ (val s : Int) ≤ 1000000000000000 := by omega
        clear hv hq e
        generalize val s = q at *
        go_wp2
        go_ret2
        exact ⟨by rw [HR.out]; rfl, rfl⟩
theorem getbig_impl (w : World) (b o cap : Nat) (l : List UInt8) (a x : Int) (hc : ∀ j u, (bv l)[j]? = some u → w.cell? ⟨b, o + j, none⟩ = some u) (hcap : l.length ≤ cap) (hm : cap ≤ maxLen) (hl : l.length ≤ 1099511627776) (ha : a ≤ 9223372036854775807) :
    Calls Tryd.prog 52 #[.slice (some ⟨b, o, none⟩) l.length cap, .int .i64 a, .int .i64 x] w fun e w' => e = .returned (bigT l a x) ∧ w = w' := by
  by_cases hin : bigIn l a x
  · obtain ⟨h1, h2, h3⟩ := hin
    have hw := wid_un h1
    obtain ⟨i, rfl⟩ : ∃ i : Nat, a = i := ⟨a.toNat, by omega⟩
    obtain ⟨k, rfl⟩ : ∃ k : Nat, x = k := ⟨x.toNat, by omega⟩
    exact getbig_impl_in w b o cap l i k hc hcap hm hl h1 (by omega)
  · have HR := Lib.hid (bigT_no (fun h => hin h.1) : bigT l a x = .tuple #[.int .i64 0, .bool false])
    by_cases hw : widOk x
    · have hx := wid_un hw
      have c1 := fits_yes (fit_zero.2 hw) w
      have c2 := holds_no (ad := some ⟨b, o, none⟩) (cap := cap) (show ¬ holdB l.length a x from fun h => hin ⟨hw, h.1, by have := h.2.2; omega⟩) (by omega) ha w
      clear hin hw hc hx
      go_enter Tryd.func52, Tryd.ntmps52
      go_wp2_with fail
      refine c1.mono ?_
      rintro e w' ⟨rfl, rfl⟩
      go_wp2_with fail
      refine c2.mono ?_
      rintro e w' ⟨rfl, rfl⟩
      go_wp2
      go_ret2
      exact ⟨by rw [HR.out]; rfl, rfl⟩
    · have c1 := fits_no (fun h => hw (fit_zero.1 h)) w
      clear hin hw hc
      go_enter Tryd.func52, Tryd.ntmps52
      go_wp2_with fail
      refine c1.mono ?_
      rintro e w' ⟨rfl, rfl⟩
      go_wp2
      go_ret2
      exact ⟨by rw [HR.out]; rfl, rfl⟩
set_option maxRecDepth 20000 in
theorem getbig_spec_in (w : World) (b o cap : Nat) (l : List UInt8) (a k : Nat) (hc : ∀ j u, (bv l)[j]? = some u → w.cell? ⟨b, o + j, none⟩ = some u) (hl : l.length ≤ 1099511627776) (hw : widOk k) (hin : a + k ≤ l.length) :
    Calls Tryd.prog 38 #[.slice (some ⟨b, o, none⟩) l.length cap, .int .i64 a, .int .i64 k] w fun e w' => e = .returned (bigT l a k) ∧ w = w' := by
  have hk8 : k ≤ 8 := by have := wid_un hw; omega
  have c1 := wid_yes hw w
  have hsl : ((l.drop a).take k).length = k := by rw [List.length_take, List.length_drop]; omega
  have hbn : bigN l a k = val ((l.drop a).take k) := by unfold bigN; simp
  have HIN := Lib.hid (show bigIn l a k from ⟨hw, by omega, by omega⟩)
  have HC := Lib.hid (fun j u => sub_cells (i := a) (k := k) hc j u)
  generalize hs : (l.drop a).take k = s at *
  have HBN := Lib.hid hbn
  have HSL := Lib.hid hsl
  have hlz : (l.length : Int) ≤ 1099511627776 := by omega
  have haz : (a : Int) + k ≤ l.length := by omega
  have hkz : (k : Int) ≤ 8 := by omega
  have hak : ¬ (l.length : Int) - k < a := by omega
  clear hw hc hbn hs hsl hl
  go_enter Tryd.func38, Tryd.ntmps38
  go_wp2_with fail
  refine c1.mono ?_
  rintro e w' ⟨rfl, rfl⟩
  clear c1
  go_wp2
  go_loop [8, 9] (fun n i => ∃ i' : Nat, i = .int .i64 i' ∧ i' ≤ k ∧ n = .int .i64 (val (s.take i'))) (fun _ i => k - (intOf i).toNat)
  case atStart => exact ⟨0, rfl, Nat.zero_le _, rfl⟩
  case round =>
    obtain ⟨i, rfl, hi, rfl⟩ := hrel
    have hmo := val_mono s i
    by_cases hlt : i < k
    · have hls : i < s.length := by have := HSL.out; omega
      have hcl : w.cell? ⟨b, o + a + i, none⟩ = some (.int .u8 (s[i]).toNat) := HC.out i _ (by rw [List.getElem?_eq_getElem (by simpa using hls), bv_getElem])
      have hcl2 : w.cell? ⟨b, o + (a + i), none⟩ = some (.int .u8 (s[i]).toNat) := by rw [← Nat.add_assoc]; exact hcl
      have HT := Lib.hid (bval_take s i hls)
      generalize val (s.take i) = q at *
      have hc1 : (s[i].toNat : Int) < 256 := by have : s[i].toNat < 256 := UInt8.toNat_lt _; omega
      generalize s[i].toNat = c at *
      have hc0 : (0 : Int) ≤ c := by omega
      have HL := Lib.hid hlt
      have hit : (i : Int) < k := by omega
      by_cases hq : q ≤ 1000000000000000
      · have hq1 : (q : Int) ≤ 1000000000000000 := by omega
        have hq0 : (0 : Int) ≤ q := by omega
        clear hq hls hcl hmo
        go_wp2
        go_round
        case rel => exact ⟨i + 1, by go_num, HL.out, by rw [HT.out]; go_num⟩
        case measure => have := HL.out; simp [intOf]; omega
      · have hq1 : ¬ (q : Int) ≤ 1000000000000000 := by omega
        have HR := Lib.hid (bigT_no (fun h => by have := h.2; rw [HBN.out] at this; omega) : bigT l a k = .tuple #[.int .i64 0, .bool false])
        clear hq hls hcl hcl2 hmo
        go_wp2
        go_ret2
        exact ⟨by rw [HR.out]; rfl, rfl⟩
    · obtain rfl : i = k := by omega
      have e : s.take i = s := List.take_of_length_le (by have := HSL.out; omega)
      rw [e] at *
      by_cases hv : val s ≤ 1000000000000000
      · have HR := Lib.hid (bigT_yes ⟨HIN.out, by rw [HBN.out]; exact hv⟩ : bigT l a i = .tuple #[.int .i64 (bigN l a i), .bool true])
        rw [HBN.out] at HR
        have hz : (val s : Int) ≤ 1000000000000000 := by omega
        clear hv e hmo
        generalize val s = q at *
        go_wp2
        go_ret2
        exact ⟨by rw [HR.out]; rfl, rfl⟩
      · have HR := Lib.hid (bigT_no (fun h => hv (by have := h.2; rw [HBN.out] at this; exact this)) : bigT l a i = .tuple #[.int .i64 0, .bool false])
        have hz : ¬ (val s : Int) ≤ 1000000000000000 := by omega
        clear hv e hmo
        generalize val s = q at *
        go_wp2
        go_ret2
        exact ⟨by rw [HR.out]; rfl, rfl⟩
theorem getbig_spec (w : World) (b o cap : Nat) (l : List UInt8) (a x : Int) (hc : ∀ j u, (bv l)[j]? = some u → w.cell? ⟨b, o + j, none⟩ = some u) (hl : l.length ≤ 1099511627776) :
    Calls Tryd.prog 38 #[.slice (some ⟨b, o, none⟩) l.length cap, .int .i64 a, .int .i64 x] w fun e w' => e = .returned (bigT l a x) ∧ w = w' := by
  by_cases hin : bigIn l a x
  · obtain ⟨h1, h2, h3⟩ := hin
    have hw := wid_un h1
    obtain ⟨i, rfl⟩ : ∃ i : Nat, a = i := ⟨a.toNat, by omega⟩
    obtain ⟨k, rfl⟩ : ∃ k : Nat, x = k := ⟨x.toNat, by omega⟩
    exact getbig_spec_in w b o cap l i k hc hl h1 (by omega)
  · have HR := Lib.hid (bigT_no (fun h => hin h.1) : bigT l a x = .tuple #[.int .i64 0, .bool false])
    by_cases hw : widOk x
    · have hx := wid_un hw
      have c1 := wid_yes hw w
      have hx8 : x ≤ 8 := by omega
      have hx1 : 1 ≤ x := by omega
      have hlz : (l.length : Int) ≤ 1099511627776 := by omega
      by_cases ha : a < 0
      · clear hin hw hc hx
        go_enter Tryd.func38, Tryd.ntmps38
        go_wp2_with fail
        refine c1.mono ?_
        rintro e w' ⟨rfl, rfl⟩
        go_wp2
        go_ret2
        exact ⟨by rw [HR.out]; rfl, rfl⟩
      · have hax : (l.length : Int) - x < a := by have : ¬ (a + x ≤ l.length) := fun h => hin ⟨hw, by omega, h⟩; omega
        clear hin hw hc hx
        go_enter Tryd.func38, Tryd.ntmps38
        go_wp2_with fail
        refine c1.mono ?_
        rintro e w' ⟨rfl, rfl⟩
        go_wp2
        go_ret2
        exact ⟨by rw [HR.out]; rfl, rfl⟩
    · have c1 := wid_no hw w
      clear hin hw hc
      go_enter Tryd.func38, Tryd.ntmps38
      go_wp2_with fail
      refine c1.mono ?_
      rintro e w' ⟨rfl, rfl⟩
      go_wp2
      go_ret2
      exact ⟨by rw [HR.out]; rfl, rfl⟩
theorem bigT_put (l : List UInt8) {n x : Int} (h : fitB n x) (hn : n ≤ 1000000000000000) : bigT (l ++ bigL n x) l.length x = .tuple #[.int .i64 n, .bool true] := by
  have h' := fit_un h
  have hw := wid_un (fit_wid h)
  have e : ((l ++ bigL n x).drop l.length).take x.toNat = be n.toNat x.toNat := by
    rw [List.drop_left, bigL_yes h, List.take_of_length_le (by simp)]
  have hv : bigN (l ++ bigL n x) l.length x = n.toNat := by
    unfold bigN
    rw [Int.toNat_natCast, e]
    refine val_be _ _ ?_
    rcases hw with rfl | rfl | rfl | rfl
    · show n.toNat < 256; omega
    · show n.toNat < 65536; omega
    · show n.toNat < 4294967296; omega
    · show n.toNat < 18446744073709551616; omega
  have hok : bigOk (l ++ bigL n x) l.length x := by
    refine ⟨⟨fit_wid h, by omega, ?_⟩, by rw [hv]; omega⟩
    rw [List.length_append, bigL_yes h, be_length]
    omega
  rw [bigT_yes hok, hv]
  congr 4
  omega
theorem bigL_get {l : List UInt8} {a x : Int} (h : bigOk l a x) : bigL (bigN l a x) x = (l.drop a.toNat).take x.toNat := by
  obtain ⟨⟨hw, h0, h1⟩, h2⟩ := h
  have hw' := wid_un hw
  have hs : ((l.drop a.toNat).take x.toNat).length = x.toNat := by rw [List.length_take, List.length_drop]; omega
  have hlt := val_lt ((l.drop a.toNat).take x.toNat)
  have hb := be_val ((l.drop a.toNat).take x.toNat)
  rw [hs] at hlt hb
  have hf : fitB (bigN l a x) x := by
    unfold bigN
    refine fit_mk ⟨by omega, ?_⟩
    rcases hw' with rfl | rfl | rfl | rfl
    · have : val ((l.drop a.toNat).take (1 : Int).toNat) < 256 := hlt; omega
    · have : val ((l.drop a.toNat).take (2 : Int).toNat) < 65536 := hlt; omega
    · have : val ((l.drop a.toNat).take (4 : Int).toNat) < 4294967296 := hlt; omega
    · omega
  rw [bigL_yes hf, Int.toNat_natCast]
  unfold bigN
  exact hb
end Go.Proofs.YtblaaiggmhadfaaDoor
