import Derived.Test.YtilgncebhgplaaaDoorG0
import Derived.Test.YtilgncebhgplaaaDoorG3
import Derived.Test.YtilgncebhgplaaaDoorG8
import Derived.Test.YtilgncebhgplaaaDoorG9
import Derived.Lib.Hide
import Derived.Outline
import Derived.ProofKit
import Derived.Deep.QuietTactic
import Derived.BigQuiet
import Derived.WalkKit
import Derived.Test.YtilgncebhgplaaaDoorRows
import Derived.Lib.LaidTab
import Derived.Lib.TrailingZeros
import Derived.MakeChecks
import Derived.Stop.LaidErr
import Derived.IntWalk
import Derived.Laws.Bits64b
import Derived.Deep.RegionHeld3
import Derived.Deep.CutRange
/- The encoding of an integer behind given bytes: the program's and the model's answers. -/
namespace Go.Proofs.YtilgncebhgplaaaDoor
open Go.RowKit
set_option maxRecDepth 100000
theorem bigbytes_no {n x : Int} (h : ¬ fitB n x) (w : World) : Calls Tryd.prog 109 #[.int .i64 n, .int .i64 x] w fun e w' => e = .returned (.slice none 0 0) ∧ w = w' := by
  have c := fits_no h w
  clear h
  go_enter Tryd.func109, Tryd.ntmps109
  go_wp2_with (go_at_call 105; refine c.mono ?_; rintro e w' ⟨rfl, rfl⟩)
  go_ret
  exact ⟨rfl, rfl⟩
theorem shr_byte (n i : Nat) (h : i < 8) : (n : Int) / 2 ^ (56 - 8 * i) % 256 = ((UInt8.ofNat (n / 256 ^ (7 - i))).toNat : Int) := by
  rw [byte_of]
  have e : (256 : Nat) ^ (7 - i) = 2 ^ (56 - 8 * i) := by
    rw [show (256 : Nat) = 2 ^ 8 from rfl, ← Nat.pow_mul]
    congr 1
    omega
  rw [e]
  simp
theorem be_take8 (n i : Nat) (h : i < 8) : (be n 8).take (i + 1) = (be n 8).take i ++ [UInt8.ofNat (n / 256 ^ (7 - i))] := by
  rw [List.take_succ_eq_append_getElem (by simpa using h), be_getElem]
theorem bigbytes_yes {n : Nat} {k : Nat} (h : fitB n k) (hk : k ≤ 8) (w : World) : Calls Tryd.prog 109 #[.int .i64 n, .int .i64 k] w fun e w' => ∃ g o, e = .returned (.slice (some ⟨g, o, none⟩) k k) ∧ (∀ j u, (bv (be n k))[j]? = some u → w'.cell? ⟨g, o + j, none⟩ = some u) ∧ Below w.heap.size w w' := by
  obtain ⟨i0, hi, hz0, hz1, hz2⟩ := info_parts byteInfo'
  have c := fits_yes h w
  clear h
  go_enter Tryd.func109, Tryd.ntmps109
  go_wp2_with (go_at_call 105; refine c.mono ?_; rintro e w' ⟨rfl, rfl⟩)
  clear c
  go_loopw [5, 6] (fun b s wr => ∃ i : Nat, i ≤ 8 ∧ s = .int .i64 (56 - 8 * (i : Int)) ∧ b ≠ .slice none 0 0 ∧ wr.ownsRow w.heap.size 5 1 b i (bv ((be n 8).take i)) ∧ Below w.heap.size w wr) (fun _ s _ => (intOf s + 8).toNat)
  case atStart => exact ⟨0, by omega, rfl, (by intro e; cases e), World.ownsRow_made w #[] 0 (Nat.le_refl _) (by decide) rfl, below_alloc w _⟩
  case round =>
    obtain ⟨i, hi8, rfl, hnn, hown, hb⟩ := hrel
    have HN := Lib.hid hnn
    have HB := Lib.hid hb
    by_cases hlt : i < 8
    · have hs : (0 : Int) ≤ 56 - 8 * i := by omega
      have HS := Lib.hid (shr_byte n i hlt)
      have HT := Lib.hid (be_take8 n i hlt)
      have HL := Lib.hid hlt
      clear hb hnn hlt
      go_wp2_with (at_builtin; refine wpList_append_own _ rfl _ _ 33 rfl w.heap.size 5 i0 (.int .u8 0) 1 1 Tryd.underlying33 hi hz0 hz1 hz2 rfl (by decide) _ _ _ rfl (hown.alloc _) ⟨wr.heap.size, 0, none⟩ 1 1 [.int .u8 ((n : Int) / 2 ^ (56 - 8 * i) % 256)] rfl rfl ?c1 ?c2 ?c3 ?c4 ?c5 ?_)
      case c1 =>
        intro j u hj
        match j, hj with
        | 0, hj => simp at hj; subst hj; simp [Addr.add]
        | (j + 1), hj => simp at hj
      case c2 => intro u hu; simp at hu; rcases hu with rfl; rfl
      case c3 => unfold maxLen; omega
      case c4 => omega
      case c5 => have := HB.out.size; simp; omega
      intro v2 w2 hown2 hgrow hnil
      have hb2 := below_step HB.out HB.out.size hown hgrow
      have hn2 : v2 ≠ .slice none 0 0 := fun e => HN.out (by simp [e] at hnil)
      clear hgrow hown hnil
      go_wp2
      go_roundw
      case rel =>
        refine ⟨i + 1, by have := HL.out; omega, by go_num, hn2, ?_, hb2⟩
        rw [HT.out, bv_append]
        have e : bv [UInt8.ofNat (n / 256 ^ (7 - i))] = [.int .u8 ((n : Int) / 2 ^ (56 - 8 * i) % 256)] := by rw [HS.out]; rfl
        rw [e]
        exact hown2
      case measure => simp [intOf]; omega
    · obtain rfl : i = 8 := by omega
      obtain ⟨g, cap, rfl, hg, hc8, hcm⟩ := own_shape hown hnn
      rw [List.take_of_length_le (by simp)] at hown
      have cc := cut_any wr g 0 cap (be n 8) (8 - k) k (fun j u hu => own_cells hown j u hu) (by simp; omega) (by simpa using hc8) hcm
      rw [be_length] at cc
      have e8 : ((8 - k : Nat) : Int) = 8 - k := by omega
      rw [e8] at cc
      have ek : ((be n 8).drop (8 - k)).take k = be n k := by
        have := be_drop n (8 - k) k
        rw [show k + (8 - k) = 8 by omega] at this
        rw [this, List.take_of_length_le (by simp)]
      rw [ek] at cc
      have hkz : (k : Int) ≤ 8 := by omega
      clear hb hown hnn ek e8 hlt hi8
      go_wp2_with fail
      refine cc.mono ?_
      rintro e w' ⟨o', rfl, hc, rfl⟩
      have HC := Lib.hid hc
      clear hc cc
      go_wp2
      go_ret
      exact ⟨g, o', rfl, HC.out, HB.out⟩
def Big (n x : Int) (w : World) (e : Ending) (w' : World) : Prop := ∃ v, e = .returned v ∧ Slc w' v (bv (bigL n x)) ∧ Below w.heap.size w w'
theorem bigbytes_any (n x : Int) (w : World) : Calls Tryd.prog 109 #[.int .i64 n, .int .i64 x] w (Big n x w) := by
  by_cases h : fitB n x
  · have h' := fit_un h
    obtain ⟨m, rfl⟩ : ∃ m : Nat, n = m := ⟨n.toNat, by omega⟩
    obtain ⟨k, rfl⟩ : ∃ k : Nat, x = k := ⟨x.toNat, by omega⟩
    refine (bigbytes_yes h (by omega) w).mono ?_
    rintro e w' ⟨g, o, rfl, hc, hb⟩
    refine ⟨_, rfl, .inr ⟨g, o, k, ?_, ?_⟩, hb⟩
    · rw [bigL_yes h, bv_length, be_length]; rfl
    · rw [bigL_yes h]; exact hc
  · refine (bigbytes_no h w).mono ?_
    rintro e w' ⟨rfl, rfl⟩
    exact ⟨_, rfl, .inl ⟨rfl, by rw [bigL_no h]; rfl⟩, Below.refl _ _⟩
theorem putbig_impl (w : World) (v : Value) (l : List UInt8) (n x : Int) (hv : Sl w v (bv l)) (hl : l.length ≤ 1099511627776) :
    Calls Tryd.prog 104 #[v, .int .i64 n, .int .i64 x] w (Fresh w (l ++ bigL n x)) := by
  have HV := Lib.hid hv
  have c := bigbytes_any n x w
  obtain ⟨b, o, cap, e, _⟩ := hv
  rw [bv_length] at e
  subst e
  go_enter Tryd.func104, Tryd.ntmps104
  go_wp2_with fail
  refine c.mono ?_
  rintro e w1 ⟨u, rfl, hu, hb⟩
  have hb8 := bigL_len n x
  have cj := joined_any w1 _ u l _ (HV.out.below hb) hu hl (by omega)
  have HB := Lib.hid hb
  clear hb hu c
  go_wp2_with fail
  refine cj.mono ?_
  rintro e w2 ⟨v2, rfl, hn, ho, hb⟩
  have HR := Lib.hid (And.intro hn (And.intro ho (HB.out.trans (hb.mono HB.out.size))))
  clear hn ho hb cj
  go_wp2
  go_ret
  exact ⟨_, rfl, HR.out.1, own_base HR.out.2.1 HB.out.size, HR.out.2.2⟩
theorem putbig_spec_no (w : World) (b o cap : Nat) (l : List UInt8) (n x : Int) (hc : ∀ j u, (bv l)[j]? = some u → w.cell? ⟨b, o + j, none⟩ = some u) (hl : l.length ≤ 1099511627776) (h : ¬ fitB n x) :
    Calls Tryd.prog 65 #[.slice (some ⟨b, o, none⟩) l.length cap, .int .i64 n, .int .i64 x] w (Fresh w l) := by
  obtain ⟨i0, hi, hz0, hz1, hz2⟩ := info_parts byteInfo'
  have cw := wid_spec x
  have c1 : ∀ o', ∀ j u, (bv l)[j]? = some u → (w.alloc o').cell? ((⟨b, o, none⟩ : Addr).add j) = some u := by
    intro o' j u hu
    rw [addr_add, (below_alloc w o').cell (p := ⟨b, o + j, none⟩) (cell_lt (hc j u hu))]
    exact hc j u hu
  go_enter Tryd.func65, Tryd.ntmps65
  go_wp2_with (at_builtin; refine wpList_append_own _ rfl _ _ 33 rfl w.heap.size 5 i0 (.int .u8 0) 1 1 Tryd.underlying33 hi hz0 hz1 hz2 rfl (by decide) _ _ _ rfl (World.ownsRow_made w #[] 0 (Nat.le_refl _) (by decide) rfl) ⟨b, o, none⟩ l.length cap (bv l) rfl (by simp) (c1 _) (bv_cell l) ?c3 ?c4 ?c5 ?_)
  case c3 => unfold maxLen; omega
  case c4 => omega
  case c5 => simp
  intro v1 w1 hown hgrow hnil
  have hb1 : Below w.heap.size w w1 := (below_alloc w _).trans (grown_belowN hgrow (by simp) (by simp [Value.ownBlock]))
  have HN := Lib.hid hnil
  clear hgrow hnil c1 hc
  by_cases hn : n < 0
  · clear cw
    go_wp2
    go_ret
    exact ⟨_, rfl, HN.out, hown, hb1⟩
  by_cases hx : widOk x
  · have cw := wid_yes hx
    rcases wid_un hx with rfl | rfl | rfl | rfl
    · have h2 : ((n / 256) != 0) = true := by simp; intro e; exact h (fit_mk (by omega))
      clear h hx
      go_wp2_with (go_at_call 76; refine (cw _).mono ?_; rintro e w' ⟨rfl, rfl⟩)
      go_ret
      exact ⟨_, rfl, HN.out, hown, hb1⟩
    · have h2 : ((n / 65536) != 0) = true := by simp; intro e; exact h (fit_mk (by omega))
      clear h hx
      go_wp2_with (go_at_call 76; refine (cw _).mono ?_; rintro e w' ⟨rfl, rfl⟩)
      go_ret
      exact ⟨_, rfl, HN.out, hown, hb1⟩
    · have h2 : ((n / 4294967296) != 0) = true := by simp; intro e; exact h (fit_mk (by omega))
      clear h hx
      go_wp2_with (go_at_call 76; refine (cw _).mono ?_; rintro e w' ⟨rfl, rfl⟩)
      go_ret
      exact ⟨_, rfl, HN.out, hown, hb1⟩
    · exact absurd (fit_mk (by omega)) h
  · have cw := wid_no hx
    clear h hx
    go_wp2_with (go_at_call 76; refine (cw _).mono ?_; rintro e w' ⟨rfl, rfl⟩)
    go_ret
    exact ⟨_, rfl, HN.out, hown, hb1⟩
theorem shr_byte2 (n e : Nat) : (n : Int) / 2 ^ (8 * e) % 256 = ((UInt8.ofNat (n / 256 ^ e)).toNat : Int) := by
  rw [byte_of]
  have h : (256 : Nat) ^ e = 2 ^ (8 * e) := by
    rw [show (256 : Nat) = 2 ^ 8 from rfl, ← Nat.pow_mul]
  rw [h]
  simp
theorem be_takeE (n k e : Nat) (h : e < k) : (be n k).take (k - e) = (be n k).take (k - (e + 1)) ++ [UInt8.ofNat (n / 256 ^ e)] := by
  rw [show k - e = (k - (e + 1)) + 1 by omega, List.take_succ_eq_append_getElem (by rw [be_length]; omega), be_getElem, show k - 1 - (k - (e + 1)) = e by omega]
theorem putbig_spec_yes (w : World) (b o cap : Nat) (l : List UInt8) (n k : Nat) (hc : ∀ j u, (bv l)[j]? = some u → w.cell? ⟨b, o + j, none⟩ = some u) (hl : l.length ≤ 1099511627776) (hw : widOk k) (h : k = 8 ∨ ((k : Int) < 8 ∧ (((n : Int) / 2 ^ (8 * k)) != 0) = false)) :
    Calls Tryd.prog 65 #[.slice (some ⟨b, o, none⟩) l.length cap, .int .i64 n, .int .i64 k] w (Fresh w (l ++ be n k)) := by
  obtain ⟨i0, hi, hz0, hz1, hz2⟩ := info_parts byteInfo'
  have cw := wid_yes hw
  have c1 : ∀ o', ∀ j u, (bv l)[j]? = some u → (w.alloc o').cell? ((⟨b, o, none⟩ : Addr).add j) = some u := by
    intro o' j u hu
    rw [addr_add, (below_alloc w o').cell (p := ⟨b, o + j, none⟩) (cell_lt (hc j u hu))]
    exact hc j u hu
  have hk8 : k ≤ 8 := by have := wid_un hw; omega
  have hk1 : 1 ≤ k := by have := wid_un hw; omega
  have hkz : (k : Int) ≤ 8 := by omega
  have hkz1 : (1 : Int) ≤ k := by omega
  clear hw
  go_enter Tryd.func65, Tryd.ntmps65
  go_wp2_with (at_builtin; refine wpList_append_own _ rfl _ _ 33 rfl w.heap.size 5 i0 (.int .u8 0) 1 1 Tryd.underlying33 hi hz0 hz1 hz2 rfl (by decide) _ _ _ rfl (World.ownsRow_made w #[] 0 (Nat.le_refl _) (by decide) rfl) ⟨b, o, none⟩ l.length cap (bv l) rfl (by simp) (c1 _) (bv_cell l) ?c3 ?c4 ?c5 ?_)
  case c3 => unfold maxLen; omega
  case c4 => omega
  case c5 => simp
  intro v1 w1 hown hgrow hnil
  have hb1 : Below w.heap.size w w1 := (below_alloc w _).trans (grown_belowN hgrow (by simp) (by simp [Value.ownBlock]))
  have HN := Lib.hid hnil
  have HO := Lib.hid (show w1.ownsRow w.heap.size 5 1 v1 l.length (bv l) by simpa using hown)
  have HB := Lib.hid hb1
  clear hgrow hnil c1 hc hown hb1
  have e255 := i64_and255
  have h : ¬ (k : Int) < 8 ∨ ((k : Int) < 8 ∧ (((n : Int) / 2 ^ (8 * k)) != 0) = false) := by
    rcases h with h | h
    · exact .inl (by omega)
    · exact .inr h
  rcases h with h1 | ⟨h1, h2⟩
  all_goals
    go_wp2_with (go_at_call 76; refine (cw _).mono ?_; rintro e w' ⟨rfl, rfl⟩)
    clear cw h1
    try clear h2
    go_loopw [7, 8] (fun b i wr => ∃ d : Nat, d ≤ k ∧ i = .int .i64 ((d : Int) - 1) ∧ b ≠ .slice none 0 0 ∧ wr.ownsRow w.heap.size 5 1 b (l.length + (k - d)) (bv l ++ bv ((be n k).take (k - d))) ∧ Below w.heap.size w wr) (fun _ i _ => (intOf i + 1).toNat)
    case atStart => exact ⟨k, Nat.le_refl _, rfl, HN.out, by rw [Nat.sub_self, List.take_zero]; simpa [bv] using HO.out, HB.out⟩
    case round =>
      obtain ⟨d, hd, rfl, hnn, hown, hb⟩ := hrel
      have HN' := Lib.hid hnn
      have HB' := Lib.hid hb
      rcases d with _ | e
      · rw [Nat.sub_zero, List.take_of_length_le (by simp)] at hown
        have HO' := Lib.hid hown
        clear hb hnn hown
        go_wp2
        go_ret
        exact ⟨_, rfl, HN'.out, by rw [List.length_append, be_length, bv_append]; exact HO'.out, HB'.out⟩
      · have ee : (((e + 1 : Nat) : Int) - 1) = e := by omega
        rw [ee]
        have HT := Lib.hid (be_takeE n k e (by omega))
        have HX := Lib.hid (shr_byte2 n e)
        have hez : (e : Int) ≤ 7 := by omega
        have HL := Lib.hid hd
        clear hb hnn ee hd
        go_wp2_with (at_builtin; refine wpList_append_own _ rfl _ _ 33 rfl w.heap.size 5 i0 (.int .u8 0) 1 1 Tryd.underlying33 hi hz0 hz1 hz2 rfl (by decide) _ _ _ rfl (hown.alloc _) ⟨wr.heap.size, 0, none⟩ 1 1 [.int .u8 ((n : Int) / 2 ^ (8 * e) % 256)] rfl rfl ?c1 ?c2 ?c3 ?c4 ?c5 ?_)
        case c1 =>
          intro j u hj
          match j, hj with
          | 0, hj => simp at hj; subst hj; simp [Addr.add]
          | (j + 1), hj => simp at hj
        case c2 => intro u hu; simp at hu; rcases hu with rfl; rfl
        case c3 => unfold maxLen; omega
        case c4 => omega
        case c5 => have := HB'.out.size; simp; omega
        intro v2 w2 hown2 hgrow hnil
        have hb2 := below_step HB'.out HB'.out.size hown hgrow
        have hn2 : v2 ≠ .slice none 0 0 := fun e => HN'.out (by simp [e] at hnil)
        clear hgrow hown hnil
        go_wp2
        go_roundw
        case rel =>
          refine ⟨e, by have := HL.out; omega, by go_num, hn2, ?_, hb2⟩
          rw [HT.out, bv_append]
          have e1 : bv [UInt8.ofNat (n / 256 ^ e)] = [.int .u8 ((n : Int) / 2 ^ (8 * e) % 256)] := by rw [HX.out]; rfl
          have e2 : l.length + (k - e) = l.length + (k - (e + 1)) + 1 := by have := HL.out; omega
          rw [e1, e2]
          exact hown2
        case measure => simp [intOf]
theorem putbig_spec (w : World) (v : Value) (l : List UInt8) (n x : Int) (hv : Sl w v (bv l)) (hl : l.length ≤ 1099511627776) :
    Calls Tryd.prog 65 #[v, .int .i64 n, .int .i64 x] w (Fresh w (l ++ bigL n x)) := by
  obtain ⟨b, o, cap, e, hc⟩ := hv
  rw [bv_length] at e
  subst e
  by_cases h : fitB n x
  · have h' := fit_un h
    rw [bigL_yes h]
    obtain ⟨m, rfl⟩ : ∃ m : Nat, n = m := ⟨n.toNat, by omega⟩
    obtain ⟨k, rfl⟩ : ∃ k : Nat, x = k := ⟨x.toNat, by omega⟩
    refine putbig_spec_yes w b o cap l m k hc hl (fit_wid h) ?_
    by_cases hk : k = 8
    · exact .inl hk
    · refine .inr ⟨by omega, ?_⟩
      have hz : (m : Int) / 2 ^ (8 * k) = 0 := by
        rcases h'.2 with ⟨e, g⟩ | ⟨e, g⟩ | ⟨e, g⟩ | e
        · obtain rfl : k = 1 := by omega
          omega
        · obtain rfl : k = 2 := by omega
          omega
        · obtain rfl : k = 4 := by omega
          omega
        · omega
      rw [hz]
      rfl
  · rw [bigL_no h, List.append_nil]
    exact putbig_spec_no w b o cap l n x hc hl h
end Go.Proofs.YtilgncebhgplaaaDoor
/- math/bits.TrailingZeros at the widths: one, two, four and eight; the library's table. -/
namespace Go.Proofs.YtilgncebhgplaaaDoor
open Go.RowKit
set_option maxRecDepth 100000
/-- what is wanted of the table -/
structure Tz (w : World) : Prop where
  c0 : w.cell? ⟨2, 0, none⟩ = some (.int .u8 0)
  c1 : w.cell? ⟨2, 1, none⟩ = some (.int .u8 1)
  c3 : w.cell? ⟨2, 3, none⟩ = some (.int .u8 2)
  c7 : w.cell? ⟨2, 7, none⟩ = some (.int .u8 3)
theorem tz_lt {w : World} {p : Addr} {v : Value} (hc : w.cell? p = some v) : p.block < w.heap.size := by
  rcases Nat.lt_or_ge p.block w.heap.size with h' | h'
  · exact h'
  · simp [World.cell?, Array.getElem?_eq_none h'] at hc
theorem Tz.below {w w' : World} (h : Tz w) (hb : Below w.heap.size w w') : Tz w' :=
  ⟨(hb.cell (p := ⟨_, 0, none⟩) (tz_lt h.c0)).trans h.c0, (hb.cell (p := ⟨_, 1, none⟩) (tz_lt h.c1)).trans h.c1, (hb.cell (p := ⟨_, 3, none⟩) (tz_lt h.c3)).trans h.c3, (hb.cell (p := ⟨_, 7, none⟩) (tz_lt h.c7)).trans h.c7⟩
theorem gTz : Tryd.prog.globalNamed "math/bits.deBruijn64tab" = some 2 := by kernel_rfl
theorem gTzType : (Tryd.prog.globals[2]?).map (·.type) = some 133 := by kernel_rfl
theorem cellsTz : Tryd.prog.cellsOf 133 = 64 := by kernel_rfl
theorem cellsU8 : Tryd.prog.cellsOf 5 = 1 := by kernel_rfl
def tzTab : List Int := Lib.deBruijn64tab.map Int.ofNat
theorem tabs_tz {W : World} (h : laidMet Tryd.prog [("math/bits.deBruijn32tab", Rows.laid_math_bits_deBruijn32tab), ("math/bits.deBruijn64tab", Rows.laid_math_bits_deBruijn64tab)] W) : Tz W := by
  have e2 : (Rows.laid_math_bits_deBruijn64tab : DataW Unit) = Lib.tabData .u8 tzTab := by kernel_rfl
  rw [e2] at h
  have ht := Lib.tabIs_of_head (rest := []) gTz gTzType Tryd.underlying133 Tryd.underlying5 cellsU8 cellsTz h.tail
  exact ⟨ht.cell gTz 0 (by decide), ht.cell gTz 1 (by decide), ht.cell gTz 3 (by decide), ht.cell gTz 7 (by decide)⟩
theorem tz64 {w : World} (h : Tz w) {x k : Int} (hx : (x = 1 ∧ k = 0) ∨ (x = 2 ∧ k = 1) ∨ (x = 4 ∧ k = 2) ∨ (x = 8 ∧ k = 3)) : Calls Tryd.prog 111 #[.int .u64 x] w fun e w' => e = .returned (.int .i64 k) ∧ w = w' := by
  obtain ⟨c0, c1, c3, c7⟩ := h
  have a1 : bits .and .u64 1 (IntKind.u64.wrap (-1)) = 1 := by decide
  have a2 : bits .and .u64 2 (IntKind.u64.wrap (-2)) = 2 := by decide
  have a4 : bits .and .u64 4 (IntKind.u64.wrap (-4)) = 4 := by decide
  have a8 : bits .and .u64 8 (IntKind.u64.wrap (-8)) = 8 := by decide
  rcases hx with ⟨rfl, rfl⟩ | ⟨rfl, rfl⟩ | ⟨rfl, rfl⟩ | ⟨rfl, rfl⟩
  all_goals
    go_enter Tryd.func111, Tryd.ntmps111
    go_wp2
    go_ret
    exact ⟨rfl, rfl⟩
theorem tz_any {w : World} (h : Tz w) {x k : Int} (hx : (x = 1 ∧ k = 0) ∨ (x = 2 ∧ k = 1) ∨ (x = 4 ∧ k = 2) ∨ (x = 8 ∧ k = 3)) : Calls Tryd.prog 107 #[.int .u64 x] w fun e w' => e = .returned (.int .i64 k) ∧ w = w' := by
  have c := tz64 h hx
  clear h hx
  go_enter Tryd.func107, Tryd.ntmps107
  go_wp2_with fail
  refine c.mono ?_
  rintro e w' ⟨rfl, rfl⟩
  go_wp2
  go_ret
  exact ⟨rfl, rfl⟩
end Go.Proofs.YtilgncebhgplaaaDoor
/- A head's bytes: PutHead of both sides. -/
namespace Go.Proofs.YtilgncebhgplaaaDoor
open Go.RowKit
set_option maxRecDepth 100000
theorem info_impl {w : World} {b : Nat} {h : Hd} (H : HB w b h) (o : hdOk h) (hT : Tz w) : Calls Tryd.prog 103 #[.pointer (some ⟨b, 0, none⟩)] w fun e w' => e = .returned (.int .i64 (hdInfo h)) ∧ w = w' := by
  have hc := hdOk_cases o
  obtain ⟨k, n, x⟩ := h
  have c1 := H.c1
  have c2 := H.c2
  simp only at c1 c2 hc
  obtain ⟨_, _, hc⟩ := hc
  clear H o
  have wide : ∀ v : Int, (x = 1 ∧ v = 0) ∨ (x = 2 ∧ v = 1) ∨ (x = 4 ∧ v = 2) ∨ (x = 8 ∧ v = 3) → Calls Tryd.prog 103 #[.pointer (some ⟨b, 0, none⟩)] w fun e w' => e = .returned (.int .i64 (24 + v)) ∧ w = w' := fun v hv => by
    have ct := tz_any hT hv
    have e1 : (x == -1) = false := by rw [beq_eq_false_iff_ne]; omega
    have e2 : (x == 0) = false := by rw [beq_eq_false_iff_ne]; omega
    have e3 : 1 ≤ x := by omega
    have e4 : x ≤ 8 := by omega
    have e5 : 0 ≤ v := by omega
    have e6 : v ≤ 3 := by omega
    clear hv hc hT
    go_enter Tryd.func103, Tryd.ntmps103
    go_wp2_with fail
    refine ct.mono ?_
    rintro e w' ⟨rfl, rfl⟩
    go_wp2
    go_ret
    exact ⟨rfl, rfl⟩
  rcases hc with hc | hc | hc | hc | hc | hc
  · obtain ⟨rfl, hn⟩ := hc
    rw [show hdInfo ⟨k, n, 0⟩ = n from rfl]
    clear wide hn
    go_enter Tryd.func103, Tryd.ntmps103
    go_wp2
    go_ret
    exact ⟨rfl, rfl⟩
  · obtain ⟨rfl, hn⟩ := hc
    exact wide 0 (by omega)
  · obtain ⟨rfl, hn⟩ := hc
    exact wide 1 (by omega)
  · obtain ⟨rfl, hn⟩ := hc
    exact wide 2 (by omega)
  · obtain rfl := hc
    exact wide 3 (by omega)
  · obtain ⟨rfl, hn⟩ := hc
    rw [show hdInfo ⟨k, n, -1⟩ = 31 from rfl]
    clear wide
    go_enter Tryd.func103, Tryd.ntmps103
    go_wp2
    go_ret
    exact ⟨rfl, rfl⟩
theorem below_grow {a w w' : World} (h : Below a.heap.size a w) (k : Below w.heap.size w w') : Below a.heap.size a w' := h.trans (k.mono h.size)
theorem putlit (W : World) (g : Nat) (i : UInt8) (n x : Int) (hcl : W.cell? ⟨g, 0, none⟩ = some (.int .u8 i.toNat)) : Calls Tryd.prog 104 #[.slice (some ⟨g, 0, none⟩) 1 1, .int .i64 n, .int .i64 x] W (Fresh W ([i] ++ bigL n x)) :=
  putbig_impl W _ [i] n x ⟨g, 0, 1, rfl, fun j u hu => by
    cases j with
    | zero => simp [bv] at hu; subst hu; exact hcl
    | succ j => simp [bv] at hu⟩ (by simp)
theorem byte_val {I : Int} (h0 : 0 ≤ I) (h1 : I < 256) : ((UInt8.ofNat I.toNat).toNat : Int) = I := by rw [UInt8.toNat_ofNat']; omega
theorem hdB_cons {h : Hd} (o : hdOk h) : hdB h = [UInt8.ofNat (32 * h.k + hdInfo h).toNat] ++ bigL h.n h.w := by
  rw [hdB_yes o, List.singleton_append]
  congr 1
  have hc := hdOk_cases o
  by_cases hw : fitB h.n h.w
  · rw [bigL_yes hw]
  · rw [bigL_no hw]
    have : h.w.toNat = 0 := by
      rcases hc.2.2 with g | g | g | g | g | g
      · omega
      · exact absurd (fit_mk (by omega)) hw
      · exact absurd (fit_mk (by omega)) hw
      · exact absurd (fit_mk (by omega)) hw
      · exact absurd (fit_mk (by omega)) hw
      · omega
    rw [this]
    simp [be]
set_option maxHeartbeats 2000000 in
theorem enc_impl {w : World} {b : Nat} {h : Hd} (H : HB w b h) (h0 : -9223372036854775808 ≤ h.n) (hT : Tz w) : Calls Tryd.prog 100 #[.pointer (some ⟨b, 0, none⟩)] w fun e w' => ∃ v, e = .returned v ∧ Slc w' v (bv (hdB h)) ∧ Below w.heap.size w w' := by
  have ck := ok_impl H h0
  by_cases ho : hdOk h
  · rw [decide_eq_true ho] at ck
    rw [hdB_cons ho]
    have HO := Lib.hid ho
    have hc := hdOk_cases ho
    have hr := info_range ho
    have HI := Lib.hid (fun (W : World) (hb : Below w.heap.size w W) => info_impl (H.below hb) ho (hT.below hb))
    have HX := Lib.hid H
    obtain ⟨f, hf⟩ : ∃ f, f = hdInfo h := ⟨_, rfl⟩
    rw [← hf] at hr HI ⊢
    clear hf
    obtain ⟨k, n, x⟩ := h
    simp only at hc ⊢
    obtain ⟨⟨k0, k7⟩, _⟩ := hc
    obtain ⟨f0, f31⟩ := hr
    have hw8 : IntKind.u8.wrap (32 * k + f) = 32 * k + f := by rw [IntKind.wrap_u8]; omega
    have hv8 : ((UInt8.ofNat (32 * k + f).toNat).toNat : Int) = 32 * k + f := byte_val (by omega) (by omega)
    have HV := Lib.hid hv8
    clear hv8 ho H hT h0
    go_enter Tryd.func100, Tryd.ntmps100
    go_wp2_with fail
    refine ck.mono ?_
    rintro e w1 ⟨rfl, hb1⟩
    have G1 := HX.out.below hb1
    obtain ⟨a0, a1, a2, af⟩ := G1
    simp only at a0 a1 a2
    have HB1 := Lib.hid hb1
    clear hb1 ck
    go_wp2_with fail
    go_quiet ((exact quiet_eq (HI.out _ (below_drewN HB1.out _))))
    go_wp2_with fail
    have hb2 := below_drewN HB1.out nq
    have d1 : (w1.drewN nq).cell? ⟨b, 1, none⟩ = some (.int .i64 n) := a1
    have d2 : (w1.drewN nq).cell? ⟨b, 2, none⟩ = some (.int .i64 x) := a2
    generalize w1.drewN nq = w2 at *
    have hlt := cell_lt d1
    have HB2 := Lib.hid hb2
    have HS := Lib.hid (fun (W : World) (hb : Below w2.heap.size w2 W) => (⟨hb, (hb.cell (p := ⟨b, 1, none⟩) hlt).trans d1, (hb.cell (p := ⟨b, 2, none⟩) hlt).trans d2⟩ : Below w2.heap.size w2 W ∧ W.cell? ⟨b, 1, none⟩ = some (.int .i64 n) ∧ W.cell? ⟨b, 2, none⟩ = some (.int .i64 x)))
    have HC := Lib.hid (fun (W : World) (hc : W.cell? ⟨w2.heap.size, 0, none⟩ = some (.int .u8 (32 * k + f))) => putlit W w2.heap.size (UInt8.ofNat (32 * k + f).toNat) n x (by rw [HV.out]; exact hc))
    clear a0 a1 a2 af hb2 HI HX d1 d2
    go_region_held3 (fun W => Below w2.heap.size w2 W ∧ W.cell? ⟨b, 1, none⟩ = some (.int .i64 n) ∧ W.cell? ⟨b, 2, none⟩ = some (.int .i64 x)) ((refine HS.out _ ?_; first | with_reducible assumption | with_reducible exact (Below.refl _ _).drew | with_reducible exact (Below.refl _ _).alloc (Nat.le_refl _) _ | with_reducible exact ((Below.refl _ _).alloc (Nat.le_refl _) _).drew | with_reducible exact ((Below.refl _ _).drew).alloc (Nat.le_refl _) _)) ((first | (go_at_call 104; go_split_ands; refine (HC.out _ (by simp [go_sem])).mono ?_; rintro e w8 ⟨v8, rfl, hn8, o8, b8⟩; have bb8 := below_grow (by with_reducible assumption) b8)))
    all_goals
      have HO8 := Lib.hid (own_slc o8)
      have HB8 := Lib.hid (HB2.out.trans (bb8.mono HB2.out.size))
      clear o8 b8 bb8 hn8
      go_wp2
      go_ret
      exact ⟨_, rfl, HO8.out, HB8.out⟩
  · rw [decide_eq_false ho] at ck
    rw [hdB_no ho]
    clear ho H hT h0
    go_enter Tryd.func100, Tryd.ntmps100
    go_wp2_with fail
    refine ck.mono ?_
    rintro e w1 ⟨rfl, hb1⟩
    go_wp2
    go_ret
    exact ⟨_, rfl, .inl ⟨rfl, rfl⟩, hb1⟩
theorem hdB_le (h : Hd) : (hdB h).length ≤ 9 := by
  by_cases o : hdOk h
  · rw [hdB_cons o, List.length_append]
    have := bigL_len h.n h.w
    simp; omega
  · rw [hdB_no o]; simp
set_option maxHeartbeats 4000000 in
theorem puthead_spec (w : World) (v : Value) (l : List UInt8) (h : Hd) (hv : Sl w v (bv l)) (hl : l.length < 1099511627776) :
    Calls Tryd.prog 37 #[v, h.val] w (Fresh w (l ++ hdB h)) := by
  obtain ⟨i0, hi, hz0, hz1, hz2⟩ := info_parts byteInfo'
  obtain ⟨b, o, cap, e, hc⟩ := hv
  rw [bv_length] at e
  subst e
  have hb0 := below_box w (.cells #[.int .i64 h.k, .int .i64 h.n, .int .i64 h.w] 51)
  have hh := hb_new w h 51
  have hc0 : ∀ j u, (bv l)[j]? = some u → (w.alloc (.cells #[.int .i64 h.k, .int .i64 h.n, .int .i64 h.w] 51)).cell? ⟨b, o + j, none⟩ = some u := fun j u hu => (hb0.cell (p := ⟨b, o + j, none⟩) (cell_lt (hc j u hu))).trans (hc j u hu)
  clear hc
  have ck := fun W => headok_spec h W
  obtain ⟨E, hE⟩ : ∃ E, E = hdB h := ⟨_, rfl⟩
  rw [← hE]
  have HE := Lib.hid hE
  have HCS := Lib.hid (fun (o : hdOk h) => hdOk_cases o)
  have HCN := Lib.hid (fun (o : hdOk h) => hdB_cons o)
  have HNO := Lib.hid (fun (o : ¬ hdOk h) => hdB_no o)
  clear hE
  have HB0 := Lib.hid hb0
  have HH0 := Lib.hid hh
  have HC0 := Lib.hid hc0
  clear hb0 hh hc0
  obtain ⟨k, n, x⟩ := h
  simp only [Hd.val] at HB0 HH0 HC0 HCS HCN ck
  go_enter Tryd.func37, Tryd.ntmps37
  (go_upto_region 1 with fail)
  generalize (w.alloc (.cells #[.int .i64 k, .int .i64 n, .int .i64 x] 51)) = W0 at *
  have c1 : ∀ o', ∀ j u, (bv l)[j]? = some u → (W0.alloc o').cell? ((⟨b, o, none⟩ : Addr).add j) = some u := by
    intro o' j u hu
    rw [addr_add, (below_alloc W0 o').cell (p := ⟨b, o + j, none⟩) (cell_lt (HC0.out j u hu))]
    exact HC0.out j u hu
  go_wp2_with (at_builtin; refine wpList_append_own _ rfl _ _ 33 rfl W0.heap.size 5 i0 (.int .u8 0) 1 1 Tryd.underlying33 hi hz0 hz1 hz2 rfl (by decide) _ _ _ rfl (World.ownsRow_made W0 #[] 0 (Nat.le_refl _) (by decide) rfl) ⟨b, o, none⟩ l.length cap (bv l) rfl (by simp) (c1 _) (bv_cell l) ?c3 ?c4 ?c5 ?_)
  case c3 => unfold maxLen; omega
  case c4 => omega
  case c5 => simp
  intro v1 w1 hown hgrow hnil
  have hb1 : Below W0.heap.size W0 w1 := (below_alloc W0 _).trans (grown_belowN hgrow (by simp) (by simp [Value.ownBlock]))
  have HN := Lib.hid hnil
  have HO := Lib.hid (show w1.ownsRow W0.heap.size 5 1 v1 l.length (bv l) by simpa using hown)
  have HB1 := Lib.hid hb1
  have HH1 := Lib.hid (HH0.out.below hb1)
  clear hgrow hnil c1 hown hb1
  obtain ⟨a0, a1, a2, af⟩ := HH1.out
  simp only at a0 a1 a2
  clear af
  go_wp2_with fail
  refine (ck _).mono ?_
  rintro e w2 ⟨rfl, hb2⟩
  have HB2 := Lib.hid (HB1.out.trans (hb2.mono HB1.out.size))
  have HH2 := Lib.hid (HH1.out.below hb2)
  have HO2 := Lib.hid (own_below HO.out hb2)
  clear a0 a1 a2 hb2 ck HO HH1
  obtain ⟨a0, a1, a2, af⟩ := HH2.out
  simp only at a0 a1 a2
  clear af
  by_cases hok : hdOk ⟨k, n, x⟩
  · have hd := decide_eq_true hok
    have hcs := HCS.out hok
    have HL := Lib.hid (HE.out.trans (HCN.out hok))
    have hr := info_range hok
    obtain ⟨f, hf⟩ : ∃ f, f = hdInfo ⟨k, n, x⟩ := ⟨_, rfl⟩
    rw [← hf] at hr HL
    obtain ⟨⟨k0, k7⟩, _, hcs⟩ := hcs
    obtain ⟨f0, f31⟩ := hr
    have hw8 : IntKind.u8.wrap (32 * k + f) = 32 * k + f := by rw [IntKind.wrap_u8]; omega
    have hm8 : (32 * k + f) % 256 = 32 * k + f := by omega
    have hv8 : ((UInt8.ofNat (32 * k + f).toNat).toNat : Int) = 32 * k + f := byte_val (by omega) (by omega)
    have HV := Lib.hid hv8
    clear hok hv8 HE HCS HCN HNO
    have hown := HO2.out
    rcases hcs with ⟨rfl, hn⟩ | ⟨rfl, hn⟩ | ⟨rfl, hn⟩ | ⟨rfl, hn⟩ | rfl | ⟨rfl, hn, _⟩
    · have hff : f = n := hf
      subst hff
      clear hf hn
      go_wp2_with (at_builtin; refine wpList_append_own _ rfl _ _ 33 rfl W0.heap.size 5 i0 (.int .u8 0) 1 1 Tryd.underlying33 hi hz0 hz1 hz2 rfl (by decide) _ _ _ rfl (hown.alloc _) ⟨w2.heap.size, 0, none⟩ 1 1 [.int .u8 (32 * k + f)] rfl rfl ?c1 ?c2 ?c3 ?c4 ?c5 ?_)
      case c1 =>
        intro j u hj
        match j, hj with
        | 0, hj => simp at hj; subst hj; simp [Addr.add]
        | (j + 1), hj => simp at hj
      case c2 => intro u hu; simp at hu; rcases hu with rfl; rfl
      case c3 => unfold maxLen; omega
      case c4 => omega
      case c5 => have := HB2.out.size; simp; omega
      intro v2 w3 hown2 hgrow hnil2
      have hb3 := below_step HB2.out HB2.out.size hown hgrow
      have HB3 := Lib.hid hb3
      have HN3 := Lib.hid hnil2
      have e8 : bv l ++ [Value.int .u8 (32 * k + f)] = bv (l ++ [UInt8.ofNat (32 * k + f).toNat]) := by rw [bv_append]; simp only [bv, List.map_cons, List.map_nil]; rw [HV.out]
      have ho3 := hown2
      rw [e8, show l.length + 1 = (l ++ [UInt8.ofNat (32 * k + f).toNat]).length by simp] at ho3
      have HO3 := Lib.hid ho3
      have HH3 := Lib.hid (HH0.out.below hb3)
      clear hgrow hown2 hown hb3 hnil2 e8 ho3 a0 a1 a2
      obtain ⟨a0, a1, a2, af⟩ := HH3.out
      simp only at a0 a1 a2
      clear af
      go_wp2
      go_ret
      refine ⟨_, rfl, HN3.out, ?_, HB0.out.trans (HB3.out.mono HB0.out.size)⟩
      rw [HL.out, bigL_no (fun g => by have := fit_un g; omega), List.append_nil]
      exact own_base HO3.out HB0.out.size
    · have hff : f = 24 := hf
      subst hff
      clear hf
      go_wp2_with (at_builtin; refine wpList_append_own _ rfl _ _ 33 rfl W0.heap.size 5 i0 (.int .u8 0) 1 1 Tryd.underlying33 hi hz0 hz1 hz2 rfl (by decide) _ _ _ rfl (hown.alloc _) ⟨w2.heap.size, 0, none⟩ 1 1 [.int .u8 (32 * k + 24)] rfl rfl ?c1 ?c2 ?c3 ?c4 ?c5 ?_)
      case c1 =>
        intro j u hj
        match j, hj with
        | 0, hj => simp at hj; subst hj; simp [Addr.add]
        | (j + 1), hj => simp at hj
      case c2 => intro u hu; simp at hu; rcases hu with rfl; rfl
      case c3 => unfold maxLen; omega
      case c4 => omega
      case c5 => have := HB2.out.size; simp; omega
      intro v2 w3 hown2 hgrow hnil2
      have hb3 := below_step HB2.out HB2.out.size hown hgrow
      have HB3 := Lib.hid hb3
      have HN3 := Lib.hid hnil2
      have e8 : bv l ++ [Value.int .u8 (32 * k + 24)] = bv (l ++ [UInt8.ofNat (32 * k + 24).toNat]) := by rw [bv_append]; simp only [bv, List.map_cons, List.map_nil]; rw [HV.out]
      have ho3 := hown2
      rw [e8, show l.length + 1 = (l ++ [UInt8.ofNat (32 * k + 24).toNat]).length by simp] at ho3
      have HO3 := Lib.hid ho3
      have HH3 := Lib.hid (HH0.out.below hb3)
      clear hgrow hown2 hown hb3 hnil2 e8 ho3 a0 a1 a2
      obtain ⟨a0, a1, a2, af⟩ := HH3.out
      simp only at a0 a1 a2
      clear af
      have cp := putbig_spec w3 v2 (l ++ [UInt8.ofNat (32 * k + 24).toNat]) n 1 (own_sl HO3.out HN3.out) (by simp; omega)
      go_wp2_with fail
      refine cp.mono ?_
      rintro e w4 ⟨v4, rfl, hn4, o4, b4⟩
      have HO4 := Lib.hid o4
      have HB4 := Lib.hid (HB3.out.trans (b4.mono HB3.out.size))
      have HN4 := Lib.hid hn4
      clear o4 b4 hn4 cp
      go_wp2
      go_ret
      refine ⟨_, rfl, HN4.out, ?_, HB0.out.trans (HB4.out.mono HB0.out.size)⟩
      rw [HL.out, ← List.append_assoc]
      exact own_base HO4.out (Nat.le_trans HB0.out.size HB3.out.size)
    · have hff : f = 25 := hf
      subst hff
      clear hf
      go_wp2_with (at_builtin; refine wpList_append_own _ rfl _ _ 33 rfl W0.heap.size 5 i0 (.int .u8 0) 1 1 Tryd.underlying33 hi hz0 hz1 hz2 rfl (by decide) _ _ _ rfl (hown.alloc _) ⟨w2.heap.size, 0, none⟩ 1 1 [.int .u8 (32 * k + 25)] rfl rfl ?c1 ?c2 ?c3 ?c4 ?c5 ?_)
      case c1 =>
        intro j u hj
        match j, hj with
        | 0, hj => simp at hj; subst hj; simp [Addr.add]
        | (j + 1), hj => simp at hj
      case c2 => intro u hu; simp at hu; rcases hu with rfl; rfl
      case c3 => unfold maxLen; omega
      case c4 => omega
      case c5 => have := HB2.out.size; simp; omega
      intro v2 w3 hown2 hgrow hnil2
      have hb3 := below_step HB2.out HB2.out.size hown hgrow
      have HB3 := Lib.hid hb3
      have HN3 := Lib.hid hnil2
      have e8 : bv l ++ [Value.int .u8 (32 * k + 25)] = bv (l ++ [UInt8.ofNat (32 * k + 25).toNat]) := by rw [bv_append]; simp only [bv, List.map_cons, List.map_nil]; rw [HV.out]
      have ho3 := hown2
      rw [e8, show l.length + 1 = (l ++ [UInt8.ofNat (32 * k + 25).toNat]).length by simp] at ho3
      have HO3 := Lib.hid ho3
      have HH3 := Lib.hid (HH0.out.below hb3)
      clear hgrow hown2 hown hb3 hnil2 e8 ho3 a0 a1 a2
      obtain ⟨a0, a1, a2, af⟩ := HH3.out
      simp only at a0 a1 a2
      clear af
      have cp := putbig_spec w3 v2 (l ++ [UInt8.ofNat (32 * k + 25).toNat]) n 2 (own_sl HO3.out HN3.out) (by simp; omega)
      go_wp2_with fail
      refine cp.mono ?_
      rintro e w4 ⟨v4, rfl, hn4, o4, b4⟩
      have HO4 := Lib.hid o4
      have HB4 := Lib.hid (HB3.out.trans (b4.mono HB3.out.size))
      have HN4 := Lib.hid hn4
      clear o4 b4 hn4 cp
      go_wp2
      go_ret
      refine ⟨_, rfl, HN4.out, ?_, HB0.out.trans (HB4.out.mono HB0.out.size)⟩
      rw [HL.out, ← List.append_assoc]
      exact own_base HO4.out (Nat.le_trans HB0.out.size HB3.out.size)
    · have hff : f = 26 := hf
      subst hff
      clear hf
      go_wp2_with (at_builtin; refine wpList_append_own _ rfl _ _ 33 rfl W0.heap.size 5 i0 (.int .u8 0) 1 1 Tryd.underlying33 hi hz0 hz1 hz2 rfl (by decide) _ _ _ rfl (hown.alloc _) ⟨w2.heap.size, 0, none⟩ 1 1 [.int .u8 (32 * k + 26)] rfl rfl ?c1 ?c2 ?c3 ?c4 ?c5 ?_)
      case c1 =>
        intro j u hj
        match j, hj with
        | 0, hj => simp at hj; subst hj; simp [Addr.add]
        | (j + 1), hj => simp at hj
      case c2 => intro u hu; simp at hu; rcases hu with rfl; rfl
      case c3 => unfold maxLen; omega
      case c4 => omega
      case c5 => have := HB2.out.size; simp; omega
      intro v2 w3 hown2 hgrow hnil2
      have hb3 := below_step HB2.out HB2.out.size hown hgrow
      have HB3 := Lib.hid hb3
      have HN3 := Lib.hid hnil2
      have e8 : bv l ++ [Value.int .u8 (32 * k + 26)] = bv (l ++ [UInt8.ofNat (32 * k + 26).toNat]) := by rw [bv_append]; simp only [bv, List.map_cons, List.map_nil]; rw [HV.out]
      have ho3 := hown2
      rw [e8, show l.length + 1 = (l ++ [UInt8.ofNat (32 * k + 26).toNat]).length by simp] at ho3
      have HO3 := Lib.hid ho3
      have HH3 := Lib.hid (HH0.out.below hb3)
      clear hgrow hown2 hown hb3 hnil2 e8 ho3 a0 a1 a2
      obtain ⟨a0, a1, a2, af⟩ := HH3.out
      simp only at a0 a1 a2
      clear af
      have cp := putbig_spec w3 v2 (l ++ [UInt8.ofNat (32 * k + 26).toNat]) n 4 (own_sl HO3.out HN3.out) (by simp; omega)
      go_wp2_with fail
      refine cp.mono ?_
      rintro e w4 ⟨v4, rfl, hn4, o4, b4⟩
      have HO4 := Lib.hid o4
      have HB4 := Lib.hid (HB3.out.trans (b4.mono HB3.out.size))
      have HN4 := Lib.hid hn4
      clear o4 b4 hn4 cp
      go_wp2
      go_ret
      refine ⟨_, rfl, HN4.out, ?_, HB0.out.trans (HB4.out.mono HB0.out.size)⟩
      rw [HL.out, ← List.append_assoc]
      exact own_base HO4.out (Nat.le_trans HB0.out.size HB3.out.size)
    · have hff : f = 27 := hf
      subst hff
      clear hf
      go_wp2_with (at_builtin; refine wpList_append_own _ rfl _ _ 33 rfl W0.heap.size 5 i0 (.int .u8 0) 1 1 Tryd.underlying33 hi hz0 hz1 hz2 rfl (by decide) _ _ _ rfl (hown.alloc _) ⟨w2.heap.size, 0, none⟩ 1 1 [.int .u8 (32 * k + 27)] rfl rfl ?c1 ?c2 ?c3 ?c4 ?c5 ?_)
      case c1 =>
        intro j u hj
        match j, hj with
        | 0, hj => simp at hj; subst hj; simp [Addr.add]
        | (j + 1), hj => simp at hj
      case c2 => intro u hu; simp at hu; rcases hu with rfl; rfl
      case c3 => unfold maxLen; omega
      case c4 => omega
      case c5 => have := HB2.out.size; simp; omega
      intro v2 w3 hown2 hgrow hnil2
      have hb3 := below_step HB2.out HB2.out.size hown hgrow
      have HB3 := Lib.hid hb3
      have HN3 := Lib.hid hnil2
      have e8 : bv l ++ [Value.int .u8 (32 * k + 27)] = bv (l ++ [UInt8.ofNat (32 * k + 27).toNat]) := by rw [bv_append]; simp only [bv, List.map_cons, List.map_nil]; rw [HV.out]
      have ho3 := hown2
      rw [e8, show l.length + 1 = (l ++ [UInt8.ofNat (32 * k + 27).toNat]).length by simp] at ho3
      have HO3 := Lib.hid ho3
      have HH3 := Lib.hid (HH0.out.below hb3)
      clear hgrow hown2 hown hb3 hnil2 e8 ho3 a0 a1 a2
      obtain ⟨a0, a1, a2, af⟩ := HH3.out
      simp only at a0 a1 a2
      clear af
      have cp := putbig_spec w3 v2 (l ++ [UInt8.ofNat (32 * k + 27).toNat]) n 8 (own_sl HO3.out HN3.out) (by simp; omega)
      go_wp2_with fail
      refine cp.mono ?_
      rintro e w4 ⟨v4, rfl, hn4, o4, b4⟩
      have HO4 := Lib.hid o4
      have HB4 := Lib.hid (HB3.out.trans (b4.mono HB3.out.size))
      have HN4 := Lib.hid hn4
      clear o4 b4 hn4 cp
      go_wp2
      go_ret
      refine ⟨_, rfl, HN4.out, ?_, HB0.out.trans (HB4.out.mono HB0.out.size)⟩
      rw [HL.out, ← List.append_assoc]
      exact own_base HO4.out (Nat.le_trans HB0.out.size HB3.out.size)
    · obtain rfl := hn
      have hff : f = 31 := hf
      subst hff
      clear hf
      go_wp2_with (at_builtin; refine wpList_append_own _ rfl _ _ 33 rfl W0.heap.size 5 i0 (.int .u8 0) 1 1 Tryd.underlying33 hi hz0 hz1 hz2 rfl (by decide) _ _ _ rfl (hown.alloc _) ⟨w2.heap.size, 0, none⟩ 1 1 [.int .u8 (32 * k + 31)] rfl rfl ?c1 ?c2 ?c3 ?c4 ?c5 ?_)
      case c1 =>
        intro j u hj
        match j, hj with
        | 0, hj => simp at hj; subst hj; simp [Addr.add]
        | (j + 1), hj => simp at hj
      case c2 => intro u hu; simp at hu; rcases hu with rfl; rfl
      case c3 => unfold maxLen; omega
      case c4 => omega
      case c5 => have := HB2.out.size; simp; omega
      intro v2 w3 hown2 hgrow hnil2
      have hb3 := below_step HB2.out HB2.out.size hown hgrow
      have HB3 := Lib.hid hb3
      have HN3 := Lib.hid hnil2
      have e8 : bv l ++ [Value.int .u8 (32 * k + 31)] = bv (l ++ [UInt8.ofNat (32 * k + 31).toNat]) := by rw [bv_append]; simp only [bv, List.map_cons, List.map_nil]; rw [HV.out]
      have ho3 := hown2
      rw [e8, show l.length + 1 = (l ++ [UInt8.ofNat (32 * k + 31).toNat]).length by simp] at ho3
      have HO3 := Lib.hid ho3
      have HH3 := Lib.hid (HH0.out.below hb3)
      clear hgrow hown2 hown hb3 hnil2 e8 ho3 a0 a1 a2
      obtain ⟨a0, a1, a2, af⟩ := HH3.out
      simp only at a0 a1 a2
      clear af
      go_wp2
      go_ret
      refine ⟨_, rfl, HN3.out, ?_, HB0.out.trans (HB3.out.mono HB0.out.size)⟩
      rw [HL.out, bigL_no (fun g => by have := fit_un g; omega), List.append_nil]
      exact own_base HO3.out HB0.out.size
  · have hd := decide_eq_false hok
    have HL := Lib.hid (HE.out.trans (HNO.out hok))
    clear hok
    go_wp2
    go_ret
    refine ⟨_, rfl, HN.out, ?_, HB0.out.trans (HB2.out.mono HB0.out.size)⟩
    rw [HL.out, List.append_nil]
    exact own_base HO2.out HB0.out.size
end Go.Proofs.YtilgncebhgplaaaDoor
