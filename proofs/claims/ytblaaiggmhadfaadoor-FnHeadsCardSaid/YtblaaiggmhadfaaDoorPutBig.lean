/- The encoding of an integer behind given bytes: the program's and the model's answers. -/
import Derived.Test.YtblaaiggmhadfaaDoorIn
import Derived.Test.YtblaaiggmhadfaaDoorMem
import Derived.Test.YtblaaiggmhadfaaDoorFresh
import Derived.Test.YtblaaiggmhadfaaDoorBigMath
import Derived.Test.YtblaaiggmhadfaaDoorBig
import Derived.Test.YtblaaiggmhadfaaDoorCut
import Derived.Test.YtblaaiggmhadfaaDoorJoin
import Derived.Test.YtblaaiggmhadfaaDoorCur
import Derived.WalkKit
import Derived.Lib.Hide
import Derived.Outline
import Derived.ProofKit
namespace Go.Proofs.YtblaaiggmhadfaaDoor
open Go.RowKit
theorem bigbytes_no {n x : Int} (h : ¬ fitB n x) (w : World) : Calls Tryd.prog 56 #[.int .i64 n, .int .i64 x] w fun e w' => e = .returned (.slice none 0 0) ∧ w = w' := by
  have c := fits_no h w
  clear h
  go_enter Tryd.func56, Tryd.ntmps56
  go_wp2_with (go_at_call 47; refine c.mono ?_; rintro e w' ⟨rfl, rfl⟩)
  go_ret
  exact ⟨rfl, rfl⟩
theorem shr_byte (n i : Nat) (h : i < 8) : (n : Int) / 2 ^ (56 - 8 * i) % 256 = ((UInt8.ofNat (n / 256 ^ (7 - i))).toNat : Int) := by
  rw [byte_of]
  have e : (256 : Nat) ^ (7 - i) = 2 ^ (56 - 8 * i) := by
    rw [show (256 : Nat) = 2 ^ 8 from rfl, ← Nat.pow_mul]
    congr 1
    omega
  rw [e]
  simp
theorem be_take8 (n i : Nat) (h : i < 8) : (be n 8).take (i + 1) = (be n 8).take i ++ [UInt8.ofNat (n / 256 ^ (7 - i))] := by
  rw [List.take_succ_eq_append_getElem (by simpa using h), be_getElem]
theorem bigbytes_yes {n : Nat} {k : Nat} (h : fitB n k) (hk : k ≤ 8) (w : World) : Calls Tryd.prog 56 #[.int .i64 n, .int .i64 k] w fun e w' => ∃ g o, e = .returned (.slice (some ⟨g, o, none⟩) k k) ∧ (∀ j u, (bv (be n k))[j]? = some u → w'.cell? ⟨g, o + j, none⟩ = some u) ∧ Below w.heap.size w w' := by
  obtain ⟨i0, hi, hz0, hz1, hz2⟩ := info_parts byteInfo'
  have c := fits_yes h w
  clear h
  go_enter Tryd.func56, Tryd.ntmps56
  go_wp2_with (go_at_call 47; refine c.mono ?_; rintro e w' ⟨rfl, rfl⟩)
  clear c
  go_loopw [5, 6] (fun b s wr => ∃ i : Nat, i ≤ 8 ∧ s = .int .i64 (56 - 8 * (i : Int)) ∧ b ≠ .slice none 0 0 ∧ wr.ownsRow w.heap.size 5 1 b i (bv ((be n 8).take i)) ∧ Below w.heap.size w wr) (fun _ s _ => (intOf s + 8).toNat)
  case atStart => exact ⟨0, by omega, rfl, (by intro e; cases e), World.ownsRow_made w #[] 0 (Nat.le_refl _) (by decide) rfl, below_alloc w _⟩
  case round =>
    obtain ⟨i, hi8, rfl, hnn, hown, hb⟩ := hrel
    have HN := Lib.hid hnn
    have HB := Lib.hid hb
    by_cases hlt : i < 8
    · have hs : (0 : Int) ≤ 56 - 8 * i := by omega
      have HS := Lib.hid (shr_byte n i hlt)
      have HT := Lib.hid (be_take8 n i hlt)
      have HL := Lib.hid hlt
      clear hb hnn hlt
      go_wp2_with (at_builtin; refine wpList_append_own _ rfl _ _ 22 rfl w.heap.size 5 i0 (.int .u8 0) 1 1 Tryd.underlying22 hi hz0 hz1 hz2 rfl (by decide) _ _ _ rfl (hown.alloc _) ⟨wr.heap.size, 0, none⟩ 1 1 [.int .u8 ((n : Int) / 2 ^ (56 - 8 * i) % 256)] rfl rfl ?c1 ?c2 ?c3 ?c4 ?c5 ?_)
      case c1 =>
        intro j u hj
        match j, hj with
        | 0, hj => simp at hj; subst hj; simp [Addr.add]
        | (j + 1), hj => simp at hj
      case c2 => intro u hu; simp at hu; rcases hu with rfl; rfl
      case c3 => unfold maxLen; omega
      case c4 => omega
      case c5 => have := HB.out.size; simp; omega
      intro v2 w2 hown2 hgrow hnil
      have hb2 := below_step HB.out HB.out.size hown hgrow
      have hn2 : v2 ≠ .slice none 0 0 := fun e => HN.out (by simp [e] at hnil)
      clear hgrow hown hnil
      go_wp2
      go_roundw
      case rel =>
        refine ⟨i + 1, by have := HL.out; omega, by go_num, hn2, ?_, hb2⟩
        rw [HT.out, bv_append]
        have e : bv [UInt8.ofNat (n / 256 ^ (7 - i))] = [.int .u8 ((n : Int) / 2 ^ (56 - 8 * i) % 256)] := by rw [HS.out]; rfl
        rw [e]
        exact hown2
      case measure => simp [intOf]; omega
    · obtain rfl : i = 8 := by omega
      obtain ⟨g, cap, rfl, hg, hc8, hcm⟩ := own_shape hown hnn
      rw [List.take_of_length_le (by simp)] at hown
      have cc := cut_any wr g 0 cap (be n 8) (8 - k) k (fun j u hu => own_cells hown j u hu) (by simp; omega) (by simpa using hc8) hcm
      rw [be_length] at cc
      have e8 : ((8 - k : Nat) : Int) = 8 - k := by omega
      rw [e8] at cc
      have ek : ((be n 8).drop (8 - k)).take k = be n k := by
        have := be_drop n (8 - k) k
        rw [show k + (8 - k) = 8 by omega] at this
        rw [this, List.take_of_length_le (by simp)]
      rw [ek] at cc
      have hkz : (k : Int) ≤ 8 := by omega
      clear hb hown hnn ek e8 hlt hi8
      go_wp2_with fail
      refine cc.mono ?_
      rintro e w' ⟨o', rfl, hc, rfl⟩
      have HC := Lib.hid hc
      clear hc cc
      go_wp2
      go_ret
      exact ⟨g, o', rfl, HC.out, HB.out⟩
def Big (n x : Int) (w : World) (e : Ending) (w' : World) : Prop := ∃ v, e = .returned v ∧ Slc w' v (bv (bigL n x)) ∧ Below w.heap.size w w'
theorem bigbytes_any (n x : Int) (w : World) : Calls Tryd.prog 56 #[.int .i64 n, .int .i64 x] w (Big n x w) := by
  by_cases h : fitB n x
  · have h' := fit_un h
    obtain ⟨m, rfl⟩ : ∃ m : Nat, n = m := ⟨n.toNat, by omega⟩
    obtain ⟨k, rfl⟩ : ∃ k : Nat, x = k := ⟨x.toNat, by omega⟩
    refine (bigbytes_yes h (by omega) w).mono ?_
    rintro e w' ⟨g, o, rfl, hc, hb⟩
    refine ⟨_, rfl, .inr ⟨g, o, k, ?_, ?_⟩, hb⟩
    · rw [bigL_yes h, bv_length, be_length]; rfl
    · rw [bigL_yes h]; exact hc
  · refine (bigbytes_no h w).mono ?_
    rintro e w' ⟨rfl, rfl⟩
    exact ⟨_, rfl, .inl ⟨rfl, by rw [bigL_no h]; rfl⟩, Below.refl _ _⟩
theorem putbig_impl (w : World) (v : Value) (l : List UInt8) (n x : Int) (hv : Sl w v (bv l)) (hl : l.length ≤ 1099511627776) :
    Calls Tryd.prog 45 #[v, .int .i64 n, .int .i64 x] w (Fresh w (l ++ bigL n x)) := by
  have HV := Lib.hid hv
  have c := bigbytes_any n x w
  obtain ⟨b, o, cap, e, _⟩ := hv
  rw [bv_length] at e
  subst e
  go_enter Tryd.func45, Tryd.ntmps45
  go_wp2_with fail
  refine c.mono ?_
  rintro e w1 ⟨u, rfl, hu, hb⟩
  have hb8 := bigL_len n x
  have cj := joined_any w1 _ u l _ (HV.out.below hb) hu hl (by omega)
  have HB := Lib.hid hb
  clear hb hu c
  go_wp2_with fail
  refine cj.mono ?_
  rintro e w2 ⟨v2, rfl, hn, ho, hb⟩
  have HR := Lib.hid (And.intro hn (And.intro ho (HB.out.trans (hb.mono HB.out.size))))
  clear hn ho hb cj
  go_wp2
  go_ret
  exact ⟨_, rfl, HR.out.1, own_base HR.out.2.1 HB.out.size, HR.out.2.2⟩
theorem putbig_spec_no (w : World) (b o cap : Nat) (l : List UInt8) (n x : Int) (hc : ∀ j u, (bv l)[j]? = some u → w.cell? ⟨b, o + j, none⟩ = some u) (hl : l.length ≤ 1099511627776) (h : ¬ fitB n x) :
    Calls Tryd.prog 39 #[.slice (some ⟨b, o, none⟩) l.length cap, .int .i64 n, .int .i64 x] w (Fresh w l) := by
  obtain ⟨i0, hi, hz0, hz1, hz2⟩ := info_parts byteInfo'
  have cw := wid_spec x
  have c1 : ∀ o', ∀ j u, (bv l)[j]? = some u → (w.alloc o').cell? ((⟨b, o, none⟩ : Addr).add j) = some u := by
    intro o' j u hu
    rw [addr_add, (below_alloc w o').cell (p := ⟨b, o + j, none⟩) (cell_lt (hc j u hu))]
    exact hc j u hu
  go_enter Tryd.func39, Tryd.ntmps39
  go_wp2_with (at_builtin; refine wpList_append_own _ rfl _ _ 22 rfl w.heap.size 5 i0 (.int .u8 0) 1 1 Tryd.underlying22 hi hz0 hz1 hz2 rfl (by decide) _ _ _ rfl (World.ownsRow_made w #[] 0 (Nat.le_refl _) (by decide) rfl) ⟨b, o, none⟩ l.length cap (bv l) rfl (by simp) (c1 _) (bv_cell l) ?c3 ?c4 ?c5 ?_)
  case c3 => unfold maxLen; omega
  case c4 => omega
  case c5 => simp
  intro v1 w1 hown hgrow hnil
  have hb1 : Below w.heap.size w w1 := (below_alloc w _).trans (grown_belowN hgrow (by simp) (by simp [Value.ownBlock]))
  have HN := Lib.hid hnil
  clear hgrow hnil c1 hc
  by_cases hn : n < 0
  · clear cw
    go_wp2
    go_ret
    exact ⟨_, rfl, HN.out, hown, hb1⟩
  by_cases hx : widOk x
  · have cw := wid_yes hx
    rcases wid_un hx with rfl | rfl | rfl | rfl
    · have h2 : ((n / 256) != 0) = true := by simp; intro e; exact h (fit_mk (by omega))
      clear h hx
      go_wp2_with (go_at_call 53; refine (cw _).mono ?_; rintro e w' ⟨rfl, rfl⟩)
      go_ret
      exact ⟨_, rfl, HN.out, hown, hb1⟩
    · have h2 : ((n / 65536) != 0) = true := by simp; intro e; exact h (fit_mk (by omega))
      clear h hx
      go_wp2_with (go_at_call 53; refine (cw _).mono ?_; rintro e w' ⟨rfl, rfl⟩)
      go_ret
      exact ⟨_, rfl, HN.out, hown, hb1⟩
    · have h2 : ((n / 4294967296) != 0) = true := by simp; intro e; exact h (fit_mk (by omega))
      clear h hx
      go_wp2_with (go_at_call 53; refine (cw _).mono ?_; rintro e w' ⟨rfl, rfl⟩)
      go_ret
      exact ⟨_, rfl, HN.out, hown, hb1⟩
    · exact absurd (fit_mk (by omega)) h
  · have cw := wid_no hx
    clear h hx
    go_wp2_with (go_at_call 53; refine (cw _).mono ?_; rintro e w' ⟨rfl, rfl⟩)
    go_ret
    exact ⟨_, rfl, HN.out, hown, hb1⟩
theorem shr_byte2 (n e : Nat) : (n : Int) / 2 ^ (8 * e) % 256 = ((UInt8.ofNat (n / 256 ^ e)).toNat : Int) := by
  rw [byte_of]
  have h : (256 : Nat) ^ e = 2 ^ (8 * e) := by
    rw [show (256 : Nat) = 2 ^ 8 from rfl, ← Nat.pow_mul]
  rw [h]
  simp
theorem be_takeE (n k e : Nat) (h : e < k) : (be n k).take (k - e) = (be n k).take (k - (e + 1)) ++ [UInt8.ofNat (n / 256 ^ e)] := by
  rw [show k - e = (k - (e + 1)) + 1 by omega, List.take_succ_eq_append_getElem (by rw [be_length]; omega), be_getElem, show k - 1 - (k - (e + 1)) = e by omega]
theorem putbig_spec_yes (w : World) (b o cap : Nat) (l : List UInt8) (n k : Nat) (hc : ∀ j u, (bv l)[j]? = some u → w.cell? ⟨b, o + j, none⟩ = some u) (hl : l.length ≤ 1099511627776) (hw : widOk k) (h : k = 8 ∨ ((k : Int) < 8 ∧ (((n : Int) / 2 ^ (8 * k)) != 0) = false)) :
    Calls Tryd.prog 39 #[.slice (some ⟨b, o, none⟩) l.length cap, .int .i64 n, .int .i64 k] w (Fresh w (l ++ be n k)) := by
  obtain ⟨i0, hi, hz0, hz1, hz2⟩ := info_parts byteInfo'
  have cw := wid_yes hw
  have c1 : ∀ o', ∀ j u, (bv l)[j]? = some u → (w.alloc o').cell? ((⟨b, o, none⟩ : Addr).add j) = some u := by
    intro o' j u hu
    rw [addr_add, (below_alloc w o').cell (p := ⟨b, o + j, none⟩) (cell_lt (hc j u hu))]
    exact hc j u hu
  have hk8 : k ≤ 8 := by have := wid_un hw; omega
  have hk1 : 1 ≤ k := by have := wid_un hw; omega
  have hkz : (k : Int) ≤ 8 := by omega
  have hkz1 : (1 : Int) ≤ k := by omega
  clear hw
  go_enter Tryd.func39, Tryd.ntmps39
  go_wp2_with (at_builtin; refine wpList_append_own _ rfl _ _ 22 rfl w.heap.size 5 i0 (.int .u8 0) 1 1 Tryd.underlying22 hi hz0 hz1 hz2 rfl (by decide) _ _ _ rfl (World.ownsRow_made w #[] 0 (Nat.le_refl _) (by decide) rfl) ⟨b, o, none⟩ l.length cap (bv l) rfl (by simp) (c1 _) (bv_cell l) ?c3 ?c4 ?c5 ?_)
  case c3 => unfold maxLen; omega
  case c4 => omega
  case c5 => simp
  intro v1 w1 hown hgrow hnil
  have hb1 : Below w.heap.size w w1 := (below_alloc w _).trans (grown_belowN hgrow (by simp) (by simp [Value.ownBlock]))
  have HN := Lib.hid hnil
  have HO := Lib.hid (show w1.ownsRow w.heap.size 5 1 v1 l.length (bv l) by simpa using hown)
  have HB := Lib.hid hb1
  clear hgrow hnil c1 hc hown hb1
  have e255 := i64_and255
  have h : ¬ (k : Int) < 8 ∨ ((k : Int) < 8 ∧ (((n : Int) / 2 ^ (8 * k)) != 0) = false) := by
    rcases h with h | h
    · exact .inl (by omega)
    · exact .inr h
  rcases h with h1 | ⟨h1, h2⟩
  all_goals
    go_wp2_with (go_at_call 53; refine (cw _).mono ?_; rintro e w' ⟨rfl, rfl⟩)
    clear cw h1
    try clear h2
    go_loopw [7, 8] (fun b i wr => ∃ d : Nat, d ≤ k ∧ i = .int .i64 ((d : Int) - 1) ∧ b ≠ .slice none 0 0 ∧ wr.ownsRow w.heap.size 5 1 b (l.length + (k - d)) (bv l ++ bv ((be n k).take (k - d))) ∧ Below w.heap.size w wr) (fun _ i _ => (intOf i + 1).toNat)
    case atStart => exact ⟨k, Nat.le_refl _, rfl, HN.out, by rw [Nat.sub_self, List.take_zero]; simpa [bv] using HO.out, HB.out⟩
    case round =>
      obtain ⟨d, hd, rfl, hnn, hown, hb⟩ := hrel
      have HN' := Lib.hid hnn
      have HB' := Lib.hid hb
      rcases d with _ | e
      · rw [Nat.sub_zero, List.take_of_length_le (by simp)] at hown
        have HO' := Lib.hid hown
        clear hb hnn hown
        go_wp2
        go_ret
        exact ⟨_, rfl, HN'.out, by rw [List.length_append, be_length, bv_append]; exact HO'.out, HB'.out⟩
      · have ee : (((e + 1 : Nat) : Int) - 1) = e := by omega
        rw [ee]
        have HT := Lib.hid (be_takeE n k e (by omega))
        have HX := Lib.hid (shr_byte2 n e)
        have hez : (e : Int) ≤ 7 := by omega
        have HL := Lib.hid hd
        clear hb hnn ee hd
        go_wp2_with (at_builtin; refine wpList_append_own _ rfl _ _ 22 rfl w.heap.size 5 i0 (.int .u8 0) 1 1 Tryd.underlying22 hi hz0 hz1 hz2 rfl (by decide) _ _ _ rfl (hown.alloc _) ⟨wr.heap.size, 0, none⟩ 1 1 [.int .u8 ((n : Int) / 2 ^ (8 * e) % 256)] rfl rfl ?c1 ?c2 ?c3 ?c4 ?c5 ?_)
        case c1 =>
          intro j u hj
          match j, hj with
          | 0, hj => simp at hj; subst hj; simp [Addr.add]
          | (j + 1), hj => simp at hj
        case c2 => intro u hu; simp at hu; rcases hu with rfl; rfl
        case c3 => unfold maxLen; omega
        case c4 => omega
        case c5 => have := HB'.out.size; simp; omega
        intro v2 w2 hown2 hgrow hnil
        have hb2 := below_step HB'.out HB'.out.size hown hgrow
        have hn2 : v2 ≠ .slice none 0 0 := fun e => HN'.out (by simp [e] at hnil)
        clear hgrow hown hnil
        go_wp2
        go_roundw
        case rel =>
          refine ⟨e, by have := HL.out; omega, by go_num, hn2, ?_, hb2⟩
          rw [HT.out, bv_append]
          have e1 : bv [UInt8.ofNat (n / 256 ^ e)] = [.int .u8 ((n : Int) / 2 ^ (8 * e) % 256)] := by rw [HX.out]; rfl
          have e2 : l.length + (k - e) = l.length + (k - (e + 1)) + 1 := by have := HL.out; omega
          rw [e1, e2]
          exact hown2
        case measure => simp [intOf]
theorem putbig_spec (w : World) (v : Value) (l : List UInt8) (n x : Int) (hv : Sl w v (bv l)) (hl : l.length ≤ 1099511627776) :
    Calls Tryd.prog 39 #[v, .int .i64 n, .int .i64 x] w (Fresh w (l ++ bigL n x)) := by
  obtain ⟨b, o, cap, e, hc⟩ := hv
  rw [bv_length] at e
  subst e
  by_cases h : fitB n x
  · have h' := fit_un h
    rw [bigL_yes h]
    obtain ⟨m, rfl⟩ : ∃ m : Nat, n = m := ⟨n.toNat, by omega⟩
    obtain ⟨k, rfl⟩ : ∃ k : Nat, x = k := ⟨x.toNat, by omega⟩
    refine putbig_spec_yes w b o cap l m k hc hl (fit_wid h) ?_
    by_cases hk : k = 8
    · exact .inl hk
    · refine .inr ⟨by omega, ?_⟩
      have hz : (m : Int) / 2 ^ (8 * k) = 0 := by
        rcases h'.2 with ⟨e, g⟩ | ⟨e, g⟩ | ⟨e, g⟩ | e
        · obtain rfl : k = 1 := by omega
          omega
        · obtain rfl : k = 2 := by omega
          omega
        · obtain rfl : k = 4 := by omega
          omega
        · omega
      rw [hz]
      rfl
  · rw [bigL_no h, List.append_nil]
    exact putbig_spec_no w b o cap l n x hc hl h
end Go.Proofs.YtblaaiggmhadfaaDoor
