/- The hexadecimal digits of bytes: the program's and the model's answers. -/
import Derived.Test.YtaelepaogkakmaaDoorIn
import Derived.Test.YtaelepaogkakmaaDoorMem
import Derived.Test.YtaelepaogkakmaaDoorFresh
import Derived.Test.YtaelepaogkakmaaDoorConv
import Derived.Test.YtaelepaogkakmaaDoorHexMath
import Derived.Test.YtaelepaogkakmaaDoorCur
import Derived.WalkKit
import Derived.Lib.Hide
import Derived.Outline
import Derived.ProofKit
import Derived.Deep.RegionHeld3
import Derived.Deep.AppendLies
namespace Go.Proofs.YtaelepaogkakmaaDoor
open Go.RowKit
def hexS : ByteArray := ⟨#[48, 49, 50, 51, 52, 53, 54, 55, 56, 57, 97, 98, 99, 100, 101, 102]⟩
theorem hex_at (q : Nat) (h : q < 16) (h2 : q < hexS.size) : hexS[q] = hexd q := by
  have h1 : q = 0 ∨ q = 1 ∨ q = 2 ∨ q = 3 ∨ q = 4 ∨ q = 5 ∨ q = 6 ∨ q = 7 ∨ q = 8 ∨ q = 9 ∨ q = 10 ∨ q = 11 ∨ q = 12 ∨ q = 13 ∨ q = 14 ∨ q = 15 := by omega
  rcases h1 with rfl | rfl | rfl | rfl | rfl | rfl | rfl | rfl | rfl | rfl | rfl | rfl | rfl | rfl | rfl | rfl <;> rfl
theorem hex_index (q : Nat) (h : q < 16) (w : World) : (Instr.index 9 (.string ⟨#[48, 49, 50, 51, 52, 53, 54, 55, 56, 57, 97, 98, 99, 100, 101, 102]⟩) (.int .u8 q)).run Tryd.prog w = .ok (.int .u8 (hexd q).toNat) w := by
  have hs : hexS.size = 16 := rfl
  have := run_index_string (P := Tryd.prog) w 9 hexS .u8 q Tryd.underlying9
  rw [dif_pos (by rw [hs]; omega)] at this
  rw [show (⟨#[48, 49, 50, 51, 52, 53, 54, 55, 56, 57, 97, 98, 99, 100, 101, 102]⟩ : ByteArray) = hexS from rfl, this]
  have e := hex_at q h (by rw [hs]; exact h)
  simp only [Int.toNat_natCast]
  rw [e]
theorem grown_undrew {w w' : World} {r : Option Nat} (h : w.drew.grownBy w' r) : w.grownBy w' r := ⟨h.os, h.tape, h.output, h.size, h.block⟩
theorem step_hex {w wr w1 : World} {o : Obj} {g n c cap gg m : Nat} {xs : List Value} (hg : g ≠ w.heap.size + 1) (hs : w.heap.size + 1 < wr.heap.size) (hb : Below w.heap.size w wr) (hR : Reads wr (.slice (some ⟨w.heap.size + 1, 0, none⟩) m cap) xs)
    (hgrow : (wr.alloc o).drew.grownBy w1 (Value.slice (some ⟨g, 0, none⟩) n c).ownBlock) (hat : (Value.slice (some ⟨g, 0, none⟩) n c).ownBlock = some gg ∨ gg = wr.heap.size + 1) (hgb : w.heap.size ≤ g) :
    gg ≠ w.heap.size + 1 ∧ w.heap.size + 1 < w1.heap.size ∧ Reads w1 (.slice (some ⟨w.heap.size + 1, 0, none⟩) m cap) xs ∧ Below w.heap.size w w1 := by
  have hgr := grown_undrew hgrow
  have hsz := hgr.size
  simp at hsz
  refine ⟨?_, by omega, ?_, ?_⟩
  · rcases hat with h | h
    · simp [Value.ownBlock] at h; omega
    · omega
  · exact (hR.below (below_alloc wr o)).only (Only.of_grown hgr) (by simp [Value.ownBlock]; omega)
  · exact (hb.alloc (by omega) o).trans (grown_belowN hgr (by simp; omega) (by simp [Value.ownBlock]; omega))
set_option maxRecDepth 100000 in
theorem hextext_impl (l : List UInt8) (w : World) (hl : l.length ≤ 1099511627776) : Calls Tryd.prog 55 #[.string ⟨l.toArray⟩] w fun e w' => e = .returned (.string ⟨(hexL l).toArray⟩) ∧ Below w.heap.size w w' := by
  obtain ⟨i0, hi, hz0, hz1, hz2⟩ := info_parts byteInfo'
  obtain ⟨cap, w1, hcv, hR, hb, _, _, hR0⟩ := conv_bytes (w.alloc (.cells #[] 5)) l
  have hR0 : w.heap.size + 1 < w1.heap.size := by
    rcases Nat.lt_or_ge (w.alloc (.cells #[] 5)).heap.size w1.heap.size with h | h
    · simpa using h
    · rw [Array.getElem?_eq_none h] at hR0; cases hR0
  have hR : Reads w1 (.slice (some ⟨w.heap.size + 1, 0, none⟩) l.length cap) (bv l) := by simpa using hR
  have hsz := size_l l
  generalize hgs : (ByteArray.mk l.toArray) = s at *
  go_enter Tryd.func55, Tryd.ntmps55
  go_wp2
  go_loopw [3, 5, 10] (fun out _ i wr => ∃ (i' g c : Nat), i = .int .i64 i' ∧ i' ≤ l.length ∧ out = .slice (some ⟨g, 0, none⟩) (2 * i') c ∧ g ≠ w.heap.size + 1 ∧ w.heap.size + 1 < wr.heap.size ∧ wr.ownsRow w.heap.size 5 1 out (2 * i') (bv (hexL (l.take i'))) ∧ Reads wr (.slice (some ⟨w.heap.size + 1, 0, none⟩) l.length cap) (bv l) ∧ Below w.heap.size w wr) (fun _ _ i _ => l.length - (intOf i).toNat)
  case atStart =>
    refine ⟨0, w.heap.size, 0, rfl, Nat.zero_le _, rfl, by omega, ?_, ?_, hR, (below_alloc w _).trans (hb.mono (by simp))⟩
    · exact hR0
    · exact own_below (World.ownsRow_made w #[] 0 (Nat.le_refl _) (by decide) rfl) hb
  case round =>
    obtain ⟨i, g, c, rfl, hi', rfl, hg, hsz, hown, hR, hb⟩ := hrel
    by_cases hlt : i < l.length
    · obtain ⟨_, hcs⟩ := slice_cells hR
      have hcl : wr.cell? ⟨w.heap.size + 1, i, none⟩ = some (.int .u8 (l[i]).toNat) := by have := hcs i _ (by rw [List.getElem?_eq_getElem (by simpa using hlt), bv_getElem]); rw [Nat.zero_add] at this; exact this
      have HT := Lib.hid (hexL_take l i hlt)
      have HL := Lib.hid hlt
      have hc1 : (l[i].toNat : Int) < 256 := by have : l[i].toNat < 256 := UInt8.toNat_lt _; omega
      generalize l[i].toNat = x at *
      have hx0 : (0 : Int) ≤ x := by omega
      have e1 : ((x : Int)).tdiv 16 = ((x / 16 : Nat) : Int) := by rw [Int.tdiv_eq_ediv_of_nonneg (by omega)]; omega
      have e2 : ((x : Int)).tmod 16 = ((x % 16 : Nat) : Int) := by rw [Int.tmod_eq_emod_of_nonneg (by omega)]; omega
      have hq : x / 16 < 16 := by omega
      have hr : x % 16 < 16 := by omega
      generalize x / 16 = q at *
      generalize x % 16 = r at *
      have iq := hex_index q hq
      have ir := hex_index r hr
      have wq : IntKind.u8.wrap (q : Int) = q := by rw [IntKind.wrap_u8']; omega
      have wr' : IntKind.u8.wrap (r : Int) = r := by rw [IntKind.wrap_u8']; omega
      have HG := Lib.hid hg
      have HO := Lib.hid hown
      have HS := Lib.hid hsz
      have HB := Lib.hid hb
      have HR := Lib.hid hR
      have HQ := Lib.hid (And.intro hq hr)
      clear hcs hg hown hsz hb hR hq hr
      go_wp2_with fail
      go_region_held3 (fun _ => True) (trivial) ((refine step_append_lies _ (by rfl) _ _ _ (by rfl) w.heap.size 5 i0 _ 1 1 Tryd.underlying22 hi hz0 hz1 hz2 rfl (by omega) _ (2 * i) _ (by rfl) ((HO.out.alloc _).drew) ⟨wr.heap.size, 0, none⟩ 2 2 [.int .u8 (hexd q).toNat, .int .u8 (hexd r).toNat] (by rfl) (by rfl) (World.news_of_block (cs := #[.int .u8 (hexd q).toNat, .int .u8 (hexd r).toNat]) (t := 5) (fr := (0, 0)) (heap_alloc_new wr _)) (by simp [Value.oneCell']) (by omega) (by unfold maxLen; omega) (by omega) (by simp; have := HB.out.size; omega) (wr.heap.size + 1) (by simp) ?_; intro gg cap w1 hown1 hgrow hat hlt))
      all_goals
        have hx := step_hex HG.out HS.out HB.out HR.out hgrow hat (HO.out.lt g rfl).1
        have HX := Lib.hid hx
        have HW := Lib.hid hown1
        clear hx hown1 hgrow hat hlt hcl e1 e2 iq ir wq wr'
        go_wp2
        go_roundw
        case rel =>
          refine ⟨i + 1, gg, cap, by go_num, HL.out, by rw [show 2 * (i + 1) = 2 * i + 2 by omega], HX.out.1, HX.out.2.1, ?_, HX.out.2.2.1, HX.out.2.2.2⟩
          rw [HT.out, bv_append, show 2 * (i + 1) = 2 * i + 2 by omega]
          exact HW.out
        case measure => have := HL.out; simp [intOf]; omega
    · obtain rfl : i = l.length := by omega
      rw [List.take_of_length_le (Nat.le_refl _)] at hown
      have hcv2 := conv_str wr _ _ (own_slc hown)
      generalize hs : (ByteArray.mk (hexL l).toArray) = s2 at hcv2
      have HS := Lib.hid hs
      have HB := Lib.hid hb
      clear hown hb hs hR hcv hg hsz
      go_wp2
      go_ret
      exact ⟨by rw [HS.out]; rfl, HB.out⟩
theorem str_index (l : List UInt8) (i : Nat) (h : i < l.length) (w : World) : (Instr.index 9 (.string ⟨l.toArray⟩) (.int .i64 i)).run Tryd.prog w = .ok (.int .u8 (l[i]).toNat) w := by
  have := run_index_string (P := Tryd.prog) w 9 ⟨l.toArray⟩ .i64 i Tryd.underlying9
  rw [dif_pos (by rw [size_l]; omega)] at this
  rw [this]
  congr 3
theorem u8_and15 (n : Nat) : bits .and .u8 n 15 = ((n % 16 : Nat) : Int) := by
  have h15 : (BitVec.ofInt 8 15).toNat = 2 ^ 4 - 1 := by decide
  have key : (BitVec.ofInt 8 (n : Int) &&& BitVec.ofInt 8 15).toNat = n % 16 := by
    rw [BitVec.toNat_and, BitVec.toNat_ofInt, h15, Nat.and_two_pow_sub_one_eq_mod]
    omega
  show IntKind.u8.wrap ((BitVec.ofInt 8 (n : Int) &&& BitVec.ofInt 8 15).toNat : Nat) = _
  rw [key, IntKind.wrap_u8']
  omega
set_option maxRecDepth 100000 in
theorem hextext_spec (l : List UInt8) (w : World) (hl : l.length ≤ 1099511627776) : Calls Tryd.prog 52 #[.string ⟨l.toArray⟩] w fun e w' => e = .returned (.string ⟨(hexL l).toArray⟩) ∧ Below w.heap.size w w' := by
  obtain ⟨i0, hi, hz0, hz1, hz2⟩ := info_parts byteInfo'
  have hsz := size_l l
  have IX := Lib.hid (str_index l)
  generalize hgs : (ByteArray.mk l.toArray) = s at *
  clear hgs
  go_enter Tryd.func52, Tryd.ntmps52
  go_wp2
  go_loopw [3, 4] (fun out i wr => ∃ (i' g c : Nat), i = .int .i64 i' ∧ i' ≤ l.length ∧ out = .slice (some ⟨g, 0, none⟩) (2 * i') c ∧ wr.ownsRow w.heap.size 5 1 out (2 * i') (bv (hexL (l.take i'))) ∧ Below w.heap.size w wr) (fun _ i _ => l.length - (intOf i).toNat)
  case atStart => exact ⟨0, w.heap.size, 0, rfl, Nat.zero_le _, rfl, World.ownsRow_made w #[] 0 (Nat.le_refl _) (by decide) rfl, below_alloc w _⟩
  case round =>
    obtain ⟨i, g, c, rfl, hi', rfl, hown, hb⟩ := hrel
    by_cases hlt : i < l.length
    · have ix := IX.out i hlt
      have HT := Lib.hid (hexL_take l i hlt)
      have HL := Lib.hid hlt
      have hc1 : (l[i].toNat : Int) < 256 := by have : l[i].toNat < 256 := UInt8.toNat_lt _; omega
      generalize l[i].toNat = x at *
      have hx0 : (0 : Int) ≤ x := by omega
      have e1 : ((x : Int)) / 16 = ((x / 16 : Nat) : Int) := by omega
      have e2 := u8_and15 x
      have hq : x / 16 < 16 := by omega
      have hr : x % 16 < 16 := by omega
      generalize x / 16 = q at *
      generalize x % 16 = r at *
      have iq := hex_index q hq
      have ir := hex_index r hr
      have wq : IntKind.u8.wrap (q : Int) = q := by rw [IntKind.wrap_u8']; omega
      have wr' : IntKind.u8.wrap (r : Int) = r := by rw [IntKind.wrap_u8']; omega
      have HO := Lib.hid hown
      have HB := Lib.hid hb
      clear hown hb hq hr
      go_wp2_with fail
      go_region_held3 (fun _ => True) (trivial) ((refine step_append_lies _ (by rfl) _ _ _ (by rfl) w.heap.size 5 i0 _ 1 1 Tryd.underlying22 hi hz0 hz1 hz2 rfl (by omega) _ (2 * i) _ (by rfl) ((HO.out.alloc _).drew) ⟨wr.heap.size, 0, none⟩ 2 2 [.int .u8 (hexd q).toNat, .int .u8 (hexd r).toNat] (by rfl) (by rfl) (World.news_of_block (cs := #[.int .u8 (hexd q).toNat, .int .u8 (hexd r).toNat]) (t := 5) (fr := (0, 0)) (heap_alloc_new wr _)) (by simp [Value.oneCell']) (by omega) (by unfold maxLen; omega) (by omega) (by simp; have := HB.out.size; omega) (wr.heap.size + 1) (by simp) ?_; intro gg cap w1 hown1 hgrow hat hlt))
      all_goals
        have hb1 := (HB.out.alloc HB.out.size _).trans (grown_belowN (grown_undrew hgrow) (by simp; have := HB.out.size; omega) (by simp [Value.ownBlock]; exact (HO.out.lt g rfl).1))
        have HX := Lib.hid hb1
        have HW := Lib.hid hown1
        clear hb1 hown1 hgrow hat hlt e1 e2 iq ir wq wr' ix
        go_wp2
        go_roundw
        case rel =>
          refine ⟨i + 1, gg, cap, by go_num, HL.out, by rw [show 2 * (i + 1) = 2 * i + 2 by omega], ?_, HX.out⟩
          rw [HT.out, bv_append, show 2 * (i + 1) = 2 * i + 2 by omega]
          exact HW.out
        case measure => have := HL.out; simp [intOf]; omega
    · obtain rfl : i = l.length := by omega
      rw [List.take_of_length_le (Nat.le_refl _)] at hown
      have hcv2 := conv_str wr _ _ (own_slc hown)
      generalize hs : (ByteArray.mk (hexL l).toArray) = s2 at hcv2
      have HS := Lib.hid hs
      have HB := Lib.hid hb
      clear hown hb hs
      go_wp2
      go_ret
      exact ⟨by rw [HS.out]; rfl, HB.out⟩
end Go.Proofs.YtaelepaogkakmaaDoor
