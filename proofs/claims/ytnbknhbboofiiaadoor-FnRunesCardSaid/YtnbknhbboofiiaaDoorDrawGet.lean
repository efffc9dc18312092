/- What the model's draws for PutRune and GetRune return. -/
import Derived.Test.YtnbknhbboofiiaaDoorDrawAny
import Derived.Test.YtnbknhbboofiiaaDoorStrDraw
import Derived.Test.YtnbknhbboofiiaaDoorBent
import Derived.Test.YtnbknhbboofiiaaDoorPutRune
import Derived.Test.YtnbknhbboofiiaaDoorConv
namespace Go.Proofs.YtnbknhbboofiiaaDoor
open Go.RowKit
theorem bytes_any (w : World) (B n : Nat) (hC : Cur w B) (hn : n ≤ 1000) : Calls Tryd.prog 17 #[.pointer (some ⟨B, 0, none⟩), .int .i64 n] w (BytesPost B (fun l => l.length ≤ n) w) := by
  obtain ⟨i0, hi, hz0, hz1, hz2⟩ := info_parts byteInfo'
  have hBl := hC.lt
  have hnz : (n : Int) ≤ 1000 := by omega
  have HO := Lib.hid ((Only.refl B w).alloc (.cells #[] 5))
  have HW := Lib.hid (World.ownsRow_made (base := w.heap.size) (e := 5) (size := 1) w #[] 0 (Nat.le_refl _) (by decide) rfl)
  have HC := Lib.hid (hC.alloc (.cells #[] 5))
  clear hC
  go_enter Tryd.func17, Tryd.ntmps17
  go_wp2
  go_loopw [5, 6] (fun v i wr => ∃ (i' : Nat) (acc : List UInt8), i = .int .i64 i' ∧ i' ≤ n ∧ acc.length = i' ∧ v ≠ .slice none 0 0 ∧ wr.ownsRow w.heap.size 5 1 v acc.length (bv acc) ∧ Only B w wr ∧ Cur wr B) (fun _ i _ => n - (intOf i).toNat)
  case atStart => exact ⟨0, [], rfl, Nat.zero_le _, rfl, by simp, HW.out, HO.out, HC.out⟩
  case round =>
    obtain ⟨i', acc, rfl, hi', hacc, hnn, hown, hO, hcr⟩ := hrel
    have H3 := Lib.hid hown
    have HO3 := Lib.hid hO
    have HA := Lib.hid hacc
    have HN := Lib.hid hnn
    by_cases hlt : i' < n
    · have HT := Lib.hid hlt
      clear hown hO hacc hnn
      go_wp2_with fail
      refine (byte_any wr B hcr).mono ?_
      rintro e w3 ⟨y, hy0, hy1, rfl, ho3, hc3⟩
      have hown3 := own_only H3.out ho3 (fun e => by have := (H3.out.lt _ e).1; omega)
      have hyy : y % 256 = y := by omega
      have HO4 := Lib.hid (HO3.out.trans ho3)
      have HC3 := Lib.hid hc3
      have H4 := Lib.hid hown3
      clear hcr hown3 hc3 ho3
      go_wp2_with (at_builtin; refine wpList_append_own _ rfl _ _ 22 rfl w.heap.size 5 i0 (.int .u8 0) 1 1 Tryd.underlying22 hi hz0 hz1 hz2 rfl (by decide) _ _ _ rfl (H4.out.alloc _) ⟨w3.heap.size, 0, none⟩ 1 1 [.int .u8 y] rfl rfl ?c1 ?c2 ?c3 ?c4 ?c5 ?_)
      case c1 =>
        intro j u hj
        match j, hj with
        | 0, hj => simp at hj; subst hj; simp [Addr.add, hyy]
        | (j + 1), hj => simp at hj
      case c2 => intro u hu; simp at hu; rcases hu with rfl; rfl
      case c3 => have := HA.out; unfold maxLen; omega
      case c4 => have := HA.out; omega
      case c5 => have := HO4.out.size; simp; omega
      intro v' w4 hown4 hgrow _
      have hb4 : Below w.heap.size w3 w4 := below_step (Below.refl _ _) (HO4.out.size) H4.out hgrow
      have H5 := Lib.hid hown4
      have HO5 := Lib.hid (HO4.out.then_below hb4 (Nat.le_refl _))
      have HC5 := Lib.hid (HC3.out.below hb4 hBl)
      clear hown4 hgrow hb4
      go_wp2
      go_roundw
      case rel =>
        have hl := HA.out
        refine ⟨i' + 1, acc ++ [UInt8.ofNat y.toNat], by go_num, HT.out, by simp; omega, own_nonnil H5.out (by omega), ?_, HO5.out, HC5.out⟩
        have e1 : bv [UInt8.ofNat y.toNat] = [.int .u8 y] := by
          simp [bv]
          omega
        rw [List.length_append, bv_append, e1]
        exact H5.out
      case measure => have := HT.out; simp [intOf]; omega
    · clear hown hO
      go_wp2
      go_ret
      exact ⟨_, acc, by have := HA.out; show acc.length ≤ n; omega, rfl, HN.out, H3.out, HO3.out, hcr⟩
theorem draw_put (a : Option Addr) (len cap : Nat) (w : World) (hC : CodeAt w a len) (hl : len ≤ 1048576) : Calls Tryd.prog 5 #[.slice a len cap] w fun e w' => ∃ (b c : Nat) (l : List UInt8) (n : Int), l.length ≤ 2 ∧ isRn n ∧ e = .returned (.tuple #[.slice (some ⟨b, 0, none⟩) l.length c, .int .i64 n]) ∧ w'.ownsRow w.heap.size 5 1 (.slice (some ⟨b, 0, none⟩) l.length c) l.length (bv l) ∧ Below w.heap.size w w' := by
  go_enter Tryd.func5, Tryd.ntmps5
  go_wp2_with fail
  refine (new_any a len cap w hC hl).mono ?_
  rintro e w0 ⟨rfl, hb0, hc0, hlt0⟩
  go_wp2_with fail
  refine (below_any w0 _ 3 hc0 (by decide)).mono ?_
  rintro e w1 ⟨x, ⟨hx0, hx1⟩, rfl, ho1, hc1⟩
  obtain ⟨x, rfl⟩ : ∃ q : Nat, x = q := ⟨x.toNat, by omega⟩
  have b1 := below_only hb0 ho1 rfl
  have hs1 := ho1.size
  clear hb0 hc0 ho1
  go_wp2_with fail
  refine (bytes_any w1 _ x hc1 (by omega)).mono ?_
  rintro e w2 ⟨v, l, hll, rfl, hnn, hown, ho2, hc2⟩
  obtain ⟨g, c, rfl, hg, _, _⟩ := own_shape hown hnn
  have b2 := below_only b1 ho2 rfl
  have hsz1 := b1.size
  clear b1 ho2 hc1 hnn
  go_wp2_with fail
  refine (any_any w2 _ hc2).mono ?_
  rintro e w3 ⟨n, hn, rfl, ho3, hc3⟩
  have hown3 := own_only hown ho3 (by simp [Value.ownBlock]; omega)
  have b3 := below_only b2 ho3 rfl
  have H3 := Lib.hid (own_base hown3 hsz1)
  have HL := Lib.hid hll
  have HN := Lib.hid hn
  clear hown hown3 b2 ho3 hc2 hc3 hn hll
  go_wp2
  go_ret2
  exact ⟨g, c, l, n, by have := HL.out; show l.length ≤ 2; omega, HN.out, rfl, H3.out, b3⟩
theorem draw_get (a : Option Addr) (len cap : Nat) (w : World) (hC : CodeAt w a len) (hl : len ≤ 1048576) : Calls Tryd.prog 7 #[.slice a len cap] w fun e w' => ∃ (b c : Nat) (l : List UInt8) (i : Int), l.length ≤ 10 ∧ l.length ≤ c ∧ c ≤ maxLen ∧ -1 ≤ i ∧ i ≤ 1 ∧ e = .returned (.tuple #[.slice (some ⟨b, 0, none⟩) l.length c, .int .i64 i]) ∧ Reads w' (.slice (some ⟨b, 0, none⟩) l.length c) (bv l) ∧ Below w.heap.size w w' := by
  go_enter Tryd.func7, Tryd.ntmps7
  go_wp2_with fail
  refine (new_any a len cap w hC hl).mono ?_
  rintro e w0 ⟨rfl, hb0, hc0, hlt0⟩
  have hb0' := hb0.alloc (Nat.le_of_lt hlt0) (.cells #[] 5)
  have hc0' := hc0.alloc (.cells #[] 5)
  have HB0 := Lib.hid hb0'
  clear hb0 hc0 hb0'
  go_wp2_with fail
  refine (rune_any _ _ hc0').mono ?_
  rintro e w1 ⟨x, hx, rfl, ho1, hc1⟩
  have b1 := below_only HB0.out ho1 rfl
  have hs1 : w0.heap.size ≤ w1.heap.size := by have := ho1.size; simp at this; omega
  have cp := put_spec w1 w0.heap.size 0 0 [] x (by intro j u hu; simp [bv] at hu) (by simp)
  clear ho1 hc0' hx
  go_wp2_with fail
  refine cp.mono ?_
  rintro e w2 ⟨v2, rfl, hn2, o2, b2⟩
  obtain ⟨g2, c2, rfl, hg2, _, _⟩ := own_shape o2 hn2
  have b02 := b1.trans (b2.mono (by omega))
  have hs2 := b2.size
  have hc2 := hc1.below b2 (by omega)
  have hel : ([] ++ encR x : List UInt8).length ≤ 4 := by
    rw [List.nil_append, encR_len]
    rcases wideR_cases x with h | h | h | h | h <;> omega
  generalize ([] ++ encR x : List UInt8) = l2 at *
  have cb := bent_any w2 _ g2 0 c2 l2 hc2 (fun j u hu => by rw [Nat.zero_add, o2.cellAt j (by have := (List.getElem?_eq_some_iff.1 hu).1; simpa using this)]; exact hu) (by omega)
  clear cp b1 b2 hc1 hc2 o2 hn2
  go_wp2_with fail
  refine cb.mono ?_
  rintro e w3 ⟨v3, l3, hl3, rfl, hn3, o3, ho3, hc3⟩
  obtain ⟨g3, c3, rfl, hg3, hlc3, hcm3⟩ := own_shape o3 hn3
  have hl3' : l3.length ≤ l2.length + 1 := hl3
  have b03 := below_only b02 ho3 rfl
  have hs3 := ho3.size
  clear cb b02 ho3 hn3 hl3
  go_wp2_with fail
  refine (once_any w3 _ 6 hc3 (by decide)).mono ?_
  rintro e w4 ⟨b, rfl, ho4, hc4⟩
  have b04 := below_only b03 ho4 rfl
  have o4 := own_only o3 ho4 (by simp [Value.ownBlock]; omega)
  have hs4 := ho4.size
  clear o3 b03 ho4 hc3
  cases b
  · have hd := int_lit w4 w.heap.size [0, 0, 0, 0, 1, -1] 3 (fun i => -1 ≤ i ∧ i ≤ 1) hc4 (by decide) (by decide) (by decide)
    have HL := Lib.hid hl3'
    have HE := Lib.hid hel
    go_wp2_with fail
    refine hd.mono ?_
    rintro e w5 ⟨i, ⟨hi0, hi1⟩, rfl, ho5, hc5⟩
    have o5 := own_only o4 ho5 (by simp [Value.ownBlock]; omega)
    have b05 := below_only b04 ho5 rfl
    have O5 := Lib.hid (own_reads o5)
    have HI := Lib.hid (And.intro hi0 hi1)
    clear o4 o5 b04 ho5 hc4 hc5 hd
    go_wp2
    go_ret2
    exact ⟨g3, c3, l3, i, by have := HL.out; have := HE.out; omega, hlc3, hcm3, HI.out.1, HI.out.2, rfl, O5.out, b05⟩
  · have hd := str_lit w4 w.heap.size [[192, 128], [237, 160, 128], [244, 144, 128, 128], [226, 130], [128], [248, 136, 128, 128, 128]] 9 (fun l => l.length ≤ 10) hc4 (by decide) (by decide) (by decide)
    go_wp2_with fail
    refine hd.mono ?_
    rintro e w5 ⟨l5, hl5, rfl, ho5, hc5⟩
    have hl5' : l5.length ≤ 10 := hl5
    have b05 := below_only b04 ho5 rfl
    have hs5 := ho5.size
    obtain ⟨c6, w6, hlc, hcm, hcv, hR, hb6, _⟩ := conv_bytes_cap w5 l5 (by unfold maxLen; omega)
    have b06 := b05.trans (hb6.mono (by omega))
    have hc6 := hc5.below hb6 (by omega)
    have hd2 := int_lit w6 w.heap.size [0, 0, 0, 0, 1, -1] 3 (fun i => -1 ≤ i ∧ i ≤ 1) hc6 (by decide) (by decide) (by decide)
    have HL := Lib.hid hl5'
    have HLC := Lib.hid (And.intro hlc hcm)
    generalize hgs : (ByteArray.mk l5.toArray) = s5 at *
    clear hd b04 b05 ho5 hc5 hc4 o4 hb6 hc6 hl5 hl5' hgs hlc hcm
    go_wp2_with fail
    refine hd2.mono ?_
    rintro e w7 ⟨i, ⟨hi0, hi1⟩, rfl, ho7, hc7⟩
    have r7 := hR.only ho7 (by simp [Value.ownBlock]; omega)
    have b07 := below_only b06 ho7 rfl
    have O7 := Lib.hid r7
    have HI := Lib.hid (And.intro hi0 hi1)
    clear r7 hR b06 ho7 hc7 hd2
    go_wp2
    go_ret2
    exact ⟨w5.heap.size, c6, l5, i, HL.out, HLC.out.1, HLC.out.2, HI.out.1, HI.out.2, rfl, O7.out, b07⟩
end Go.Proofs.YtnbknhbboofiiaaDoor
