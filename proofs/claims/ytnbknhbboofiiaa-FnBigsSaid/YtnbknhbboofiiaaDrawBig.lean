/- What the model's draws for big-endian integers return. -/
import Derived.Test.YtnbknhbboofiiaaDrawBytes
import Derived.Test.YtnbknhbboofiiaaStrDraw
import Derived.Test.YtnbknhbboofiiaaWidth
import Derived.Test.YtnbknhbboofiiaaPutBig
namespace Go.Proofs.Ytnbknhbboofiiaa
open Go.RowKit
/-- some bytes of its own behind a block, and two numbers -/
def Bytes2 (P : Nat → Int → Int → Prop) (w : World) (e : Ending) (w' : World) : Prop := ∃ (g c : Nat) (l : List UInt8) (n x : Int), P l.length n x ∧ l.length ≤ c ∧ c ≤ maxLen ∧ e = .returned (.tuple #[.slice (some ⟨g, 0, none⟩) l.length c, .int .i64 n, .int .i64 x]) ∧ w'.ownsRow w.heap.size 5 1 (.slice (some ⟨g, 0, none⟩) l.length c) l.length (bv l) ∧ Below w.heap.size w w'
def smallW (x : Int) : Prop := 0 ≤ x ∧ x ≤ 8
theorem widR_small (n : Int) : smallW (widR n) := by
  unfold smallW
  rcases widR_cases n with ⟨h0, e⟩ | ⟨h0, h1, e⟩ | ⟨h0, h1, e⟩ | ⟨h0, h1, e⟩ | ⟨h0, e⟩ <;> rw [e] <;> omega
theorem draw_width (a : Option Addr) (len cap : Nat) (w : World) (hC : CodeAt w a len) (hl : len ≤ 1048576) : Calls Try.prog 17 #[.slice a len cap] w (Single isInt w) := by
  go_enter Try.func17, Try.ntmps17
  go_wp2_with fail
  refine (new_any a len cap w hC hl).mono ?_
  rintro e w0 ⟨rfl, hb0, hc0, hlt0⟩
  go_wp2_with fail
  refine (one_any w0 _ hc0).mono ?_
  rintro e w1 ⟨x, hx, rfl, ho1, hc1⟩
  have b1 := below_only hb0 ho1 rfl
  clear hb0 hc0 ho1 hc1
  go_wp2
  go_ret
  exact ⟨_, hx, rfl, b1⟩
theorem draw_putbig (a : Option Addr) (len cap : Nat) (w : World) (hC : CodeAt w a len) (hl : len ≤ 1048576) : Calls Try.prog 12 #[.slice a len cap] w (Bytes2 (fun k n x => k ≤ 2 ∧ isInt n ∧ smallW x) w) := by
  go_enter Try.func12, Try.ntmps12
  go_wp2_with fail
  refine (new_any a len cap w hC hl).mono ?_
  rintro e w0 ⟨rfl, hb0, hc0, hlt0⟩
  go_wp2_with fail
  refine (below_any w0 _ 3 hc0 (by decide)).mono ?_
  rintro e w1 ⟨x, ⟨hx0, hx1⟩, rfl, ho1, hc1⟩
  obtain ⟨x, rfl⟩ : ∃ q : Nat, x = q := ⟨x.toNat, by omega⟩
  have b1 := below_only hb0 ho1 rfl
  have hs1 := ho1.size
  clear hb0 hc0 ho1
  go_wp2_with fail
  refine (bytes_any w1 _ x hc1 (by omega)).mono ?_
  rintro e w2 ⟨v, l, hll, rfl, hnn, hown, ho2, hc2⟩
  obtain ⟨g, c, rfl, hg, hgc, hgm⟩ := own_shape hown hnn
  have b2 := below_only b1 ho2 rfl
  have hsz1 := b1.size
  have HCC := Lib.hid (And.intro hgc hgm)
  clear b1 ho2 hc1 hnn hgc hgm
  go_wp2_with fail
  refine (one_any w2 _ hc2).mono ?_
  rintro e w3 ⟨n, hn, rfl, ho3, hc3⟩
  have hown3 := own_only hown ho3 (by simp [Value.ownBlock]; omega)
  have b3 := below_only b2 ho3 rfl
  have HN := Lib.hid hn
  have hs3 := b3.size
  clear hown b2 ho3 hc2 hn
  have hd := int_lit w3 w.heap.size [1, 2, 4, 8, 3, 0] 3 smallW hc3 (by decide) (by decide) (by unfold smallW; decide)
  go_wp2_with fail
  refine hd.mono ?_
  rintro e w4 ⟨y, hy, rfl, ho4, hc4⟩
  have hown4 := own_only hown3 ho4 (by simp [Value.ownBlock]; omega)
  have b4 := below_only b3 ho4 rfl
  have HY := Lib.hid hy
  have hs4 := b4.size
  clear hown3 b3 ho4 hc3 hd hy
  go_wp2_with fail
  refine (once_any w4 _ 2 hc4 (by decide)).mono ?_
  rintro e w5 ⟨b, rfl, ho5, hc5⟩
  have hown5 := own_only hown4 ho5 (by simp [Value.ownBlock]; omega)
  have H5 := Lib.hid (own_base hown5 hsz1)
  have B5 := Lib.hid (below_only b4 ho5 rfl)
  have HL := Lib.hid (show l.length ≤ 2 by have : l.length ≤ x := hll; omega)
  clear hown4 hown5 b4 ho5 hc4 hc5 hll
  cases b
  · go_wp2
    go_ret3
    exact ⟨g, c, l, n, y, ⟨HL.out, HN.out, HY.out⟩, HCC.out.1, HCC.out.2, rfl, H5.out, B5.out⟩
  · have cw := width_spec n w5
    have HR := Lib.hid (widR_small n)
    generalize widR n = r at *
    go_wp2_with fail
    refine cw.mono ?_
    rintro e w' ⟨rfl, rfl⟩
    clear cw
    go_wp2
    go_ret3
    exact ⟨g, c, l, n, r, ⟨HL.out, HN.out, HR.out⟩, HCC.out.1, HCC.out.2, rfl, H5.out, B5.out⟩
theorem draw_getbig (a : Option Addr) (len cap : Nat) (w : World) (hC : CodeAt w a len) (hl : len ≤ 1048576) : Calls Try.prog 14 #[.slice a len cap] w (Bytes2 (fun k n x => k ≤ 9 ∧ (-1 ≤ n ∧ n ≤ 3) ∧ smallW x) w) := by
  go_enter Try.func14, Try.ntmps14
  go_wp2_with fail
  refine (new_any a len cap w hC hl).mono ?_
  rintro e w0 ⟨rfl, hb0, hc0, hlt0⟩
  go_wp2_with fail
  refine (once_any w0 _ 2 hc0 (by decide)).mono ?_
  rintro e w1 ⟨b, rfl, ho1, hc1⟩
  have b1 := below_only hb0 ho1 rfl
  have hs1 := ho1.size
  clear hb0 hc0 ho1
  cases b
  · go_wp2_with fail
    refine (below_any w1 _ 10 hc1 (by decide)).mono ?_
    rintro e w2 ⟨x, ⟨hx0, hx1⟩, rfl, ho2, hc2⟩
    obtain ⟨x, rfl⟩ : ∃ q : Nat, x = q := ⟨x.toNat, by omega⟩
    have b2 := below_only b1 ho2 rfl
    have hs2 := ho2.size
    clear b1 ho2 hc1
    go_wp2_with fail
    refine (bytes_any w2 _ x hc2 (by omega)).mono ?_
    rintro e w3 ⟨v, l, hll, rfl, hnn, hown, ho3, hc3⟩
    obtain ⟨g, c, rfl, hg, hgc, hgm⟩ := own_shape hown hnn
    have b3 := below_only b2 ho3 rfl
    have hsz2 := b2.size
    have HCC := Lib.hid (And.intro hgc hgm)
    clear b2 ho3 hc2 hnn hgc hgm
    go_wp2_with fail
    refine (below_any w3 _ 5 hc3 (by decide)).mono ?_
    rintro e w4 ⟨n, ⟨hn0, hn1⟩, rfl, ho4, hc4⟩
    have hown4 := own_only hown ho4 (by simp [Value.ownBlock]; omega)
    have b4 := below_only b3 ho4 rfl
    have hs4 := b4.size
    clear hown b3 ho4 hc3
    have hd := int_lit w4 w.heap.size [1, 2, 4, 8, 3] 3 smallW hc4 (by decide) (by decide) (by unfold smallW; decide)
    go_wp2_with fail
    refine hd.mono ?_
    rintro e w5 ⟨y, hy, rfl, ho5, hc5⟩
    have hown5 := own_only hown4 ho5 (by simp [Value.ownBlock]; omega)
    have H5 := Lib.hid (own_base hown5 hsz2)
    have B5 := Lib.hid (below_only b4 ho5 rfl)
    have HY := Lib.hid hy
    have HL := Lib.hid (show l.length ≤ 9 by have : l.length ≤ x := hll; omega)
    have HN := Lib.hid (And.intro hn0 hn1)
    clear hown4 hown5 b4 ho5 hc4 hc5 hd hy hll
    go_wp2
    go_ret3
    exact ⟨g, c, l, n - 1, y, ⟨HL.out, ⟨by have := HN.out.1; omega, by have := HN.out.2; omega⟩, HY.out⟩, HCC.out.1, HCC.out.2, rfl, H5.out, B5.out⟩
  · go_wp2_with fail
    refine (num_any w1 _ hc1).mono ?_
    rintro e w2 ⟨n, hn, rfl, ho2, hc2⟩
    have b2 := below_only b1 ho2 rfl
    have cw := width_spec n w2
    have HR := Lib.hid (widR_small n)
    generalize widR n = r at *
    clear b1 ho2 hc1 hc2 hn
    go_wp2_with fail
    refine cw.mono ?_
    rintro e w' ⟨rfl, rfl⟩
    clear cw
    have cp := putbig_spec (w2.alloc (.cells #[.int .u8 7] 5)) (.slice (some ⟨w2.heap.size, 0, none⟩) 1 1) [7] n r ⟨w2.heap.size, 0, 1, rfl, fun j u hu => by
      match j, hu with
      | 0, hu => simp [bv] at hu; subst hu; simp
      | (j + 1), hu => simp [bv] at hu⟩ (by simp)
    have hB := bigL_len n r
    have HB2 := Lib.hid b2
    clear b2
    go_wp2_with fail
    refine cp.mono ?_
    rintro e w3 ⟨v, rfl, hnn, hown, hb⟩
    obtain ⟨g, c, rfl, hg, hgc, hgm⟩ := own_shape hown hnn
    have hsz := HB2.out.size
    have H5 := Lib.hid (own_base hown (B' := w.heap.size) (by simp; omega))
    have B5 := Lib.hid (HB2.out.trans (((below_alloc w2 _).trans (hb.mono (by simp))).mono hsz))
    have HL := Lib.hid (show ([7] ++ bigL n r : List UInt8).length ≤ 9 by simp; omega)
    have HCC := Lib.hid (And.intro hgc hgm)
    generalize ([7] ++ bigL n r : List UInt8) = l at *
    clear cp hown hb hgc hgm hnn hB
    go_wp2
    go_ret3
    exact ⟨g, c, l, 1, r, ⟨HL.out, ⟨by omega, by omega⟩, HR.out⟩, HCC.out.1, HCC.out.2, rfl, H5.out, B5.out⟩
end Go.Proofs.Ytnbknhbboofiiaa
