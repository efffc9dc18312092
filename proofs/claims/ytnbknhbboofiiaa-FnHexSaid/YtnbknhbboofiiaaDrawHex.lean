/- What the model's draws for hexadecimal digits and pieces of bytes return. -/
import Derived.Test.YtnbknhbboofiiaaDrawBytes
import Derived.Test.YtnbknhbboofiiaaStrDraw
import Derived.Test.YtnbknhbboofiiaaHex
namespace Go.Proofs.Ytnbknhbboofiiaa
open Go.RowKit
theorem draw_hextext (a : Option Addr) (len cap : Nat) (w : World) (hC : CodeAt w a len) (hl : len ≤ 1048576) : Calls Try.prog 22 #[.slice a len cap] w (Word w) := by
  go_enter Try.func22, Try.ntmps22
  go_wp2_with fail
  refine (new_any a len cap w hC hl).mono ?_
  rintro e w0 ⟨rfl, hb0, hc0, hlt0⟩
  go_wp2_with fail
  refine (below_any w0 _ 5 hc0 (by decide)).mono ?_
  rintro e w1 ⟨x, ⟨hx0, hx1⟩, rfl, ho1, hc1⟩
  obtain ⟨x, rfl⟩ : ∃ q : Nat, x = q := ⟨x.toNat, by omega⟩
  have b1 := below_only hb0 ho1 rfl
  clear hb0 hc0 ho1
  go_wp2_with fail
  refine (bytes_any w1 _ x hc1 (by omega)).mono ?_
  rintro e w2 ⟨v, l, hll, rfl, hnn, hown, ho2, hc2⟩
  have B2 := Lib.hid (below_only b1 ho2 rfl)
  have hcv := conv_str w2 _ _ (own_slc hown)
  have HL := Lib.hid (show l.length ≤ 1000 by have : l.length ≤ x := hll; omega)
  generalize hs : (ByteArray.mk l.toArray) = s at hcv
  have HS := Lib.hid hs
  clear b1 ho2 hc1 hc2 hnn hown hs hll
  go_wp2
  go_ret
  exact ⟨l, HL.out, by rw [HS.out]; rfl, B2.out⟩
theorem draw_parsehex (a : Option Addr) (len cap : Nat) (w : World) (hC : CodeAt w a len) (hl : len ≤ 1048576) : Calls Try.prog 23 #[.slice a len cap] w (Word w) := by
  go_enter Try.func23, Try.ntmps23
  go_wp2_with fail
  refine (new_any a len cap w hC hl).mono ?_
  rintro e w0 ⟨rfl, hb0, hc0, hlt0⟩
  go_wp2_with fail
  refine (once_any w0 _ 3 hc0 (by decide)).mono ?_
  rintro e w1 ⟨b, rfl, ho1, hc1⟩
  have b1 := below_only hb0 ho1 rfl
  clear hb0 hc0 ho1
  cases b
  · go_wp2_with fail
    refine (below_any w1 _ 4 hc1 (by decide)).mono ?_
    rintro e w2 ⟨x, ⟨hx0, hx1⟩, rfl, ho2, hc2⟩
    obtain ⟨x, rfl⟩ : ∃ q : Nat, x = q := ⟨x.toNat, by omega⟩
    have b2 := below_only b1 ho2 rfl
    clear b1 ho2 hc1
    go_wp2_with fail
    refine (bytes_any w2 _ x hc2 (by omega)).mono ?_
    rintro e w3 ⟨v, l, hll, rfl, hnn, hown, ho3, hc3⟩
    have hlx : l.length ≤ 1000 := by have : l.length ≤ x := hll; omega
    have hl4 : l.length ≤ 4 := by have : l.length ≤ x := hll; omega
    have b3 := below_only b2 ho3 rfl
    have hcv := conv_str w3 _ _ (own_slc hown)
    have ch := hextext_spec l w3 (by omega)
    have HL := Lib.hid (show (hexL l).length ≤ 1000 by rw [hexL_len]; omega)
    generalize (ByteArray.mk l.toArray) = s at hcv ch
    clear b2 ho3 hc2 hc3 hnn hown hll hlx hl4
    go_wp2_with fail
    refine ch.mono ?_
    rintro e w4 ⟨rfl, b4⟩
    have B4 := Lib.hid (b3.trans (b4.mono b3.size))
    clear b3 b4 ch hcv
    go_wp2
    go_ret
    exact ⟨_, HL.out, rfl, B4.out⟩
  · have hd := str_lit w1 w.heap.size [[], [48], [48, 103], [65, 66], [48, 48, 102, 102], [48, 32]] 9 (fun l => l.length ≤ 1000) hc1 (by decide) (by decide) (by decide)
    go_wp2_with fail
    refine hd.mono ?_
    rintro e w2 ⟨l, hl2, rfl, ho2, hc2⟩
    have B2 := Lib.hid (below_only b1 ho2 rfl)
    have HL := Lib.hid hl2
    clear b1 ho2 hc1 hc2 hl2 hd
    go_wp2
    go_ret
    exact ⟨l, HL.out, rfl, B2.out⟩
def BytesAt (P : Nat → Int → Int → Prop) (w : World) (e : Ending) (w' : World) : Prop := ∃ (g c : Nat) (l : List UInt8) (n x : Int), P l.length n x ∧ l.length ≤ c ∧ c ≤ maxLen ∧ e = .returned (.tuple #[.slice (some ⟨g, 0, none⟩) l.length c, .int .i64 n, .int .i64 x]) ∧ w'.ownsRow w.heap.size 5 1 (.slice (some ⟨g, 0, none⟩) l.length c) l.length (bv l) ∧ Below w.heap.size w w'
theorem draw_slice (a : Option Addr) (len cap : Nat) (w : World) (hC : CodeAt w a len) (hl : len ≤ 1048576) : Calls Try.prog 27 #[.slice a len cap] w (BytesAt (fun k n x => k ≤ 7 ∧ isInt n ∧ isInt x) w) := by
  go_enter Try.func27, Try.ntmps27
  go_wp2_with fail
  refine (new_any a len cap w hC hl).mono ?_
  rintro e w0 ⟨rfl, hb0, hc0, hlt0⟩
  go_wp2_with fail
  refine (below_any w0 _ 8 hc0 (by decide)).mono ?_
  rintro e w1 ⟨x, ⟨hx0, hx1⟩, rfl, ho1, hc1⟩
  obtain ⟨x, rfl⟩ : ∃ q : Nat, x = q := ⟨x.toNat, by omega⟩
  have b1 := below_only hb0 ho1 rfl
  have hs1 := ho1.size
  clear hb0 hc0 ho1
  go_wp2_with fail
  refine (bytes_any w1 _ x hc1 (by omega)).mono ?_
  rintro e w2 ⟨v, l, hll, rfl, hnn, hown, ho2, hc2⟩
  obtain ⟨g, c, rfl, hg, hgc, hgm⟩ := own_shape hown hnn
  have b2 := below_only b1 ho2 rfl
  have hsz1 := b1.size
  have HCC := Lib.hid (And.intro hgc hgm)
  have hl7 : l.length ≤ 7 := by have : l.length ≤ x := hll; omega
  have hlz : (l.length : Int) ≤ 7 := by omega
  have HL := Lib.hid hl7
  clear b1 ho2 hc1 hnn hgc hgm hll hl7
  go_wp2_with fail
  refine (below_any w2 _ (l.length + 2) hc2 (by omega)).mono ?_
  rintro e w3 ⟨n, ⟨hn0, hn1⟩, rfl, ho3, hc3⟩
  have hown3 := own_only hown ho3 (by simp [Value.ownBlock]; omega)
  have b3 := below_only b2 ho3 rfl
  have hs3 := b3.size
  clear hown b2 ho3 hc2
  go_wp2_with fail
  refine (below_any w3 _ 5 hc3 (by decide)).mono ?_
  rintro e w4 ⟨y, ⟨hy0, hy1⟩, rfl, ho4, hc4⟩
  have hown4 := own_only hown3 ho4 (by simp [Value.ownBlock]; omega)
  have b4 := below_only b3 ho4 rfl
  have hs4 := b4.size
  have hin : isInt n := by unfold isInt; omega
  have hiy : isInt y := by unfold isInt; omega
  clear hown3 b3 ho4 hc3 hn0 hn1 hy0 hy1
  go_wp2_with fail
  refine (once_any w4 _ 6 hc4 (by decide)).mono ?_
  rintro e w5 ⟨b, rfl, ho5, hc5⟩
  have hown5 := own_only hown4 ho5 (by simp [Value.ownBlock]; omega)
  have b5 := below_only b4 ho5 rfl
  have hs5 := b5.size
  clear hown4 b4 ho5 hc4
  have HIN := Lib.hid hin
  have HIY := Lib.hid hiy
  clear hin hiy
  cases b
  · go_wp2_with fail
    refine (once_any w5 _ 6 hc5 (by decide)).mono ?_
    rintro e w6 ⟨b, rfl, ho6, hc6⟩
    have hown6 := own_only hown5 ho6 (by simp [Value.ownBlock]; omega)
    have b6 := below_only b5 ho6 rfl
    have hs6 := b6.size
    clear hown5 b5 ho6 hc5
    cases b
    · have H := Lib.hid (own_base hown6 hsz1)
      have B := Lib.hid b6
      clear hown6 b6 hc6
      go_wp2
      go_ret3
      exact ⟨g, c, l, n, y, ⟨HL.out, HIN.out, HIY.out⟩, HCC.out.1, HCC.out.2, rfl, H.out, B.out⟩
    · go_wp2_with fail
      refine (raw_any w6 _ hc6).mono ?_
      rintro e w7 ⟨z, hz, rfl, ho7, hc7⟩
      have H := Lib.hid (own_base (own_only hown6 ho7 (by simp [Value.ownBlock]; omega)) hsz1)
      have B := Lib.hid (below_only b6 ho7 rfl)
      have HZ := Lib.hid hz
      clear hown6 b6 hc6 ho7 hc7 hz
      go_wp2
      go_ret3
      exact ⟨g, c, l, n, z, ⟨HL.out, HIN.out, HZ.out⟩, HCC.out.1, HCC.out.2, rfl, H.out, B.out⟩
  · go_wp2_with fail
    refine (raw_any w5 _ hc5).mono ?_
    rintro e w5a ⟨n2, hn2, rfl, ho5a, hc5a⟩
    have hown5a := own_only hown5 ho5a (by simp [Value.ownBlock]; omega)
    have b5a := below_only b5 ho5a rfl
    have hs5a := b5a.size
    have HN2 := Lib.hid hn2
    clear hown5 b5 ho5a hc5 hn2
    go_wp2_with fail
    refine (once_any w5a _ 6 hc5a (by decide)).mono ?_
    rintro e w6 ⟨b, rfl, ho6, hc6⟩
    have hown6 := own_only hown5a ho6 (by simp [Value.ownBlock]; omega)
    have b6 := below_only b5a ho6 rfl
    have hs6 := b6.size
    clear hown5a b5a ho6 hc5a
    cases b
    · have H := Lib.hid (own_base hown6 hsz1)
      have B := Lib.hid b6
      clear hown6 b6 hc6
      go_wp2
      go_ret3
      exact ⟨g, c, l, n2, y, ⟨HL.out, HN2.out, HIY.out⟩, HCC.out.1, HCC.out.2, rfl, H.out, B.out⟩
    · go_wp2_with fail
      refine (raw_any w6 _ hc6).mono ?_
      rintro e w7 ⟨z, hz, rfl, ho7, hc7⟩
      have H := Lib.hid (own_base (own_only hown6 ho7 (by simp [Value.ownBlock]; omega)) hsz1)
      have B := Lib.hid (below_only b6 ho7 rfl)
      have HZ := Lib.hid hz
      clear hown6 b6 hc6 ho7 hc7 hz
      go_wp2
      go_ret3
      exact ⟨g, c, l, n2, z, ⟨HL.out, HN2.out, HZ.out⟩, HCC.out.1, HCC.out.2, rfl, H.out, B.out⟩
end Go.Proofs.Ytnbknhbboofiiaa
