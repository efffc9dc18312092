/- What the model's draws for quoted strings return. -/
import Derived.Test.YtaelepaogkakmaaDoorStrDraw
import Derived.Test.YtaelepaogkakmaaDoorDrawRune
import Derived.Test.YtaelepaogkakmaaDoorBent
import Derived.Test.YtaelepaogkakmaaDoorQuote
namespace Go.Proofs.YtaelepaogkakmaaDoor
open Go.RowKit
set_option maxRecDepth 100000
theorem quoted_any (w : World) (B : Nat) (hC : Cur w B) : Calls Tryd.prog 33 #[.pointer (some ⟨B, 0, none⟩)] w (StrPost B (fun l => l.length ≤ 6002) w) := by
  have hBl := hC.lt
  go_enter Tryd.func33, Tryd.ntmps33
  go_wp2_with fail
  refine (once_any w B 2 hC (by decide)).mono ?_
  rintro e w1 ⟨b, rfl, ho, hc⟩
  have hs1 := ho.size
  cases b
  · go_wp2_with fail
    refine (text_any w1 B hc).mono ?_
    rintro e w2 ⟨l, hl, rfl, ho2, hc2⟩
    have hl' : l.length ≤ 1000 := hl
    have cq := quote_spec l w2 (by omega)
    have hql := quoteL_len l
    have HO := Lib.hid (ho.trans ho2)
    have HC := Lib.hid hc2
    have HQ := Lib.hid (show (quoteL l).length ≤ 6002 by omega)
    have hB2 : B < w2.heap.size := hc2.lt
    clear ho ho2 hc2 hc hC hl hl' hql
    generalize (ByteArray.mk l.toArray) = s at *
    go_wp2_with fail
    refine cq.mono ?_
    rintro e w3 ⟨rfl, b3⟩
    have HO3 := Lib.hid (HO.out.then_below b3 HO.out.size)
    have HC3 := Lib.hid (HC.out.below b3 hB2)
    clear b3 cq
    go_wp2
    go_ret
    exact ⟨_, HQ.out, rfl, HO3.out, HC3.out⟩
  · have hd := str_lit w1 B [[34, 34], [34, 97, 34], [34, 92, 117, 48, 48, 101, 57, 34], [34, 92, 117, 100, 56, 51, 100, 92, 117, 100, 101, 48, 48, 34], [34, 92, 117, 68, 56, 51, 68, 34], [34, 92, 117, 68, 69, 48, 48, 34], [34, 92, 117, 100, 56, 51, 100, 92, 117, 48, 48, 52, 49, 34], [34, 92, 47, 92, 98, 92, 116, 92, 110, 92, 102, 92, 114, 34], [34, 92, 120, 34], [34, 92, 117, 49, 50, 34], [34, 10, 34], [34, 97], [34, 92, 117, 48, 48, 48, 65, 34], [34, 92, 34]] 9 (fun l => l.length ≤ 6002) hc (by decide) (by decide) (by decide)
    go_wp2_with fail
    refine hd.mono ?_
    rintro e w2 ⟨l, hx, rfl, ho2, hc2⟩
    go_wp2
    go_ret
    exact ⟨_, hx, rfl, ho.trans ho2, hc2⟩
def Text9 (N : Nat) (w : World) (e : Ending) (w' : World) : Prop := ∃ l : List UInt8, l.length ≤ N ∧ e = .returned (.string ⟨l.toArray⟩) ∧ Below w.heap.size w w'
def TextInt (N : Nat) (w : World) (e : Ending) (w' : World) : Prop := ∃ (l : List UInt8) (a : Int), l.length ≤ N ∧ isInt a ∧ e = .returned (.tuple #[.string ⟨l.toArray⟩, .int .i64 a]) ∧ Below w.heap.size w w'
theorem draw_quote (a : Option Addr) (len cap : Nat) (w : World) (hC : CodeAt w a len) (hl : len ≤ 1048576) : Calls Tryd.prog 8 #[.slice a len cap] w (Text9 1001 w) := by
  go_enter Tryd.func8, Tryd.ntmps8
  go_wp2_with fail
  refine (new_any a len cap w hC hl).mono ?_
  rintro e w1 ⟨rfl, hb, hc, _⟩
  go_wp2_with fail
  refine (strbent_any w1 _ hc).mono ?_
  rintro e w2 ⟨l, hx, rfl, ho, hc2⟩
  go_wp2
  go_ret
  exact ⟨l, hx, rfl, below_only hb ho rfl⟩
theorem draw_bare (a : Option Addr) (len cap : Nat) (w : World) (hC : CodeAt w a len) (hl : len ≤ 1048576) : Calls Tryd.prog 13 #[.slice a len cap] w (Text9 1001 w) := by
  go_enter Tryd.func13, Tryd.ntmps13
  go_wp2_with fail
  refine (new_any a len cap w hC hl).mono ?_
  rintro e w1 ⟨rfl, hb, hc, _⟩
  go_wp2_with fail
  refine (strbent_any w1 _ hc).mono ?_
  rintro e w2 ⟨l, hx, rfl, ho, hc2⟩
  go_wp2
  go_ret
  exact ⟨l, hx, rfl, below_only hb ho rfl⟩
theorem draw_escapeof (a : Option Addr) (len cap : Nat) (w : World) (hC : CodeAt w a len) (hl : len ≤ 1048576) : Calls Tryd.prog 18 #[.slice a len cap] w (Single isInt w) := by
  go_enter Tryd.func18, Tryd.ntmps18
  go_wp2_with fail
  refine (new_any a len cap w hC hl).mono ?_
  rintro e w1 ⟨rfl, hb, hc, _⟩
  have hd := int_lit w1 w.heap.size [34, 92, 8, 9, 10, 11, 12, 13, 31, 32, 47, 127, 233, 55296, -1, 128512, 0] 3 isInt hc (by decide) (by decide) (by unfold isInt; decide)
  go_wp2_with fail
  refine hd.mono ?_
  rintro e w2 ⟨x, hx, rfl, ho, hc2⟩
  go_wp2
  go_ret
  exact ⟨x, hx, rfl, below_only hb ho rfl⟩
theorem draw_codename (a : Option Addr) (len cap : Nat) (w : World) (hC : CodeAt w a len) (hl : len ≤ 1048576) : Calls Tryd.prog 23 #[.slice a len cap] w (Single isInt w) := by
  go_enter Tryd.func23, Tryd.ntmps23
  go_wp2_with fail
  refine (new_any a len cap w hC hl).mono ?_
  rintro e w1 ⟨rfl, hb, hc, _⟩
  go_wp2_with fail
  refine (below_any w1 _ 5 hc (by decide)).mono ?_
  rintro e w2 ⟨x, ⟨h0, h1⟩, rfl, ho, hc2⟩
  go_wp2
  go_ret
  exact ⟨x - 1, ⟨by omega, by omega⟩, rfl, below_only hb ho rfl⟩
theorem draw_readfour (a : Option Addr) (len cap : Nat) (w : World) (hC : CodeAt w a len) (hl : len ≤ 1048576) : Calls Tryd.prog 20 #[.slice a len cap] w (TextInt 1000 w) := by
  go_enter Tryd.func20, Tryd.ntmps20
  go_wp2_with fail
  refine (new_any a len cap w hC hl).mono ?_
  rintro e w1 ⟨rfl, hb, hc, _⟩
  have hd := str_lit w1 w.heap.size [[48, 48, 101, 57], [70, 70, 70, 70], [97, 98, 67, 68], [49, 50], [49, 50, 103, 52], [120, 49, 50, 51, 52, 53], []] 9 (fun l => l.length ≤ 1000) hc (by decide) (by decide) (by decide)
  go_wp2_with fail
  refine hd.mono ?_
  rintro e w2 ⟨l, hx, rfl, ho, hc2⟩
  have hd2 := int_lit w2 w.heap.size [0, 0, 0, 1, 2, -1, 9] 3 isInt hc2 (by decide) (by decide) (by unfold isInt; decide)
  have HB := Lib.hid (below_only hb ho rfl)
  have HL := Lib.hid hx
  clear hd hb ho hc hx
  go_wp2_with fail
  refine hd2.mono ?_
  rintro e w3 ⟨x, hx, rfl, ho, hc3⟩
  have HB3 := Lib.hid (below_only HB.out ho rfl)
  have HX := Lib.hid hx
  clear hx ho hd2 hc2
  go_wp2
  go_ret2
  exact ⟨l, x, HL.out, HX.out, rfl, HB3.out⟩
theorem ba_xyz (l : List UInt8) : (ByteArray.mk #[120, 121]) ++ (ByteArray.mk l.toArray) ++ (ByteArray.mk #[122]) = ByteArray.mk (120 :: 121 :: (l ++ [122])).toArray := by
  apply ByteArray.ext; simp
/-- the end of DrawReadQuoted: what is drawn once the string l stands -/
theorem draw_readq (a : Option Addr) (len cap : Nat) (w : World) (hC : CodeAt w a len) (hl : len ≤ 1048576) : Calls Tryd.prog 10 #[.slice a len cap] w (TextInt 7000 w) := by
  go_enter Tryd.func10, Tryd.ntmps10
  go_wp2_with fail
  refine (new_any a len cap w hC hl).mono ?_
  rintro e w1 ⟨rfl, hb, hc, _⟩
  go_wp2_with fail
  refine (quoted_any w1 _ hc).mono ?_
  rintro e w2 ⟨l, hx, rfl, ho, hc2⟩
  have hx' : l.length ≤ 6002 := hx
  have hb2 := below_only hb ho rfl
  clear hb ho hc hx
  go_wp2_with fail
  refine (once_any w2 _ 4 hc2 (by decide)).mono ?_
  rintro e w3 ⟨b, rfl, ho3, hc3⟩
  have hb3 := below_only hb2 ho3 rfl
  have hw3 : w.heap.size < w3.heap.size := hc3.lt
  clear hb2 ho3 hc2
  cases b
  · go_wp2_with fail
    refine (once_any w3 _ 3 hc3 (by decide)).mono ?_
    rintro e w4 ⟨b, rfl, ho4, hc4⟩
    have HB4 := Lib.hid (below_only hb3 ho4 rfl)
    clear hb3 ho4 hc3
    cases b
    · have hd2 := int_lit w4 w.heap.size [0, 0, 0, 0, 1, -1, 99] 3 isInt hc4 (by decide) (by decide) (by unfold isInt; decide)
      have HL := Lib.hid hx'
      clear hx'
      go_wp2_with fail
      refine hd2.mono ?_
      rintro e w5 ⟨x, hx, rfl, ho5, hc5⟩
      have HB5 := Lib.hid (below_only HB4.out ho5 rfl)
      have HX := Lib.hid hx
      clear hx ho5 hd2 hc4
      go_wp2
      go_ret2
      exact ⟨l, x, by have := HL.out; omega, HX.out, rfl, HB5.out⟩
    · have h1 : ¬ (9223372036854775807 < 2 + l.length) := by omega
      have h2 : ¬ (9223372036854775807 < 2 + l.length + 1) := by omega
      have HL := Lib.hid hx'
      clear hx' hc4
      go_wp2
      go_ret2
      refine ⟨120 :: 121 :: (l ++ [122]), 2, by have := HL.out; simp; omega, ⟨by omega, by omega⟩, ?_, HB4.out⟩
      rw [← ba_xyz]
      rfl
  · obtain ⟨cp, w4, hcv, hR, hb4, _⟩ := conv_bytes w3 l
    have hc4 := hc3.below hb4 hw3
    have cb := bent_any w4 w.heap.size w3.heap.size 0 cp l hc4 (slice_cells hR).2 (by omega)
    have HB4 := Lib.hid (hb3.trans (hb4.mono hb3.size))
    have HL := Lib.hid hx'
    clear hb3 hc3 hR hb4 hx'
    generalize (ByteArray.mk l.toArray) = s at *
    go_wp2_with fail
    refine cb.mono ?_
    rintro e w5 ⟨v5, l5, hl5, rfl, hn5, o5, ho5, hc5⟩
    have hcv5 := conv_str w5 v5 l5 (own_slc o5)
    have HB5 := Lib.hid (below_only HB4.out ho5 rfl)
    have HL5 := Lib.hid (show l5.length ≤ 6003 by have h1 : l5.length ≤ l.length + 1 := hl5; have := HL.out; omega)
    generalize hs5 : (ByteArray.mk l5.toArray) = s5 at *
    have HS := Lib.hid hs5
    clear o5 ho5 hs5 hl5 cb hc4 hn5 hcv
    go_wp2_with fail
    refine (once_any w5 _ 3 hc5 (by decide)).mono ?_
    rintro e w6 ⟨b, rfl, ho6, hc6⟩
    have HB6 := Lib.hid (below_only HB5.out ho6 rfl)
    clear ho6 hc5 hcv5
    cases b
    · have hd2 := int_lit w6 w.heap.size [0, 0, 0, 0, 1, -1, 99] 3 isInt hc6 (by decide) (by decide) (by unfold isInt; decide)
      go_wp2_with fail
      refine hd2.mono ?_
      rintro e w7 ⟨x, hx, rfl, ho7, hc7⟩
      have HB7 := Lib.hid (below_only HB6.out ho7 rfl)
      have HX := Lib.hid hx
      clear hx ho7 hd2 hc6
      go_wp2
      go_ret2
      exact ⟨l5, x, by have := HL5.out; omega, HX.out, by rw [HS.out]; rfl, HB7.out⟩
    · obtain rfl := HS.out
      have hl5 := HL5.out
      have h1 : ¬ (9223372036854775807 < 2 + l5.length) := by omega
      have h2 : ¬ (9223372036854775807 < 2 + l5.length + 1) := by omega
      clear hl5
      go_wp2
      go_ret2
      refine ⟨120 :: 121 :: (l5 ++ [122]), 2, by have := HL5.out; simp; omega, ⟨by omega, by omega⟩, ?_, HB6.out⟩
      rw [← ba_xyz]
      rfl
end Go.Proofs.YtaelepaogkakmaaDoor
