/- The draws of bits. -/
import Derived.Test.YtblaaiggmhadfaaDrawFlt
import Derived.Test.YtblaaiggmhadfaaFltBits
namespace Go.Proofs.Ytblaaiggmhadfaa
open Go.RowKit
theorem fltBits_range (m e : Int) : -1 ≤ fltBits m e ∧ fltBits m e ≤ 33554431 := by
  cases h : fltOk m e
  · rw [fltBits_no h]; omega
  · have := bits_back h; omega
set_option maxRecDepth 100000 in
set_option maxHeartbeats 2000000 in
theorem drawfltbits_any (a : Option Addr) (len cap : Nat) (w : World) (hC : CodeAt w a len) (hl : len ≤ 1048576) : Calls Try.prog 10 #[.slice a len cap] w (AnyFltDraw w) := by
  have hC2 := hC.below (fbox w (.cells #[.int .i64 0, .int .i64 0] 25))
  go_enter Try.func10, Try.ntmps10
  go_wp2_with fail
  refine (new_any a len cap _ hC2 hl).mono ?_
  rintro e w1 ⟨rfl, hb, hc, hz⟩
  have R1 := (box_new w 0 0 25).below hb (by simp)
  have hs1 : (w.alloc (.cells #[.int .i64 0, .int .i64 0] 25)).heap.size = w.heap.size + 1 := by simp
  have hsz := hb.size
  rw [hs1] at hc hsz
  go_wp2_with fail
  refine (l5any_any w1 (w.heap.size + 1) hc).mono ?_
  rintro e w2 ⟨n, x, hv, rfl, ho, hc2⟩
  obtain ⟨b0, b1, b2, b3⟩ := R1.only ho (by omega)
  have hB : Below w.heap.size w w2 := ((fbox _ _).trans (hb.mono (by simp))).trans (ho.below w.heap.size (by omega) (by omega))
  have hvh := Lib.hid hv
  clear hv
  go_wp2
  refine bodyPost_ret (v := .agg #[.int .i64 n, .int .i64 x]) (by simp [results, Try.results10, go_sem, b0, b1, b2, b3]) rfl ⟨n, x, hvh.out, rfl, ?_⟩
  exact (hB.setCell (Nat.le_refl _) _).setCell (Nat.le_refl _) _
set_option maxRecDepth 100000 in
set_option maxHeartbeats 2000000 in
theorem drawbitsflt_any (a : Option Addr) (len cap : Nat) (w : World) (hC : CodeAt w a len) (hl : len ≤ 1048576) : Calls Try.prog 11 #[.slice a len cap] w (Single isInt w) := by
  go_enter Try.func11, Try.ntmps11
  go_wp2_with fail
  refine (new_any a len cap w hC hl).mono ?_
  rintro e w0 ⟨rfl, hb0, hc0, hlt0⟩
  go_wp2_with fail
  refine (once_any w0 _ 3 hc0 (by decide)).mono ?_
  rintro e w1 ⟨b1, rfl, ho1, hc1⟩
  cases b1
  · go_wp2_with fail
    refine (l5draw_any w1 _ hc1).mono ?_
    rintro e w2 ⟨m, x, ⟨m0, m1, x0, x1⟩, rfl, ho2, hc2⟩
    have cb := fun W => fltbits_spec m x W ⟨by omega, by omega⟩ ⟨by omega, by omega⟩
    obtain ⟨r0, r1⟩ := fltBits_range m x
    generalize fltBits m x = N at *
    go_wp2_with fail
    refine (cb _).mono ?_
    rintro e w3 ⟨rfl, hb3⟩
    have ho3 : Only w.heap.size w2 w3 := Only.of_below hb3
    have hc3 := hc2.below hb3
    clear cb
    go_wp2_with fail
    refine (once_any w3 _ 3 (hc3 (by have := hc2.lt; omega)) (by decide)).mono ?_
    rintro e w4 ⟨b4, rfl, ho4, hc4⟩
    have O4 := Lib.hid (((ho1.trans ho2).trans ho3).trans ho4)
    have HB0 := Lib.hid hb0
    clear ho1 ho2 ho3 ho4 hc0 hc1 hc2 hc3 hb3 hb0
    cases b4
    · go_wp2
      go_ret
      exact ⟨_, ⟨by omega, by omega⟩, rfl, below_only HB0.out O4.out rfl⟩
    · go_wp2_with fail
      refine (below_any w4 _ 9 hc4 (by decide)).mono ?_
      rintro e w5 ⟨y, ⟨y0, y1⟩, rfl, ho5, hc5⟩
      go_wp2_with fail
      refine (below_any w5 _ 9 hc5 (by decide)).mono ?_
      rintro e w6 ⟨z, ⟨z0, z1⟩, rfl, ho6, hc6⟩
      have O6 := Lib.hid ((O4.out.trans ho5).trans ho6)
      clear ho5 ho6 hc4 hc5 hc6
      go_wp2
      go_ret
      exact ⟨_, ⟨by omega, by omega⟩, rfl, below_only HB0.out O6.out rfl⟩
  · go_wp2_with fail
    refine (one_any w1 _ hc1).mono ?_
    rintro e w2 ⟨x, hx, rfl, ho2, hc2⟩
    have b1 := below_only hb0 (ho1.trans ho2) rfl
    clear hb0 hc0 ho1 hc1 ho2 hc2
    go_wp2
    go_ret
    exact ⟨_, hx, rfl, b1⟩
end Go.Proofs.Ytblaaiggmhadfaa
