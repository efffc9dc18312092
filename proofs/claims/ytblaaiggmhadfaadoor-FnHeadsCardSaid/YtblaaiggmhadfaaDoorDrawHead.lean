/- What the model's draws for heads return. -/
import Derived.Test.YtblaaiggmhadfaaDoorHeadFor
import Derived.Test.YtblaaiggmhadfaaDoorBox
import Derived.Test.YtblaaiggmhadfaaDoorPutHead
import Derived.Test.YtblaaiggmhadfaaDoorDrawBytes
import Derived.Test.YtblaaiggmhadfaaDoorBent
import Derived.IntWalk
namespace Go.Proofs.YtblaaiggmhadfaaDoor
open Go.RowKit
set_option maxRecDepth 100000
theorem HB.only {w w' : World} {B b : Nat} {h : Hd} (H : HB w b h) (ho : Only B w w') (hb : b ≠ B) : HB w' b h :=
  ⟨ho.cell hb H.c0, ho.cell hb H.c1, ho.cell hb H.c2, fun o => (World.frozen?_of_block (w := w) (ho.block b H.lt hb)).trans (H.fz o)⟩
def HeadPost (B : Nat) (w : World) (r : Ending) (w' : World) : Prop := ∃ h : Hd, isInt h.n ∧ r = .returned (.agg #[.int .i64 h.k, .int .i64 h.n, .int .i64 h.w]) ∧ Only B w w' ∧ Cur w' B
theorem isInt_zero : isInt 0 := ⟨by decide, by decide⟩
theorem hdFor_n {k n : Int} (h : isInt n) : isInt (hdFor k n).n := by
  unfold hdFor
  generalize (if n > 23 then widR n else 0) = x
  split
  · exact h
  · exact isInt_zero
theorem only_three {B : Nat} {w W : World} {b : Nat} (h : Only B w W) (hb : w.heap.size ≤ b) (u v x : Value) : Only B w (((W.setCell ⟨b, 0, none⟩ u).setCell ⟨b, 1, none⟩ v).setCell ⟨b, 2, none⟩ x) := ((h.setNew hb u).setNew hb v).setNew hb x
theorem cur_three {B : Nat} {W : World} {b : Nat} (h : Cur W B) (hb : B < b) (u v x : Value) : Cur (((W.setCell ⟨b, 0, none⟩ u).setCell ⟨b, 1, none⟩ v).setCell ⟨b, 2, none⟩ x) B := ((h.setNew hb u).setNew hb v).setNew hb x
set_option maxHeartbeats 2000000 in
theorem l12head_any (w : World) (B : Nat) (hC : Cur w B) : Calls Tryd.prog 34 #[.pointer (some ⟨B, 0, none⟩)] w (HeadPost B w) := by
  have hBw := hC.lt
  go_enter Tryd.func34, Tryd.ntmps34
  go_wp2_with fail
  refine (below_any _ B 8 (hC.alloc _) (by decide)).mono ?_
  rintro r w1 ⟨k, ⟨hk0, hk1⟩, rfl, ho1, hc1⟩
  have O1 := ((Only.refl B w).alloc (.cells #[.int .i64 0, .int .i64 0, .int .i64 0] 25)).trans ho1
  have R1 := (hb_new w hd0 25).only ho1 (by omega)
  clear ho1
  go_wp2_with fail
  refine (num_any w1 B hc1).mono ?_
  rintro r w2 ⟨n, hn, rfl, ho2, hc2⟩
  have O2 := O1.trans ho2
  have R2 := R1.only ho2 (by omega)
  have hni : isInt n := ⟨by have := hn.1; omega, by have := hn.2; omega⟩
  clear ho2 O1 R1 hc1 hk0 hk1
  have HP := Lib.hid (hdFor_n (k := k) hni)
  have cf := fun W => headfor_spec k n W
  obtain ⟨h, hh⟩ : ∃ h, h = hdFor k n := ⟨_, rfl⟩
  rw [← hh] at cf HP
  clear hh hn hni
  obtain ⟨hk, hn, hw⟩ := h
  go_wp2_with fail
  refine (cf _).mono ?_
  rintro r w3 ⟨rfl, hb3⟩
  have hs3 : w.heap.size < w3.heap.size := by have := O2.size; have := R2.lt; have := hb3.size; omega
  have O3 := Lib.hid ((O2.trans (Only.of_below hb3)).alloc (.cells #[.int .i64 hk, .int .i64 hn, .int .i64 hw] 25))
  have R3 := Lib.hid ((R2.below hb3).below (below_box w3 (.cells #[.int .i64 hk, .int .i64 hn, .int .i64 hw] 25)))
  have D3 := Lib.hid (hb_new w3 ⟨hk, hn, hw⟩ 25)
  have hc3 := (hc2.below hb3 (by have := hc2.lt; omega)).alloc (.cells #[.int .i64 hk, .int .i64 hn, .int .i64 hw] 25)
  have hne : w3.heap.size ≠ w.heap.size := by omega
  clear cf hb3 O2 R2 hc2
  go_wp2_with fail
  refine (below_any _ B 5 hc3 (by decide)).mono ?_
  rintro r w4 ⟨q, ⟨hq0, hq1⟩, rfl, ho4, hc4⟩
  have O4 := Lib.hid (O3.out.trans ho4)
  have R4 := Lib.hid (R3.out.only ho4 (by omega))
  have D4 := Lib.hid (D3.out.only ho4 (by omega))
  clear ho4 hc3 O3 R3 D3
  by_cases q0 : q = 0
  · subst q0
    go_wp2_with fail
    refine (int_lit w4 B [1, 2, 4, 8] 3 (fun y => 1 ≤ y ∧ y ≤ 8) hc4 (by simp) (by simp) (by intro y hy; simp at hy; omega)).mono ?_
    rintro r w5 ⟨x, hx, rfl, ho5, hc5⟩
    have O5 := Lib.hid (O4.out.trans ho5)
    have R5 := R4.out.only ho5 (by omega)
    have D5 := D4.out.only ho5 (by omega)
    clear ho5 hx
    obtain ⟨a0, a1, a2, af⟩ := R5
    obtain ⟨b0, b1, b2, bf⟩ := D5
    simp only [hd0] at a0 a1 a2
    simp only at b0 b1 b2
    go_wp2
    refine bodyPost_ret (v := .agg #[.int .i64 hk, .int .i64 hn, .int .i64 x]) (by simp [results, Tryd.results34, go_sem, a0, a1, a2, b0, b1, b2, hne]) rfl ⟨⟨hk, hn, x⟩, HP.out, rfl, ?_, ?_⟩
    · exact only_three (O5.out.setNew (by show w.heap.size ≤ w3.heap.size; omega) _) (Nat.le_refl _) _ _ _
    · exact cur_three (hc5.setNew (by show B < w3.heap.size; omega) _) (by omega) _ _ _
  · by_cases q1 : q = 1
    · subst q1
      go_wp2_with fail
      refine (below_any w4 B 8 hc4 (by decide)).mono ?_
      rintro r w5 ⟨x, hx, rfl, ho5, hc5⟩
      have O5 := Lib.hid (O4.out.trans ho5)
      have R5 := R4.out.only ho5 (by omega)
      have D5 := D4.out.only ho5 (by omega)
      clear ho5 hx
      obtain ⟨a0, a1, a2, af⟩ := R5
      obtain ⟨b0, b1, b2, bf⟩ := D5
      simp only [hd0] at a0 a1 a2
      simp only at b0 b1 b2
      go_wp2
      refine bodyPost_ret (v := .agg #[.int .i64 x, .int .i64 0, .int .i64 (-1)]) (by simp [results, Tryd.results34, go_sem, a0, a1, a2, b0, b1, b2, hne]) rfl ⟨⟨x, 0, -1⟩, isInt_zero, rfl, ?_, ?_⟩
      · exact only_three (only_three O5.out (by omega) _ _ _) (Nat.le_refl _) _ _ _
      · exact cur_three (cur_three hc5 (by omega) _ _ _) (by omega) _ _ _
    · have e0 : (q == 0) = false := by simpa using q0
      have e1 : (q == 1) = false := by simpa using q1
      obtain ⟨a0, a1, a2, af⟩ := R4.out
      obtain ⟨b0, b1, b2, bf⟩ := D4.out
      simp only [hd0] at a0 a1 a2
      simp only at b0 b1 b2
      go_wp2
      refine bodyPost_ret (v := .agg #[.int .i64 hk, .int .i64 hn, .int .i64 hw]) (by simp [results, Tryd.results34, go_sem, a0, a1, a2, b0, b1, b2, hne]) rfl ⟨⟨hk, hn, hw⟩, HP.out, rfl, ?_, ?_⟩
      · exact only_three O4.out (Nat.le_refl _) _ _ _
      · exact cur_three hc4 (by omega) _ _ _
set_option maxHeartbeats 2000000 in
theorem l12any_any (w : World) (B : Nat) (hC : Cur w B) : Calls Tryd.prog 26 #[.pointer (some ⟨B, 0, none⟩)] w (HeadPost B w) := by
  have hBw := hC.lt
  go_enter Tryd.func26, Tryd.ntmps26
  go_wp2_with fail
  refine (l12head_any _ B (hC.alloc _)).mono ?_
  rintro r w3 ⟨⟨hk, hn, hw⟩, hP, rfl, ho3, hc2⟩
  have HP := Lib.hid (show isInt hn from hP)
  have O2 := ((Only.refl B w).alloc (.cells #[.int .i64 0, .int .i64 0, .int .i64 0] 25)).trans ho3
  have R2 := (hb_new w hd0 25).only ho3 (by omega)
  have hs3 : w.heap.size < w3.heap.size := by have := R2.lt; omega
  have O3 := Lib.hid (O2.alloc (.cells #[.int .i64 hk, .int .i64 hn, .int .i64 hw] 25))
  have R3 := Lib.hid (R2.below (below_box w3 (.cells #[.int .i64 hk, .int .i64 hn, .int .i64 hw] 25)))
  have D3 := Lib.hid (hb_new w3 ⟨hk, hn, hw⟩ 25)
  have hc3 := hc2.alloc (.cells #[.int .i64 hk, .int .i64 hn, .int .i64 hw] 25)
  have hne : w3.heap.size ≠ w.heap.size := by omega
  clear ho3 O2 R2 hc2 hP
  go_wp2_with fail
  refine (below_any _ B 8 hc3 (by decide)).mono ?_
  rintro r w4 ⟨q, ⟨hq0, hq1⟩, rfl, ho4, hc4⟩
  have O4 := Lib.hid (O3.out.trans ho4)
  have R4 := Lib.hid (R3.out.only ho4 (by omega))
  have D4 := Lib.hid (D3.out.only ho4 (by omega))
  clear ho4 hc3 O3 R3 D3
  by_cases q0 : q = 0
  · subst q0
    go_wp2_with fail
    refine (int_lit w4 B [-1, 8] 3 (fun y => -1 ≤ y ∧ y ≤ 8) hc4 (by simp) (by simp) (by intro y hy; simp at hy; omega)).mono ?_
    rintro r w5 ⟨y, hx, rfl, ho5, hc5⟩
    have O5 := Lib.hid (O4.out.trans ho5)
    have R5 := R4.out.only ho5 (by omega)
    have D5 := D4.out.only ho5 (by omega)
    have HY := Lib.hid hx
    clear ho5 hx
    obtain ⟨a0, a1, a2, af⟩ := R5
    obtain ⟨b0, b1, b2, bf⟩ := D5
    simp only [hd0] at a0 a1 a2
    simp only at b0 b1 b2
    go_wp2
    refine bodyPost_ret (v := .agg #[.int .i64 y, .int .i64 hn, .int .i64 hw]) (by simp [results, Tryd.results26, go_sem, a0, a1, a2, b0, b1, b2, hne]) rfl ⟨⟨y, hn, hw⟩, HP.out, rfl, ?_, ?_⟩
    · exact only_three (O5.out.setNew (by show w.heap.size ≤ w3.heap.size; omega) _) (Nat.le_refl _) _ _ _
    · exact cur_three (hc5.setNew (by show B < w3.heap.size; omega) _) (by omega) _ _ _
  by_cases q1 : q = 1
  · subst q1
    go_wp2_with fail
    refine (int_lit w4 B [3, -2, 0] 3 (fun y => -2 ≤ y ∧ y ≤ 3) hc4 (by simp) (by simp) (by intro y hy; simp at hy; omega)).mono ?_
    rintro r w5 ⟨y, hx, rfl, ho5, hc5⟩
    have O5 := Lib.hid (O4.out.trans ho5)
    have R5 := R4.out.only ho5 (by omega)
    have D5 := D4.out.only ho5 (by omega)
    have HY := Lib.hid hx
    clear ho5 hx
    obtain ⟨a0, a1, a2, af⟩ := R5
    obtain ⟨b0, b1, b2, bf⟩ := D5
    simp only [hd0] at a0 a1 a2
    simp only at b0 b1 b2
    go_wp2
    refine bodyPost_ret (v := .agg #[.int .i64 hk, .int .i64 hn, .int .i64 y]) (by simp [results, Tryd.results26, go_sem, a0, a1, a2, b0, b1, b2, hne]) rfl ⟨⟨hk, hn, y⟩, HP.out, rfl, ?_, ?_⟩
    · exact only_three (O5.out.setNew (by show w.heap.size ≤ w3.heap.size; omega) _) (Nat.le_refl _) _ _ _
    · exact cur_three (hc5.setNew (by show B < w3.heap.size; omega) _) (by omega) _ _ _
  by_cases q2 : q = 2
  · subst q2
    go_wp2_with fail
    refine (raw_any w4 B hc4).mono ?_
    rintro r w5 ⟨y, hx, rfl, ho5, hc5⟩
    have O5 := Lib.hid (O4.out.trans ho5)
    have R5 := R4.out.only ho5 (by omega)
    have D5 := D4.out.only ho5 (by omega)
    have HY := Lib.hid hx
    clear ho5 hx
    obtain ⟨a0, a1, a2, af⟩ := R5
    obtain ⟨b0, b1, b2, bf⟩ := D5
    simp only [hd0] at a0 a1 a2
    simp only at b0 b1 b2
    go_wp2
    refine bodyPost_ret (v := .agg #[.int .i64 hk, .int .i64 y, .int .i64 hw]) (by simp [results, Tryd.results26, go_sem, a0, a1, a2, b0, b1, b2, hne]) rfl ⟨⟨hk, y, hw⟩, HY.out, rfl, ?_, ?_⟩
    · exact only_three (O5.out.setNew (by show w.heap.size ≤ w3.heap.size; omega) _) (Nat.le_refl _) _ _ _
    · exact cur_three (hc5.setNew (by show B < w3.heap.size; omega) _) (by omega) _ _ _
  have e0 : (q == 0) = false := by simpa using q0
  have e1 : (q == 1) = false := by simpa using q1
  have e2 : (q == 2) = false := by simpa using q2
  have R5 := R4.out
  have D5 := D4.out
  obtain ⟨a0, a1, a2, af⟩ := R5
  obtain ⟨b0, b1, b2, bf⟩ := D5
  simp only [hd0] at a0 a1 a2
  simp only at b0 b1 b2
  go_wp2
  refine bodyPost_ret (v := .agg #[.int .i64 hk, .int .i64 hn, .int .i64 hw]) (by simp [results, Tryd.results26, go_sem, a0, a1, a2, b0, b1, b2, hne]) rfl ⟨⟨hk, hn, hw⟩, HP.out, rfl, ?_, ?_⟩
  · exact only_three O4.out (Nat.le_refl _) _ _ _
  · exact cur_three hc4 (by omega) _ _ _
/-- some bytes of its own and a head -/
def BytesHead (w : World) (e : Ending) (w' : World) : Prop := ∃ (g c : Nat) (l : List UInt8) (h : Hd), l.length ≤ 2 ∧ l.length ≤ c ∧ c ≤ maxLen ∧ isInt h.n ∧ e = .returned (.tuple #[.slice (some ⟨g, 0, none⟩) l.length c, .agg #[.int .i64 h.k, .int .i64 h.n, .int .i64 h.w]]) ∧ w'.ownsRow w.heap.size 5 1 (.slice (some ⟨g, 0, none⟩) l.length c) l.length (bv l) ∧ Below w.heap.size w w'
set_option maxHeartbeats 2000000 in
theorem drawputhead_any (a : Option Addr) (len cap : Nat) (w : World) (hC : CodeAt w a len) (hl : len ≤ 1048576) : Calls Tryd.prog 6 #[.slice a len cap] w (BytesHead w) := by
  have hC2 := hC.below (below_box w (.cells #[.int .i64 0, .int .i64 0, .int .i64 0] 25))
  have hsa : (w.alloc (.cells #[.int .i64 0, .int .i64 0, .int .i64 0] 25)).heap.size = w.heap.size + 1 := by simp
  go_enter Tryd.func6, Tryd.ntmps6
  go_wp2_with fail
  refine (new_any a len cap _ hC2 hl).mono ?_
  rintro e w0 ⟨rfl, hb0, hc0, hlt0⟩
  have R0 := (hb_new w hd0 25).below hb0
  rw [hsa] at hc0 hlt0
  have hB0 : Below w.heap.size w w0 := (below_box w _).trans (hb0.mono (by simp))
  clear hb0
  go_wp2_with fail
  refine (below_any w0 _ 3 hc0 (by decide)).mono ?_
  rintro e w1 ⟨x, ⟨hx0, hx1⟩, rfl, ho1, hc1⟩
  obtain ⟨x, rfl⟩ : ∃ q : Nat, x = q := ⟨x.toNat, by omega⟩
  have b1 := hB0.trans (ho1.below w.heap.size (by omega) hB0.size)
  have R1 := R0.only ho1 (by omega)
  have hs1 := ho1.size
  clear hB0 hc0 ho1 R0
  go_wp2_with fail
  refine (bytes_any w1 _ x hc1 (by omega)).mono ?_
  rintro e w2 ⟨v, l, hll, rfl, hnn, hown, ho2, hc2⟩
  obtain ⟨g, c, rfl, hg, hgc, hgm⟩ := own_shape hown hnn
  have b2 := b1.trans (ho2.below w.heap.size (by omega) b1.size)
  have R2 := R1.only ho2 (by omega)
  have hsz1 := b1.size
  have hrl := R1.lt
  have HCC := Lib.hid (And.intro hgc hgm)
  clear b1 ho2 hc1 hnn hgc hgm R1
  go_wp2_with fail
  refine (l12any_any w2 _ hc2).mono ?_
  rintro e w3 ⟨⟨k, n, y⟩, hP, rfl, ho3, hc3⟩
  have hown3 := own_only hown ho3 (by simp [Value.ownBlock]; omega)
  have b3 := b2.trans (ho3.below w.heap.size (by omega) b2.size)
  obtain ⟨a0, a1, a2, af⟩ := R2.only ho3 (by omega)
  simp only [hd0] at a0 a1 a2
  have hgn : g ≠ w.heap.size := by omega
  have H3 := Lib.hid (own_base hown3 hsz1)
  have B3 := Lib.hid b3
  have HPP := Lib.hid hP
  have HL := Lib.hid (show l.length ≤ 2 by have : l.length ≤ x := hll; omega)
  clear hown hown3 b3 ho3 hc2 hc3 hll b2 R2
  go_wp2
  refine bodyPost_ret (v := .tuple #[.slice (some ⟨g, 0, none⟩) l.length c, .agg #[.int .i64 k, .int .i64 n, .int .i64 y]]) (by simp [results, Tryd.results6, go_sem, a0, a1, a2]) rfl ⟨g, c, l, ⟨k, n, y⟩, HL.out, HCC.out.1, HCC.out.2, HPP.out, rfl, ?_, below_three B3.out (Nat.le_refl _) _ _ _⟩
  exact own_only H3.out ((((Only.refl w.heap.size w3).setCell _ _).setCell _ _).setCell _ _) (by simp [Value.ownBlock]; exact hgn)
def TwoInts (w : World) (e : Ending) (w' : World) : Prop := ∃ m n : Int, isInt n ∧ e = .returned (.tuple #[.int .i64 m, .int .i64 n]) ∧ Below w.heap.size w w'
theorem drawheadfor_any (a : Option Addr) (len cap : Nat) (w : World) (hC : CodeAt w a len) (hl : len ≤ 1048576) : Calls Tryd.prog 8 #[.slice a len cap] w (TwoInts w) := by
  go_enter Tryd.func8, Tryd.ntmps8
  go_wp2_with fail
  refine (new_any a len cap w hC hl).mono ?_
  rintro e w0 ⟨rfl, hb0, hc0, hlt0⟩
  go_wp2_with fail
  refine (below_any w0 _ 10 hc0 (by decide)).mono ?_
  rintro e w1 ⟨x, ⟨hx0, hx1⟩, rfl, ho1, hc1⟩
  go_wp2_with fail
  refine (one_any w1 _ hc1).mono ?_
  rintro e w2 ⟨n, hn, rfl, ho2, hc2⟩
  have b2 := below_only hb0 (ho1.trans ho2) rfl
  clear hb0 hc0 ho1 hc1 ho2 hc2
  go_wp2
  go_ret2
  exact ⟨_, _, hn, rfl, b2⟩
def BytesAt (w : World) (e : Ending) (w' : World) : Prop := ∃ (g c : Nat) (l : List UInt8) (i : Int), l.length ≤ 20 ∧ l.length ≤ c ∧ c ≤ maxLen ∧ -1 ≤ i ∧ i ≤ 9 ∧ e = .returned (.tuple #[.slice (some ⟨g, 0, none⟩) l.length c, .int .i64 i]) ∧ w'.ownsRow w.heap.size 5 1 (.slice (some ⟨g, 0, none⟩) l.length c) l.length (bv l) ∧ Below w.heap.size w w'
set_option maxHeartbeats 2000000 in
theorem drawgethead_any (a : Option Addr) (len cap : Nat) (w : World) (hC : CodeAt w a len) (hl : len ≤ 1048576) : Calls Tryd.prog 10 #[.slice a len cap] w (BytesAt w) := by
  go_enter Tryd.func10, Tryd.ntmps10
  go_wp2_with fail
  refine (new_any a len cap w hC hl).mono ?_
  rintro e w0 ⟨rfl, hb0, hc0, hlt0⟩
  go_wp2_with fail
  refine (once_any w0 _ 3 hc0 (by decide)).mono ?_
  rintro e w1 ⟨b, rfl, ho1, hc1⟩
  have b1 := below_only hb0 ho1 rfl
  have hs1 := b1.size
  have hc1l := hc1.lt
  clear hb0 hc0 ho1
  cases b
  · go_wp2_with fail
    have hc1a := hc1.alloc (.cells #[.int .u8 1] 5)
    have hb1a := below_box w1 (.cells #[.int .u8 1] 5)
    refine (l12head_any _ _ hc1a).mono ?_
    rintro e w2 ⟨⟨k, n, x⟩, hP, rfl, ho2, hc2⟩
    have hcell : (w1.alloc (.cells #[.int .u8 1] 5)).cell? ⟨w1.heap.size, 0, none⟩ = some (.int .u8 1) := by simp [go_sem]
    have hcell2 := ho2.cell (p := ⟨w1.heap.size, 0, none⟩) (by show w1.heap.size ≠ w.heap.size; omega) hcell
    have b2 := (b1.trans (hb1a.mono hs1)).trans (ho2.below w.heap.size (Nat.le_refl _) (by simp; omega))
    have cp := puthead_spec w2 (.slice (some ⟨w1.heap.size, 0, none⟩) 1 1) [1] ⟨k, n, x⟩ ⟨w1.heap.size, 0, 1, rfl, fun j u hu => by
      cases j with
      | zero => simp [bv] at hu; subst hu; exact hcell2
      | succ j => simp [bv] at hu⟩ (by simp)
    have h9 := hdB_le ⟨k, n, x⟩
    clear hcell hcell2 ho2 hc1a hb1a hc1 b1 hP
    go_wp2_with fail
    refine cp.mono ?_
    rintro e w3 ⟨v3, rfl, hn3, o3, b3⟩
    have hel : ([1] ++ hdB ⟨k, n, x⟩ : List UInt8).length ≤ 10 := by rw [List.length_append]; simp; omega
    generalize ([1] ++ hdB ⟨k, n, x⟩ : List UInt8) = l2 at *
    obtain ⟨g2, c2, rfl, hg2, _, _⟩ := own_shape o3 hn3
    have b03 := b2.trans (b3.mono b2.size)
    have hc3 := hc2.below b3 (by have := hc2.lt; omega)
    have cb := bent_any w3 _ g2 0 c2 l2 hc3 (fun j u hu => own_cells o3 j u hu) (by omega)
    have hs3 := b03.size
    have hlt3 := hc3.lt
    clear cp b2 b3 hc2 hc3 o3 hn3 h9
    go_wp2_with fail
    refine cb.mono ?_
    rintro e w4 ⟨v4, l4, hl4, rfl, hn4, o4, ho4, hc4⟩
    obtain ⟨g4, c4, rfl, hg4, hlc4, hcm4⟩ := own_shape o4 hn4
    have hl4' : l4.length ≤ l2.length + 1 := hl4
    have b04 := b03.trans (ho4.below w.heap.size (Nat.le_refl _) b03.size)
    have hs4 := ho4.size
    clear cb b03 ho4 hn4 hl4
    have hd := int_lit w4 w.heap.size [1, 1, 1, 0, 9, -1] 3 (fun y => -1 ≤ y ∧ y ≤ 9) hc4 (by simp) (by simp) (by intro y hy; simp at hy; omega)
    go_wp2_with fail
    refine hd.mono ?_
    rintro e w5 ⟨y, ⟨hy0, hy1⟩, rfl, ho5, hc5⟩
    have H5 := Lib.hid (own_base (own_only o4 ho5 (by simp [Value.ownBlock]; omega)) hs3)
    have B5 := Lib.hid (b04.trans (ho5.below w.heap.size (Nat.le_refl _) b04.size))
    have HL := Lib.hid (show l4.length ≤ 20 by omega)
    have HCC := Lib.hid (And.intro hlc4 hcm4)
    clear hd o4 b04 ho5 hc4 hc5 hlc4 hcm4 hl4' hel
    go_wp2
    go_ret2
    exact ⟨g4, c4, l4, y, HL.out, HCC.out.1, HCC.out.2, hy0, hy1, rfl, H5.out, B5.out⟩
  · go_wp2_with fail
    refine (below_any w1 _ 9 hc1 (by decide)).mono ?_
    rintro e w2 ⟨x, ⟨hx0, hx1⟩, rfl, ho2, hc2⟩
    obtain ⟨x, rfl⟩ : ∃ q : Nat, x = q := ⟨x.toNat, by omega⟩
    have b2 := below_only b1 ho2 rfl
    clear b1 ho2 hc1
    have cb := bytes_any w2 _ (1 + x) hc2 (by omega)
    rw [show ((1 + x : Nat) : Int) = 1 + x by omega] at cb
    go_wp2_with fail
    refine cb.mono ?_
    rintro e w3 ⟨v, l, hll, rfl, hnn, hown, ho3, hc3⟩
    obtain ⟨g, c, rfl, hg, hgc, hgm⟩ := own_shape hown hnn
    have H3 := Lib.hid (own_base hown b2.size)
    have B3 := Lib.hid (below_only b2 ho3 rfl)
    have HL := Lib.hid (show l.length ≤ 20 by have : l.length ≤ 1 + x := hll; omega)
    have HCC := Lib.hid (And.intro hgc hgm)
    clear cb hown b2 ho3 hc2 hc3 hnn hgc hgm hll
    go_wp2
    go_ret2
    exact ⟨g, c, l, 0, HL.out, HCC.out.1, HCC.out.2, by decide, by decide, rfl, H3.out, B3.out⟩
end Go.Proofs.YtblaaiggmhadfaaDoor
