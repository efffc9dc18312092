/- What the model's draws for floating-point numbers return. -/
import Derived.Test.YtblaaiggmhadfaaBox
import Derived.Test.YtblaaiggmhadfaaFltOk
import Derived.IntWalk
namespace Go.Proofs.Ytblaaiggmhadfaa
open Go.RowKit
def AnyFlt (m e : Int) : Prop := -65537 ≤ m ∧ m ≤ 65537 ∧ -17 ≤ e ∧ e ≤ 46
def FltPost (B : Nat) (w : World) (r : Ending) (w' : World) : Prop := ∃ m e : Int, AnyFlt m e ∧ r = .returned (.agg #[.int .i64 m, .int .i64 e]) ∧ Only B w w' ∧ Cur w' B
set_option maxRecDepth 100000 in
set_option maxHeartbeats 2000000 in
theorem l5draw_any (w : World) (B : Nat) (hC : Cur w B) : Calls Try.prog 33 #[.pointer (some ⟨B, 0, none⟩)] w (FltPost B w) := by
  have hBw := hC.lt
  go_enter Try.func33, Try.ntmps33
  go_wp2_with fail
  refine (below_any _ B 32767 (hC.alloc _) (by decide)).mono ?_
  rintro r w1 ⟨k, ⟨hk0, hk1⟩, rfl, ho1, hc1⟩
  have O1 := ((Only.refl B w).alloc (.cells #[.int .i64 0, .int .i64 0] 25)).trans ho1
  have R1 := (box_new w 0 0 25).only ho1 (by omega)
  clear ho1
  go_wp2_with fail
  refine (int_lit w1 B [0, 1, 3, 5, 255, 32767, 65535, 1 + 2 * k] 3 (fun y => 0 ≤ y ∧ y ≤ 65535) hc1 (by simp) (by simp) (by intro y hy; simp at hy; omega)).mono ?_
  rintro r w2 ⟨m, ⟨hm0, hm1⟩, rfl, ho2, hc2⟩
  have O2 := O1.trans ho2
  have R2 := R1.only ho2 (by omega)
  clear ho2 O1 R1 hk0 hk1 hc1
  go_wp2_with fail
  refine (below_any w2 B 47 hc2 (by decide)).mono ?_
  rintro r w3 ⟨j, ⟨hj0, hj1⟩, rfl, ho3, hc3⟩
  have O3 := O2.trans ho3
  have R3 := R2.only ho3 (by omega)
  clear ho3 O2 R2 hc2
  go_wp2_with fail
  refine (int_lit w3 B [0, 0, 1, -1, -16, 30, j - 16] 3 (fun y => -16 ≤ y ∧ y ≤ 30) hc3 (by simp) (by simp) (by intro y hy; simp at hy; omega)).mono ?_
  rintro r w4 ⟨e, ⟨he0, he1⟩, rfl, ho4, hc4⟩
  have O4 := O3.trans ho4
  have R4 := R3.only ho4 (by omega)
  clear ho4 O3 R3 hj0 hj1 hc3
  by_cases hz : m = 0
  · subst hz
    go_wp2_with fail
    refine (once_any w4 B 3 hc4 (by decide)).mono ?_
    rintro r w9 ⟨b9, rfl, ho9, hc9⟩
    have O9 := O4.trans ho9
    have R9 := R4.only ho9 (by omega)
    cases b9
    · obtain ⟨b0, b1, b2, b3⟩ := R9
      go_wp2
      refine bodyPost_ret (v := .agg #[.int .i64 0, .int .i64 0]) (by simp [results, Try.results33, go_sem, b0, b1, b2, b3]) rfl ⟨0, 0, ⟨by omega, by omega, by omega, by omega⟩, rfl, ?_, ?_⟩
      · exact (O9.setNew (Nat.le_refl _) _).setNew (Nat.le_refl _) _
      · exact (hc9.setNew (by show _ < w.heap.size; omega) _).setNew (by show _ < w.heap.size; omega) _
    · obtain ⟨b0, b1, b2, b3⟩ := R9
      go_wp2
      refine bodyPost_ret (v := .agg #[.int .i64 (-0), .int .i64 0]) (by simp [results, Try.results33, go_sem, b0, b1, b2, b3]) rfl ⟨(-0), 0, ⟨by omega, by omega, by omega, by omega⟩, rfl, ?_, ?_⟩
      · exact (O9.setNew (Nat.le_refl _) _).setNew (Nat.le_refl _) _
      · exact (hc9.setNew (by show _ < w.heap.size; omega) _).setNew (by show _ < w.heap.size; omega) _
  · have hzb : (m == 0) = false := by simpa using hz
    by_cases h1 : m = 1
    · subst h1
      go_wp2_with fail
      refine (once_any w4 B 2 hc4 (by decide)).mono ?_
      rintro r w5 ⟨b5, rfl, ho5, hc5⟩
      have O5 := O4.trans ho5
      have R5 := R4.only ho5 (by omega)
      cases b5
      · go_wp2_with fail
        refine (once_any w5 B 3 hc5 (by decide)).mono ?_
        rintro r w9 ⟨b9, rfl, ho9, hc9⟩
        have O9 := O5.trans ho9
        have R9 := R5.only ho9 (by omega)
        cases b9
        · obtain ⟨b0, b1, b2, b3⟩ := R9
          go_wp2
          refine bodyPost_ret (v := .agg #[.int .i64 1, .int .i64 e]) (by simp [results, Try.results33, go_sem, b0, b1, b2, b3]) rfl ⟨1, e, ⟨by omega, by omega, by omega, by omega⟩, rfl, ?_, ?_⟩
          · exact (O9.setNew (Nat.le_refl _) _).setNew (Nat.le_refl _) _
          · exact (hc9.setNew (by show _ < w.heap.size; omega) _).setNew (by show _ < w.heap.size; omega) _
        · obtain ⟨b0, b1, b2, b3⟩ := R9
          go_wp2
          refine bodyPost_ret (v := .agg #[.int .i64 (-1), .int .i64 e]) (by simp [results, Try.results33, go_sem, b0, b1, b2, b3]) rfl ⟨(-1), e, ⟨by omega, by omega, by omega, by omega⟩, rfl, ?_, ?_⟩
          · exact (O9.setNew (Nat.le_refl _) _).setNew (Nat.le_refl _) _
          · exact (hc9.setNew (by show _ < w.heap.size; omega) _).setNew (by show _ < w.heap.size; omega) _
      · go_wp2_with fail
        refine (int_lit w5 B [31, 45] 3 (fun y => 31 ≤ y ∧ y ≤ 45) hc5 (by simp) (by simp) (by intro y hy; simp at hy; omega)).mono ?_
        rintro r w6 ⟨e6, ⟨he60, he61⟩, rfl, ho6, hc6⟩
        have O6 := O5.trans ho6
        have R6 := R5.only ho6 (by omega)
        go_wp2_with fail
        refine (once_any w6 B 3 hc6 (by decide)).mono ?_
        rintro r w9 ⟨b9, rfl, ho9, hc9⟩
        have O9 := O6.trans ho9
        have R9 := R6.only ho9 (by omega)
        cases b9
        · obtain ⟨b0, b1, b2, b3⟩ := R9
          go_wp2
          refine bodyPost_ret (v := .agg #[.int .i64 1, .int .i64 e6]) (by simp [results, Try.results33, go_sem, b0, b1, b2, b3]) rfl ⟨1, e6, ⟨by omega, by omega, by omega, by omega⟩, rfl, ?_, ?_⟩
          · exact (O9.setNew (Nat.le_refl _) _).setNew (Nat.le_refl _) _
          · exact (hc9.setNew (by show _ < w.heap.size; omega) _).setNew (by show _ < w.heap.size; omega) _
        · obtain ⟨b0, b1, b2, b3⟩ := R9
          go_wp2
          refine bodyPost_ret (v := .agg #[.int .i64 (-1), .int .i64 e6]) (by simp [results, Try.results33, go_sem, b0, b1, b2, b3]) rfl ⟨(-1), e6, ⟨by omega, by omega, by omega, by omega⟩, rfl, ?_, ?_⟩
          · exact (O9.setNew (Nat.le_refl _) _).setNew (Nat.le_refl _) _
          · exact (hc9.setNew (by show _ < w.heap.size; omega) _).setNew (by show _ < w.heap.size; omega) _
    · have h1b : (m == 1) = false := by simpa using h1
      go_wp2_with fail
      refine (once_any w4 B 3 hc4 (by decide)).mono ?_
      rintro r w9 ⟨b9, rfl, ho9, hc9⟩
      have O9 := O4.trans ho9
      have R9 := R4.only ho9 (by omega)
      cases b9
      · obtain ⟨b0, b1, b2, b3⟩ := R9
        go_wp2
        refine bodyPost_ret (v := .agg #[.int .i64 m, .int .i64 e]) (by simp [results, Try.results33, go_sem, b0, b1, b2, b3]) rfl ⟨m, e, ⟨by omega, by omega, by omega, by omega⟩, rfl, ?_, ?_⟩
        · exact (O9.setNew (Nat.le_refl _) _).setNew (Nat.le_refl _) _
        · exact (hc9.setNew (by show _ < w.heap.size; omega) _).setNew (by show _ < w.heap.size; omega) _
      · obtain ⟨b0, b1, b2, b3⟩ := R9
        go_wp2
        refine bodyPost_ret (v := .agg #[.int .i64 (-m), .int .i64 e]) (by simp [results, Try.results33, go_sem, b0, b1, b2, b3]) rfl ⟨(-m), e, ⟨by omega, by omega, by omega, by omega⟩, rfl, ?_, ?_⟩
        · exact (O9.setNew (Nat.le_refl _) _).setNew (Nat.le_refl _) _
        · exact (hc9.setNew (by show _ < w.heap.size; omega) _).setNew (by show _ < w.heap.size; omega) _
set_option maxRecDepth 100000 in
theorem l5any_any (w : World) (B : Nat) (hC : Cur w B) : Calls Try.prog 30 #[.pointer (some ⟨B, 0, none⟩)] w (FltPost B w) := by
  have hBw := hC.lt
  go_enter Try.func30, Try.ntmps30
  go_wp2_with fail
  refine (l5draw_any _ B (hC.alloc _)).mono ?_
  rintro e w1 ⟨n, x, hv, rfl, ho1, hc1⟩
  have hv1 := Lib.hid hv
  clear hv
  have hz1 : w.heap.size < w1.heap.size := by have := ho1.size; simp at this; omega
  have O1 := (((Only.refl B w).alloc (.cells #[.int .i64 0, .int .i64 0] 25)).trans ho1).alloc (.cells #[.int .i64 n, .int .i64 x] 25)
  have R1 := ((box_new w 0 0 25).only ho1 (by omega)).below (N := w1.heap.size) ((Below.refl _ _).alloc (Nat.le_refl _) (.cells #[.int .i64 n, .int .i64 x] 25)) hz1
  have D1 := box_new w1 n x 25
  have hC1 := hc1.alloc (.cells #[.int .i64 n, .int .i64 x] 25)
  go_wp2_with fail
  refine (below_any _ B 8 hC1 (by decide)).mono ?_
  rintro e w2 ⟨k, ⟨hk0, hk1⟩, rfl, ho2, hc2⟩
  have O2 := O1.trans ho2
  have R2 := R1.only ho2 (by omega)
  have D2 := D1.only ho2 (by omega)
  clear R1 D1 ho1 ho2 hC1 hc1 O1
  have hne : w1.heap.size ≠ w.heap.size := by omega
  by_cases h0 : k = 0
  · subst h0
    go_wp2_with fail
    refine (int_lit w2 B [2, 65537, -65537, 0] 3 (fun y => -65537 ≤ y ∧ y ≤ 65537) hc2 (by decide) (by decide) (by decide)).mono ?_
    rintro e w3 ⟨m, hm, rfl, ho3, hc3⟩
    obtain ⟨b0, b1, b2, b3⟩ := R2.only ho3 (by omega)
    obtain ⟨d0, d1, d2, d3⟩ := D2.only ho3 (by omega)
    have O3 := O2.trans ho3
    go_wp2
    refine bodyPost_ret (v := .agg #[.int .i64 m, .int .i64 x]) (by simp [results, Try.results30, go_sem, b0, b1, b2, b3, d0, d1, hne]) rfl ⟨m, x, ⟨hm.1, hm.2, hv1.out.2.2⟩, rfl, ?_, ?_⟩
    · exact ((O3.setNew (by show _ ≤ w1.heap.size; omega) _).setNew (Nat.le_refl _) _).setNew (Nat.le_refl _) _
    · exact ((hc3.setNew (by show _ < w1.heap.size; omega) _).setNew (by show _ < w.heap.size; omega) _).setNew (by show _ < w.heap.size; omega) _
  · by_cases h1 : k = 1
    · subst h1
      go_wp2_with fail
      refine (int_lit w2 B [-17, 31, 46, 0] 3 (fun y => -17 ≤ y ∧ y ≤ 46) hc2 (by decide) (by decide) (by decide)).mono ?_
      rintro e w3 ⟨y, hy, rfl, ho3, hc3⟩
      obtain ⟨b0, b1, b2, b3⟩ := R2.only ho3 (by omega)
      obtain ⟨d0, d1, d2, d3⟩ := D2.only ho3 (by omega)
      have O3 := O2.trans ho3
      go_wp2
      refine bodyPost_ret (v := .agg #[.int .i64 n, .int .i64 y]) (by simp [results, Try.results30, go_sem, b0, b1, b2, b3, d0, d1, hne]) rfl ⟨n, y, ⟨hv1.out.1, hv1.out.2.1, hy⟩, rfl, ?_, ?_⟩
      · exact ((O3.setNew (by show _ ≤ w1.heap.size; omega) _).setNew (Nat.le_refl _) _).setNew (Nat.le_refl _) _
      · exact ((hc3.setNew (by show _ < w1.heap.size; omega) _).setNew (by show _ < w.heap.size; omega) _).setNew (by show _ < w.heap.size; omega) _
    · obtain ⟨b0, b1, b2, b3⟩ := R2
      obtain ⟨d0, d1, d2, d3⟩ := D2
      go_wp2
      refine bodyPost_ret (v := .agg #[.int .i64 n, .int .i64 x]) (by simp [results, Try.results30, go_sem, b0, b1, b2, b3, d0, d1, hne]) rfl ⟨n, x, hv1.out, rfl, ?_, ?_⟩
      · exact (O2.setNew (Nat.le_refl _) _).setNew (Nat.le_refl _) _
      · exact (hc2.setNew (by show _ < w.heap.size; omega) _).setNew (by show _ < w.heap.size; omega) _
def AnyFltDraw (w : World) (e : Ending) (w' : World) : Prop := ∃ n x : Int, AnyFlt n x ∧ e = .returned (.agg #[.int .i64 n, .int .i64 x]) ∧ Below w.heap.size w w'
end Go.Proofs.Ytblaaiggmhadfaa
