/- What the model's draws for floating-point numbers return. -/
import Derived.Test.YtjfjbocaplpdfaaBox
import Derived.Test.YtjfjbocaplpdfaaFltDecS
import Derived.IntWalk
import Derived.Test.YtjfjbocaplpdfaaDrawDec
namespace Go.Proofs.Ytjfjbocaplpdfaa
open Go.RowKit
def AnyFlt (m e : Int) : Prop := -65537 ≤ m ∧ m ≤ 65537 ∧ -17 ≤ e ∧ e ≤ 46
def FltPost (B : Nat) (w : World) (r : Ending) (w' : World) : Prop := ∃ m e : Int, AnyFlt m e ∧ r = .returned (.agg #[.int .i64 m, .int .i64 e]) ∧ Only B w w' ∧ Cur w' B
set_option maxRecDepth 100000 in
set_option maxHeartbeats 2000000 in
theorem l5draw_any (w : World) (B : Nat) (hC : Cur w B) : Calls Try.prog 50 #[.pointer (some ⟨B, 0, none⟩)] w (FltPost B w) := by
  have hBw := hC.lt
  go_enter Try.func50, Try.ntmps50
  go_wp2_with fail
  refine (below_any _ B 32767 (hC.alloc _) (by decide)).mono ?_
  rintro r w1 ⟨k, ⟨hk0, hk1⟩, rfl, ho1, hc1⟩
  have O1 := ((Only.refl B w).alloc (.cells #[.int .i64 0, .int .i64 0] 28)).trans ho1
  have R1 := (box_new w 0 0 28).only ho1 (by omega)
  clear ho1
  go_wp2_with fail
  refine (int_lit w1 B [0, 1, 3, 5, 255, 32767, 65535, 1 + 2 * k] 3 (fun y => 0 ≤ y ∧ y ≤ 65535) hc1 (by simp) (by simp) (by intro y hy; simp at hy; omega)).mono ?_
  rintro r w2 ⟨m, ⟨hm0, hm1⟩, rfl, ho2, hc2⟩
  have O2 := O1.trans ho2
  have R2 := R1.only ho2 (by omega)
  clear ho2 O1 R1 hk0 hk1 hc1
  go_wp2_with fail
  refine (below_any w2 B 47 hc2 (by decide)).mono ?_
  rintro r w3 ⟨j, ⟨hj0, hj1⟩, rfl, ho3, hc3⟩
  have O3 := O2.trans ho3
  have R3 := R2.only ho3 (by omega)
  clear ho3 O2 R2 hc2
  go_wp2_with fail
  refine (int_lit w3 B [0, 0, 1, -1, -16, 30, j - 16] 3 (fun y => -16 ≤ y ∧ y ≤ 30) hc3 (by simp) (by simp) (by intro y hy; simp at hy; omega)).mono ?_
  rintro r w4 ⟨e, ⟨he0, he1⟩, rfl, ho4, hc4⟩
  have O4 := O3.trans ho4
  have R4 := R3.only ho4 (by omega)
  clear ho4 O3 R3 hj0 hj1 hc3
  by_cases hz : m = 0
  · subst hz
    go_wp2_with fail
    refine (once_any w4 B 3 hc4 (by decide)).mono ?_
    rintro r w9 ⟨b9, rfl, ho9, hc9⟩
    have O9 := O4.trans ho9
    have R9 := R4.only ho9 (by omega)
    cases b9
    · obtain ⟨b0, b1, b2, b3⟩ := R9
      go_wp2
      refine bodyPost_ret (v := .agg #[.int .i64 0, .int .i64 0]) (by simp [results, Try.results50, go_sem, b0, b1, b2, b3]) rfl ⟨0, 0, ⟨by omega, by omega, by omega, by omega⟩, rfl, ?_, ?_⟩
      · exact (O9.setNew (Nat.le_refl _) _).setNew (Nat.le_refl _) _
      · exact (hc9.setNew (by show _ < w.heap.size; omega) _).setNew (by show _ < w.heap.size; omega) _
    · obtain ⟨b0, b1, b2, b3⟩ := R9
      go_wp2
      refine bodyPost_ret (v := .agg #[.int .i64 (-0), .int .i64 0]) (by simp [results, Try.results50, go_sem, b0, b1, b2, b3]) rfl ⟨(-0), 0, ⟨by omega, by omega, by omega, by omega⟩, rfl, ?_, ?_⟩
      · exact (O9.setNew (Nat.le_refl _) _).setNew (Nat.le_refl _) _
      · exact (hc9.setNew (by show _ < w.heap.size; omega) _).setNew (by show _ < w.heap.size; omega) _
  · have hzb : (m == 0) = false := by simpa using hz
    by_cases h1 : m = 1
    · subst h1
      go_wp2_with fail
      refine (once_any w4 B 2 hc4 (by decide)).mono ?_
      rintro r w5 ⟨b5, rfl, ho5, hc5⟩
      have O5 := O4.trans ho5
      have R5 := R4.only ho5 (by omega)
      cases b5
      · go_wp2_with fail
        refine (once_any w5 B 3 hc5 (by decide)).mono ?_
        rintro r w9 ⟨b9, rfl, ho9, hc9⟩
        have O9 := O5.trans ho9
        have R9 := R5.only ho9 (by omega)
        cases b9
        · obtain ⟨b0, b1, b2, b3⟩ := R9
          go_wp2
          refine bodyPost_ret (v := .agg #[.int .i64 1, .int .i64 e]) (by simp [results, Try.results50, go_sem, b0, b1, b2, b3]) rfl ⟨1, e, ⟨by omega, by omega, by omega, by omega⟩, rfl, ?_, ?_⟩
          · exact (O9.setNew (Nat.le_refl _) _).setNew (Nat.le_refl _) _
          · exact (hc9.setNew (by show _ < w.heap.size; omega) _).setNew (by show _ < w.heap.size; omega) _
        · obtain ⟨b0, b1, b2, b3⟩ := R9
          go_wp2
          refine bodyPost_ret (v := .agg #[.int .i64 (-1), .int .i64 e]) (by simp [results, Try.results50, go_sem, b0, b1, b2, b3]) rfl ⟨(-1), e, ⟨by omega, by omega, by omega, by omega⟩, rfl, ?_, ?_⟩
          · exact (O9.setNew (Nat.le_refl _) _).setNew (Nat.le_refl _) _
          · exact (hc9.setNew (by show _ < w.heap.size; omega) _).setNew (by show _ < w.heap.size; omega) _
      · go_wp2_with fail
        refine (int_lit w5 B [31, 45] 3 (fun y => 31 ≤ y ∧ y ≤ 45) hc5 (by simp) (by simp) (by intro y hy; simp at hy; omega)).mono ?_
        rintro r w6 ⟨e6, ⟨he60, he61⟩, rfl, ho6, hc6⟩
        have O6 := O5.trans ho6
        have R6 := R5.only ho6 (by omega)
        go_wp2_with fail
        refine (once_any w6 B 3 hc6 (by decide)).mono ?_
        rintro r w9 ⟨b9, rfl, ho9, hc9⟩
        have O9 := O6.trans ho9
        have R9 := R6.only ho9 (by omega)
        cases b9
        · obtain ⟨b0, b1, b2, b3⟩ := R9
          go_wp2
          refine bodyPost_ret (v := .agg #[.int .i64 1, .int .i64 e6]) (by simp [results, Try.results50, go_sem, b0, b1, b2, b3]) rfl ⟨1, e6, ⟨by omega, by omega, by omega, by omega⟩, rfl, ?_, ?_⟩
          · exact (O9.setNew (Nat.le_refl _) _).setNew (Nat.le_refl _) _
          · exact (hc9.setNew (by show _ < w.heap.size; omega) _).setNew (by show _ < w.heap.size; omega) _
        · obtain ⟨b0, b1, b2, b3⟩ := R9
          go_wp2
          refine bodyPost_ret (v := .agg #[.int .i64 (-1), .int .i64 e6]) (by simp [results, Try.results50, go_sem, b0, b1, b2, b3]) rfl ⟨(-1), e6, ⟨by omega, by omega, by omega, by omega⟩, rfl, ?_, ?_⟩
          · exact (O9.setNew (Nat.le_refl _) _).setNew (Nat.le_refl _) _
          · exact (hc9.setNew (by show _ < w.heap.size; omega) _).setNew (by show _ < w.heap.size; omega) _
    · have h1b : (m == 1) = false := by simpa using h1
      go_wp2_with fail
      refine (once_any w4 B 3 hc4 (by decide)).mono ?_
      rintro r w9 ⟨b9, rfl, ho9, hc9⟩
      have O9 := O4.trans ho9
      have R9 := R4.only ho9 (by omega)
      cases b9
      · obtain ⟨b0, b1, b2, b3⟩ := R9
        go_wp2
        refine bodyPost_ret (v := .agg #[.int .i64 m, .int .i64 e]) (by simp [results, Try.results50, go_sem, b0, b1, b2, b3]) rfl ⟨m, e, ⟨by omega, by omega, by omega, by omega⟩, rfl, ?_, ?_⟩
        · exact (O9.setNew (Nat.le_refl _) _).setNew (Nat.le_refl _) _
        · exact (hc9.setNew (by show _ < w.heap.size; omega) _).setNew (by show _ < w.heap.size; omega) _
      · obtain ⟨b0, b1, b2, b3⟩ := R9
        go_wp2
        refine bodyPost_ret (v := .agg #[.int .i64 (-m), .int .i64 e]) (by simp [results, Try.results50, go_sem, b0, b1, b2, b3]) rfl ⟨(-m), e, ⟨by omega, by omega, by omega, by omega⟩, rfl, ?_, ?_⟩
        · exact (O9.setNew (Nat.le_refl _) _).setNew (Nat.le_refl _) _
        · exact (hc9.setNew (by show _ < w.heap.size; omega) _).setNew (by show _ < w.heap.size; omega) _
theorem box_set0 {W : World} {r : Nat} {n x : Int} (h : Box W r n x) (v : Int) : Box (W.setCell ⟨r, 0, none⟩ (.int .i64 v)) r v x := by
  obtain ⟨h0, h1, h2, h3⟩ := h
  exact ⟨World.cell?_setCell_same _ _ _ h0, (World.cell?_setCell_other W ⟨r, 0, none⟩ ⟨r, 1, none⟩ _ (by simp)).trans h1, by rw [World.frozen?_setCell]; exact h2, by rw [World.frozen?_setCell]; exact h3⟩
theorem box_far {W : World} {q g : Nat} {n x : Int} (h : Box W q n x) (hne : g ≠ q) (o : Nat) (u : Value) : Box (W.setCell ⟨g, o, none⟩ u) q n x := by
  obtain ⟨h0, h1, h2, h3⟩ := h
  exact ⟨(far_cell W hne u).trans h0, (far_cell W hne u).trans h1, by rw [World.frozen?_setCell]; exact h2, by rw [World.frozen?_setCell]; exact h3⟩
def IntDec (n _x : Int) : Prop := isInt n
set_option maxRecDepth 100000 in
set_option maxHeartbeats 4000000 in
theorem l5dec_any (w : World) (B : Nat) (hC : Cur w B) : Calls Try.prog 33 #[.pointer (some ⟨B, 0, none⟩)] w (DecPost B IntDec w) := by
  have hBw := hC.lt
  go_enter Try.func33, Try.ntmps33
  go_wp2_with fail
  refine (once_any _ B 2 (hC.alloc _) (by decide)).mono ?_
  rintro r w1 ⟨b, rfl, ho1, hc1⟩
  have O1 := ((Only.refl B w).alloc (.cells #[.int .i64 0, .int .i64 0] 25)).trans ho1
  have R1 := (box_new w 0 0 25).only ho1 (by omega)
  have hz1 : w.heap.size < w1.heap.size := by have := ho1.size; simp at this; omega
  clear ho1
  cases b
  · go_wp2_with fail
    refine (l4draw_any w1 B hc1).mono ?_
    rintro r w2 ⟨n, x, hv, rfl, ho2, hc2⟩
    have hv2 := Lib.hid (any_of hv).1
    clear hv
    obtain ⟨b0, b1, b2, b3⟩ := R1.only ho2 (by omega)
    have O2 := O1.trans ho2
    go_wp2
    refine bodyPost_ret (v := .agg #[.int .i64 n, .int .i64 x]) (by simp [results, Try.results33, go_sem, b0, b1, b2, b3]) rfl ⟨n, x, hv2.out, rfl, ?_, ?_⟩
    · exact (O2.setNew (Nat.le_refl _) _).setNew (Nat.le_refl _) _
    · exact (hc2.setNew (by show _ < w.heap.size; omega) _).setNew (by show _ < w.heap.size; omega) _
  · go_wp2_with fail
    refine (l5draw_any w1 B hc1).mono ?_
    rintro r w2 ⟨m, e, ⟨hm0, hm1, he0, he1⟩, rfl, ho2, hc2⟩
    have O2 := O1.trans ho2
    have R2 := R1.only ho2 (by omega)
    have hz2 : w.heap.size < w2.heap.size := by have := ho2.size; omega
    clear ho2 O1 R1 hc1
    go_wp2_with fail
    refine (fltdec_spec m e w2 (by omega) (by omega) (by omega) (by omega)).mono ?_
    rintro r w3 ⟨rfl, hb3⟩
    obtain ⟨_, _, hN, _, _⟩ := decOk_range (decF_ok m e)
    have hN0 : -100000000000000000 < decFN m e := by omega
    have hN1 : decFN m e < 100000000000000000 := by omega
    clear hN
    generalize decFN m e = N at *
    generalize decFX m e = X at *
    have O3 := (O2.then_below hb3 (by omega)).alloc (.cells #[.int .i64 N, .int .i64 X] 25)
    have hz3 : w.heap.size < w3.heap.size := by have := hb3.size; omega
    have hc3 := (hc2.below hb3 hc2.lt).alloc (.cells #[.int .i64 N, .int .i64 X] 25)
    have R3 := (R2.below hb3 hz2).below (N := w3.heap.size) ((Below.refl _ _).alloc (Nat.le_refl _) (.cells #[.int .i64 N, .int .i64 X] 25)) hz3
    have D3 := box_new w3 N X 25
    have hB3 : B < w3.heap.size := by omega
    clear O2 R2 hc2 hb3
    go_wp2_with fail
    refine (once_any _ B 3 hc3 (by decide)).mono ?_
    rintro r w4 ⟨b4, rfl, ho4, hc4⟩
    have O4 := O3.trans ho4
    have R4 := R3.only ho4 (by omega)
    have D4 := D3.only ho4 (by omega)
    have hz4 : w3.heap.size < w4.heap.size := by have := ho4.size; simp at this; omega
    clear ho4 O3 R3 D3 hc3
    cases b4
    · obtain ⟨d0, d1, d2, d3⟩ := D4
      have cok := decok_spec N X w4 (by omega) (by omega)
      cases hv : decOk N X
      · rw [hv] at cok
        clear hv
        go_wp2_with fail
        refine cok.mono ?_
        rintro r w5 ⟨rfl, hb5⟩
        have hc5 := hc4.below hb5 hc4.lt
        have O5 := O4.then_below hb5 (by omega)
        have R5 := R4.below hb5 (by omega)
        go_wp2_with fail
        refine (l4draw_any w5 B hc5).mono ?_
        rintro r w6 ⟨n, x, hv, rfl, ho6, hc6⟩
        have hv2 := Lib.hid (any_of hv).1
        clear hv
        obtain ⟨b0, b1, b2, b3⟩ := R5.only ho6 (by omega)
        have O6 := O5.trans ho6
        go_wp2
        refine bodyPost_ret (v := .agg #[.int .i64 n, .int .i64 x]) (by simp [results, Try.results33, go_sem, b0, b1, b2, b3]) rfl ⟨n, x, hv2.out, rfl, ?_, ?_⟩
        · exact (O6.setNew (Nat.le_refl _) _).setNew (Nat.le_refl _) _
        · exact (hc6.setNew (by show _ < w.heap.size; omega) _).setNew (by show _ < w.heap.size; omega) _
      · rw [hv] at cok
        clear hv
        go_wp2_with fail
        refine cok.mono ?_
        rintro r w5 ⟨rfl, hb5⟩
        have hc5 := hc4.below hb5 hc4.lt
        have O5 := O4.then_below hb5 (by omega)
        obtain ⟨b0, b1, b2, b3⟩ := R4.below hb5 (by omega)
        obtain ⟨d0, d1, d2, d3⟩ := (Box.mk d0 d1 d2 d3).below hb5 hz4
        have hne : w3.heap.size ≠ w.heap.size := by omega
        go_wp2
        refine bodyPost_ret (v := .agg #[.int .i64 N, .int .i64 X]) (by simp [results, Try.results33, go_sem, b0, b1, b2, b3, d0, d1, hne]) rfl ⟨N, X, ⟨by omega, by omega⟩, rfl, ?_, ?_⟩
        · exact (O5.setNew (Nat.le_refl _) _).setNew (Nat.le_refl _) _
        · exact (hc5.setNew (by show _ < w.heap.size; omega) _).setNew (by show _ < w.heap.size; omega) _
    · have hsum : IntKind.i64.wrap (N + 1) = N + 1 := IntWalk.i64_in _ (by omega)
      have D5 := box_set0 D4 (N + 1)
      have O5 := O4.setNew (p := ⟨w3.heap.size, 0, none⟩) (by show _ ≤ w3.heap.size; omega) (.int .i64 (N + 1))
      have C5 := hc4.setNew (p := ⟨w3.heap.size, 0, none⟩) (by show _ < w3.heap.size; omega) (.int .i64 (N + 1))
      have R5 := box_far R4 (show w3.heap.size ≠ w.heap.size by omega) 0 (.int .i64 (N + 1))
      have hz5 : w3.heap.size < (w4.setCell ⟨w3.heap.size, 0, none⟩ (.int .i64 (N + 1))).heap.size := by simpa [World.setCell] using hz4
      obtain ⟨d0, d1, d2, d3⟩ := D4
      obtain ⟨e0, e1, e2, e3⟩ := D5
      have hM0 : -100000000000000000 < N + 1 := by omega
      have hM1 : N + 1 ≤ 100000000000000000 := by omega
      have cok := decok_spec (N + 1) X (w4.setCell ⟨w3.heap.size, 0, none⟩ (.int .i64 (N + 1))) (by omega) (by omega)
      cases hv : decOk (N + 1) X
      · rw [hv] at cok
        clear hv
        go_wp2_with fail
        refine cok.mono ?_
        rintro r w5 ⟨rfl, hb5⟩
        have hc5 := C5.below hb5 C5.lt
        have O5 := O5.then_below hb5 (by omega)
        have R5 := R5.below hb5 (by omega)
        go_wp2_with fail
        refine (l4draw_any w5 B hc5).mono ?_
        rintro r w6 ⟨n, x, hv, rfl, ho6, hc6⟩
        have hv2 := Lib.hid (any_of hv).1
        clear hv
        obtain ⟨b0, b1, b2, b3⟩ := R5.only ho6 (by omega)
        have O6 := O5.trans ho6
        go_wp2
        refine bodyPost_ret (v := .agg #[.int .i64 n, .int .i64 x]) (by simp [results, Try.results33, go_sem, b0, b1, b2, b3]) rfl ⟨n, x, hv2.out, rfl, ?_, ?_⟩
        · exact (O6.setNew (Nat.le_refl _) _).setNew (Nat.le_refl _) _
        · exact (hc6.setNew (by show _ < w.heap.size; omega) _).setNew (by show _ < w.heap.size; omega) _
      · rw [hv] at cok
        clear hv
        go_wp2_with fail
        refine cok.mono ?_
        rintro r w5 ⟨rfl, hb5⟩
        have hc5 := C5.below hb5 C5.lt
        have O5 := O5.then_below hb5 (by omega)
        obtain ⟨b0, b1, b2, b3⟩ := R5.below hb5 (by omega)
        obtain ⟨d0, d1, d2, d3⟩ := (Box.mk e0 e1 e2 e3).below hb5 hz5
        have hne : w3.heap.size ≠ w.heap.size := by omega
        go_wp2
        refine bodyPost_ret (v := .agg #[.int .i64 (N + 1), .int .i64 X]) (by simp [results, Try.results33, go_sem, b0, b1, b2, b3, d0, d1, hne]) rfl ⟨N + 1, X, ⟨by omega, by omega⟩, rfl, ?_, ?_⟩
        · exact (O5.setNew (Nat.le_refl _) _).setNew (Nat.le_refl _) _
        · exact (hc5.setNew (by show _ < w.heap.size; omega) _).setNew (by show _ < w.heap.size; omega) _
def IntDraw (w : World) (r : Ending) (w' : World) : Prop := ∃ n x : Int, isInt n ∧ r = .returned (.agg #[.int .i64 n, .int .i64 x]) ∧ Below w.heap.size w w'
set_option maxRecDepth 100000 in
set_option maxHeartbeats 2000000 in
theorem drawexact_any (a : Option Addr) (len cap : Nat) (w : World) (hC : CodeAt w a len) (hl : len ≤ 1048576) : Calls Try.prog 14 #[.slice a len cap] w (IntDraw w) := by
  have hC2 := hC.below (fbox w (.cells #[.int .i64 0, .int .i64 0] 25))
  go_enter Try.func14, Try.ntmps14
  go_wp2_with fail
  refine (new_any a len cap _ hC2 hl).mono ?_
  rintro e w1 ⟨rfl, hb, hc, hz⟩
  have R1 := (box_new w 0 0 25).below hb (by simp)
  have hs1 : (w.alloc (.cells #[.int .i64 0, .int .i64 0] 25)).heap.size = w.heap.size + 1 := by simp
  have hsz := hb.size
  rw [hs1] at hc hsz
  go_wp2_with fail
  refine (l5dec_any w1 (w.heap.size + 1) hc).mono ?_
  rintro e w2 ⟨n, x, hv, rfl, ho, hc2⟩
  obtain ⟨b0, b1, b2, b3⟩ := R1.only ho (by omega)
  have hB : Below w.heap.size w w2 := ((fbox _ _).trans (hb.mono (by simp))).trans (ho.below w.heap.size (by omega) (by omega))
  have hvh := Lib.hid hv
  clear hv
  go_wp2
  refine bodyPost_ret (v := .agg #[.int .i64 n, .int .i64 x]) (by simp [results, Try.results14, go_sem, b0, b1, b2, b3]) rfl ⟨n, x, hvh.out, rfl, ?_⟩
  exact (hB.setCell (Nat.le_refl _) _).setCell (Nat.le_refl _) _
set_option maxRecDepth 100000 in
set_option maxHeartbeats 2000000 in
theorem drawnear_any (a : Option Addr) (len cap : Nat) (w : World) (hC : CodeAt w a len) (hl : len ≤ 1048576) : Calls Try.prog 11 #[.slice a len cap] w (IntDraw w) := by
  have hC2 := hC.below (fbox w (.cells #[.int .i64 0, .int .i64 0] 25))
  go_enter Try.func11, Try.ntmps11
  go_wp2_with fail
  refine (new_any a len cap _ hC2 hl).mono ?_
  rintro e w1 ⟨rfl, hb, hc, hz⟩
  have R1 := (box_new w 0 0 25).below hb (by simp)
  have hs1 : (w.alloc (.cells #[.int .i64 0, .int .i64 0] 25)).heap.size = w.heap.size + 1 := by simp
  have hsz := hb.size
  rw [hs1] at hc hsz
  go_wp2_with fail
  refine (once_any w1 (w.heap.size + 1) 8 hc (by decide)).mono ?_
  rintro e w2 ⟨b, rfl, ho2, hc2⟩
  have R2 := R1.only ho2 (by omega)
  have hsz2 := ho2.size
  cases b
  · go_wp2_with fail
    refine (l5dec_any w2 (w.heap.size + 1) hc2).mono ?_
    rintro e w3 ⟨n, x, hv, rfl, ho, hc3⟩
    obtain ⟨b0, b1, b2, b3⟩ := R2.only ho (by omega)
    have hB : Below w.heap.size w w3 := ((fbox _ _).trans (hb.mono (by simp))).trans ((ho2.trans ho).below w.heap.size (by omega) (by omega))
    have hvh := Lib.hid hv
    clear hv
    go_wp2
    refine bodyPost_ret (v := .agg #[.int .i64 n, .int .i64 x]) (by simp [results, Try.results11, go_sem, b0, b1, b2, b3]) rfl ⟨n, x, hvh.out, rfl, ?_⟩
    exact (hB.setCell (Nat.le_refl _) _).setCell (Nat.le_refl _) _
  · go_wp2_with fail
    refine (l4any_any w2 (w.heap.size + 1) hc2).mono ?_
    rintro e w3 ⟨n, x, hv, rfl, ho, hc3⟩
    obtain ⟨b0, b1, b2, b3⟩ := R2.only ho (by omega)
    have hB : Below w.heap.size w w3 := ((fbox _ _).trans (hb.mono (by simp))).trans ((ho2.trans ho).below w.heap.size (by omega) (by omega))
    have hvh := Lib.hid hv.1
    clear hv
    go_wp2
    refine bodyPost_ret (v := .agg #[.int .i64 n, .int .i64 x]) (by simp [results, Try.results11, go_sem, b0, b1, b2, b3]) rfl ⟨n, x, hvh.out, rfl, ?_⟩
    exact (hB.setCell (Nat.le_refl _) _).setCell (Nat.le_refl _) _
end Go.Proofs.Ytjfjbocaplpdfaa
