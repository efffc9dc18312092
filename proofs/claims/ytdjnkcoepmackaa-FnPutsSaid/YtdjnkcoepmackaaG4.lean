import Derived.Test.YtdjnkcoepmackaaG0
import Derived.Test.YtdjnkcoepmackaaG3
import Derived.IntWalk
import Derived.Test.YtdjnkcoepmackaaRows
import Derived.WalkKit
import Derived.ProofKit
import Derived.Shelf.Small.Bits
import Derived.Shelf.Strconv.Itoa0
import Derived.Shelf.Strings.Prefix
import Derived.Ground.Names2Prog
import Derived.Shelf.Slices.SearchI
import Derived.Test.YtdjnkcoepmackaaProg
import Derived.Lib.RuneBytes
import Derived.Lib.Small
import Derived.Outline
import Derived.Lib.Hide
/- What the model's draws for floating-point numbers return. -/
namespace Go.Proofs.Ytdjnkcoepmackaa
open Go.RowKit
def AnyFlt (m e : Int) : Prop := -65537 ≤ m ∧ m ≤ 65537 ∧ -17 ≤ e ∧ e ≤ 46
def FltPost (B : Nat) (w : World) (r : Ending) (w' : World) : Prop := ∃ m e : Int, AnyFlt m e ∧ r = .returned (.agg #[.int .i64 m, .int .i64 e]) ∧ Only B w w' ∧ Cur w' B
set_option maxRecDepth 100000 in
set_option maxHeartbeats 2000000 in
theorem l5draw_any (w : World) (B : Nat) (hC : Cur w B) : Calls Try.prog 136 #[.pointer (some ⟨B, 0, none⟩)] w (FltPost B w) := by
  have hBw := hC.lt
  go_enter Try.func136, Try.ntmps136
  go_wp2_with fail
  refine (below_any _ B 32767 (hC.alloc _) (by decide)).mono ?_
  rintro r w1 ⟨k, ⟨hk0, hk1⟩, rfl, ho1, hc1⟩
  have O1 := ((Only.refl B w).alloc (.cells #[.int .i64 0, .int .i64 0] 115)).trans ho1
  have R1 := (box_new w 0 0 115).only ho1 (by omega)
  clear ho1
  go_wp2_with fail
  refine (int_lit w1 B [0, 1, 3, 5, 255, 32767, 65535, 1 + 2 * k] 3 (fun y => 0 ≤ y ∧ y ≤ 65535) hc1 (by simp) (by simp) (by intro y hy; simp at hy; omega)).mono ?_
  rintro r w2 ⟨m, ⟨hm0, hm1⟩, rfl, ho2, hc2⟩
  have O2 := O1.trans ho2
  have R2 := R1.only ho2 (by omega)
  clear ho2 O1 R1 hk0 hk1 hc1
  go_wp2_with fail
  refine (below_any w2 B 47 hc2 (by decide)).mono ?_
  rintro r w3 ⟨j, ⟨hj0, hj1⟩, rfl, ho3, hc3⟩
  have O3 := O2.trans ho3
  have R3 := R2.only ho3 (by omega)
  clear ho3 O2 R2 hc2
  go_wp2_with fail
  refine (int_lit w3 B [0, 0, 1, -1, -16, 30, j - 16] 3 (fun y => -16 ≤ y ∧ y ≤ 30) hc3 (by simp) (by simp) (by intro y hy; simp at hy; omega)).mono ?_
  rintro r w4 ⟨e, ⟨he0, he1⟩, rfl, ho4, hc4⟩
  have O4 := O3.trans ho4
  have R4 := R3.only ho4 (by omega)
  clear ho4 O3 R3 hj0 hj1 hc3
  by_cases hz : m = 0
  · subst hz
    go_wp2_with fail
    refine (once_any w4 B 3 hc4 (by decide)).mono ?_
    rintro r w9 ⟨b9, rfl, ho9, hc9⟩
    have O9 := O4.trans ho9
    have R9 := R4.only ho9 (by omega)
    cases b9
    · obtain ⟨b0, b1, b2, b3⟩ := R9
      go_wp2
      refine bodyPost_ret (v := .agg #[.int .i64 0, .int .i64 0]) (by simp [results, Try.results136, go_sem, b0, b1, b2, b3]) rfl ⟨0, 0, ⟨by omega, by omega, by omega, by omega⟩, rfl, ?_, ?_⟩
      · exact (O9.setNew (Nat.le_refl _) _).setNew (Nat.le_refl _) _
      · exact (hc9.setNew (by show _ < w.heap.size; omega) _).setNew (by show _ < w.heap.size; omega) _
    · obtain ⟨b0, b1, b2, b3⟩ := R9
      go_wp2
      refine bodyPost_ret (v := .agg #[.int .i64 (-0), .int .i64 0]) (by simp [results, Try.results136, go_sem, b0, b1, b2, b3]) rfl ⟨(-0), 0, ⟨by omega, by omega, by omega, by omega⟩, rfl, ?_, ?_⟩
      · exact (O9.setNew (Nat.le_refl _) _).setNew (Nat.le_refl _) _
      · exact (hc9.setNew (by show _ < w.heap.size; omega) _).setNew (by show _ < w.heap.size; omega) _
  · have hzb : (m == 0) = false := by simpa using hz
    by_cases h1 : m = 1
    · subst h1
      go_wp2_with fail
      refine (once_any w4 B 2 hc4 (by decide)).mono ?_
      rintro r w5 ⟨b5, rfl, ho5, hc5⟩
      have O5 := O4.trans ho5
      have R5 := R4.only ho5 (by omega)
      cases b5
      · go_wp2_with fail
        refine (once_any w5 B 3 hc5 (by decide)).mono ?_
        rintro r w9 ⟨b9, rfl, ho9, hc9⟩
        have O9 := O5.trans ho9
        have R9 := R5.only ho9 (by omega)
        cases b9
        · obtain ⟨b0, b1, b2, b3⟩ := R9
          go_wp2
          refine bodyPost_ret (v := .agg #[.int .i64 1, .int .i64 e]) (by simp [results, Try.results136, go_sem, b0, b1, b2, b3]) rfl ⟨1, e, ⟨by omega, by omega, by omega, by omega⟩, rfl, ?_, ?_⟩
          · exact (O9.setNew (Nat.le_refl _) _).setNew (Nat.le_refl _) _
          · exact (hc9.setNew (by show _ < w.heap.size; omega) _).setNew (by show _ < w.heap.size; omega) _
        · obtain ⟨b0, b1, b2, b3⟩ := R9
          go_wp2
          refine bodyPost_ret (v := .agg #[.int .i64 (-1), .int .i64 e]) (by simp [results, Try.results136, go_sem, b0, b1, b2, b3]) rfl ⟨(-1), e, ⟨by omega, by omega, by omega, by omega⟩, rfl, ?_, ?_⟩
          · exact (O9.setNew (Nat.le_refl _) _).setNew (Nat.le_refl _) _
          · exact (hc9.setNew (by show _ < w.heap.size; omega) _).setNew (by show _ < w.heap.size; omega) _
      · go_wp2_with fail
        refine (int_lit w5 B [31, 45] 3 (fun y => 31 ≤ y ∧ y ≤ 45) hc5 (by simp) (by simp) (by intro y hy; simp at hy; omega)).mono ?_
        rintro r w6 ⟨e6, ⟨he60, he61⟩, rfl, ho6, hc6⟩
        have O6 := O5.trans ho6
        have R6 := R5.only ho6 (by omega)
        go_wp2_with fail
        refine (once_any w6 B 3 hc6 (by decide)).mono ?_
        rintro r w9 ⟨b9, rfl, ho9, hc9⟩
        have O9 := O6.trans ho9
        have R9 := R6.only ho9 (by omega)
        cases b9
        · obtain ⟨b0, b1, b2, b3⟩ := R9
          go_wp2
          refine bodyPost_ret (v := .agg #[.int .i64 1, .int .i64 e6]) (by simp [results, Try.results136, go_sem, b0, b1, b2, b3]) rfl ⟨1, e6, ⟨by omega, by omega, by omega, by omega⟩, rfl, ?_, ?_⟩
          · exact (O9.setNew (Nat.le_refl _) _).setNew (Nat.le_refl _) _
          · exact (hc9.setNew (by show _ < w.heap.size; omega) _).setNew (by show _ < w.heap.size; omega) _
        · obtain ⟨b0, b1, b2, b3⟩ := R9
          go_wp2
          refine bodyPost_ret (v := .agg #[.int .i64 (-1), .int .i64 e6]) (by simp [results, Try.results136, go_sem, b0, b1, b2, b3]) rfl ⟨(-1), e6, ⟨by omega, by omega, by omega, by omega⟩, rfl, ?_, ?_⟩
          · exact (O9.setNew (Nat.le_refl _) _).setNew (Nat.le_refl _) _
          · exact (hc9.setNew (by show _ < w.heap.size; omega) _).setNew (by show _ < w.heap.size; omega) _
    · have h1b : (m == 1) = false := by simpa using h1
      go_wp2_with fail
      refine (once_any w4 B 3 hc4 (by decide)).mono ?_
      rintro r w9 ⟨b9, rfl, ho9, hc9⟩
      have O9 := O4.trans ho9
      have R9 := R4.only ho9 (by omega)
      cases b9
      · obtain ⟨b0, b1, b2, b3⟩ := R9
        go_wp2
        refine bodyPost_ret (v := .agg #[.int .i64 m, .int .i64 e]) (by simp [results, Try.results136, go_sem, b0, b1, b2, b3]) rfl ⟨m, e, ⟨by omega, by omega, by omega, by omega⟩, rfl, ?_, ?_⟩
        · exact (O9.setNew (Nat.le_refl _) _).setNew (Nat.le_refl _) _
        · exact (hc9.setNew (by show _ < w.heap.size; omega) _).setNew (by show _ < w.heap.size; omega) _
      · obtain ⟨b0, b1, b2, b3⟩ := R9
        go_wp2
        refine bodyPost_ret (v := .agg #[.int .i64 (-m), .int .i64 e]) (by simp [results, Try.results136, go_sem, b0, b1, b2, b3]) rfl ⟨(-m), e, ⟨by omega, by omega, by omega, by omega⟩, rfl, ?_, ?_⟩
        · exact (O9.setNew (Nat.le_refl _) _).setNew (Nat.le_refl _) _
        · exact (hc9.setNew (by show _ < w.heap.size; omega) _).setNew (by show _ < w.heap.size; omega) _
theorem box_set0 {W : World} {r : Nat} {n x : Int} (h : Box W r n x) (v : Int) : Box (W.setCell ⟨r, 0, none⟩ (.int .i64 v)) r v x := by
  obtain ⟨h0, h1, h2, h3⟩ := h
  exact ⟨World.cell?_setCell_same _ _ _ h0, (World.cell?_setCell_other W ⟨r, 0, none⟩ ⟨r, 1, none⟩ _ (by simp)).trans h1, by rw [World.frozen?_setCell]; exact h2, by rw [World.frozen?_setCell]; exact h3⟩
theorem box_far {W : World} {q g : Nat} {n x : Int} (h : Box W q n x) (hne : g ≠ q) (o : Nat) (u : Value) : Box (W.setCell ⟨g, o, none⟩ u) q n x := by
  obtain ⟨h0, h1, h2, h3⟩ := h
  exact ⟨(far_cell W hne u).trans h0, (far_cell W hne u).trans h1, by rw [World.frozen?_setCell]; exact h2, by rw [World.frozen?_setCell]; exact h3⟩
def IntDec (n x : Int) : Prop := isInt n ∧ decOk n x = true
set_option maxRecDepth 100000 in
set_option maxHeartbeats 4000000 in
theorem l5dec_any (w : World) (B : Nat) (hC : Cur w B) : Calls Try.prog 137 #[.pointer (some ⟨B, 0, none⟩)] w (DecPost B IntDec w) := by
  have hBw := hC.lt
  go_enter Try.func137, Try.ntmps137
  go_wp2_with fail
  refine (once_any _ B 2 (hC.alloc _) (by decide)).mono ?_
  rintro r w1 ⟨b, rfl, ho1, hc1⟩
  have O1 := ((Only.refl B w).alloc (.cells #[.int .i64 0, .int .i64 0] 58)).trans ho1
  have R1 := (box_new w 0 0 58).only ho1 (by omega)
  have hz1 : w.heap.size < w1.heap.size := by have := ho1.size; simp at this; omega
  clear ho1
  cases b
  · go_wp2_with fail
    refine (l4draw_any w1 B hc1).mono ?_
    rintro r w2 ⟨n, x, hv, rfl, ho2, hc2⟩
    have hv2 := Lib.hid (And.intro (any_of hv).1 hv)
    clear hv
    obtain ⟨b0, b1, b2, b3⟩ := R1.only ho2 (by omega)
    have O2 := O1.trans ho2
    go_wp2
    refine bodyPost_ret (v := .agg #[.int .i64 n, .int .i64 x]) (by simp [results, Try.results137, go_sem, b0, b1, b2, b3]) rfl ⟨n, x, hv2.out, rfl, ?_, ?_⟩
    · exact (O2.setNew (Nat.le_refl _) _).setNew (Nat.le_refl _) _
    · exact (hc2.setNew (by show _ < w.heap.size; omega) _).setNew (by show _ < w.heap.size; omega) _
  · go_wp2_with fail
    refine (l5draw_any w1 B hc1).mono ?_
    rintro r w2 ⟨m, e, ⟨hm0, hm1, he0, he1⟩, rfl, ho2, hc2⟩
    have O2 := O1.trans ho2
    have R2 := R1.only ho2 (by omega)
    have hz2 : w.heap.size < w2.heap.size := by have := ho2.size; omega
    clear ho2 O1 R1 hc1
    go_wp2_with fail
    refine (fltdec_spec m e w2 (by omega) (by omega) (by omega) (by omega)).mono ?_
    rintro r w3 ⟨rfl, hb3⟩
    obtain ⟨_, _, hN, _, _⟩ := decOk_range (decF_ok m e)
    have hN0 : -100000000000000000 < decFN m e := by omega
    have hN1 : decFN m e < 100000000000000000 := by omega
    clear hN
    generalize decFN m e = N at *
    generalize decFX m e = X at *
    have O3 := (O2.then_below hb3 (by omega)).alloc (.cells #[.int .i64 N, .int .i64 X] 58)
    have hz3 : w.heap.size < w3.heap.size := by have := hb3.size; omega
    have hc3 := (hc2.below hb3 hc2.lt).alloc (.cells #[.int .i64 N, .int .i64 X] 58)
    have R3 := (R2.below hb3 hz2).below (N := w3.heap.size) ((Below.refl _ _).alloc (Nat.le_refl _) (.cells #[.int .i64 N, .int .i64 X] 58)) hz3
    have D3 := box_new w3 N X 58
    have hB3 : B < w3.heap.size := by omega
    clear O2 R2 hc2 hb3
    go_wp2_with fail
    refine (once_any _ B 3 hc3 (by decide)).mono ?_
    rintro r w4 ⟨b4, rfl, ho4, hc4⟩
    have O4 := O3.trans ho4
    have R4 := R3.only ho4 (by omega)
    have D4 := D3.only ho4 (by omega)
    have hz4 : w3.heap.size < w4.heap.size := by have := ho4.size; simp at this; omega
    clear ho4 O3 R3 D3 hc3
    cases b4
    · obtain ⟨d0, d1, d2, d3⟩ := D4
      have cok := decok_spec N X w4 (by omega) (by omega)
      cases hv : decOk N X
      · rw [hv] at cok
        have HV := Lib.hid hv
        clear hv
        go_wp2_with fail
        refine cok.mono ?_
        rintro r w5 ⟨rfl, hb5⟩
        have hc5 := hc4.below hb5 hc4.lt
        have O5 := O4.then_below hb5 (by omega)
        have R5 := R4.below hb5 (by omega)
        go_wp2_with fail
        refine (l4draw_any w5 B hc5).mono ?_
        rintro r w6 ⟨n, x, hv, rfl, ho6, hc6⟩
        have hv2 := Lib.hid (And.intro (any_of hv).1 hv)
        clear hv
        obtain ⟨b0, b1, b2, b3⟩ := R5.only ho6 (by omega)
        have O6 := O5.trans ho6
        go_wp2
        refine bodyPost_ret (v := .agg #[.int .i64 n, .int .i64 x]) (by simp [results, Try.results137, go_sem, b0, b1, b2, b3]) rfl ⟨n, x, hv2.out, rfl, ?_, ?_⟩
        · exact (O6.setNew (Nat.le_refl _) _).setNew (Nat.le_refl _) _
        · exact (hc6.setNew (by show _ < w.heap.size; omega) _).setNew (by show _ < w.heap.size; omega) _
      · rw [hv] at cok
        have HV := Lib.hid hv
        clear hv
        go_wp2_with fail
        refine cok.mono ?_
        rintro r w5 ⟨rfl, hb5⟩
        have hc5 := hc4.below hb5 hc4.lt
        have O5 := O4.then_below hb5 (by omega)
        obtain ⟨b0, b1, b2, b3⟩ := R4.below hb5 (by omega)
        obtain ⟨d0, d1, d2, d3⟩ := (Box.mk d0 d1 d2 d3).below hb5 hz4
        have hne : w3.heap.size ≠ w.heap.size := by omega
        go_wp2
        refine bodyPost_ret (v := .agg #[.int .i64 N, .int .i64 X]) (by simp [results, Try.results137, go_sem, b0, b1, b2, b3, d0, d1, hne]) rfl ⟨N, X, ⟨⟨by omega, by omega⟩, HV.out⟩, rfl, ?_, ?_⟩
        · exact (O5.setNew (Nat.le_refl _) _).setNew (Nat.le_refl _) _
        · exact (hc5.setNew (by show _ < w.heap.size; omega) _).setNew (by show _ < w.heap.size; omega) _
    · have hsum : IntKind.i64.wrap (N + 1) = N + 1 := IntWalk.i64_in _ (by omega)
      have D5 := box_set0 D4 (N + 1)
      have O5 := O4.setNew (p := ⟨w3.heap.size, 0, none⟩) (by show _ ≤ w3.heap.size; omega) (.int .i64 (N + 1))
      have C5 := hc4.setNew (p := ⟨w3.heap.size, 0, none⟩) (by show _ < w3.heap.size; omega) (.int .i64 (N + 1))
      have R5 := box_far R4 (show w3.heap.size ≠ w.heap.size by omega) 0 (.int .i64 (N + 1))
      have hz5 : w3.heap.size < (w4.setCell ⟨w3.heap.size, 0, none⟩ (.int .i64 (N + 1))).heap.size := by simpa [World.setCell] using hz4
      obtain ⟨d0, d1, d2, d3⟩ := D4
      obtain ⟨e0, e1, e2, e3⟩ := D5
      have hM0 : -100000000000000000 < N + 1 := by omega
      have hM1 : N + 1 ≤ 100000000000000000 := by omega
      have cok := decok_spec (N + 1) X (w4.setCell ⟨w3.heap.size, 0, none⟩ (.int .i64 (N + 1))) (by omega) (by omega)
      cases hv : decOk (N + 1) X
      · rw [hv] at cok
        have HV := Lib.hid hv
        clear hv
        go_wp2_with fail
        refine cok.mono ?_
        rintro r w5 ⟨rfl, hb5⟩
        have hc5 := C5.below hb5 C5.lt
        have O5 := O5.then_below hb5 (by omega)
        have R5 := R5.below hb5 (by omega)
        go_wp2_with fail
        refine (l4draw_any w5 B hc5).mono ?_
        rintro r w6 ⟨n, x, hv, rfl, ho6, hc6⟩
        have hv2 := Lib.hid (And.intro (any_of hv).1 hv)
        clear hv
        obtain ⟨b0, b1, b2, b3⟩ := R5.only ho6 (by omega)
        have O6 := O5.trans ho6
        go_wp2
        refine bodyPost_ret (v := .agg #[.int .i64 n, .int .i64 x]) (by simp [results, Try.results137, go_sem, b0, b1, b2, b3]) rfl ⟨n, x, hv2.out, rfl, ?_, ?_⟩
        · exact (O6.setNew (Nat.le_refl _) _).setNew (Nat.le_refl _) _
        · exact (hc6.setNew (by show _ < w.heap.size; omega) _).setNew (by show _ < w.heap.size; omega) _
      · rw [hv] at cok
        have HV := Lib.hid hv
        clear hv
        go_wp2_with fail
        refine cok.mono ?_
        rintro r w5 ⟨rfl, hb5⟩
        have hc5 := C5.below hb5 C5.lt
        have O5 := O5.then_below hb5 (by omega)
        obtain ⟨b0, b1, b2, b3⟩ := R5.below hb5 (by omega)
        obtain ⟨d0, d1, d2, d3⟩ := (Box.mk e0 e1 e2 e3).below hb5 hz5
        have hne : w3.heap.size ≠ w.heap.size := by omega
        go_wp2
        refine bodyPost_ret (v := .agg #[.int .i64 (N + 1), .int .i64 X]) (by simp [results, Try.results137, go_sem, b0, b1, b2, b3, d0, d1, hne]) rfl ⟨N + 1, X, ⟨⟨by omega, by omega⟩, HV.out⟩, rfl, ?_, ?_⟩
        · exact (O5.setNew (Nat.le_refl _) _).setNew (Nat.le_refl _) _
        · exact (hc5.setNew (by show _ < w.heap.size; omega) _).setNew (by show _ < w.heap.size; omega) _
end Go.Proofs.Ytdjnkcoepmackaa
/- Draws of strings out of lists. -/
namespace Go.Proofs.Ytdjnkcoepmackaa
open Go.RowKit
def Single (P : Int → Prop) (w : World) (e : Ending) (w' : World) : Prop := ∃ x : Int, P x ∧ e = .returned (.int .i64 x) ∧ Below w.heap.size w w'
def Word (w : World) (e : Ending) (w' : World) : Prop := ∃ l : List UInt8, l.length ≤ 1000 ∧ e = .returned (.string ⟨l.toArray⟩) ∧ Below w.heap.size w w'
def StrPost (B : Nat) (P : List UInt8 → Prop) (w : World) (e : Ending) (w' : World) : Prop := ∃ l : List UInt8, P l ∧ e = .returned (.string ⟨l.toArray⟩) ∧ Only B w w' ∧ Cur w' B
theorem below_only {w w1 w2 : World} {B : Nat} (h : Below w.heap.size w w1) (ho : Only B w1 w2) (hB : B = w.heap.size) : Below w.heap.size w w2 :=
  h.trans (ho.below w.heap.size (by omega) h.size)
def sv (l : List UInt8) : Value := .string ⟨l.toArray⟩
theorem str_any (w : World) (B b : Nat) (l : List (List UInt8)) (cap : Nat) (hC : Cur w B) (hb : b ≠ B) (hl : 0 < l.length) (hl2 : l.length ≤ 1000) (hcells : ∀ j (hj : j < l.length), w.cell? ⟨b, j, none⟩ = some (sv l[j])) :
    Calls Try.prog 132 #[.pointer (some ⟨B, 0, none⟩), .slice (some ⟨b, 0, none⟩) l.length cap] w (StrPost B (· ∈ l) w) := by
  unfold sv at hcells
  go_enter Try.func132, Try.ntmps132
  go_wp2_with fail
  refine (below_any w B l.length hC (by omega)).mono ?_
  rintro e w1 ⟨x, ⟨hx0, hx1⟩, rfl, ho, hc⟩
  obtain ⟨k, rfl⟩ : ∃ k : Nat, x = k := ⟨x.toNat, by omega⟩
  have hk : k < l.length := by omega
  have hcell : w1.cell? ⟨b, k, none⟩ = some (.string ⟨(l[k]).toArray⟩) := ho.cell hb (hcells k hk)
  have hmem : l[k] ∈ l := List.getElem_mem hk
  generalize l[k] = word at hcell hmem
  clear hcells
  go_wp2
  go_ret
  exact ⟨_, hmem, rfl, ho, hc⟩
theorem scell_new (w : World) (l : List (List UInt8)) (T : TypeId) (j : Nat) (hj : j < l.length) : (w.alloc (.cells (l.map sv).toArray T)).cell? ⟨w.heap.size, j, none⟩ = some (sv l[j]) := by
  have := World.cell?_alloc_mark w (l.map sv).toArray T (0, 0) j
  rw [this]
  simp [hj]
theorem str_lit (w : World) (B : Nat) (l : List (List UInt8)) (T : TypeId) (P : List UInt8 → Prop) (hC : Cur w B) (hl : 0 < l.length) (hl2 : l.length ≤ 1000) (hP : ∀ x ∈ l, P x) :
    Calls Try.prog 132 #[.pointer (some ⟨B, 0, none⟩), .slice (some ⟨w.heap.size, 0, none⟩) l.length l.length] (w.alloc (.cells (l.map sv).toArray T)) (StrPost B P w) :=
  (str_any _ B w.heap.size l l.length (hC.alloc _) (Nat.ne_of_gt hC.lt) hl hl2 (fun j hj => scell_new w l T j hj)).mono fun _ _ ⟨x, hx, he, ho, hc⟩ => ⟨x, hP x hx, he, ((Only.refl B w).alloc _).trans ho, hc⟩
end Go.Proofs.Ytdjnkcoepmackaa
/- A fact on lists: one more element of a copy. -/
namespace Go.Proofs.Ytdjnkcoepmackaa
theorem fill_set {α : Type} (xs z : List α) (k : Nat) (hk : k < xs.length) (hz : xs.length = z.length) : (xs.take k ++ z.drop k).set k xs[k] = xs.take (k + 1) ++ z.drop (k + 1) := by
  have hzk : k < z.length := by omega
  rw [List.set_append]
  have h1 : (xs.take k).length = k := by simp; omega
  rw [h1, if_neg (by omega), Nat.sub_self, List.drop_eq_getElem_cons hzk, List.set_cons_zero, List.take_succ_eq_append_getElem hk, List.append_assoc]
  rfl
end Go.Proofs.Ytdjnkcoepmackaa
/- A row of the call's own: facts. -/
namespace Go.Proofs.Ytdjnkcoepmackaa
open Go.RowKit
theorem byteInfo' : (Try.prog.info? 5).map (fun i => (i.zero, i.size, i.bytes)) = some (some (.int .u8 0), 1, 1) := by kernel_rfl
theorem addr_add (b o j : Nat) : (⟨b, o, none⟩ : Addr).add j = ⟨b, o + j, none⟩ := by unfold Addr.add; split <;> simp_all
theorem own_nonnil {w : World} {B E n : Nat} {v : Value} {xs : List Value} (h : w.ownsRow B E 1 v n xs) (hn : 0 < n) : v ≠ .slice none 0 0 := by
  rcases h.2 with ⟨_, h0⟩ | ⟨g, cap, cur, rfl, _⟩
  · omega
  · intro e; cases e
/-- what PutRune hands on: a row of its own that holds the bytes l -/
def Fresh (w : World) (l : List UInt8) (e : Ending) (w' : World) : Prop := ∃ v', e = .returned v' ∧ v' ≠ .slice none 0 0 ∧ w'.ownsRow w.heap.size 5 1 v' l.length (bv l) ∧ Below w.heap.size w w'
theorem own_take {w : World} {B E n cap g k : Nat} {xs : List Value} (h : w.ownsRow B E 1 (.slice (some ⟨g, 0, none⟩) n cap) n xs) (hk : k ≤ n) : w.ownsRow B E 1 (.slice (some ⟨g, 0, none⟩) k cap) k (xs.take k) := by
  have hl := h.1
  refine ⟨by rw [List.length_take]; omega, ?_⟩
  rcases h.2 with ⟨h, _⟩ | ⟨g', cap', cur, h, hb, hg, hnc, hcm, hcs, htake⟩
  · cases h
  · injection h with h1 h2 h3
    injection h1 with h1
    injection h1 with h1
    subst h1
    subst h3
    refine .inr ⟨g, cap, cur, rfl, hb, hg, by omega, hcm, hcs, ?_⟩
    rw [← htake, List.take_take]
    congr 1
    omega
theorem bv_take (l : List UInt8) (k : Nat) : (bv l).take k = bv (l.take k) := by simp [bv, List.map_take]
theorem bv_set (l : List UInt8) (k : Nat) (z : Int) (h0 : 0 ≤ z) (h1 : z < 256) : (bv l).set k (.int .u8 z) = bv (l.set k (UInt8.ofNat z.toNat)) := by
  unfold bv
  rw [List.map_set]
  congr 2
  have : (UInt8.ofNat z.toNat).toNat = z.toNat % 256 := by simp
  rw [this]
  omega
theorem own_shape {w : World} {B E n : Nat} {v : Value} {xs : List Value} (h : w.ownsRow B E 1 v n xs) (hv : v ≠ .slice none 0 0) : ∃ g cap, v = .slice (some ⟨g, 0, none⟩) n cap ∧ B ≤ g ∧ n ≤ cap ∧ cap ≤ maxLen := by
  rcases h.2 with ⟨h, _⟩ | ⟨g, cap, cur, rfl, hb, _, h1, h2, _⟩
  · exact absurd h hv
  · exact ⟨g, cap, rfl, hb, h1, h2⟩
theorem own_base {w : World} {B B' E n : Nat} {v : Value} {xs : List Value} (h : w.ownsRow B E 1 v n xs) (hB : B' ≤ B) : w.ownsRow B' E 1 v n xs := by
  refine ⟨h.1, ?_⟩
  rcases h.2 with h | ⟨g, cap, cur, hv, hb, rest⟩
  · exact .inl h
  · exact .inr ⟨g, cap, cur, hv, Nat.le_trans hB hb, rest⟩
theorem own_cells {w : World} {B E n cap g : Nat} {xs : List Value} (h : w.ownsRow B E 1 (.slice (some ⟨g, 0, none⟩) n cap) n xs) (j : Nat) (u : Value) (hu : xs[j]? = some u) : w.cell? ⟨g, 0 + j, none⟩ = some u := by
  have h1 := (List.getElem?_eq_some_iff.1 hu).1
  have h2 := h.1
  rw [Nat.zero_add, h.cellAt j (by omega)]
  exact hu
theorem sub_reads {w : World} {g n c off len c' j k : Nat} {l : List UInt8} (h : Reads w (.slice (some ⟨g, 0, none⟩) n c) (bv l)) (hjk : j + k ≤ l.length) (ho : off = j) (hl : len = k) : Reads w (.slice (some ⟨g, off, none⟩) len c') (bv ((l.drop j).take k)) := by
  subst ho hl
  refine ⟨_, c', by rw [bv_length, List.length_take, List.length_drop, Nat.min_eq_left (by omega)], fun i hi => ⟨g, off, rfl, ?_⟩⟩
  have hi' : i < len := by rw [bv_length, List.length_take, List.length_drop] at hi; omega
  obtain ⟨a, c2, e, hc⟩ := h
  obtain ⟨b, o, ha, hcl⟩ := hc (off + i) (by rw [bv_length]; omega)
  injection e with e1 e2 e3
  rw [ha] at e1
  injection e1 with e1
  injection e1 with e1 e4
  subst e1
  subst e4
  rw [Nat.zero_add] at hcl
  rw [hcl]
  simp [bv]
theorem slc_sl {w : World} {v : Value} {xs : List Value} (h : Sl w v xs) : Slc w v xs := .inr h
theorem below_alloc (w : World) (o : Obj) : Below w.heap.size w (w.alloc o) := (Below.refl w.heap.size w).alloc (Nat.le_refl _) o
end Go.Proofs.Ytdjnkcoepmackaa
/-
  DERIVED: THE SHELF's CONTRACTS AT THIS DUMP, IN PLAIN WORDS (tools/lay-plain.mjs out of 'TryShelf.lean', which tools/lay-shelf.mjs wrote): THE SAME DECLARATIONS UNDER THE SAME NAMES: 'import', 'namespace', 'open', 'def', 'theorem' AND NOTHING ELSE: no command of the shelf's: FOR A HAND-IN. Each laying: the table of numbers ('.._ren') and one theorem, a field a fact of the dump's own or the kernel's comparison; each contract: ONE APPLICATION.
-/
namespace Go.Proofs
open Go.Shelf
def Try.lays99_ren : Go.Shelf.Ren := ⟨fun | 99 => 180 | 206 => 194 | n => n, fun | 9 => 9 | 4 => 4 | 3 => 3 | n => n, fun | n => n⟩
theorem Try.lays99 : Go.Proofs.Lays.n99 Try.prog Try.lays99_ren := {
  mixed := by kernel_rfl
  f99 := Try.func180.trans (congrArg some (by kernel_rfl))
  f206 := Try.func194.trans (congrArg some (by kernel_rfl))
  t3 := Try.underlying3
  a3 := Try.isAgg3
  z3 := Try.sizeOf3
  v3 := Try.zeroValue3
  t4 := Try.underlying4
  a4 := Try.isAgg4
  z4 := Try.sizeOf4
  v4 := Try.zeroValue4
  t9 := Try.underlying9
  a9 := Try.isAgg9
  z9 := Try.sizeOf9
  v9 := Try.zeroValue9 }
open Go.RowKit Go.Lib in
/-- strings.HasPrefix: "HasPrefix reports whether the string s begins with prefix.": IT RETURNS 'Lib.hasPrefix s prefix'; the world is as it was. (LAID: no walk: one application.) -/
theorem Try.strings_HasPrefix (s p : ByteArray) (w : World) :
    Calls Try.prog 180 #[.string s, .string p] w fun e w' => e = .returned (.bool (Lib.hasPrefix s.data.toList p.data.toList)) ∧ w' = w := Any.strings_HasPrefix Try.lays99 s p w
end Go.Proofs
/- Which numbers are characters, and how many bytes they have: the program's and the model's answers. -/
namespace Go.Proofs.Ytdjnkcoepmackaa
open Go.RowKit
def okR (n : Int) : Prop := (0 ≤ n ∧ n < 55296) ∨ (57343 < n ∧ n ≤ 1114111)
instance (n : Int) : Decidable (okR n) := by unfold okR; exact inferInstance
theorem okR_mk {n : Int} (h : (0 ≤ n ∧ n < 55296) ∨ (57343 < n ∧ n ≤ 1114111)) : okR n := h
theorem okR_un {n : Int} (h : okR n) : (0 ≤ n ∧ n < 55296) ∨ (57343 < n ∧ n ≤ 1114111) := h
def wideR (n : Int) : Nat := if okR n then (if n < 128 then 1 else if n < 2048 then 2 else if n < 65536 then 3 else 4) else 0
def encR (n : Int) : List UInt8 := if okR n then Lib.encodeRune n else []
theorem wideR_one {n : Int} (h : 0 ≤ n) (k : n < 128) : wideR n = 1 := by unfold wideR; rw [if_pos (okR_mk (by omega)), if_pos k]
theorem wideR_two {n : Int} (h : 128 ≤ n) (k : n < 2048) : wideR n = 2 := by unfold wideR; rw [if_pos (okR_mk (by omega)), if_neg (by omega), if_pos k]
theorem wideR_three {n : Int} (h : 2048 ≤ n) (k : n < 65536) (g : n < 55296 ∨ 57343 < n) : wideR n = 3 := by unfold wideR; rw [if_pos (okR_mk (by omega)), if_neg (by omega), if_neg (by omega), if_pos k]
theorem wideR_four {n : Int} (h : 65536 ≤ n) (k : n ≤ 1114111) : wideR n = 4 := by unfold wideR; rw [if_pos (okR_mk (by omega)), if_neg (by omega), if_neg (by omega), if_neg (by omega)]
theorem wideR_bad {n : Int} (h : ¬ okR n) : wideR n = 0 := by unfold wideR; rw [if_neg h]
theorem enc_bad' {n : Int} (h : ¬ okR n) : encR n = [] := by unfold encR; rw [if_neg h]
theorem encR_len (n : Int) : (encR n).length = wideR n := by
  unfold encR wideR
  split
  · rename_i h
    have h := okR_un h
    simp only [Lib.encodeRune, List.length_map]
    split
    · rw [Lib.encodeRuneZ_one (by omega) (by omega)]; rfl
    · split
      · rw [Lib.encodeRuneZ_two (by omega) (by omega)]; rfl
      · split
        · rw [Lib.encodeRuneZ_three (by omega)]; rfl
        · rw [Lib.encodeRuneZ_four (by omega) (by omega)]; rfl
  · rfl
theorem wideR_cases (n : Int) : (0 ≤ n ∧ n < 128 ∧ wideR n = 1) ∨ (128 ≤ n ∧ n < 2048 ∧ wideR n = 2) ∨ (2048 ≤ n ∧ n < 65536 ∧ (n < 55296 ∨ 57343 < n) ∧ wideR n = 3) ∨ (65536 ≤ n ∧ n ≤ 1114111 ∧ wideR n = 4) ∨ (¬ okR n ∧ wideR n = 0) := by
  by_cases h : okR n
  · have h2 := h
    unfold okR at h2
    by_cases h128 : n < 128
    · exact .inl ⟨by omega, h128, wideR_one (by omega) h128⟩
    · by_cases h20 : n < 2048
      · exact .inr (.inl ⟨by omega, h20, wideR_two (by omega) h20⟩)
      · by_cases h65 : n < 65536
        · exact .inr (.inr (.inl ⟨by omega, h65, by omega, wideR_three (by omega) h65 (by omega)⟩))
        · exact .inr (.inr (.inr (.inl ⟨by omega, by omega, wideR_four (by omega) (by omega)⟩)))
  · exact .inr (.inr (.inr (.inr ⟨h, wideR_bad h⟩)))
theorem runeLen_ok {n : Int} (h : okR n) : Lib.runeLen n = wideR n := by
  rcases wideR_cases n with ⟨h0, h1, e⟩ | ⟨h0, h1, e⟩ | ⟨h0, h1, h2, e⟩ | ⟨h0, h1, e⟩ | ⟨h0, e⟩
  · rw [e]; unfold Lib.runeLen; rw [if_neg (by omega), if_pos (by omega)]; rfl
  · rw [e]; unfold Lib.runeLen; rw [if_neg (by omega), if_neg (by omega), if_pos (by omega)]; rfl
  · rw [e]; unfold Lib.runeLen; rw [if_neg (by omega), if_neg (by omega), if_neg (by omega), if_neg (by omega), if_pos (by omega)]; rfl
  · rw [e]; unfold Lib.runeLen; rw [if_neg (by omega), if_neg (by omega), if_neg (by omega), if_neg (by omega), if_neg (by omega), if_pos (by omega)]; rfl
  · exact absurd h h0
theorem bool_eq {p q : Prop} [Decidable p] [Decidable q] (h : p ↔ q) : Ending.returned (.bool (decide p)) = .returned (.bool (decide q)) := by rw [decide_eq_decide.2 h]
theorem okR_true {n : Int} (h : (0 ≤ n ∧ n < 55296) ∨ (57343 < n ∧ n ≤ 1114111)) : decide (okR n) = true := decide_eq_true h
theorem okR_false {n : Int} (h : ¬ ((0 ≤ n ∧ n < 55296) ∨ (57343 < n ∧ n ≤ 1114111))) : decide (okR n) = false := decide_eq_false h
theorem runeok_spec (n : Int) (w : World) : Calls Try.prog 195 #[.int .i64 n] w fun e w' => e = .returned (.bool (decide (okR n))) ∧ w = w' := by
  by_cases h : 0 ≤ n ∧ n ≤ 1114111
  · have c1 := in_yes n 0 1114111 w h.1 h.2
    by_cases k : 55296 ≤ n ∧ n ≤ 57343
    · have c2 := in_yes n 55296 57343 w k.1 k.2
      rw [okR_false (by omega)]
      clear h k
      go_enter Try.func195, Try.ntmps195
      go_wp2_with fail
      refine c1.mono ?_
      rintro e w' ⟨rfl, rfl⟩
      go_wp2_with fail
      refine c2.mono ?_
      rintro e w' ⟨rfl, rfl⟩
      go_wp2
      go_ret
      exact ⟨rfl, rfl⟩
    · have c2 := in_no n 55296 57343 w (by omega)
      rw [okR_true (by omega)]
      clear h k
      go_enter Try.func195, Try.ntmps195
      go_wp2_with fail
      refine c1.mono ?_
      rintro e w' ⟨rfl, rfl⟩
      go_wp2_with fail
      refine c2.mono ?_
      rintro e w' ⟨rfl, rfl⟩
      go_wp2
      go_ret
      exact ⟨rfl, rfl⟩
  · have c1 := in_no n 0 1114111 w (by omega)
    rw [okR_false (by omega)]
    clear h
    go_enter Try.func195, Try.ntmps195
    go_wp2_with fail
    refine c1.mono ?_
    rintro e w' ⟨rfl, rfl⟩
    go_wp2
    go_ret
    exact ⟨rfl, rfl⟩
theorem runeok_spec_yes {n : Int} (h : okR n) (w : World) : Calls Try.prog 195 #[.int .i64 n] w fun e w' => e = .returned (.bool true) ∧ w = w' := by
  have := runeok_spec n w; rw [decide_eq_true h] at this; exact this
theorem runeok_spec_no {n : Int} (h : ¬ okR n) (w : World) : Calls Try.prog 195 #[.int .i64 n] w fun e w' => e = .returned (.bool false) ∧ w = w' := by
  have := runeok_spec n w; rw [decide_eq_false h] at this; exact this
theorem wide_spec (n : Int) (w : World) : Calls Try.prog 183 #[.int .i64 n] w fun e w' => e = .returned (.int .i64 (wideR n)) ∧ w = w' := by
  by_cases h : okR n
  · have c := runeok_spec_yes h w
    have hw := wideR_cases n
    rcases hw with ⟨h0, h1, e⟩ | ⟨h0, h1, e⟩ | ⟨h0, h1, h2, e⟩ | ⟨h0, h1, e⟩ | ⟨h0, e⟩
    · rw [e]
      go_enter Try.func183, Try.ntmps183
      go_wp2_with fail
      refine c.mono ?_
      rintro e w' ⟨rfl, rfl⟩
      go_wp2
      go_ret
      exact ⟨rfl, rfl⟩
    · rw [e]
      have k1 : ¬ n < 128 := by omega
      go_enter Try.func183, Try.ntmps183
      go_wp2_with fail
      refine c.mono ?_
      rintro e w' ⟨rfl, rfl⟩
      go_wp2
      go_ret
      exact ⟨rfl, rfl⟩
    · rw [e]
      have k1 : ¬ n < 128 := by omega
      have k2 : ¬ n < 2048 := by omega
      go_enter Try.func183, Try.ntmps183
      go_wp2_with fail
      refine c.mono ?_
      rintro e w' ⟨rfl, rfl⟩
      go_wp2
      go_ret
      exact ⟨rfl, rfl⟩
    · rw [e]
      have k1 : ¬ n < 128 := by omega
      have k2 : ¬ n < 2048 := by omega
      have k3 : ¬ n < 65536 := by omega
      go_enter Try.func183, Try.ntmps183
      go_wp2_with fail
      refine c.mono ?_
      rintro e w' ⟨rfl, rfl⟩
      go_wp2
      go_ret
      exact ⟨rfl, rfl⟩
    · exact absurd h h0
  · have c := runeok_spec_no h w
    rw [wideR_bad h]
    go_enter Try.func183, Try.ntmps183
    go_wp2_with fail
    refine c.mono ?_
    rintro e w' ⟨rfl, rfl⟩
    go_wp2
    go_ret
    exact ⟨rfl, rfl⟩
end Go.Proofs.Ytdjnkcoepmackaa
/- The encoding of a character behind given bytes: the program's and the model's answers, and that they own their memory. -/
namespace Go.Proofs.Ytdjnkcoepmackaa
open Go.RowKit
theorem bv_cells (l : List UInt8) : bv l = Lib.byteCells l := rfl
theorem enc_one {n : Int} (h : 0 ≤ n) (k : n < 128) : bv (encR n) = [.int .u8 n] := by
  unfold encR; rw [if_pos (okR_mk (by omega)), bv_cells, Lib.byteCells_encodeRune, Lib.runeCells, Lib.encodeRuneZ_one (by omega) (by omega)]; rfl
theorem enc_two {n : Int} (h : 128 ≤ n) (k : n < 2048) : bv (encR n) = [.int .u8 (192 + n / 64), .int .u8 (128 + n % 64)] := by
  unfold encR; rw [if_pos (okR_mk (by omega)), bv_cells, Lib.byteCells_encodeRune, Lib.runeCells, Lib.encodeRuneZ_two (by omega) (by omega)]; rfl
theorem enc_three {n : Int} (h : 2048 ≤ n) (k : n < 65536) (g : n < 55296 ∨ 57343 < n) : bv (encR n) = [.int .u8 (224 + n / 4096), .int .u8 (128 + n / 64 % 64), .int .u8 (128 + n % 64)] := by
  unfold encR; rw [if_pos (okR_mk (by omega)), bv_cells, Lib.byteCells_encodeRune, Lib.runeCells, Lib.encodeRuneZ_three (by omega)]; rfl
theorem enc_four {n : Int} (h : 65536 ≤ n) (k : n ≤ 1114111) : bv (encR n) = [.int .u8 (240 + n / 262144), .int .u8 (128 + n / 4096 % 64), .int .u8 (128 + n / 64 % 64), .int .u8 (128 + n % 64)] := by
  unfold encR; rw [if_pos (okR_mk (by omega)), bv_cells, Lib.byteCells_encodeRune, Lib.runeCells, Lib.encodeRuneZ_four (by omega) (by omega)]; rfl
theorem enc_bad {n : Int} (h : ¬ okR n) : encR n = [] := by unfold encR; rw [if_neg h]
theorem put_spec (w : World) (b o cap : Nat) (l : List UInt8) (n : Int) (hc : ∀ j u, (bv l)[j]? = some u → w.cell? ⟨b, o + j, none⟩ = some u) (hl : l.length ≤ 1099511627776) :
    Calls Try.prog 191 #[.slice (some ⟨b, o, none⟩) l.length cap, .int .i64 n] w (Fresh w (l ++ encR n)) := by
  obtain ⟨i0, hi, hz0, hz1, hz2⟩ := info_parts byteInfo'
  have cw := wide_spec n
  have c1 : ∀ o', ∀ j u, (bv l)[j]? = some u → (w.alloc o').cell? ((⟨b, o, none⟩ : Addr).add j) = some u := by
    intro o' j u hu
    rw [addr_add, ((Below.refl w.heap.size w).alloc (Nat.le_refl _) o').cell (p := ⟨b, o + j, none⟩) (cell_lt (hc j u hu))]
    exact hc j u hu
  go_enter Try.func191, Try.ntmps191
  go_wp2_with (at_builtin; refine wpList_append_own _ rfl _ _ 35 rfl w.heap.size 5 i0 (.int .u8 0) 1 1 Try.underlying35 hi hz0 hz1 hz2 rfl (by decide) _ _ _ rfl (World.ownsRow_made w #[] 0 (Nat.le_refl _) (by decide) rfl) ⟨b, o, none⟩ l.length cap (bv l) rfl (by simp) (c1 _) (bv_cell l) ?c3 ?c4 ?c5 ?_)
  case c3 => unfold maxLen; omega
  case c4 => omega
  case c5 => simp
  intro v1 w1 hown hgrow hnil
  have hb1 : Below w.heap.size w w1 := ((Below.refl w.heap.size w).alloc (Nat.le_refl _) _).trans (grown_belowN hgrow (by simp) (by simp [Value.ownBlock]))
  have HN := Lib.hid hnil
  clear hgrow hnil c1 hc
  rcases wideR_cases n with ⟨h0, h1, e⟩ | ⟨h0, h1, e⟩ | ⟨h0, h1, h2, e⟩ | ⟨h0, h1, e⟩ | ⟨h0, e⟩
  · rw [e] at cw
    go_wp2_with fail
    refine (cw _).mono ?_
    rintro e' w' ⟨rfl, rfl⟩
    have hm : n % 256 = n := by omega
    go_wp2_with (at_builtin; refine wpList_append_own _ rfl _ _ 35 rfl w.heap.size 5 i0 (.int .u8 0) 1 1 Try.underlying35 hi hz0 hz1 hz2 rfl (by decide) _ _ _ rfl (hown.alloc _) ⟨w1.heap.size, 0, none⟩ 1 1 [.int .u8 n] rfl rfl ?c1 ?c2 ?c3 ?c4 ?c5 ?_)
    case c1 =>
      intro j u hj
      match j, hj with
      | 0, hj => simp at hj; subst hj; simp [Addr.add]
      | (j + 1), hj => simp at hj
    case c2 => intro u hu; simp at hu; rcases hu with rfl; rfl
    case c3 => unfold maxLen; omega
    case c4 => omega
    case c5 => have := hb1.size; simp; omega
    intro v2 w2 hown2 hgrow _
    have hb2 := below_step hb1 hb1.size hown hgrow
    clear hgrow hown
    go_wp2
    go_ret
    refine ⟨_, rfl, own_nonnil hown2 (by omega), ?_, hb2⟩
    rw [List.length_append, encR_len, e, bv_append, enc_one h0 h1]
    exact hown2
  · rw [e] at cw
    go_wp2_with fail
    refine (cw _).mono ?_
    rintro e' w' ⟨rfl, rfl⟩
    have hm1 : (192 + n / 64) % 256 = 192 + n / 64 := by omega
    have hm2 : (128 + n % 64) % 256 = 128 + n % 64 := by omega
    go_wp2_with (at_builtin; refine wpList_append_own _ rfl _ _ 35 rfl w.heap.size 5 i0 (.int .u8 0) 1 1 Try.underlying35 hi hz0 hz1 hz2 rfl (by decide) _ _ _ rfl (hown.alloc _) ⟨w1.heap.size, 0, none⟩ 2 2 [.int .u8 (192 + n / 64), .int .u8 (128 + n % 64)] rfl rfl ?c1 ?c2 ?c3 ?c4 ?c5 ?_)
    case c1 =>
      intro j u hj
      match j, hj with
      | 0, hj => simp at hj; subst hj; simp [Addr.add]
      | 1, hj => simp at hj; subst hj; simp [Addr.add]
      | (j + 2), hj => simp at hj
    case c2 => intro u hu; simp at hu; rcases hu with rfl | rfl <;> rfl
    case c3 => unfold maxLen; omega
    case c4 => omega
    case c5 => have := hb1.size; simp; omega
    intro v2 w2 hown2 hgrow _
    have hb2 := below_step hb1 hb1.size hown hgrow
    clear hgrow hown
    go_wp2
    go_ret
    refine ⟨_, rfl, own_nonnil hown2 (by omega), ?_, hb2⟩
    rw [List.length_append, encR_len, e, bv_append, enc_two h0 h1]
    exact hown2
  · rw [e] at cw
    go_wp2_with fail
    refine (cw _).mono ?_
    rintro e' w' ⟨rfl, rfl⟩
    have hm1 : (224 + n / 4096) % 256 = 224 + n / 4096 := by omega
    have hm2 : (128 + n / 64 % 64) % 256 = 128 + n / 64 % 64 := by omega
    have hm3 : (128 + n % 64) % 256 = 128 + n % 64 := by omega
    go_wp2_with (at_builtin; refine wpList_append_own _ rfl _ _ 35 rfl w.heap.size 5 i0 (.int .u8 0) 1 1 Try.underlying35 hi hz0 hz1 hz2 rfl (by decide) _ _ _ rfl (hown.alloc _) ⟨w1.heap.size, 0, none⟩ 3 3 [.int .u8 (224 + n / 4096), .int .u8 (128 + n / 64 % 64), .int .u8 (128 + n % 64)] rfl rfl ?c1 ?c2 ?c3 ?c4 ?c5 ?_)
    case c1 =>
      intro j u hj
      match j, hj with
      | 0, hj => simp at hj; subst hj; simp [Addr.add]
      | 1, hj => simp at hj; subst hj; simp [Addr.add]
      | 2, hj => simp at hj; subst hj; simp [Addr.add]
      | (j + 3), hj => simp at hj
    case c2 => intro u hu; simp at hu; rcases hu with rfl | rfl | rfl <;> rfl
    case c3 => unfold maxLen; omega
    case c4 => omega
    case c5 => have := hb1.size; simp; omega
    intro v2 w2 hown2 hgrow _
    have hb2 := below_step hb1 hb1.size hown hgrow
    clear hgrow hown
    go_wp2
    go_ret
    refine ⟨_, rfl, own_nonnil hown2 (by omega), ?_, hb2⟩
    rw [List.length_append, encR_len, e, bv_append, enc_three h0 h1 h2]
    exact hown2
  · rw [e] at cw
    go_wp2_with fail
    refine (cw _).mono ?_
    rintro e' w' ⟨rfl, rfl⟩
    have hm1 : (240 + n / 262144) % 256 = 240 + n / 262144 := by omega
    have hm2 : (128 + n / 4096 % 64) % 256 = 128 + n / 4096 % 64 := by omega
    have hm3 : (128 + n / 64 % 64) % 256 = 128 + n / 64 % 64 := by omega
    have hm4 : (128 + n % 64) % 256 = 128 + n % 64 := by omega
    go_wp2_with (at_builtin; refine wpList_append_own _ rfl _ _ 35 rfl w.heap.size 5 i0 (.int .u8 0) 1 1 Try.underlying35 hi hz0 hz1 hz2 rfl (by decide) _ _ _ rfl (hown.alloc _) ⟨w1.heap.size, 0, none⟩ 4 4 [.int .u8 (240 + n / 262144), .int .u8 (128 + n / 4096 % 64), .int .u8 (128 + n / 64 % 64), .int .u8 (128 + n % 64)] rfl rfl ?c1 ?c2 ?c3 ?c4 ?c5 ?_)
    case c1 =>
      intro j u hj
      match j, hj with
      | 0, hj => simp at hj; subst hj; simp [Addr.add]
      | 1, hj => simp at hj; subst hj; simp [Addr.add]
      | 2, hj => simp at hj; subst hj; simp [Addr.add]
      | 3, hj => simp at hj; subst hj; simp [Addr.add]
      | (j + 4), hj => simp at hj
    case c2 => intro u hu; simp at hu; rcases hu with rfl | rfl | rfl | rfl <;> rfl
    case c3 => unfold maxLen; omega
    case c4 => omega
    case c5 => have := hb1.size; simp; omega
    intro v2 w2 hown2 hgrow _
    have hb2 := below_step hb1 hb1.size hown hgrow
    clear hgrow hown
    go_wp2
    go_ret
    refine ⟨_, rfl, own_nonnil hown2 (by omega), ?_, hb2⟩
    rw [List.length_append, encR_len, e, bv_append, enc_four h0 h1]
    exact hown2
  · rw [e] at cw
    go_wp2_with fail
    refine (cw _).mono ?_
    rintro e' w' ⟨rfl, rfl⟩
    go_wp2
    go_ret
    refine ⟨_, rfl, HN.out, ?_, hb1⟩
    rw [enc_bad h0, List.append_nil]
    exact hown
end Go.Proofs.Ytdjnkcoepmackaa
/- Bytes of its own that the model draws. -/
namespace Go.Proofs.Ytdjnkcoepmackaa
open Go.RowKit
/-- bytes of its own, the cursor stepped -/
def BytesPost (B : Nat) (P : List UInt8 → Prop) (w : World) (e : Ending) (w' : World) : Prop := ∃ v' l', P l' ∧ e = .returned v' ∧ v' ≠ .slice none 0 0 ∧ w'.ownsRow w.heap.size 5 1 v' l'.length (bv l') ∧ Only B w w' ∧ Cur w' B
theorem bytes_any (w : World) (B n : Nat) (hC : Cur w B) (hn : n ≤ 1000) : Calls Try.prog 139 #[.pointer (some ⟨B, 0, none⟩), .int .i64 n] w (BytesPost B (fun l => l.length ≤ n) w) := by
  obtain ⟨i0, hi, hz0, hz1, hz2⟩ := info_parts byteInfo'
  have hBl := hC.lt
  have hnz : (n : Int) ≤ 1000 := by omega
  have HO := Lib.hid ((Only.refl B w).alloc (.cells #[] 5))
  have HW := Lib.hid (World.ownsRow_made (base := w.heap.size) (e := 5) (size := 1) w #[] 0 (Nat.le_refl _) (by decide) rfl)
  have HC := Lib.hid (hC.alloc (.cells #[] 5))
  clear hC
  go_enter Try.func139, Try.ntmps139
  go_wp2
  go_loopw [5, 6] (fun v i wr => ∃ (i' : Nat) (acc : List UInt8), i = .int .i64 i' ∧ i' ≤ n ∧ acc.length = i' ∧ v ≠ .slice none 0 0 ∧ wr.ownsRow w.heap.size 5 1 v acc.length (bv acc) ∧ Only B w wr ∧ Cur wr B) (fun _ i _ => n - (intOf i).toNat)
  case atStart => exact ⟨0, [], rfl, Nat.zero_le _, rfl, by simp, HW.out, HO.out, HC.out⟩
  case round =>
    obtain ⟨i', acc, rfl, hi', hacc, hnn, hown, hO, hcr⟩ := hrel
    have H3 := Lib.hid hown
    have HO3 := Lib.hid hO
    have HA := Lib.hid hacc
    have HN := Lib.hid hnn
    by_cases hlt : i' < n
    · have HT := Lib.hid hlt
      clear hown hO hacc hnn
      go_wp2_with fail
      refine (byte_any wr B hcr).mono ?_
      rintro e w3 ⟨y, hy0, hy1, rfl, ho3, hc3⟩
      have hown3 := own_only H3.out ho3 (fun e => by have := (H3.out.lt _ e).1; omega)
      have hyy : y % 256 = y := by omega
      have HO4 := Lib.hid (HO3.out.trans ho3)
      have HC3 := Lib.hid hc3
      have H4 := Lib.hid hown3
      clear hcr hown3 hc3 ho3
      go_wp2_with (at_builtin; refine wpList_append_own _ rfl _ _ 35 rfl w.heap.size 5 i0 (.int .u8 0) 1 1 Try.underlying35 hi hz0 hz1 hz2 rfl (by decide) _ _ _ rfl (H4.out.alloc _) ⟨w3.heap.size, 0, none⟩ 1 1 [.int .u8 y] rfl rfl ?c1 ?c2 ?c3 ?c4 ?c5 ?_)
      case c1 =>
        intro j u hj
        match j, hj with
        | 0, hj => simp at hj; subst hj; simp [Addr.add]
        | (j + 1), hj => simp at hj
      case c2 => intro u hu; simp at hu; rcases hu with rfl; rfl
      case c3 => have := HA.out; unfold maxLen; omega
      case c4 => have := HA.out; omega
      case c5 => have := HO4.out.size; simp; omega
      intro v' w4 hown4 hgrow _
      have hb4 : Below w.heap.size w3 w4 := below_step (Below.refl _ _) (HO4.out.size) H4.out hgrow
      have H5 := Lib.hid hown4
      have HO5 := Lib.hid (HO4.out.then_below hb4 (Nat.le_refl _))
      have HC5 := Lib.hid (HC3.out.below hb4 hBl)
      clear hown4 hgrow hb4
      go_wp2
      go_roundw
      case rel =>
        have hl := HA.out
        refine ⟨i' + 1, acc ++ [UInt8.ofNat y.toNat], by go_num, HT.out, by simp; omega, own_nonnil H5.out (by omega), ?_, HO5.out, HC5.out⟩
        have e1 : bv [UInt8.ofNat y.toNat] = [.int .u8 y] := by
          simp [bv]
          omega
        rw [List.length_append, bv_append, e1]
        exact H5.out
      case measure => have := HT.out; simp [intOf]; omega
    · clear hown hO
      go_wp2
      go_ret
      exact ⟨_, acc, by have := HA.out; show acc.length ≤ n; omega, rfl, HN.out, H3.out, HO3.out, hcr⟩
end Go.Proofs.Ytdjnkcoepmackaa
