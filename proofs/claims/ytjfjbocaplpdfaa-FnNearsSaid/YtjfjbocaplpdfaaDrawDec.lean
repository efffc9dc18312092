/- What the model's draws for decimal numbers return. -/
import Derived.Test.YtjfjbocaplpdfaaBox
import Derived.Test.YtjfjbocaplpdfaaDecNew
import Derived.IntWalk
import Derived.Deep.RegionHeld3
namespace Go.Proofs.Ytjfjbocaplpdfaa
open Go.RowKit
def DecPost (B : Nat) (P : Int → Int → Prop) (w : World) (e : Ending) (w' : World) : Prop := ∃ n x : Int, P n x ∧ e = .returned (.agg #[.int .i64 n, .int .i64 x]) ∧ Only B w w' ∧ Cur w' B
theorem decOk_15 : decOk 15 (-1) = true := decOk_neg (by decide) (by decide) ((digV_17 15).2 (by decide)) (by decide)
theorem isNew_ok {n x N X : Int} (h : IsNew n x N X true) : decOk N X = true := by
  rcases h with ⟨_, _, h, _⟩ | ⟨h, _⟩
  · exact h
  · cases h
set_option maxRecDepth 100000 in
theorem l4draw_any (w : World) (B : Nat) (hC : Cur w B) : Calls Try.prog 47 #[.pointer (some ⟨B, 0, none⟩)] w (DecPost B (fun n x => decOk n x = true) w) := by
  have hBw := hC.lt
  go_enter Try.func47, Try.ntmps47
  go_wp2
  go_loopw [3] (fun i wr => ∃ k : Nat, i = .int .i64 k ∧ (k : Int) ≤ 6 ∧ Only B (w.alloc (.cells #[.int .i64 0, .int .i64 0] 25)) wr ∧ Cur wr B) (fun i _ => 6 - (intOf i).toNat)
  case atStart => exact ⟨0, rfl, by omega, Only.refl _ _, hC.alloc _⟩
  case round =>
    obtain ⟨k, rfl, hk, ho, hc⟩ := hrel
    by_cases hlt : (k : Int) < 6
    · go_wp2_with fail
      refine (signed_any _ B hc).mono ?_
      rintro e w1 ⟨x, ⟨hx0, hx1⟩, rfl, ho1, hc1⟩
      go_wp2_with fail
      refine (below_any w1 B 17 hc1 (by decide)).mono ?_
      rintro e w2 ⟨y, ⟨hy0, hy1⟩, rfl, ho2, hc2⟩
      go_wp2_with fail
      refine (decnew_spec x (-y) w2 (by omega) (by omega)).mono ?_
      rintro e w3 ⟨N, X, ok, rfl, hN, hb3⟩
      have hO := (ho.trans (ho1.trans ho2)).then_below hb3 (by have := ho.size; have := ho1.size; have := ho2.size; omega)
      have hC3 := hc2.below hb3 hc2.lt
      have hN := Lib.hid hN
      cases ok
      · go_wp2
        go_roundw
        case rel => exact ⟨k + 1, by go_num, by omega, hO.trans ((Only.refl B _).alloc _), hC3.alloc _⟩
        case measure => simp [intOf]; omega
      · have hbox := (box_new w 0 0 25).only hO (by omega)
        obtain ⟨e0, e1⟩ := two_set_alloc hbox (.int .i64 N) (.int .i64 X) (.cells #[.int .i64 N, .int .i64 X] 25)
        obtain ⟨b0, b1, b2, b3⟩ := hbox
        have hsz : w.heap.size < w3.heap.size := by have := hO.size; simp at this; omega
        go_wp2
        refine bodyPost_ret (v := .agg #[.int .i64 N, .int .i64 X]) (by simp [results, Try.results47, go_sem, e0, e1]) rfl ⟨N, X, isNew_ok hN.out, rfl, ?_, ?_⟩
        · exact (((((Only.refl B w).alloc _).trans hO).setNew (Nat.le_refl _) _).setNew (Nat.le_refl _) _).alloc _
        · exact ((hC3.setNew (by show _ < w.heap.size; omega) _).setNew (by show _ < w.heap.size; omega) _).alloc _
    · obtain ⟨b0, b1, b2, b3⟩ := (box_new w 0 0 25).only ho (by omega)
      go_wp2
      refine bodyPost_ret (v := .agg #[.int .i64 15, .int .i64 (-1)]) (by simp [results, Try.results47, go_sem, b0, b1, b2, b3]) rfl ⟨15, -1, decOk_15, rfl, ?_, ?_⟩
      · exact ((((Only.refl B w).alloc _).trans ho).setNew (Nat.le_refl _) _).setNew (Nat.le_refl _) _
      · exact (hc.setNew (by show _ < w.heap.size; omega) _).setNew (by show _ < w.heap.size; omega) _
def AnyDec (n x : Int) : Prop := isInt n ∧ -17 ≤ x ∧ x ≤ 1
theorem any_of {n x : Int} (h : decOk n x = true) : AnyDec n x := by
  obtain ⟨r0, r1, r2, _, _⟩ := decOk_range h
  exact ⟨⟨by omega, by omega⟩, by omega, by omega⟩
set_option maxRecDepth 100000 in
theorem l4any_any (w : World) (B : Nat) (hC : Cur w B) : Calls Try.prog 32 #[.pointer (some ⟨B, 0, none⟩)] w (DecPost B AnyDec w) := by
  have hBw := hC.lt
  go_enter Try.func32, Try.ntmps32
  go_wp2_with fail
  refine (l4draw_any _ B (hC.alloc _)).mono ?_
  rintro e w1 ⟨n, x, hv, rfl, ho1, hc1⟩
  have hv1 := Lib.hid (any_of hv)
  clear hv
  have hz1 : w.heap.size < w1.heap.size := by have := ho1.size; simp at this; omega
  have O1 := (((Only.refl B w).alloc (.cells #[.int .i64 0, .int .i64 0] 25)).trans ho1).alloc (.cells #[.int .i64 n, .int .i64 x] 25)
  have R1 := ((box_new w 0 0 25).only ho1 (by omega)).below (N := w1.heap.size) ((Below.refl _ _).alloc (Nat.le_refl _) (.cells #[.int .i64 n, .int .i64 x] 25)) hz1
  have D1 := box_new w1 n x 25
  have hC1 := hc1.alloc (.cells #[.int .i64 n, .int .i64 x] 25)
  go_wp2_with fail
  refine (below_any _ B 8 hC1 (by decide)).mono ?_
  rintro e w2 ⟨k, ⟨hk0, hk1⟩, rfl, ho2, hc2⟩
  have O2 := O1.trans ho2
  have R2 := R1.only ho2 (by omega)
  have D2 := D1.only ho2 (by omega)
  clear R1 D1 ho1 ho2 hC1 hc1 O1
  have hne : w1.heap.size ≠ w.heap.size := by omega
  by_cases h0 : k = 0
  · subst h0
    go_wp2_with fail
    refine (raw_any w2 B hc2).mono ?_
    rintro e w3 ⟨m, hm, rfl, ho3, hc3⟩
    obtain ⟨b0, b1, b2, b3⟩ := R2.only ho3 (by omega)
    obtain ⟨d0, d1, d2, d3⟩ := D2.only ho3 (by omega)
    have O3 := O2.trans ho3
    go_wp2
    refine bodyPost_ret (v := .agg #[.int .i64 m, .int .i64 x]) (by simp [results, Try.results32, go_sem, b0, b1, b2, b3, d0, d1, hne]) rfl ⟨m, x, ⟨hm, hv1.out.2⟩, rfl, ?_, ?_⟩
    · exact ((O3.setNew (by show _ ≤ w1.heap.size; omega) _).setNew (Nat.le_refl _) _).setNew (Nat.le_refl _) _
    · exact ((hc3.setNew (by show _ < w1.heap.size; omega) _).setNew (by show _ < w.heap.size; omega) _).setNew (by show _ < w.heap.size; omega) _
  · by_cases h1 : k = 1
    · subst h1
      go_wp2_with fail
      refine (int_lit w2 B [-17, -16, 0, 1] 3 (fun y => -17 ≤ y ∧ y ≤ 1) hc2 (by decide) (by decide) (by decide)).mono ?_
      rintro e w3 ⟨y, hy, rfl, ho3, hc3⟩
      obtain ⟨b0, b1, b2, b3⟩ := R2.only ho3 (by omega)
      obtain ⟨d0, d1, d2, d3⟩ := D2.only ho3 (by omega)
      have O3 := O2.trans ho3
      go_wp2
      refine bodyPost_ret (v := .agg #[.int .i64 n, .int .i64 y]) (by simp [results, Try.results32, go_sem, b0, b1, b2, b3, d0, d1, hne]) rfl ⟨n, y, ⟨hv1.out.1, hy⟩, rfl, ?_, ?_⟩
      · exact ((O3.setNew (by show _ ≤ w1.heap.size; omega) _).setNew (Nat.le_refl _) _).setNew (Nat.le_refl _) _
      · exact ((hc3.setNew (by show _ < w1.heap.size; omega) _).setNew (by show _ < w.heap.size; omega) _).setNew (by show _ < w.heap.size; omega) _
    · by_cases h2 : k = 2
      · subst h2
        go_wp2_with fail
        refine (below_any w2 B 9 hc2 (by decide)).mono ?_
        rintro e w3 ⟨y, ⟨hy0, hy1⟩, rfl, ho3, hc3⟩
        obtain ⟨b0, b1, b2, b3⟩ := R2.only ho3 (by omega)
        obtain ⟨d0, d1, d2, d3⟩ := D2.only ho3 (by omega)
        have O3 := O2.trans ho3
        go_wp2
        refine bodyPost_ret (v := .agg #[.int .i64 (10 * y), .int .i64 x]) (by simp [results, Try.results32, go_sem, b0, b1, b2, b3, d0, d1, hne]) rfl ⟨10 * y, x, ⟨⟨by omega, by omega⟩, hv1.out.2⟩, rfl, ?_, ?_⟩
        · exact ((O3.setNew (by show _ ≤ w1.heap.size; omega) _).setNew (Nat.le_refl _) _).setNew (Nat.le_refl _) _
        · exact ((hc3.setNew (by show _ < w1.heap.size; omega) _).setNew (by show _ < w.heap.size; omega) _).setNew (by show _ < w.heap.size; omega) _
      · obtain ⟨b0, b1, b2, b3⟩ := R2
        obtain ⟨d0, d1, d2, d3⟩ := D2
        go_wp2
        refine bodyPost_ret (v := .agg #[.int .i64 n, .int .i64 x]) (by simp [results, Try.results32, go_sem, b0, b1, b2, b3, d0, d1, hne]) rfl ⟨n, x, hv1.out, rfl, ?_, ?_⟩
        · exact (O2.setNew (Nat.le_refl _) _).setNew (Nat.le_refl _) _
        · exact (hc2.setNew (by show _ < w.heap.size; omega) _).setNew (by show _ < w.heap.size; omega) _
end Go.Proofs.Ytjfjbocaplpdfaa
