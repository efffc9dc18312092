/- The head for an argument: HeadFor of both sides. -/
import Derived.Test.YtblaaiggmhadfaaDoorHead
namespace Go.Proofs.YtblaaiggmhadfaaDoor
open Go.RowKit
set_option maxRecDepth 100000
theorem hdFor_yes {k n x : Int} (hx : x = if n > 23 then widR n else 0) (h : hdOk ⟨k, n, x⟩) : hdFor k n = ⟨k, n, x⟩ := by subst hx; unfold hdFor; rw [if_pos h]
theorem hdFor_no {k n x : Int} (hx : x = if n > 23 then widR n else 0) (h : ¬ hdOk ⟨k, n, x⟩) : hdFor k n = hd0 := by subst hx; unfold hdFor; rw [if_neg h]
theorem hb_two (w : World) (h g : Hd) (t : TypeId) : HB ((w.alloc (.cells #[.int .i64 h.k, .int .i64 h.n, .int .i64 h.w] t)).alloc (.cells #[.int .i64 g.k, .int .i64 g.n, .int .i64 g.w] t)) w.heap.size h ∧ HB ((w.alloc (.cells #[.int .i64 h.k, .int .i64 h.n, .int .i64 h.w] t)).alloc (.cells #[.int .i64 g.k, .int .i64 g.n, .int .i64 g.w] t)) (w.heap.size + 1) g ∧ Below w.heap.size w ((w.alloc (.cells #[.int .i64 h.k, .int .i64 h.n, .int .i64 h.w] t)).alloc (.cells #[.int .i64 g.k, .int .i64 g.n, .int .i64 g.w] t)) :=
  ⟨⟨by simp [go_sem], by simp [go_sem], by simp [go_sem], fun o => by simp [go_sem]⟩, ⟨by simp [go_sem], by simp [go_sem], by simp [go_sem], fun o => by simp [go_sem]⟩, ((Below.refl _ _).alloc (Nat.le_refl _) _).alloc (by simp) _⟩
theorem below_three {N : Nat} {w W : World} {b : Nat} (h : Below N w W) (hb : N ≤ b) (u v x : Value) : Below N w (((W.setCell ⟨b, 0, none⟩ u).setCell ⟨b, 1, none⟩ v).setCell ⟨b, 2, none⟩ x) := ((h.setCell hb u).setCell hb v).setCell hb x
set_option maxHeartbeats 2000000 in
theorem headfor_impl (k n : Int) (w : World) (h0 : -9223372036854775808 ≤ n) : Calls Tryd.prog 9 #[.int .i64 k, .int .i64 n] w fun e w' => e = .returned (hdFor k n).val ∧ Below w.heap.size w w' := by
  by_cases hn : 24 ≤ n
  · obtain ⟨r, hr⟩ : ∃ r, r = widR n := ⟨_, rfl⟩
    have cw := fun w1 => width_impl n w1
    rw [← hr] at cw
    obtain ⟨h1, h2, h3⟩ := hb_two w hd0 ⟨k, n, r⟩ 25
    simp only [hd0] at h1 h2 h3
    have ck := ok_impl h2 h0
    have H1 := Lib.hid h1
    have H2 := Lib.hid h2
    have H3 := Lib.hid h3
    have d0 := h2.c0
    have d1 := h2.c1
    have d2 := h2.c2
    simp only at d0 d1 d2
    clear h1 h2 h3
    by_cases hok : hdOk ⟨k, n, r⟩
    · rw [hdFor_yes (by rw [if_pos (by omega)]; exact hr) hok]
      rw [decide_eq_true hok] at ck
      clear hok hr h0
      go_enter Tryd.func9, Tryd.ntmps9
      go_wp2_with fail
      refine (cw _).mono ?_
      rintro e w' ⟨rfl, rfl⟩
      go_wp2_with fail
      refine ck.mono ?_
      rintro e w3 ⟨rfl, hb3⟩
      have G1 := H1.out.below hb3
      have G2 := H2.out.below hb3
      have G3 := Lib.hid (H3.out.trans (hb3.mono (by simp; omega)))
      obtain ⟨a0, a1, a2, af⟩ := G1
      obtain ⟨b0, b1, b2, bf⟩ := G2
      simp only at a0 a1 a2 b0 b1 b2
      clear hb3
      go_wp2
      refine bodyPost_ret (v := .agg #[.int .i64 k, .int .i64 n, .int .i64 r]) (by simp [results, Tryd.results9, go_sem, a0, a1, a2]) rfl ⟨rfl, below_three G3.out (Nat.le_refl _) _ _ _⟩
    · rw [hdFor_no (by rw [if_pos (by omega)]; exact hr) hok]
      rw [decide_eq_false hok] at ck
      clear hok hr h0
      go_enter Tryd.func9, Tryd.ntmps9
      go_wp2_with fail
      refine (cw _).mono ?_
      rintro e w' ⟨rfl, rfl⟩
      go_wp2_with fail
      refine ck.mono ?_
      rintro e w3 ⟨rfl, hb3⟩
      have G1 := H1.out.below hb3
      have G2 := H2.out.below hb3
      have G3 := Lib.hid (H3.out.trans (hb3.mono (by simp; omega)))
      obtain ⟨a0, a1, a2, af⟩ := G1
      obtain ⟨b0, b1, b2, bf⟩ := G2
      simp only at a0 a1 a2 b0 b1 b2
      clear hb3
      go_wp2
      refine bodyPost_ret (v := .agg #[.int .i64 0, .int .i64 0, .int .i64 0]) (by simp [results, Tryd.results9, go_sem, a0, a1, a2]) rfl ⟨rfl, below_three G3.out (Nat.le_refl _) _ _ _⟩
  · skip
    obtain ⟨h1, h2, h3⟩ := hb_two w hd0 ⟨k, n, 0⟩ 25
    simp only [hd0] at h1 h2 h3
    have ck := ok_impl h2 h0
    have H1 := Lib.hid h1
    have H2 := Lib.hid h2
    have H3 := Lib.hid h3
    have d0 := h2.c0
    have d1 := h2.c1
    have d2 := h2.c2
    simp only at d0 d1 d2
    clear h1 h2 h3
    by_cases hok : hdOk ⟨k, n, 0⟩
    · rw [hdFor_yes (by rw [if_neg (by omega)]) hok]
      rw [decide_eq_true hok] at ck
      clear hok h0
      go_enter Tryd.func9, Tryd.ntmps9
      go_wp2_with fail
      refine ck.mono ?_
      rintro e w3 ⟨rfl, hb3⟩
      have G1 := H1.out.below hb3
      have G2 := H2.out.below hb3
      have G3 := Lib.hid (H3.out.trans (hb3.mono (by simp; omega)))
      obtain ⟨a0, a1, a2, af⟩ := G1
      obtain ⟨b0, b1, b2, bf⟩ := G2
      simp only at a0 a1 a2 b0 b1 b2
      clear hb3
      go_wp2
      refine bodyPost_ret (v := .agg #[.int .i64 k, .int .i64 n, .int .i64 0]) (by simp [results, Tryd.results9, go_sem, a0, a1, a2]) rfl ⟨rfl, below_three G3.out (Nat.le_refl _) _ _ _⟩
    · rw [hdFor_no (by rw [if_neg (by omega)]) hok]
      rw [decide_eq_false hok] at ck
      clear hok h0
      go_enter Tryd.func9, Tryd.ntmps9
      go_wp2_with fail
      refine ck.mono ?_
      rintro e w3 ⟨rfl, hb3⟩
      have G1 := H1.out.below hb3
      have G2 := H2.out.below hb3
      have G3 := Lib.hid (H3.out.trans (hb3.mono (by simp; omega)))
      obtain ⟨a0, a1, a2, af⟩ := G1
      obtain ⟨b0, b1, b2, bf⟩ := G2
      simp only at a0 a1 a2 b0 b1 b2
      clear hb3
      go_wp2
      refine bodyPost_ret (v := .agg #[.int .i64 0, .int .i64 0, .int .i64 0]) (by simp [results, Tryd.results9, go_sem, a0, a1, a2]) rfl ⟨rfl, below_three G3.out (Nat.le_refl _) _ _ _⟩
set_option maxHeartbeats 2000000 in
theorem headfor_spec (k n : Int) (w : World) : Calls Tryd.prog 15 #[.int .i64 k, .int .i64 n] w fun e w' => e = .returned (hdFor k n).val ∧ Below w.heap.size w w' := by
  by_cases hn : 23 < n
  · obtain ⟨r, hr⟩ : ∃ r, r = widR n := ⟨_, rfl⟩
    have cw := fun w1 => width_spec n w1
    rw [← hr] at cw
    obtain ⟨h1, h2, h3⟩ := hb_two w hd0 ⟨k, n, r⟩ 25
    simp only [hd0] at h1 h2 h3
    have ck := fun w1 => headok_spec ⟨k, n, r⟩ w1
    have H1 := Lib.hid h1
    have H2 := Lib.hid h2
    have H3 := Lib.hid h3
    have d0 := h2.c0
    have d1 := h2.c1
    have d2 := h2.c2
    simp only at d0 d1 d2
    clear h1 h2 h3
    by_cases hok : hdOk ⟨k, n, r⟩
    · rw [hdFor_yes (by rw [if_pos (by omega)]; exact hr) hok]
      rw [decide_eq_true hok] at ck
      clear hok hr
      go_enter Tryd.func15, Tryd.ntmps15
      go_wp2_with fail
      refine (cw _).mono ?_
      rintro e w' ⟨rfl, rfl⟩
      go_wp2_with fail
      refine (ck _).mono ?_
      rintro e w3 ⟨rfl, hb3⟩
      have G1 := H1.out.below hb3
      have G2 := H2.out.below hb3
      have G3 := Lib.hid (H3.out.trans (hb3.mono (by simp; omega)))
      obtain ⟨a0, a1, a2, af⟩ := G1
      obtain ⟨b0, b1, b2, bf⟩ := G2
      simp only at a0 a1 a2 b0 b1 b2
      clear hb3
      go_wp2
      refine bodyPost_ret (v := .agg #[.int .i64 k, .int .i64 n, .int .i64 r]) (by simp [results, Tryd.results15, go_sem, a0, a1, a2]) rfl ⟨rfl, below_three G3.out (Nat.le_refl _) _ _ _⟩
    · rw [hdFor_no (by rw [if_pos (by omega)]; exact hr) hok]
      rw [decide_eq_false hok] at ck
      clear hok hr
      go_enter Tryd.func15, Tryd.ntmps15
      go_wp2_with fail
      refine (cw _).mono ?_
      rintro e w' ⟨rfl, rfl⟩
      go_wp2_with fail
      refine (ck _).mono ?_
      rintro e w3 ⟨rfl, hb3⟩
      have G1 := H1.out.below hb3
      have G2 := H2.out.below hb3
      have G3 := Lib.hid (H3.out.trans (hb3.mono (by simp; omega)))
      obtain ⟨a0, a1, a2, af⟩ := G1
      obtain ⟨b0, b1, b2, bf⟩ := G2
      simp only at a0 a1 a2 b0 b1 b2
      clear hb3
      go_wp2
      refine bodyPost_ret (v := .agg #[.int .i64 0, .int .i64 0, .int .i64 0]) (by simp [results, Tryd.results15, go_sem, a0, a1, a2]) rfl ⟨rfl, below_three G3.out (Nat.le_refl _) _ _ _⟩
  · skip
    obtain ⟨h1, h2, h3⟩ := hb_two w hd0 ⟨k, n, 0⟩ 25
    simp only [hd0] at h1 h2 h3
    have ck := fun w1 => headok_spec ⟨k, n, 0⟩ w1
    have H1 := Lib.hid h1
    have H2 := Lib.hid h2
    have H3 := Lib.hid h3
    have d0 := h2.c0
    have d1 := h2.c1
    have d2 := h2.c2
    simp only at d0 d1 d2
    clear h1 h2 h3
    by_cases hok : hdOk ⟨k, n, 0⟩
    · rw [hdFor_yes (by rw [if_neg (by omega)]) hok]
      rw [decide_eq_true hok] at ck
      clear hok
      go_enter Tryd.func15, Tryd.ntmps15
      go_wp2_with fail
      refine (ck _).mono ?_
      rintro e w3 ⟨rfl, hb3⟩
      have G1 := H1.out.below hb3
      have G2 := H2.out.below hb3
      have G3 := Lib.hid (H3.out.trans (hb3.mono (by simp; omega)))
      obtain ⟨a0, a1, a2, af⟩ := G1
      obtain ⟨b0, b1, b2, bf⟩ := G2
      simp only at a0 a1 a2 b0 b1 b2
      clear hb3
      go_wp2
      refine bodyPost_ret (v := .agg #[.int .i64 k, .int .i64 n, .int .i64 0]) (by simp [results, Tryd.results15, go_sem, a0, a1, a2]) rfl ⟨rfl, below_three G3.out (Nat.le_refl _) _ _ _⟩
    · rw [hdFor_no (by rw [if_neg (by omega)]) hok]
      rw [decide_eq_false hok] at ck
      clear hok
      go_enter Tryd.func15, Tryd.ntmps15
      go_wp2_with fail
      refine (ck _).mono ?_
      rintro e w3 ⟨rfl, hb3⟩
      have G1 := H1.out.below hb3
      have G2 := H2.out.below hb3
      have G3 := Lib.hid (H3.out.trans (hb3.mono (by simp; omega)))
      obtain ⟨a0, a1, a2, af⟩ := G1
      obtain ⟨b0, b1, b2, bf⟩ := G2
      simp only at a0 a1 a2 b0 b1 b2
      clear hb3
      go_wp2
      refine bodyPost_ret (v := .agg #[.int .i64 0, .int .i64 0, .int .i64 0]) (by simp [results, Tryd.results15, go_sem, a0, a1, a2]) rfl ⟨rfl, below_three G3.out (Nat.le_refl _) _ _ _⟩
end Go.Proofs.YtblaaiggmhadfaaDoor
