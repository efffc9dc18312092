import Derived.Test.YtilgncebhgplaaaDoorG8
import Derived.Test.YtilgncebhgplaaaDoorG3
import Derived.Test.YtilgncebhgplaaaDoorG0
import Derived.Lib.Hide
import Derived.Deep.RegionHeld3
import Derived.Deep.QuietTactic
import Derived.BigQuiet
import Derived.WalkKit
import Derived.Outline
import Derived.ProofKit
import Derived.Laws.AppendOwnNone
import Derived.Test.YtilgncebhgplaaaDoorRows
/- Heads: whether one is right (HeadOk of both sides), the one for an argument (HeadFor). -/
namespace Go.Proofs.YtilgncebhgplaaaDoor
open Go.RowKit
set_option maxRecDepth 100000
theorem quiet_eq {P : Program} {f : FuncId} {args : Array Value} {w : World} {n : Nat} {v : Value} (h : Calls P f args (w.drewN n) fun e w' => e = .returned v ∧ w.drewN n = w') : Calls P f args (w.drewN n) fun e w'' => e = .returned v ∧ ∃ m, w'' = w.drewN m :=
  h.mono fun _ _ ⟨he, hm⟩ => ⟨he, n, hm.symm⟩
def mayOpen (k : Int) : Prop := k = 2 ∨ k = 3 ∨ k = 4 ∨ k = 5 ∨ k = 7
instance (k : Int) : Decidable (mayOpen k) := by unfold mayOpen; infer_instance
theorem hd_open {k n : Int} : hdOk ⟨k, n, -1⟩ ↔ ((0 ≤ k ∧ k ≤ 7) ∧ n = 0 ∧ mayOpen k) := by
  constructor
  · intro h
    have := hdOk_cases h
    simp only at this
    unfold mayOpen
    omega
  · intro h
    unfold mayOpen at h
    exact hd_of h.1 (by omega) (by omega)
theorem hd_zero {k n : Int} : hdOk ⟨k, n, 0⟩ ↔ ((0 ≤ k ∧ k ≤ 7) ∧ 0 ≤ n ∧ n ≤ 23) := by
  constructor
  · intro h
    have := hdOk_cases h
    simp only at this
    omega
  · intro h
    exact hd_of h.1 (by omega) (by omega)
theorem hd_wide {k n x : Int} (h0 : x ≠ 0) (h1 : x ≠ -1) : hdOk ⟨k, n, x⟩ ↔ ((0 ≤ k ∧ k ≤ 7) ∧ n ≤ 1000000000000000 ∧ fitB n x) := by
  constructor
  · intro h
    have := hdOk_cases h
    simp only at this
    exact ⟨this.1, this.2.1.2, fit_mk (by omega)⟩
  · intro h
    have := fit_un h.2.2
    exact hd_of h.1 (by omega) (by omega)
theorem hd_major {k n x : Int} (h : ¬ (0 ≤ k ∧ k ≤ 7)) : ¬ hdOk ⟨k, n, x⟩ := fun o => h o.1
/-- a head in block b -/
structure HB (w : World) (b : Nat) (h : Hd) : Prop where
  c0 : w.cell? ⟨b, 0, none⟩ = some (.int .i64 h.k)
  c1 : w.cell? ⟨b, 1, none⟩ = some (.int .i64 h.n)
  c2 : w.cell? ⟨b, 2, none⟩ = some (.int .i64 h.w)
  fz : ∀ o, w.frozen? ⟨b, o, none⟩ = false
theorem HB.lt {w : World} {b : Nat} {h : Hd} (H : HB w b h) : b < w.heap.size := cell_lt H.c0
@[reducible] def Hd.val (h : Hd) : Value := .agg #[.int .i64 h.k, .int .i64 h.n, .int .i64 h.w]
theorem hb_new (w : World) (h : Hd) (t : TypeId) : HB (w.alloc (.cells #[.int .i64 h.k, .int .i64 h.n, .int .i64 h.w] t)) w.heap.size h := by
  refine ⟨by simp [go_sem], by simp [go_sem], by simp [go_sem], fun o => by simp [go_sem]⟩
theorem HB.below {w w' : World} {b : Nat} {h : Hd} (H : HB w b h) (hb : Below w.heap.size w w') : HB w' b h :=
  ⟨by rw [hb.cell (p := ⟨b, 0, none⟩) H.lt]; exact H.c0, by rw [hb.cell (p := ⟨b, 1, none⟩) H.lt]; exact H.c1, by rw [hb.cell (p := ⟨b, 2, none⟩) H.lt]; exact H.c2, fun o => by rw [hb.frozen (p := ⟨b, o, none⟩) H.lt]; exact H.fz o⟩
theorem mayopen_impl {w : World} {b : Nat} {h : Hd} (H : HB w b h) : Calls Tryd.prog 106 #[.pointer (some ⟨b, 0, none⟩)] w fun e w' => e = .returned (.bool (decide (mayOpen h.k))) ∧ w = w' := by
  obtain ⟨k, n, x⟩ := h
  have c0 := H.c0
  simp only at c0 ⊢
  clear H
  by_cases h2 : k = 2
  · subst h2
    go_enter Tryd.func106, Tryd.ntmps106
    go_wp2
    go_ret
    exact ⟨rfl, rfl⟩
  by_cases h3 : k = 3
  · subst h3
    go_enter Tryd.func106, Tryd.ntmps106
    go_wp2
    go_ret
    exact ⟨rfl, rfl⟩
  by_cases h4 : k = 4
  · subst h4
    go_enter Tryd.func106, Tryd.ntmps106
    go_wp2
    go_ret
    exact ⟨rfl, rfl⟩
  by_cases h5 : k = 5
  · subst h5
    go_enter Tryd.func106, Tryd.ntmps106
    go_wp2
    go_ret
    exact ⟨rfl, rfl⟩
  by_cases h7 : k = 7
  · subst h7
    go_enter Tryd.func106, Tryd.ntmps106
    go_wp2
    go_ret
    exact ⟨rfl, rfl⟩
  have e2 : (k == 2) = false := by simpa using h2
  have e3 : (k == 3) = false := by simpa using h3
  have e4 : (k == 4) = false := by simpa using h4
  have e5 : (k == 5) = false := by simpa using h5
  have e7 : (k == 7) = false := by simpa using h7
  rw [show decide (mayOpen k) = false by rw [decide_eq_false_iff_not]; unfold mayOpen; omega]
  clear h2 h3 h4 h5 h7
  go_enter Tryd.func106, Tryd.ntmps106
  go_wp2
  go_ret
  exact ⟨rfl, rfl⟩
theorem ok_impl {w : World} {b : Nat} {h : Hd} (H : HB w b h) (h0 : -9223372036854775808 ≤ h.n) : Calls Tryd.prog 102 #[.pointer (some ⟨b, 0, none⟩)] w fun e w' => e = .returned (.bool (decide (hdOk h))) ∧ Below w.heap.size w w' := by
  have hbr := Below.refl w.heap.size w
  obtain ⟨k, n, x⟩ := h
  have c0 := H.c0
  have c1 := H.c1
  have c2 := H.c2
  have cm := mayopen_impl H
  simp only at c0 c1 c2 cm h0 ⊢
  by_cases hk : 0 ≤ k ∧ k ≤ 7
  · obtain ⟨k0, k7⟩ := hk
    have g0 : ¬ k < 0 := by omega
    have g7 : ¬ 7 < k := by omega
    by_cases x1 : x = -1
    · subst x1
      by_cases hn : n = 0
      · subst hn
        rw [show decide (hdOk ⟨k, 0, -1⟩) = decide (mayOpen k) by rw [decide_eq_decide, hd_open]; simp; omega]
        clear H
        go_enter Tryd.func102, Tryd.ntmps102
        go_wp2_with fail
        refine cm.mono ?_
        rintro e w' ⟨rfl, rfl⟩
        go_wp2
        go_ret
        exact ⟨rfl, hbr⟩
      · rw [show decide (hdOk ⟨k, n, -1⟩) = false by rw [decide_eq_false_iff_not, hd_open]; exact fun h => hn h.2.1]
        have e0 : (n == 0) = false := by simpa using hn
        clear H hn cm
        go_enter Tryd.func102, Tryd.ntmps102
        go_wp2
        go_ret
        exact ⟨rfl, hbr⟩
    · have ex1 : (x == -1) = false := by simpa using x1
      by_cases x0 : x = 0
      · subst x0
        by_cases n0 : 0 ≤ n
        · by_cases n24 : n < 24
          · rw [show decide (hdOk ⟨k, n, 0⟩) = true by rw [decide_eq_true_eq, hd_zero]; omega]
            clear H cm
            go_enter Tryd.func102, Tryd.ntmps102
            go_wp2
            go_ret
            exact ⟨rfl, hbr⟩
          · rw [show decide (hdOk ⟨k, n, 0⟩) = false by rw [decide_eq_false_iff_not, hd_zero]; omega]
            clear H cm
            go_enter Tryd.func102, Tryd.ntmps102
            go_wp2
            go_ret
            exact ⟨rfl, hbr⟩
        · rw [show decide (hdOk ⟨k, n, 0⟩) = false by rw [decide_eq_false_iff_not, hd_zero]; omega]
          clear H cm
          go_enter Tryd.func102, Tryd.ntmps102
          go_wp2
          go_ret
          exact ⟨rfl, hbr⟩
      · have ex0 : (x == 0) = false := by simpa using x0
        by_cases hn : n ≤ 1000000000000000
        · rw [show decide (hdOk ⟨k, n, x⟩) = decide (fitB n x) by rw [decide_eq_decide, hd_wide x0 x1]; simp [k0, k7, hn]]
          clear H cm x0 x1
          go_enter Tryd.func102, Tryd.ntmps102
          go_wp2_with fail
          go_quiet ((exact quiet_eq (fits_any n x _)))
          go_wp2
          go_ret
          exact ⟨rfl, below_drewN hbr _⟩
        · rw [show decide (hdOk ⟨k, n, x⟩) = false by rw [decide_eq_false_iff_not, hd_wide x0 x1]; exact fun h => hn h.2.1]
          have hnb : decide (n ≤ 1000000000000000) = false := decide_eq_false hn
          clear H cm x0 x1 hn
          go_enter Tryd.func102, Tryd.ntmps102
          go_wp2_with fail
          go_quiet (fail)
          go_wp2
          go_ret
          exact ⟨rfl, below_drewN hbr _⟩
  · rw [show decide (hdOk ⟨k, n, x⟩) = false by rw [decide_eq_false_iff_not]; exact hd_major hk]
    by_cases k0 : k < 0
    · clear H cm
      go_enter Tryd.func102, Tryd.ntmps102
      go_wp2
      go_ret
      exact ⟨rfl, hbr⟩
    · have g7 : 7 < k := by omega
      clear H cm
      go_enter Tryd.func102, Tryd.ntmps102
      go_wp2
      go_ret
      exact ⟨rfl, hbr⟩
theorem fit_wid_le {n x : Int} (h0 : 0 ≤ n) (hw : widOk x) : fitB n x ↔ widR n ≤ x := by
  have := wid_un hw
  constructor
  · intro h
    have := fit_un h
    rcases widR_cases n with ⟨_, e⟩ | ⟨_, _, e⟩ | ⟨_, _, e⟩ | ⟨_, _, e⟩ | ⟨_, e⟩ <;> rw [e] <;> omega
  · intro h
    refine fit_mk ⟨h0, ?_⟩
    rcases widR_cases n with ⟨_, e⟩ | ⟨_, _, e⟩ | ⟨_, _, e⟩ | ⟨_, _, e⟩ | ⟨_, e⟩ <;> rw [e] at h <;> omega
theorem headok_spec (h : Hd) (w : World) : Calls Tryd.prog 64 #[h.val] w fun e w' => e = .returned (.bool (decide (hdOk h))) ∧ Below w.heap.size w w' := by
  obtain ⟨k, n, x⟩ := h
  have hb := below_box w (.cells #[.int .i64 k, .int .i64 n, .int .i64 x] 51)
  have ck := fun w1 => in_any k 0 7 w1
  have cn := fun w1 => in_any n 0 1000000000000000 w1
  have cw := fun w1 => width_spec n w1
  by_cases hk : 0 ≤ k ∧ k ≤ 7
  · rw [decide_eq_true hk] at ck
    by_cases hn : 0 ≤ n ∧ n ≤ 1000000000000000
    · rw [decide_eq_true hn] at cn
      by_cases x0 : x = 0
      · subst x0
        rw [show decide (hdOk ⟨k, n, 0⟩) = decide (n ≤ 23) by rw [decide_eq_decide, hd_zero]; omega]
        clear hk hn cw
        go_enter Tryd.func64, Tryd.ntmps64
        go_wp2_with fail
        refine (ck _).mono ?_
        rintro e w' ⟨rfl, rfl⟩
        go_wp2_with fail
        refine (cn _).mono ?_
        rintro e w' ⟨rfl, rfl⟩
        go_wp2
        go_ret
        exact ⟨rfl, hb⟩
      · have e0 : (x == 0) = false := by simpa using x0
        by_cases hw : widOk x
        · rw [show decide (hdOk ⟨k, n, x⟩) = decide (widR n ≤ x) by
            rw [decide_eq_decide, hd_wide x0 (by have := wid_un hw; omega), fit_wid_le hn.1 hw]; simp [hk, hn]]
          have hw' := wid_un hw
          generalize widR n = r at *
          clear hk hn x0 hw
          rcases hw' with rfl | rfl | rfl | rfl
          · go_enter Tryd.func64, Tryd.ntmps64
            go_wp2_with fail
            refine (ck _).mono ?_
            rintro e w' ⟨rfl, rfl⟩
            go_wp2_with fail
            refine (cn _).mono ?_
            rintro e w' ⟨rfl, rfl⟩
            go_wp2_with fail
            go_quiet ((exact quiet_eq (cw _)))
            go_wp2
            go_ret
            exact ⟨rfl, below_drewN hb _⟩
          · go_enter Tryd.func64, Tryd.ntmps64
            go_wp2_with fail
            refine (ck _).mono ?_
            rintro e w' ⟨rfl, rfl⟩
            go_wp2_with fail
            refine (cn _).mono ?_
            rintro e w' ⟨rfl, rfl⟩
            go_wp2_with fail
            go_quiet ((exact quiet_eq (cw _)))
            go_wp2
            go_ret
            exact ⟨rfl, below_drewN hb _⟩
          · go_enter Tryd.func64, Tryd.ntmps64
            go_wp2_with fail
            refine (ck _).mono ?_
            rintro e w' ⟨rfl, rfl⟩
            go_wp2_with fail
            refine (cn _).mono ?_
            rintro e w' ⟨rfl, rfl⟩
            go_wp2_with fail
            go_quiet ((exact quiet_eq (cw _)))
            go_wp2
            go_ret
            exact ⟨rfl, below_drewN hb _⟩
          · go_enter Tryd.func64, Tryd.ntmps64
            go_wp2_with fail
            refine (ck _).mono ?_
            rintro e w' ⟨rfl, rfl⟩
            go_wp2_with fail
            refine (cn _).mono ?_
            rintro e w' ⟨rfl, rfl⟩
            go_wp2_with fail
            go_quiet ((exact quiet_eq (cw _)))
            go_wp2
            go_ret
            exact ⟨rfl, below_drewN hb _⟩
        · have e1 : (x == 1) = false := by simp; rintro rfl; exact hw (by decide)
          have e2 : (x == 2) = false := by simp; rintro rfl; exact hw (by decide)
          have e4 : (x == 4) = false := by simp; rintro rfl; exact hw (by decide)
          have e8 : (x == 8) = false := by simp; rintro rfl; exact hw (by decide)
          by_cases x1 : x = -1
          · subst x1
            rw [show decide (hdOk ⟨k, n, -1⟩) = decide (n = 0 ∧ k ≠ 0 ∧ k ≠ 1 ∧ k ≠ 6) by
              rw [decide_eq_decide, hd_open]; unfold mayOpen; omega]
            have kk : ((n == 0) = true ∧ n = 0) ∨ ((n == 0) = false ∧ ¬ n = 0) := by by_cases h : n = 0 <;> simp [h]
            clear hk hn cw hw e0 e1 e2 e4 e8 x0
            rcases kk with ⟨q, rfl⟩ | ⟨q, q2⟩
            · by_cases a0 : k = 0
              · subst a0
                go_enter Tryd.func64, Tryd.ntmps64
                go_wp2_with fail
                refine (ck _).mono ?_
                rintro e w' ⟨rfl, rfl⟩
                go_wp2_with fail
                refine (cn _).mono ?_
                rintro e w' ⟨rfl, rfl⟩
                go_wp2
                go_ret
                exact ⟨rfl, hb⟩
              by_cases a1 : k = 1
              · subst a1
                go_enter Tryd.func64, Tryd.ntmps64
                go_wp2_with fail
                refine (ck _).mono ?_
                rintro e w' ⟨rfl, rfl⟩
                go_wp2_with fail
                refine (cn _).mono ?_
                rintro e w' ⟨rfl, rfl⟩
                go_wp2
                go_ret
                exact ⟨rfl, hb⟩
              by_cases a6 : k = 6
              · subst a6
                go_enter Tryd.func64, Tryd.ntmps64
                go_wp2_with fail
                refine (ck _).mono ?_
                rintro e w' ⟨rfl, rfl⟩
                go_wp2_with fail
                refine (cn _).mono ?_
                rintro e w' ⟨rfl, rfl⟩
                go_wp2
                go_ret
                exact ⟨rfl, hb⟩
              rw [show decide ((0 : Int) = 0 ∧ k ≠ 0 ∧ k ≠ 1 ∧ k ≠ 6) = true by simp [a0, a1, a6]]
              have b0 : (k != 0) = true := by simpa using a0
              have b1 : (k != 1) = true := by simpa using a1
              have b6 : (k != 6) = true := by simpa using a6
              clear a0 a1 a6
              go_enter Tryd.func64, Tryd.ntmps64
              go_wp2_with fail
              refine (ck _).mono ?_
              rintro e w' ⟨rfl, rfl⟩
              go_wp2_with fail
              refine (cn _).mono ?_
              rintro e w' ⟨rfl, rfl⟩
              go_wp2
              go_ret
              exact ⟨rfl, hb⟩
            · rw [show decide (n = 0 ∧ k ≠ 0 ∧ k ≠ 1 ∧ k ≠ 6) = false by simp [q2]]
              clear q2
              go_enter Tryd.func64, Tryd.ntmps64
              go_wp2_with fail
              refine (ck _).mono ?_
              rintro e w' ⟨rfl, rfl⟩
              go_wp2_with fail
              refine (cn _).mono ?_
              rintro e w' ⟨rfl, rfl⟩
              go_wp2
              go_ret
              exact ⟨rfl, hb⟩
          · rw [show decide (hdOk ⟨k, n, x⟩) = false by
              rw [decide_eq_false_iff_not, hd_wide x0 x1]; exact fun h => hw (fit_wid h.2.2)]
            have em : (x == -1) = false := by simpa using x1
            clear hk hn cw hw x0 x1
            go_enter Tryd.func64, Tryd.ntmps64
            go_wp2_with fail
            refine (ck _).mono ?_
            rintro e w' ⟨rfl, rfl⟩
            go_wp2_with fail
            refine (cn _).mono ?_
            rintro e w' ⟨rfl, rfl⟩
            go_wp2
            go_ret
            exact ⟨rfl, hb⟩
    · rw [decide_eq_false hn] at cn
      rw [show decide (hdOk ⟨k, n, x⟩) = false by rw [decide_eq_false_iff_not]; exact fun h => hn h.2.1]
      clear hk hn cw
      go_enter Tryd.func64, Tryd.ntmps64
      go_wp2_with fail
      refine (ck _).mono ?_
      rintro e w' ⟨rfl, rfl⟩
      go_wp2_with fail
      refine (cn _).mono ?_
      rintro e w' ⟨rfl, rfl⟩
      go_wp2
      go_ret
      exact ⟨rfl, hb⟩
  · rw [decide_eq_false hk] at ck
    rw [show decide (hdOk ⟨k, n, x⟩) = false by rw [decide_eq_false_iff_not]; exact fun h => hk h.1]
    clear hk cw cn
    go_enter Tryd.func64, Tryd.ntmps64
    go_wp2_with fail
    refine (ck _).mono ?_
    rintro e w' ⟨rfl, rfl⟩
    go_wp2
    go_ret
    exact ⟨rfl, hb⟩
end Go.Proofs.YtilgncebhgplaaaDoor
/- The head for an argument: HeadFor of both sides. -/
namespace Go.Proofs.YtilgncebhgplaaaDoor
open Go.RowKit
set_option maxRecDepth 100000
theorem hdFor_yes {k n x : Int} (hx : x = if n > 23 then widR n else 0) (h : hdOk ⟨k, n, x⟩) : hdFor k n = ⟨k, n, x⟩ := by subst hx; unfold hdFor; rw [if_pos h]
theorem hdFor_no {k n x : Int} (hx : x = if n > 23 then widR n else 0) (h : ¬ hdOk ⟨k, n, x⟩) : hdFor k n = hd0 := by subst hx; unfold hdFor; rw [if_neg h]
theorem hb_two (w : World) (h g : Hd) (t : TypeId) : HB ((w.alloc (.cells #[.int .i64 h.k, .int .i64 h.n, .int .i64 h.w] t)).alloc (.cells #[.int .i64 g.k, .int .i64 g.n, .int .i64 g.w] t)) w.heap.size h ∧ HB ((w.alloc (.cells #[.int .i64 h.k, .int .i64 h.n, .int .i64 h.w] t)).alloc (.cells #[.int .i64 g.k, .int .i64 g.n, .int .i64 g.w] t)) (w.heap.size + 1) g ∧ Below w.heap.size w ((w.alloc (.cells #[.int .i64 h.k, .int .i64 h.n, .int .i64 h.w] t)).alloc (.cells #[.int .i64 g.k, .int .i64 g.n, .int .i64 g.w] t)) :=
  ⟨⟨by simp [go_sem], by simp [go_sem], by simp [go_sem], fun o => by simp [go_sem]⟩, ⟨by simp [go_sem], by simp [go_sem], by simp [go_sem], fun o => by simp [go_sem]⟩, ((Below.refl _ _).alloc (Nat.le_refl _) _).alloc (by simp) _⟩
theorem below_three {N : Nat} {w W : World} {b : Nat} (h : Below N w W) (hb : N ≤ b) (u v x : Value) : Below N w (((W.setCell ⟨b, 0, none⟩ u).setCell ⟨b, 1, none⟩ v).setCell ⟨b, 2, none⟩ x) := ((h.setCell hb u).setCell hb v).setCell hb x
set_option maxHeartbeats 2000000 in
theorem headfor_impl (k n : Int) (w : World) (h0 : -9223372036854775808 ≤ n) : Calls Tryd.prog 96 #[.int .i64 k, .int .i64 n] w fun e w' => e = .returned (hdFor k n).val ∧ Below w.heap.size w w' := by
  by_cases hn : 24 ≤ n
  · obtain ⟨r, hr⟩ : ∃ r, r = widR n := ⟨_, rfl⟩
    have cw := fun w1 => width_impl n w1
    rw [← hr] at cw
    obtain ⟨h1, h2, h3⟩ := hb_two w hd0 ⟨k, n, r⟩ 51
    simp only [hd0] at h1 h2 h3
    have ck := ok_impl h2 h0
    have H1 := Lib.hid h1
    have H2 := Lib.hid h2
    have H3 := Lib.hid h3
    have d0 := h2.c0
    have d1 := h2.c1
    have d2 := h2.c2
    simp only at d0 d1 d2
    clear h1 h2 h3
    by_cases hok : hdOk ⟨k, n, r⟩
    · rw [hdFor_yes (by rw [if_pos (by omega)]; exact hr) hok]
      rw [decide_eq_true hok] at ck
      clear hok hr h0
      go_enter Tryd.func96, Tryd.ntmps96
      go_wp2_with fail
      refine (cw _).mono ?_
      rintro e w' ⟨rfl, rfl⟩
      go_wp2_with fail
      refine ck.mono ?_
      rintro e w3 ⟨rfl, hb3⟩
      have G1 := H1.out.below hb3
      have G2 := H2.out.below hb3
      have G3 := Lib.hid (H3.out.trans (hb3.mono (by simp; omega)))
      obtain ⟨a0, a1, a2, af⟩ := G1
      obtain ⟨b0, b1, b2, bf⟩ := G2
      simp only at a0 a1 a2 b0 b1 b2
      clear hb3
      go_wp2
      refine bodyPost_ret (v := .agg #[.int .i64 k, .int .i64 n, .int .i64 r]) (by simp [results, Tryd.results96, go_sem, a0, a1, a2]) rfl ⟨rfl, below_three G3.out (Nat.le_refl _) _ _ _⟩
    · rw [hdFor_no (by rw [if_pos (by omega)]; exact hr) hok]
      rw [decide_eq_false hok] at ck
      clear hok hr h0
      go_enter Tryd.func96, Tryd.ntmps96
      go_wp2_with fail
      refine (cw _).mono ?_
      rintro e w' ⟨rfl, rfl⟩
      go_wp2_with fail
      refine ck.mono ?_
      rintro e w3 ⟨rfl, hb3⟩
      have G1 := H1.out.below hb3
      have G2 := H2.out.below hb3
      have G3 := Lib.hid (H3.out.trans (hb3.mono (by simp; omega)))
      obtain ⟨a0, a1, a2, af⟩ := G1
      obtain ⟨b0, b1, b2, bf⟩ := G2
      simp only at a0 a1 a2 b0 b1 b2
      clear hb3
      go_wp2
      refine bodyPost_ret (v := .agg #[.int .i64 0, .int .i64 0, .int .i64 0]) (by simp [results, Tryd.results96, go_sem, a0, a1, a2]) rfl ⟨rfl, below_three G3.out (Nat.le_refl _) _ _ _⟩
  · skip
    obtain ⟨h1, h2, h3⟩ := hb_two w hd0 ⟨k, n, 0⟩ 51
    simp only [hd0] at h1 h2 h3
    have ck := ok_impl h2 h0
    have H1 := Lib.hid h1
    have H2 := Lib.hid h2
    have H3 := Lib.hid h3
    have d0 := h2.c0
    have d1 := h2.c1
    have d2 := h2.c2
    simp only at d0 d1 d2
    clear h1 h2 h3
    by_cases hok : hdOk ⟨k, n, 0⟩
    · rw [hdFor_yes (by rw [if_neg (by omega)]) hok]
      rw [decide_eq_true hok] at ck
      clear hok h0
      go_enter Tryd.func96, Tryd.ntmps96
      go_wp2_with fail
      refine ck.mono ?_
      rintro e w3 ⟨rfl, hb3⟩
      have G1 := H1.out.below hb3
      have G2 := H2.out.below hb3
      have G3 := Lib.hid (H3.out.trans (hb3.mono (by simp; omega)))
      obtain ⟨a0, a1, a2, af⟩ := G1
      obtain ⟨b0, b1, b2, bf⟩ := G2
      simp only at a0 a1 a2 b0 b1 b2
      clear hb3
      go_wp2
      refine bodyPost_ret (v := .agg #[.int .i64 k, .int .i64 n, .int .i64 0]) (by simp [results, Tryd.results96, go_sem, a0, a1, a2]) rfl ⟨rfl, below_three G3.out (Nat.le_refl _) _ _ _⟩
    · rw [hdFor_no (by rw [if_neg (by omega)]) hok]
      rw [decide_eq_false hok] at ck
      clear hok h0
      go_enter Tryd.func96, Tryd.ntmps96
      go_wp2_with fail
      refine ck.mono ?_
      rintro e w3 ⟨rfl, hb3⟩
      have G1 := H1.out.below hb3
      have G2 := H2.out.below hb3
      have G3 := Lib.hid (H3.out.trans (hb3.mono (by simp; omega)))
      obtain ⟨a0, a1, a2, af⟩ := G1
      obtain ⟨b0, b1, b2, bf⟩ := G2
      simp only at a0 a1 a2 b0 b1 b2
      clear hb3
      go_wp2
      refine bodyPost_ret (v := .agg #[.int .i64 0, .int .i64 0, .int .i64 0]) (by simp [results, Tryd.results96, go_sem, a0, a1, a2]) rfl ⟨rfl, below_three G3.out (Nat.le_refl _) _ _ _⟩
set_option maxHeartbeats 2000000 in
theorem headfor_spec (k n : Int) (w : World) : Calls Tryd.prog 39 #[.int .i64 k, .int .i64 n] w fun e w' => e = .returned (hdFor k n).val ∧ Below w.heap.size w w' := by
  by_cases hn : 23 < n
  · obtain ⟨r, hr⟩ : ∃ r, r = widR n := ⟨_, rfl⟩
    have cw := fun w1 => width_spec n w1
    rw [← hr] at cw
    obtain ⟨h1, h2, h3⟩ := hb_two w hd0 ⟨k, n, r⟩ 51
    simp only [hd0] at h1 h2 h3
    have ck := fun w1 => headok_spec ⟨k, n, r⟩ w1
    have H1 := Lib.hid h1
    have H2 := Lib.hid h2
    have H3 := Lib.hid h3
    have d0 := h2.c0
    have d1 := h2.c1
    have d2 := h2.c2
    simp only at d0 d1 d2
    clear h1 h2 h3
    by_cases hok : hdOk ⟨k, n, r⟩
    · rw [hdFor_yes (by rw [if_pos (by omega)]; exact hr) hok]
      rw [decide_eq_true hok] at ck
      clear hok hr
      go_enter Tryd.func39, Tryd.ntmps39
      go_wp2_with fail
      refine (cw _).mono ?_
      rintro e w' ⟨rfl, rfl⟩
      go_wp2_with fail
      refine (ck _).mono ?_
      rintro e w3 ⟨rfl, hb3⟩
      have G1 := H1.out.below hb3
      have G2 := H2.out.below hb3
      have G3 := Lib.hid (H3.out.trans (hb3.mono (by simp; omega)))
      obtain ⟨a0, a1, a2, af⟩ := G1
      obtain ⟨b0, b1, b2, bf⟩ := G2
      simp only at a0 a1 a2 b0 b1 b2
      clear hb3
      go_wp2
      refine bodyPost_ret (v := .agg #[.int .i64 k, .int .i64 n, .int .i64 r]) (by simp [results, Tryd.results39, go_sem, a0, a1, a2]) rfl ⟨rfl, below_three G3.out (Nat.le_refl _) _ _ _⟩
    · rw [hdFor_no (by rw [if_pos (by omega)]; exact hr) hok]
      rw [decide_eq_false hok] at ck
      clear hok hr
      go_enter Tryd.func39, Tryd.ntmps39
      go_wp2_with fail
      refine (cw _).mono ?_
      rintro e w' ⟨rfl, rfl⟩
      go_wp2_with fail
      refine (ck _).mono ?_
      rintro e w3 ⟨rfl, hb3⟩
      have G1 := H1.out.below hb3
      have G2 := H2.out.below hb3
      have G3 := Lib.hid (H3.out.trans (hb3.mono (by simp; omega)))
      obtain ⟨a0, a1, a2, af⟩ := G1
      obtain ⟨b0, b1, b2, bf⟩ := G2
      simp only at a0 a1 a2 b0 b1 b2
      clear hb3
      go_wp2
      refine bodyPost_ret (v := .agg #[.int .i64 0, .int .i64 0, .int .i64 0]) (by simp [results, Tryd.results39, go_sem, a0, a1, a2]) rfl ⟨rfl, below_three G3.out (Nat.le_refl _) _ _ _⟩
  · skip
    obtain ⟨h1, h2, h3⟩ := hb_two w hd0 ⟨k, n, 0⟩ 51
    simp only [hd0] at h1 h2 h3
    have ck := fun w1 => headok_spec ⟨k, n, 0⟩ w1
    have H1 := Lib.hid h1
    have H2 := Lib.hid h2
    have H3 := Lib.hid h3
    have d0 := h2.c0
    have d1 := h2.c1
    have d2 := h2.c2
    simp only at d0 d1 d2
    clear h1 h2 h3
    by_cases hok : hdOk ⟨k, n, 0⟩
    · rw [hdFor_yes (by rw [if_neg (by omega)]) hok]
      rw [decide_eq_true hok] at ck
      clear hok
      go_enter Tryd.func39, Tryd.ntmps39
      go_wp2_with fail
      refine (ck _).mono ?_
      rintro e w3 ⟨rfl, hb3⟩
      have G1 := H1.out.below hb3
      have G2 := H2.out.below hb3
      have G3 := Lib.hid (H3.out.trans (hb3.mono (by simp; omega)))
      obtain ⟨a0, a1, a2, af⟩ := G1
      obtain ⟨b0, b1, b2, bf⟩ := G2
      simp only at a0 a1 a2 b0 b1 b2
      clear hb3
      go_wp2
      refine bodyPost_ret (v := .agg #[.int .i64 k, .int .i64 n, .int .i64 0]) (by simp [results, Tryd.results39, go_sem, a0, a1, a2]) rfl ⟨rfl, below_three G3.out (Nat.le_refl _) _ _ _⟩
    · rw [hdFor_no (by rw [if_neg (by omega)]) hok]
      rw [decide_eq_false hok] at ck
      clear hok
      go_enter Tryd.func39, Tryd.ntmps39
      go_wp2_with fail
      refine (ck _).mono ?_
      rintro e w3 ⟨rfl, hb3⟩
      have G1 := H1.out.below hb3
      have G2 := H2.out.below hb3
      have G3 := Lib.hid (H3.out.trans (hb3.mono (by simp; omega)))
      obtain ⟨a0, a1, a2, af⟩ := G1
      obtain ⟨b0, b1, b2, bf⟩ := G2
      simp only at a0 a1 a2 b0 b1 b2
      clear hb3
      go_wp2
      refine bodyPost_ret (v := .agg #[.int .i64 0, .int .i64 0, .int .i64 0]) (by simp [results, Tryd.results39, go_sem, a0, a1, a2]) rfl ⟨rfl, below_three G3.out (Nat.le_refl _) _ _ _⟩
end Go.Proofs.YtilgncebhgplaaaDoor
/- A piece of a slice: what the program's cut hands on. -/
namespace Go.Proofs.YtilgncebhgplaaaDoor
open Go.RowKit
theorem sub_cells {w : World} {b o : Nat} {l : List UInt8} {i k : Nat} (hc : ∀ j u, (bv l)[j]? = some u → w.cell? ⟨b, o + j, none⟩ = some u) (j : Nat) (u : Value) (hu : (bv ((l.drop i).take k))[j]? = some u) : w.cell? ⟨b, o + i + j, none⟩ = some u := by
  rw [Nat.add_assoc]
  refine hc (i + j) u ?_
  simp only [bv, List.map_take, List.map_drop] at hu ⊢
  rw [List.getElem?_take] at hu
  split at hu
  · rw [List.getElem?_drop] at hu; exact hu
  · cases hu
theorem ret_slice {a : Option Addr} {m n : Nat} (h : m = n) : Ending.returned (.slice a m m) = .returned (.slice a n n) := by rw [h]
theorem cut_any (w : World) (b o cap : Nat) (l : List UInt8) (i k : Nat) (hc : ∀ j u, (bv l)[j]? = some u → w.cell? ⟨b, o + j, none⟩ = some u) (hik : i + k ≤ l.length) (hcap : l.length ≤ cap) (hm : cap ≤ maxLen) :
    Calls Tryd.prog 112 #[.slice (some ⟨b, o, none⟩) l.length cap, .int .i64 i, .int .i64 k] w fun e w' => ∃ o', e = .returned (.slice (some ⟨b, o', none⟩) k k) ∧ (∀ j u, (bv ((l.drop i).take k))[j]? = some u → w.cell? ⟨b, o' + j, none⟩ = some u) ∧ w = w' := by
  have HC := Lib.hid hc
  have h1 : (i : Int) + k ≤ cap := by omega
  have h2 : (i : Int) ≤ i + k := by omega
  have h3 : (cap : Int) ≤ 9223372036854775807 := by unfold maxLen at hm; omega
  clear hc
  by_cases hk : k = 0
  · subst hk
    go_enter Tryd.func112, Tryd.ntmps112
    go_wp2
    go_ret
    exact ⟨o, rfl, fun j u hu => by simp [bv] at hu, rfl⟩
  · have hk2 : ¬ i + k = i := by omega
    go_enter Tryd.func112, Tryd.ntmps112
    go_wp2
    go_ret
    exact ⟨o + i, ret_slice (by omega), fun j u hu => sub_cells HC.out j u hu, rfl⟩
end Go.Proofs.YtilgncebhgplaaaDoor
/- Two pieces behind each other in new memory: what the program's joined hands on. -/
namespace Go.Proofs.YtilgncebhgplaaaDoor
open Go.RowKit
theorem joined_any (w : World) (v u : Value) (l m : List UInt8) (hv : Sl w v (bv l)) (hu : Slc w u (bv m)) (hl : l.length ≤ 1099511627776) (hm : m.length ≤ 1099511627776) :
    Calls Tryd.prog 108 #[v, u] w (Fresh w (l ++ m)) := by
  obtain ⟨i0, hi, hz0, hz1, hz2⟩ := info_parts byteInfo'
  obtain ⟨b, o, cap, rfl, hc⟩ := hv
  rw [bv_length] at *
  have hsum : ((l.length : Int) + m.length) = ((l.length + m.length : Nat) : Int) := by omega
  have HS := Lib.hid hsum
  have hlz : (l.length : Int) ≤ 1099511627776 := by omega
  have hmz : (m.length : Int) ≤ 1099511627776 := by omega
  clear hsum
  have cl : ∀ w1, Below w.heap.size w w1 → ∀ j x, (bv l)[j]? = some x → w1.cell? ((⟨b, o, none⟩ : Addr).add j) = some x := by
    intro w1 hb j x hx
    rw [addr_add, hb.cell (p := ⟨b, o + j, none⟩) (cell_lt (hc j x hx))]
    exact hc j x hx
  have CL := Lib.hid cl
  clear cl hc
  rcases hu with ⟨rfl, hu⟩ | ⟨b2, o2, cap2, rfl, hc2⟩
  · obtain rfl : m = [] := by cases m with | nil => rfl | cons x m => simp [bv] at hu
    go_enter Tryd.func108, Tryd.ntmps108
    go_wp2_with (at_make; refine wpList_make_own _ rfl _ _ _ rfl w.heap.size 5 i0 (.int .u8 0) 1 Tryd.underlying33 hi hz0 hz1 _ _ _ l.length rfl rfl (by simp) ?b2 ?b3 ?b4 ?_)
    case b2 => rw [hz2]; omega
    case b3 => unfold maxLen; omega
    case b4 => exact Nat.le_refl _
    intro w1 hown1 hgrow1
    have B1 := Lib.hid (grown_below0 hgrow1 (by simp))
    clear hgrow1
    go_wp2_with (at_builtin; refine wpList_append_own _ rfl _ _ 33 rfl w.heap.size 5 i0 (.int .u8 0) 1 1 Tryd.underlying33 hi hz0 hz1 hz2 rfl (by decide) _ _ _ rfl hown1 ⟨b, o, none⟩ l.length cap (bv l) rfl (by simp) (CL.out _ B1.out) (bv_cell l) ?c3 ?c4 ?c5 ?_)
    case c3 => unfold maxLen; omega
    case c4 => omega
    case c5 => exact B1.out.size
    intro v2 w2 hown2 hgrow2 hnil2
    have hown2 : w2.ownsRow w.heap.size 5 1 v2 l.length (bv l) := by simpa using hown2
    have B2 := Lib.hid (B1.out.trans (grown_belowN hgrow2 B1.out.size (by simp [Value.ownBlock])))
    have HN := Lib.hid hnil2
    clear hgrow2 hnil2 hown1
    go_wp2_with (at_builtin; refine wpList_append_own_none rfl _ _ 33 rfl w.heap.size 5 i0 1 Tryd.underlying33 hi _ _ _ rfl hown2 rfl ?_)
    go_wp2
    go_ret
    refine ⟨_, rfl, HN.out, ?_, B2.out⟩
    rw [List.append_nil]
    exact hown2
  · rw [bv_length] at *
    have HC2 := Lib.hid hc2
    clear hc2
    have C2 := Lib.hid (fun w1 (hb : Below w.heap.size w w1) (j : Nat) (x : Value) (hx : (bv m)[j]? = some x) => (by rw [addr_add, hb.cell (p := ⟨b2, o2 + j, none⟩) (cell_lt (HC2.out j x hx))]; exact HC2.out j x hx : w1.cell? ((⟨b2, o2, none⟩ : Addr).add j) = some x))
    clear HC2
    go_enter Tryd.func108, Tryd.ntmps108
    go_wp2_with (at_make; refine wpList_make_own _ rfl _ _ _ rfl w.heap.size 5 i0 (.int .u8 0) 1 Tryd.underlying33 hi hz0 hz1 _ _ _ (l.length + m.length) rfl rfl HS.out ?b2 ?b3 ?b4 ?_)
    case b2 => rw [hz2]; omega
    case b3 => unfold maxLen; omega
    case b4 => exact Nat.le_refl _
    intro w1 hown1 hgrow1
    have B1 := Lib.hid (grown_below0 hgrow1 (by simp))
    clear hgrow1
    go_wp2_with (at_builtin; refine wpList_append_own _ rfl _ _ 33 rfl w.heap.size 5 i0 (.int .u8 0) 1 1 Tryd.underlying33 hi hz0 hz1 hz2 rfl (by decide) _ _ _ rfl hown1 ⟨b, o, none⟩ l.length cap (bv l) rfl (by simp) (CL.out _ B1.out) (bv_cell l) ?c3 ?c4 ?c5 ?_)
    case c3 => unfold maxLen; omega
    case c4 => omega
    case c5 => exact B1.out.size
    intro v2 w2 hown2 hgrow2 hnil2
    have hown2 : w2.ownsRow w.heap.size 5 1 v2 l.length (bv l) := by simpa using hown2
    have B2 := Lib.hid (B1.out.trans (grown_belowN hgrow2 B1.out.size (by simp [Value.ownBlock])))
    have HN := Lib.hid hnil2
    have HB := Lib.hid (fun k hk => (hown2.lt k hk).1)
    clear hgrow2 hnil2 hown1
    go_wp2_with (at_builtin; refine wpList_append_own _ rfl _ _ 33 rfl w.heap.size 5 i0 (.int .u8 0) 1 1 Tryd.underlying33 hi hz0 hz1 hz2 rfl (by decide) _ _ _ rfl hown2 ⟨b2, o2, none⟩ m.length cap2 (bv m) rfl (by simp) (C2.out _ B2.out) (bv_cell m) ?c3 ?c4 ?c5 ?_)
    case c3 => unfold maxLen; omega
    case c4 => omega
    case c5 => exact B2.out.size
    intro v3 w3 hown3 hgrow3 hnil3
    have B3 := Lib.hid (B2.out.trans (grown_belowN hgrow3 B2.out.size HB.out))
    have HN3 := Lib.hid (show v3 ≠ .slice none 0 0 from fun e => HN.out (by simp [e] at hnil3; simp [hnil3]))
    clear hgrow3 hnil3
    go_wp2
    go_ret
    refine ⟨_, rfl, HN3.out, ?_, B3.out⟩
    rw [List.length_append, bv_append]
    exact hown3
end Go.Proofs.YtilgncebhgplaaaDoor
/- The low byte of an integer. -/
namespace Go.Proofs.YtilgncebhgplaaaDoor
open Go.RowKit
theorem i64_and255 (n : Int) : bits .and .i64 n 255 = n % 256 := by
  have h255 : (BitVec.ofInt 64 255).toNat = 2 ^ 8 - 1 := by decide
  have key : (BitVec.ofInt 64 n &&& BitVec.ofInt 64 255).toNat = (n % ((2 ^ 64 : Nat) : Int)).toNat % 2 ^ 8 := by
    rw [BitVec.toNat_and, BitVec.toNat_ofInt, h255, Nat.and_two_pow_sub_one_eq_mod]
  show IntKind.i64.wrap ((BitVec.ofInt 64 n &&& BitVec.ofInt 64 255).toNat : Nat) = n % 256
  rw [key, IntKind.wrap_i64]
  omega
end Go.Proofs.YtilgncebhgplaaaDoor
