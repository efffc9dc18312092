/- Heads: whether one is right (HeadOk of both sides), the one for an argument (HeadFor). -/
import Derived.Test.YtblaaiggmhadfaaDoorBig
import Derived.Test.YtblaaiggmhadfaaDoorWidth
import Derived.Test.YtblaaiggmhadfaaDoorHeadMath
import Derived.Test.YtblaaiggmhadfaaDoorMem
import Derived.Lib.Hide
import Derived.Deep.RegionHeld3
import Derived.Deep.QuietTactic
import Derived.BigQuiet
namespace Go.Proofs.YtblaaiggmhadfaaDoor
open Go.RowKit
set_option maxRecDepth 100000
theorem quiet_eq {P : Program} {f : FuncId} {args : Array Value} {w : World} {n : Nat} {v : Value} (h : Calls P f args (w.drewN n) fun e w' => e = .returned v ∧ w.drewN n = w') : Calls P f args (w.drewN n) fun e w'' => e = .returned v ∧ ∃ m, w'' = w.drewN m :=
  h.mono fun _ _ ⟨he, hm⟩ => ⟨he, n, hm.symm⟩
def mayOpen (k : Int) : Prop := k = 2 ∨ k = 3 ∨ k = 4 ∨ k = 5 ∨ k = 7
instance (k : Int) : Decidable (mayOpen k) := by unfold mayOpen; infer_instance
theorem hd_open {k n : Int} : hdOk ⟨k, n, -1⟩ ↔ ((0 ≤ k ∧ k ≤ 7) ∧ n = 0 ∧ mayOpen k) := by
  constructor
  · intro h
    have := hdOk_cases h
    simp only at this
    unfold mayOpen
    omega
  · intro h
    unfold mayOpen at h
    exact hd_of h.1 (by omega) (by omega)
theorem hd_zero {k n : Int} : hdOk ⟨k, n, 0⟩ ↔ ((0 ≤ k ∧ k ≤ 7) ∧ 0 ≤ n ∧ n ≤ 23) := by
  constructor
  · intro h
    have := hdOk_cases h
    simp only at this
    omega
  · intro h
    exact hd_of h.1 (by omega) (by omega)
theorem hd_wide {k n x : Int} (h0 : x ≠ 0) (h1 : x ≠ -1) : hdOk ⟨k, n, x⟩ ↔ ((0 ≤ k ∧ k ≤ 7) ∧ n ≤ 1000000000000000 ∧ fitB n x) := by
  constructor
  · intro h
    have := hdOk_cases h
    simp only at this
    exact ⟨this.1, this.2.1.2, fit_mk (by omega)⟩
  · intro h
    have := fit_un h.2.2
    exact hd_of h.1 (by omega) (by omega)
theorem hd_major {k n x : Int} (h : ¬ (0 ≤ k ∧ k ≤ 7)) : ¬ hdOk ⟨k, n, x⟩ := fun o => h o.1
/-- a head in block b -/
structure HB (w : World) (b : Nat) (h : Hd) : Prop where
  c0 : w.cell? ⟨b, 0, none⟩ = some (.int .i64 h.k)
  c1 : w.cell? ⟨b, 1, none⟩ = some (.int .i64 h.n)
  c2 : w.cell? ⟨b, 2, none⟩ = some (.int .i64 h.w)
  fz : ∀ o, w.frozen? ⟨b, o, none⟩ = false
theorem HB.lt {w : World} {b : Nat} {h : Hd} (H : HB w b h) : b < w.heap.size := cell_lt H.c0
@[reducible] def Hd.val (h : Hd) : Value := .agg #[.int .i64 h.k, .int .i64 h.n, .int .i64 h.w]
theorem hb_new (w : World) (h : Hd) (t : TypeId) : HB (w.alloc (.cells #[.int .i64 h.k, .int .i64 h.n, .int .i64 h.w] t)) w.heap.size h := by
  refine ⟨by simp [go_sem], by simp [go_sem], by simp [go_sem], fun o => by simp [go_sem]⟩
theorem HB.below {w w' : World} {b : Nat} {h : Hd} (H : HB w b h) (hb : Below w.heap.size w w') : HB w' b h :=
  ⟨by rw [hb.cell (p := ⟨b, 0, none⟩) H.lt]; exact H.c0, by rw [hb.cell (p := ⟨b, 1, none⟩) H.lt]; exact H.c1, by rw [hb.cell (p := ⟨b, 2, none⟩) H.lt]; exact H.c2, fun o => by rw [hb.frozen (p := ⟨b, o, none⟩) H.lt]; exact H.fz o⟩
theorem mayopen_impl {w : World} {b : Nat} {h : Hd} (H : HB w b h) : Calls Tryd.prog 48 #[.pointer (some ⟨b, 0, none⟩)] w fun e w' => e = .returned (.bool (decide (mayOpen h.k))) ∧ w = w' := by
  obtain ⟨k, n, x⟩ := h
  have c0 := H.c0
  simp only at c0 ⊢
  clear H
  by_cases h2 : k = 2
  · subst h2
    go_enter Tryd.func48, Tryd.ntmps48
    go_wp2
    go_ret
    exact ⟨rfl, rfl⟩
  by_cases h3 : k = 3
  · subst h3
    go_enter Tryd.func48, Tryd.ntmps48
    go_wp2
    go_ret
    exact ⟨rfl, rfl⟩
  by_cases h4 : k = 4
  · subst h4
    go_enter Tryd.func48, Tryd.ntmps48
    go_wp2
    go_ret
    exact ⟨rfl, rfl⟩
  by_cases h5 : k = 5
  · subst h5
    go_enter Tryd.func48, Tryd.ntmps48
    go_wp2
    go_ret
    exact ⟨rfl, rfl⟩
  by_cases h7 : k = 7
  · subst h7
    go_enter Tryd.func48, Tryd.ntmps48
    go_wp2
    go_ret
    exact ⟨rfl, rfl⟩
  have e2 : (k == 2) = false := by simpa using h2
  have e3 : (k == 3) = false := by simpa using h3
  have e4 : (k == 4) = false := by simpa using h4
  have e5 : (k == 5) = false := by simpa using h5
  have e7 : (k == 7) = false := by simpa using h7
  rw [show decide (mayOpen k) = false by rw [decide_eq_false_iff_not]; unfold mayOpen; omega]
  clear h2 h3 h4 h5 h7
  go_enter Tryd.func48, Tryd.ntmps48
  go_wp2
  go_ret
  exact ⟨rfl, rfl⟩
theorem ok_impl {w : World} {b : Nat} {h : Hd} (H : HB w b h) (h0 : -9223372036854775808 ≤ h.n) : Calls Tryd.prog 31 #[.pointer (some ⟨b, 0, none⟩)] w fun e w' => e = .returned (.bool (decide (hdOk h))) ∧ Below w.heap.size w w' := by
  have hbr := Below.refl w.heap.size w
  obtain ⟨k, n, x⟩ := h
  have c0 := H.c0
  have c1 := H.c1
  have c2 := H.c2
  have cm := mayopen_impl H
  simp only at c0 c1 c2 cm h0 ⊢
  by_cases hk : 0 ≤ k ∧ k ≤ 7
  · obtain ⟨k0, k7⟩ := hk
    have g0 : ¬ k < 0 := by omega
    have g7 : ¬ 7 < k := by omega
    by_cases x1 : x = -1
    · subst x1
      by_cases hn : n = 0
      · subst hn
        rw [show decide (hdOk ⟨k, 0, -1⟩) = decide (mayOpen k) by rw [decide_eq_decide, hd_open]; simp; omega]
        clear H
        go_enter Tryd.func31, Tryd.ntmps31
        go_wp2_with fail
        refine cm.mono ?_
        rintro e w' ⟨rfl, rfl⟩
        go_wp2
        go_ret
        exact ⟨rfl, hbr⟩
      · rw [show decide (hdOk ⟨k, n, -1⟩) = false by rw [decide_eq_false_iff_not, hd_open]; exact fun h => hn h.2.1]
        have e0 : (n == 0) = false := by simpa using hn
        clear H hn cm
        go_enter Tryd.func31, Tryd.ntmps31
        go_wp2
        go_ret
        exact ⟨rfl, hbr⟩
    · have ex1 : (x == -1) = false := by simpa using x1
      by_cases x0 : x = 0
      · subst x0
        by_cases n0 : 0 ≤ n
        · by_cases n24 : n < 24
          · rw [show decide (hdOk ⟨k, n, 0⟩) = true by rw [decide_eq_true_eq, hd_zero]; omega]
            clear H cm
            go_enter Tryd.func31, Tryd.ntmps31
            go_wp2
            go_ret
            exact ⟨rfl, hbr⟩
          · rw [show decide (hdOk ⟨k, n, 0⟩) = false by rw [decide_eq_false_iff_not, hd_zero]; omega]
            clear H cm
            go_enter Tryd.func31, Tryd.ntmps31
            go_wp2
            go_ret
            exact ⟨rfl, hbr⟩
        · rw [show decide (hdOk ⟨k, n, 0⟩) = false by rw [decide_eq_false_iff_not, hd_zero]; omega]
          clear H cm
          go_enter Tryd.func31, Tryd.ntmps31
          go_wp2
          go_ret
          exact ⟨rfl, hbr⟩
      · have ex0 : (x == 0) = false := by simpa using x0
        by_cases hn : n ≤ 1000000000000000
        · rw [show decide (hdOk ⟨k, n, x⟩) = decide (fitB n x) by rw [decide_eq_decide, hd_wide x0 x1]; simp [k0, k7, hn]]
          clear H cm x0 x1
          go_enter Tryd.func31, Tryd.ntmps31
          go_wp2_with fail
          go_quiet ((exact quiet_eq (fits_any n x _)))
          go_wp2
          go_ret
          exact ⟨rfl, below_drewN hbr _⟩
        · rw [show decide (hdOk ⟨k, n, x⟩) = false by rw [decide_eq_false_iff_not, hd_wide x0 x1]; exact fun h => hn h.2.1]
          have hnb : decide (n ≤ 1000000000000000) = false := decide_eq_false hn
          clear H cm x0 x1 hn
          go_enter Tryd.func31, Tryd.ntmps31
          go_wp2_with fail
          go_quiet (fail)
          go_wp2
          go_ret
          exact ⟨rfl, below_drewN hbr _⟩
  · rw [show decide (hdOk ⟨k, n, x⟩) = false by rw [decide_eq_false_iff_not]; exact hd_major hk]
    by_cases k0 : k < 0
    · clear H cm
      go_enter Tryd.func31, Tryd.ntmps31
      go_wp2
      go_ret
      exact ⟨rfl, hbr⟩
    · have g7 : 7 < k := by omega
      clear H cm
      go_enter Tryd.func31, Tryd.ntmps31
      go_wp2
      go_ret
      exact ⟨rfl, hbr⟩
theorem headok_impl (h : Hd) (w : World) (h0 : -9223372036854775808 ≤ h.n) : Calls Tryd.prog 16 #[h.val] w fun e w' => e = .returned (.bool (decide (hdOk h))) ∧ Below w.heap.size w w' := by
  obtain ⟨k, n, x⟩ := h
  have c := ok_impl (hb_new w ⟨k, n, x⟩ 25) h0
  have hb := below_box w (.cells #[.int .i64 k, .int .i64 n, .int .i64 x] 25)
  go_enter Tryd.func16, Tryd.ntmps16
  go_wp2_with fail
  refine c.mono ?_
  rintro e w' ⟨rfl, hb1⟩
  go_wp2
  go_ret
  exact ⟨rfl, hb.trans (hb1.mono (by simp))⟩
theorem fit_wid_le {n x : Int} (h0 : 0 ≤ n) (hw : widOk x) : fitB n x ↔ widR n ≤ x := by
  have := wid_un hw
  constructor
  · intro h
    have := fit_un h
    rcases widR_cases n with ⟨_, e⟩ | ⟨_, _, e⟩ | ⟨_, _, e⟩ | ⟨_, _, e⟩ | ⟨_, e⟩ <;> rw [e] <;> omega
  · intro h
    refine fit_mk ⟨h0, ?_⟩
    rcases widR_cases n with ⟨_, e⟩ | ⟨_, _, e⟩ | ⟨_, _, e⟩ | ⟨_, _, e⟩ | ⟨_, e⟩ <;> rw [e] at h <;> omega
theorem headok_spec (h : Hd) (w : World) : Calls Tryd.prog 17 #[h.val] w fun e w' => e = .returned (.bool (decide (hdOk h))) ∧ Below w.heap.size w w' := by
  obtain ⟨k, n, x⟩ := h
  have hb := below_box w (.cells #[.int .i64 k, .int .i64 n, .int .i64 x] 25)
  have ck := fun w1 => in_any k 0 7 w1
  have cn := fun w1 => in_any n 0 1000000000000000 w1
  have cw := fun w1 => width_spec n w1
  by_cases hk : 0 ≤ k ∧ k ≤ 7
  · rw [decide_eq_true hk] at ck
    by_cases hn : 0 ≤ n ∧ n ≤ 1000000000000000
    · rw [decide_eq_true hn] at cn
      by_cases x0 : x = 0
      · subst x0
        rw [show decide (hdOk ⟨k, n, 0⟩) = decide (n ≤ 23) by rw [decide_eq_decide, hd_zero]; omega]
        clear hk hn cw
        go_enter Tryd.func17, Tryd.ntmps17
        go_wp2_with fail
        refine (ck _).mono ?_
        rintro e w' ⟨rfl, rfl⟩
        go_wp2_with fail
        refine (cn _).mono ?_
        rintro e w' ⟨rfl, rfl⟩
        go_wp2
        go_ret
        exact ⟨rfl, hb⟩
      · have e0 : (x == 0) = false := by simpa using x0
        by_cases hw : widOk x
        · rw [show decide (hdOk ⟨k, n, x⟩) = decide (widR n ≤ x) by
            rw [decide_eq_decide, hd_wide x0 (by have := wid_un hw; omega), fit_wid_le hn.1 hw]; simp [hk, hn]]
          have hw' := wid_un hw
          generalize widR n = r at *
          clear hk hn x0 hw
          rcases hw' with rfl | rfl | rfl | rfl
          · go_enter Tryd.func17, Tryd.ntmps17
            go_wp2_with fail
            refine (ck _).mono ?_
            rintro e w' ⟨rfl, rfl⟩
            go_wp2_with fail
            refine (cn _).mono ?_
            rintro e w' ⟨rfl, rfl⟩
            go_wp2_with fail
            go_quiet ((exact quiet_eq (cw _)))
            go_wp2
            go_ret
            exact ⟨rfl, below_drewN hb _⟩
          · go_enter Tryd.func17, Tryd.ntmps17
            go_wp2_with fail
            refine (ck _).mono ?_
            rintro e w' ⟨rfl, rfl⟩
            go_wp2_with fail
            refine (cn _).mono ?_
            rintro e w' ⟨rfl, rfl⟩
            go_wp2_with fail
            go_quiet ((exact quiet_eq (cw _)))
            go_wp2
            go_ret
            exact ⟨rfl, below_drewN hb _⟩
          · go_enter Tryd.func17, Tryd.ntmps17
            go_wp2_with fail
            refine (ck _).mono ?_
            rintro e w' ⟨rfl, rfl⟩
            go_wp2_with fail
            refine (cn _).mono ?_
            rintro e w' ⟨rfl, rfl⟩
            go_wp2_with fail
            go_quiet ((exact quiet_eq (cw _)))
            go_wp2
            go_ret
            exact ⟨rfl, below_drewN hb _⟩
          · go_enter Tryd.func17, Tryd.ntmps17
            go_wp2_with fail
            refine (ck _).mono ?_
            rintro e w' ⟨rfl, rfl⟩
            go_wp2_with fail
            refine (cn _).mono ?_
            rintro e w' ⟨rfl, rfl⟩
            go_wp2_with fail
            go_quiet ((exact quiet_eq (cw _)))
            go_wp2
            go_ret
            exact ⟨rfl, below_drewN hb _⟩
        · have e1 : (x == 1) = false := by simp; rintro rfl; exact hw (by decide)
          have e2 : (x == 2) = false := by simp; rintro rfl; exact hw (by decide)
          have e4 : (x == 4) = false := by simp; rintro rfl; exact hw (by decide)
          have e8 : (x == 8) = false := by simp; rintro rfl; exact hw (by decide)
          by_cases x1 : x = -1
          · subst x1
            rw [show decide (hdOk ⟨k, n, -1⟩) = decide (n = 0 ∧ k ≠ 0 ∧ k ≠ 1 ∧ k ≠ 6) by
              rw [decide_eq_decide, hd_open]; unfold mayOpen; omega]
            have kk : ((n == 0) = true ∧ n = 0) ∨ ((n == 0) = false ∧ ¬ n = 0) := by by_cases h : n = 0 <;> simp [h]
            clear hk hn cw hw e0 e1 e2 e4 e8 x0
            rcases kk with ⟨q, rfl⟩ | ⟨q, q2⟩
            · by_cases a0 : k = 0
              · subst a0
                go_enter Tryd.func17, Tryd.ntmps17
                go_wp2_with fail
                refine (ck _).mono ?_
                rintro e w' ⟨rfl, rfl⟩
                go_wp2_with fail
                refine (cn _).mono ?_
                rintro e w' ⟨rfl, rfl⟩
                go_wp2
                go_ret
                exact ⟨rfl, hb⟩
              by_cases a1 : k = 1
              · subst a1
                go_enter Tryd.func17, Tryd.ntmps17
                go_wp2_with fail
                refine (ck _).mono ?_
                rintro e w' ⟨rfl, rfl⟩
                go_wp2_with fail
                refine (cn _).mono ?_
                rintro e w' ⟨rfl, rfl⟩
                go_wp2
                go_ret
                exact ⟨rfl, hb⟩
              by_cases a6 : k = 6
              · subst a6
                go_enter Tryd.func17, Tryd.ntmps17
                go_wp2_with fail
                refine (ck _).mono ?_
                rintro e w' ⟨rfl, rfl⟩
                go_wp2_with fail
                refine (cn _).mono ?_
                rintro e w' ⟨rfl, rfl⟩
                go_wp2
                go_ret
                exact ⟨rfl, hb⟩
              rw [show decide ((0 : Int) = 0 ∧ k ≠ 0 ∧ k ≠ 1 ∧ k ≠ 6) = true by simp [a0, a1, a6]]
              have b0 : (k != 0) = true := by simpa using a0
              have b1 : (k != 1) = true := by simpa using a1
              have b6 : (k != 6) = true := by simpa using a6
              clear a0 a1 a6
              go_enter Tryd.func17, Tryd.ntmps17
              go_wp2_with fail
              refine (ck _).mono ?_
              rintro e w' ⟨rfl, rfl⟩
              go_wp2_with fail
              refine (cn _).mono ?_
              rintro e w' ⟨rfl, rfl⟩
              go_wp2
              go_ret
              exact ⟨rfl, hb⟩
            · rw [show decide (n = 0 ∧ k ≠ 0 ∧ k ≠ 1 ∧ k ≠ 6) = false by simp [q2]]
              clear q2
              go_enter Tryd.func17, Tryd.ntmps17
              go_wp2_with fail
              refine (ck _).mono ?_
              rintro e w' ⟨rfl, rfl⟩
              go_wp2_with fail
              refine (cn _).mono ?_
              rintro e w' ⟨rfl, rfl⟩
              go_wp2
              go_ret
              exact ⟨rfl, hb⟩
          · rw [show decide (hdOk ⟨k, n, x⟩) = false by
              rw [decide_eq_false_iff_not, hd_wide x0 x1]; exact fun h => hw (fit_wid h.2.2)]
            have em : (x == -1) = false := by simpa using x1
            clear hk hn cw hw x0 x1
            go_enter Tryd.func17, Tryd.ntmps17
            go_wp2_with fail
            refine (ck _).mono ?_
            rintro e w' ⟨rfl, rfl⟩
            go_wp2_with fail
            refine (cn _).mono ?_
            rintro e w' ⟨rfl, rfl⟩
            go_wp2
            go_ret
            exact ⟨rfl, hb⟩
    · rw [decide_eq_false hn] at cn
      rw [show decide (hdOk ⟨k, n, x⟩) = false by rw [decide_eq_false_iff_not]; exact fun h => hn h.2.1]
      clear hk hn cw
      go_enter Tryd.func17, Tryd.ntmps17
      go_wp2_with fail
      refine (ck _).mono ?_
      rintro e w' ⟨rfl, rfl⟩
      go_wp2_with fail
      refine (cn _).mono ?_
      rintro e w' ⟨rfl, rfl⟩
      go_wp2
      go_ret
      exact ⟨rfl, hb⟩
  · rw [decide_eq_false hk] at ck
    rw [show decide (hdOk ⟨k, n, x⟩) = false by rw [decide_eq_false_iff_not]; exact fun h => hk h.1]
    clear hk cw cn
    go_enter Tryd.func17, Tryd.ntmps17
    go_wp2_with fail
    refine (ck _).mono ?_
    rintro e w' ⟨rfl, rfl⟩
    go_wp2
    go_ret
    exact ⟨rfl, hb⟩
end Go.Proofs.YtblaaiggmhadfaaDoor
