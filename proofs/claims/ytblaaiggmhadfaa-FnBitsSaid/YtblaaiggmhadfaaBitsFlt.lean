/- The number of some bits: BitsFlt of both sides. -/
import Derived.Test.YtblaaiggmhadfaaFltBits
namespace Go.Proofs.Ytblaaiggmhadfaa
open Go.RowKit
set_option maxRecDepth 100000
theorem bits_range {n : Int} (h0 : 0 ≤ n) (h1 : n ≤ 33554431) : bitsM n = (if decide (16777216 ≤ n) = true then -(n % 65536) else n % 65536) ∧ bitsE n = n / 65536 % 256 - 16 ∧ 0 ≤ n % 65536 ∧ n % 65536 < 65536 ∧ 0 ≤ n / 65536 % 256 ∧ n / 65536 % 256 < 256 ∧ n.tmod 65536 = n % 65536 ∧ n.tdiv 65536 = n / 65536 ∧ (n / 65536).tmod 256 = n / 65536 % 256 := by
  have e1 : n.tmod 65536 = n % 65536 := Int.tmod_eq_emod_of_nonneg h0
  have e2 : n.tdiv 65536 = n / 65536 := Int.tdiv_eq_ediv_of_nonneg h0
  have e3 : (n / 65536).tmod 256 = n / 65536 % 256 := Int.tmod_eq_emod_of_nonneg (by omega)
  refine ⟨?_, ?_, by omega, by omega, by omega, by omega, e1, e2, e3⟩
  · unfold bitsM
    rw [e1]
    simp [ge_iff_le]
  · unfold bitsE
    rw [e2, e3]
theorem bsgn_any (b : Bool) (v : Int) (w : World) (h : -9223372036854775808 < v) (h2 : v ≤ 9223372036854775807) : Calls Try.prog 36 #[.int .i64 v, .bool b] w fun r w' => r = .returned (.int .i64 (if b = true then -v else v)) ∧ w = w' := by
  cases b
  · go_enter Try.func36, Try.ntmps36
    go_wp2
    go_ret
    exact ⟨rfl, rfl⟩
  · go_enter Try.func36, Try.ntmps36
    go_wp2
    go_ret
    exact ⟨rfl, rfl⟩
set_option maxHeartbeats 1000000 in
theorem bitsflt_impl (n : Int) (w : World) : Calls Try.prog 12 #[.int .i64 n] w (BitsPost n w) := by
  by_cases h0 : n < 0
  · have hp : IsBits n 0 0 false := by unfold IsBits; rw [if_neg (by omega)]; exact ⟨rfl, rfl, rfl⟩
    have HP := Lib.hid hp
    clear hp
    go_enter Try.func12, Try.ntmps12
    go_wp2
    refine bodyPost_ret (v := .tuple #[.agg #[.int .i64 0, .int .i64 0], .bool false]) (by simp [results, Try.results12, go_sem]) rfl ⟨_, _, _, rfl, HP.out, ?_⟩
    exact fbox _ _
  by_cases h1 : 33554432 ≤ n
  · have hp : IsBits n 0 0 false := by unfold IsBits; rw [if_neg (by omega)]; exact ⟨rfl, rfl, rfl⟩
    have HP := Lib.hid hp
    clear hp
    go_enter Try.func12, Try.ntmps12
    go_wp2
    refine bodyPost_ret (v := .tuple #[.agg #[.int .i64 0, .int .i64 0], .bool false]) (by simp [results, Try.results12, go_sem]) rfl ⟨_, _, _, rfl, HP.out, ?_⟩
    exact fbox _ _
  · have HI := Lib.hid (fun M E ok (h : IsFlt (bitsM n) (bitsE n) M E ok) => (by unfold IsBits; rw [if_pos (by omega)]; exact h : IsBits n M E ok))
    obtain ⟨hM, hE, b0, b1, b2, b3, e1, e2, e3⟩ := bits_range (n := n) (by omega) (by omega)
    have hE2 : bitsE n = n / 65536 % 256 + -16 := by omega
    rw [hE2] at HI
    have cf := fun w1 => fltnew_impl (bitsM n) (n / 65536 % 256 + -16) w1 (by rw [hM]; split <;> omega) (by rw [hM]; split <;> omega) (by omega) (by omega)
    have cs := fun w1 => bsgn_any (decide (16777216 ≤ n)) (n % 65536) w1 (by omega) (by omega)
    rw [← hM] at cs
    generalize bitsM n = M0 at *
    clear hM hE hE2
    have n0 : 0 ≤ n := by omega
    have HR := Lib.hid (fbox w (.cells #[.int .i64 0, .int .i64 0] 25))
    go_enter Try.func12, Try.ntmps12
    go_wp2_with fail
    refine (cs _).mono ?_
    rintro e w' ⟨rfl, rfl⟩
    go_wp2_with fail
    refine (cf _).mono ?_
    rintro e w3 ⟨M, E, ok, rfl, hF, hb3⟩
    have HF := Lib.hid (HI.out M E ok hF)
    have HB3 := Lib.hid (HR.out.trans (hb3.mono (by simp)))
    obtain ⟨hcl, hfz⟩ := fcell hb3
    have a0 : w3.cell? ⟨w.heap.size, 0, none⟩ = some (.int .i64 0) := (hcl _ _ (by simp)).trans (by simp [go_sem])
    have a1 : w3.cell? ⟨w.heap.size, 1, none⟩ = some (.int .i64 0) := (hcl _ _ (by simp)).trans (by simp [go_sem])
    have z0 : w3.frozen? ⟨w.heap.size, 0, none⟩ = false := (hfz _ _ (by simp)).trans (by simp [go_sem])
    have z1 : w3.frozen? ⟨w.heap.size, 1, none⟩ = false := (hfz _ _ (by simp)).trans (by simp [go_sem])
    clear hcl hfz hb3 hF cs cf HI
    go_wp2
    refine bodyPost_ret (v := .tuple #[.agg #[.int .i64 M, .int .i64 E], .bool ok]) (by simp [results, Try.results12, go_sem, a0, a1]) rfl ⟨_, _, _, rfl, HF.out, ?_⟩
    exact (HB3.out.setCell (Nat.le_refl _) _).setCell (Nat.le_refl _) _
set_option maxHeartbeats 1000000 in
theorem bitsflt_spec (n : Int) (w : World) : Calls Try.prog 13 #[.int .i64 n] w (BitsPost n w) := by
  have ci := fun w1 => in_any n 0 33554431 w1
  by_cases hi : 0 ≤ n ∧ n ≤ 33554431
  · rw [decide_eq_true hi] at ci
    have HI := Lib.hid (fun M E ok (h : IsFlt (bitsM n) (bitsE n) M E ok) => (by unfold IsBits; rw [if_pos hi]; exact h : IsBits n M E ok))
    obtain ⟨hM, hE, b0, b1, b2, b3, e1, e2, e3⟩ := bits_range (n := n) (by omega) (by omega)
    rw [hE] at HI
    have cf := fun w1 => fltnew_spec (bitsM n) (n / 65536 % 256 - 16) w1 (by rw [hM]; split <;> omega) (by rw [hM]; split <;> omega) (by omega) (by omega)
    have HR := Lib.hid (fbox w (.cells #[.int .i64 0, .int .i64 0] 25))
    obtain ⟨n0, n1⟩ := hi
    by_cases hs : 16777216 ≤ n
    all_goals
      have hM2 := hM
      first | rw [if_pos (decide_eq_true hs)] at hM2 | rw [if_neg (by rw [decide_eq_false hs]; decide)] at hM2
      rw [hM2] at cf HI
      clear hM hM2 hE
      go_enter Try.func13, Try.ntmps13
      go_wp2_with fail
      refine (ci _).mono ?_
      rintro e w' ⟨rfl, rfl⟩
      go_wp2_with fail
      refine (cf _).mono ?_
      rintro e w3 ⟨M, E, ok, rfl, hF, hb3⟩
      have HF := Lib.hid (HI.out M E ok hF)
      have HB3 := Lib.hid (HR.out.trans (hb3.mono (by simp)))
      obtain ⟨hcl, hfz⟩ := fcell hb3
      have a0 : w3.cell? ⟨w.heap.size, 0, none⟩ = some (.int .i64 0) := (hcl _ _ (by simp)).trans (by simp [go_sem])
      have a1 : w3.cell? ⟨w.heap.size, 1, none⟩ = some (.int .i64 0) := (hcl _ _ (by simp)).trans (by simp [go_sem])
      have z0 : w3.frozen? ⟨w.heap.size, 0, none⟩ = false := (hfz _ _ (by simp)).trans (by simp [go_sem])
      have z1 : w3.frozen? ⟨w.heap.size, 1, none⟩ = false := (hfz _ _ (by simp)).trans (by simp [go_sem])
      clear hcl hfz hb3 hF ci cf HI
      go_wp2
      refine bodyPost_ret (v := .tuple #[.agg #[.int .i64 M, .int .i64 E], .bool ok]) (by simp [results, Try.results13, go_sem, a0, a1]) rfl ⟨_, _, _, rfl, HF.out, ?_⟩
      exact (HB3.out.setCell (Nat.le_refl _) _).setCell (Nat.le_refl _) _
  · rw [decide_eq_false hi] at ci
    have hp : IsBits n 0 0 false := by unfold IsBits; rw [if_neg hi]; exact ⟨rfl, rfl, rfl⟩
    have HP := Lib.hid hp
    clear hp hi
    go_enter Try.func13, Try.ntmps13
    go_wp2_with fail
    refine (ci _).mono ?_
    rintro e w' ⟨rfl, rfl⟩
    go_wp2
    refine bodyPost_ret (v := .tuple #[.agg #[.int .i64 0, .int .i64 0], .bool false]) (by simp [results, Try.results13, go_sem]) rfl ⟨_, _, _, rfl, HP.out, ?_⟩
    exact fbox _ _
end Go.Proofs.Ytblaaiggmhadfaa
