/- What FltDec of the program and of the model returns: the same number as a decimal number. -/
import Derived.Test.YtpkmlfmkgodhkaaFltNew
import Derived.Test.YtpkmlfmkgodhkaaDecNew
import Derived.Test.YtpkmlfmkgodhkaaLess
namespace Go.Proofs.Ytpkmlfmkgodhkaa
open Go.RowKit
theorem shl_of {m e : Int} (he : 0 ≤ e) (h2 : e ≤ 64) (h : (m * 2 ^ e.toNat).natAbs < 9223372036854775808) : Op.shift .shl .i64 m .i64 e = pure (.int .i64 (m * 2 ^ e.toNat)) := by
  rw [shift_shl_any _ _ _ _ he, show min e.toNat (IntKind.bits .i64) = e.toNat from Nat.min_eq_left (by show _ ≤ 64; omega), IntWalk.i64_in _ (by omega)]
theorem high_bound {m e : Int} (h : fltOk m e = true) (he : 0 ≤ e) : (m * 2 ^ e.toNat).natAbs < 70368744177664 := by
  have h1 := flt_small h he
  rw [Int.natAbs_mul, Int.natAbs_pow]
  exact h1
theorem high_wrap {m e : Int} (h : fltOk m e = true) (he : 0 ≤ e) : wrap64 (m * 2 ^ e.toNat) = m * 2 ^ e.toNat := by
  have := high_bound h he
  exact IntWalk.wrap64_in _ (by omega)
theorem pow5 {k : Int} (h0 : 0 ≤ k) (h1 : k ≤ 17) : powV 5 k = 5 ^ k.toNat := by unfold powV; rw [if_pos ⟨by decide, h0, h1⟩]
def FDecPost (m e : Int) (w : World) (r : Ending) (w' : World) : Prop := r = .returned (.agg #[.int .i64 (decFN m e), .int .i64 (decFX m e)]) ∧ Below w.heap.size w w'
set_option maxRecDepth 100000 in
set_option maxHeartbeats 2000000 in
theorem fltdec_impl (m e : Int) (w : World) (h0 : -9223372036854775808 ≤ m) (h1 : m ≤ 9223372036854775807) (k0 : -9223372036854775808 ≤ e) (k1 : e ≤ 9223372036854775807) :
    Calls Try.prog 147 #[.agg #[.int .i64 m, .int .i64 e]] w (FDecPost m e w) := by
  obtain ⟨W0, hW⟩ : ∃ W0 : World, W0 = (w.alloc (.cells #[.int .i64 m, .int .i64 e] 78)).alloc (.cells #[.int .i64 0, .int .i64 0] 34) := ⟨_, rfl⟩
  have hcells : ∀ W', Below W0.heap.size W0 W' → W'.cell? ⟨w.heap.size, 0, none⟩ = some (.int .i64 m) ∧ W'.cell? ⟨w.heap.size, 1, none⟩ = some (.int .i64 e) ∧ W'.cell? ⟨w.heap.size + 1, 0, none⟩ = some (.int .i64 0) ∧ W'.cell? ⟨w.heap.size + 1, 1, none⟩ = some (.int .i64 0) ∧ W'.frozen? ⟨w.heap.size + 1, 0, none⟩ = false ∧ W'.frozen? ⟨w.heap.size + 1, 1, none⟩ = false := fun W' hb => by
    subst hW
    exact ⟨(hb.cell (p := ⟨w.heap.size, 0, none⟩) (by simp; omega)).trans (by simp [go_sem]), (hb.cell (p := ⟨w.heap.size, 1, none⟩) (by simp; omega)).trans (by simp [go_sem]), (hb.cell (p := ⟨w.heap.size + 1, 0, none⟩) (by simp)).trans (by simp [go_sem]), (hb.cell (p := ⟨w.heap.size + 1, 1, none⟩) (by simp)).trans (by simp [go_sem]), (hb.frozen (p := ⟨w.heap.size + 1, 0, none⟩) (by simp)).trans (by simp [go_sem]), (hb.frozen (p := ⟨w.heap.size + 1, 1, none⟩) (by simp)).trans (by simp [go_sem])⟩
  have hend : ∀ W', Below W0.heap.size W0 W' → Below w.heap.size w W' := fun W' hb => by
    subst hW
    exact ((Below.refl _ _).alloc (Nat.le_refl _) _).alloc (by simp) _ |>.trans (hb.mono (by simp; omega))
  have hsz : W0.heap.size = w.heap.size + 2 := by subst hW; simp
  have hB := Below.refl W0.heap.size W0
  have hN := Nat.le_refl W0.heap.size
  have cok := relCall (fun W => fltok_impl m e W h0 h1 k0 k1) (N := W0.heap.size) (W0 := W0)
  unfold FDecPost
  cases hv : fltOk m e
  · rw [hv] at cok
    rw [(decF_bad hv).1, (decF_bad hv).2]
    clear h0 h1 k0 k1
    go_enter Try.func147, Try.ntmps147
    go_wp2_with fail
    rw [← hW]
    refine (cok _ hB hN).mono ?_
    rintro r w1 ⟨rfl, hb, hn⟩
    obtain ⟨f0, f1, r0, r1, z0, z1⟩ := hcells _ hb
    go_wp2
    refine bodyPost_ret (v := .agg #[.int .i64 0, .int .i64 0]) (by simp [results, Try.results147, go_sem, r0, r1]) rfl ⟨rfl, ?_⟩
    exact ((hend _ hb).setCell (by simp) _).setCell (by simp) _
  · rw [hv] at cok
    obtain ⟨a0, a1, a2, a3, a4⟩ := fltOk_range hv
    by_cases he : 0 ≤ e
    · have hs := shl_of (m := m) he (by omega) (by have := flt_small hv he; rw [Int.natAbs_mul, Int.natAbs_pow]; exact Nat.lt_trans this (by decide))
      rw [(decF_high hv he).1, (decF_high hv he).2]
      have hw := high_wrap hv he
      clear h0 h1 k0 k1 a3 a4 hv
      go_enter Try.func147, Try.ntmps147
      go_wp2_with fail
      rw [← hW]
      refine (cok _ hB hN).mono ?_
      rintro r w1 ⟨rfl, hb, hn⟩
      obtain ⟨f0, f1, r0, r1, z0, z1⟩ := hcells _ hb
      go_wp2
      refine bodyPost_ret (v := .agg #[.int .i64 (m * 2 ^ e.toNat), .int .i64 0]) (by simp [results, Try.results147, go_sem, r0, r1]) rfl ⟨rfl, ?_⟩
      exact ((hend _ hb).setCell (by simp) _).setCell (by simp) _
    · have hlt := five_le hv (by omega)
      have cp := relCall (fun W => pow_impl 5 (-e) W) (N := W0.heap.size) (W0 := W0)
      rw [pow5 (by omega) (by omega)] at cp
      rw [(decF_low hv (by omega)).1, (decF_low hv (by omega)).2]
      have hmul : IntKind.i64.wrap (m * 5 ^ (-e).toNat) = m * 5 ^ (-e).toNat := by
        have h2 : (m * 5 ^ (-e).toNat).natAbs < 100000000000000000 := by rw [Int.natAbs_mul, Int.natAbs_pow]; exact hlt
        exact IntWalk.i64_in _ (by omega)
      have hp : (5 : Int) ^ (-e).toNat ≤ 152587890625 := by
        have h1 : 5 ^ (-e).toNat ≤ 5 ^ 16 := Nat.pow_le_pow_right (by decide) (by omega)
        have h2 : ((5 ^ (-e).toNat : Nat) : Int) = (5 : Int) ^ (-e).toNat := by rw [Int.natCast_pow]; rfl
        omega
      have hp0 : (0 : Int) < 5 ^ (-e).toNat := Int.pow_pos (by decide)
      generalize (5 : Int) ^ (-e).toNat = v at *
      have hm0 : -65535 ≤ m := by omega
      have hm1 : m ≤ 65535 := by omega
      have he2 : e < 0 := by omega
      have hneg : IntKind.i64.wrap (-e) = -e := IntWalk.i64_in _ (by omega)
      clear h0 h1 k0 k1 a2 a3 a4 hv hlt he
      go_enter Try.func147, Try.ntmps147
      go_wp2_with fail
      rw [← hW]
      refine (cok _ hB hN).mono ?_
      clear hB hN
      rintro r w1 ⟨rfl, hB, hN⟩
      obtain ⟨f0, f1, r0, r1, z0, z1⟩ := hcells _ hB
      go_wp2_with fail
      go_region_with ((first | (go_at_call 167; refine (cp _ (Below.drew hB) hN).mono ?_; rintro r w2 ⟨rfl, hB2, hN2⟩; obtain ⟨f0', f1', r0', r1', z0', z1'⟩ := hcells _ hB2)))
      all_goals
        go_wp2
        refine bodyPost_ret (v := .agg #[.int .i64 (m * v), .int .i64 e]) (by simp [results, Try.results147, go_sem, r0', r1']) rfl ⟨rfl, ?_⟩
        exact ((hend _ hB2).setCell (by simp) _).setCell (by simp) _
end Go.Proofs.Ytpkmlfmkgodhkaa
