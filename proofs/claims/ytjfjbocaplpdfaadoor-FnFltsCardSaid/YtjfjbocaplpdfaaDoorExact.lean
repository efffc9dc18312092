/- What Exact of the program and of the model returns: whether the nearest floating-point number equals the decimal number. -/
import Derived.Test.YtjfjbocaplpdfaaDoorNearImpl
import Derived.Test.YtjfjbocaplpdfaaDoorFltDec
import Derived.Test.YtjfjbocaplpdfaaDoorDecEq
namespace Go.Proofs.YtjfjbocaplpdfaaDoor
open Go.RowKit
def ExactPost (n x : Int) (w : World) (r : Ending) (w' : World) : Prop := ∃ b : Bool, r = .returned (.bool b) ∧ (∃ (M E : Int) (ok : Bool), IsNear n x M E ok ∧ b = (ok && (decFN M E == n && decFX M E == x))) ∧ Below w.heap.size w w'
theorem isNear_okAll {n x M E : Int} {ok : Bool} (h : IsNear n x M E ok) : fltOk M E = true := by
  rcases h with ⟨_, h⟩ | ⟨_, rfl, rfl, _⟩
  · exact isFlt_okAll h
  · exact fltOk_zero

set_option maxRecDepth 100000 in
set_option maxHeartbeats 2000000 in
theorem exact_impl (n x : Int) (w : World) (h0 : -9223372036854775808 ≤ n) (h1 : n ≤ 9223372036854775807) : Calls Tryd.prog 20 #[.agg #[.int .i64 n, .int .i64 x]] w (ExactPost n x w) := by
  have cn := fun W => near_impl n x W h0 h1
  clear h0 h1
  go_enter Tryd.func20, Tryd.ntmps20
  go_wp2_with fail
  refine (cn _).mono ?_
  clear cn
  rintro r w1 ⟨M, E, ok, rfl, hM, hb1⟩
  have hf := isNear_okAll hM
  have hfin : Hid (∀ b, b = (ok && (decFN M E == n && decFX M E == x)) → ∃ M E ok, IsNear n x M E ok ∧ b = (ok && (decFN M E == n && decFX M E == x))) := Lib.hid fun b hb => ⟨M, E, ok, hM, hb⟩
  clear hM
  have d0 : w1.cell? ⟨w.heap.size, 0, none⟩ = some (.int .i64 n) := (hb1.cell (p := ⟨w.heap.size, 0, none⟩) (by simp)).trans (by simp [go_sem])
  have d1 : w1.cell? ⟨w.heap.size, 1, none⟩ = some (.int .i64 x) := (hb1.cell (p := ⟨w.heap.size, 1, none⟩) (by simp)).trans (by simp [go_sem])
  have hlt : w.heap.size < w1.heap.size := by have := hb1.size; simp at this; omega
  have hBw : Below w.heap.size w w1 := (fbox _ _).trans (hb1.mono (by simp))
  clear hb1
  obtain ⟨W0, hW⟩ : ∃ W0 : World, W0 = w1.alloc (.cells #[.int .i64 M, .int .i64 E] 25) := ⟨_, rfl⟩
  have hcells : ∀ W', Below W0.heap.size W0 W' → W'.cell? ⟨w.heap.size, 0, none⟩ = some (.int .i64 n) ∧ W'.cell? ⟨w.heap.size, 1, none⟩ = some (.int .i64 x) ∧ W'.cell? ⟨w1.heap.size, 0, none⟩ = some (.int .i64 M) ∧ W'.cell? ⟨w1.heap.size, 1, none⟩ = some (.int .i64 E) := fun W' hb => by
    subst hW
    exact ⟨(hb.cell (p := ⟨w.heap.size, 0, none⟩) (by simp; omega)).trans (by rw [World.cell?_alloc_some _ _ _ (by rw [d0]; rfl)]; exact d0), (hb.cell (p := ⟨w.heap.size, 1, none⟩) (by simp; omega)).trans (by rw [World.cell?_alloc_some _ _ _ (by rw [d1]; rfl)]; exact d1), (hb.cell (p := ⟨w1.heap.size, 0, none⟩) (by simp)).trans (by simp [go_sem]), (hb.cell (p := ⟨w1.heap.size, 1, none⟩) (by simp)).trans (by simp [go_sem])⟩
  have hend : ∀ W', Below W0.heap.size W0 W' → Below w.heap.size w W' := fun W' hb => by
    subst hW
    exact hBw.trans ((fbox _ _).trans (hb.mono (by simp)) |>.mono (by omega))
  have hB := Below.refl W0.heap.size W0
  have hN := Nat.le_refl W0.heap.size
  have hkeep : ∀ W' : World, Below W0.heap.size W0 W' → W0.heap.size ≤ W'.heap.size → Below W0.heap.size W0 W' ∧ W0.heap.size ≤ W'.heap.size ∧ W'.cell? ⟨w.heap.size, 0, none⟩ = some (.int .i64 n) ∧ W'.cell? ⟨w.heap.size, 1, none⟩ = some (.int .i64 x) ∧ W'.cell? ⟨w1.heap.size, 0, none⟩ = some (.int .i64 M) ∧ W'.cell? ⟨w1.heap.size, 1, none⟩ = some (.int .i64 E) := fun W' hb hn => ⟨hb, hn, hcells W' hb⟩
  obtain ⟨u0, u1, u2, _, _⟩ := fltOk_range hf
  have cd := relCall (fun W => fltdec_impl M E W (by omega) (by omega) (by omega) (by omega)) (N := W0.heap.size) (W0 := W0)
  have hg := fun x y xs ys w => run_eqGuard_agg (P := Tryd.prog) w .eql 28 x y xs ys (by kernel_rfl)
  have hq := fun w => dec_eql (decFN M E) (decFX M E) n x w
  clear hf u0 u1 u2 hlt hBw d0 d1
  obtain ⟨c, hc⟩ : ∃ c, (decFN M E == n && decFX M E == x) = c := ⟨_, rfl⟩
  rw [hc] at hq hfin
  clear hc
  generalize decFN M E = n1 at *
  generalize decFX M E = x1 at *
  go_wp2_with fail
  rw [← hW]
  clear hW
  obtain ⟨_, _, _, _⟩ := hcells _ hB
  cases ok
  · go_region_with ((first | fail))
    all_goals
      go_wp2
      go_ret
      exact ⟨false, rfl, hfin.out false rfl, hend _ (Below.drew hB)⟩
  · go_region_held3 (fun W' => Below W0.heap.size W0 W' ∧ W0.heap.size ≤ W'.heap.size ∧ W'.cell? ⟨w.heap.size, 0, none⟩ = some (.int .i64 n) ∧ W'.cell? ⟨w.heap.size, 1, none⟩ = some (.int .i64 x) ∧ W'.cell? ⟨w1.heap.size, 0, none⟩ = some (.int .i64 M) ∧ W'.cell? ⟨w1.heap.size, 1, none⟩ = some (.int .i64 E)) (first | (refine hkeep _ ?_ ?_ <;> assumption) | (refine hkeep _ (Below.drew ?_) ?_ <;> assumption)) ((first | (go_at_call 7; go_split_ands; refine (cd _ ?_ ?_).mono ?_; assumption; assumption; rintro r w' ⟨rfl, hb', hN'⟩)))
    all_goals
      go_split_ands
      go_wp2
      go_ret
      exact ⟨c, rfl, hfin.out c rfl, hend _ (by assumption)⟩

end Go.Proofs.YtjfjbocaplpdfaaDoor
