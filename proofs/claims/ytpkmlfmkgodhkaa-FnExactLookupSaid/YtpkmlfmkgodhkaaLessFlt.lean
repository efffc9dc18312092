/- What LessFlt of the program and of the model returns: whether both are numbers and the one is less. -/
import Derived.Test.YtpkmlfmkgodhkaaFltDecS
import Derived.Test.YtpkmlfmkgodhkaaLess
import Derived.Deep.RegionHeld3
namespace Go.Proofs.Ytpkmlfmkgodhkaa
open Go.RowKit
theorem dec_int (m e : Int) : -9223372036854775808 ≤ decFN m e ∧ decFN m e ≤ 9223372036854775807 := by
  have := (decOk_range (decF_ok m e)).2.2.1
  omega

set_option maxRecDepth 100000 in
set_option maxHeartbeats 2000000 in
theorem lessflt_impl (m e M E : Int) (w : World) (h0 : -9223372036854775808 ≤ m) (h1 : m ≤ 9223372036854775807) (k0 : -9223372036854775808 ≤ e) (k1 : e ≤ 9223372036854775807) (H0 : -9223372036854775808 ≤ M) (H1 : M ≤ 9223372036854775807) (K0 : -9223372036854775808 ≤ E) (K1 : E ≤ 9223372036854775807) :
    Calls Try.prog 129 #[.agg #[.int .i64 m, .int .i64 e], .agg #[.int .i64 M, .int .i64 E]] w fun r w' => r = .returned (.bool (lessF m e M E)) ∧ Below w.heap.size w w' := by
  obtain ⟨W0, hW⟩ : ∃ W0 : World, W0 = (w.alloc (.cells #[.int .i64 m, .int .i64 e] 78)).alloc (.cells #[.int .i64 M, .int .i64 E] 78) := ⟨_, rfl⟩
  have hcells : ∀ W', Below W0.heap.size W0 W' → W'.cell? ⟨w.heap.size, 0, none⟩ = some (.int .i64 m) ∧ W'.cell? ⟨w.heap.size, 1, none⟩ = some (.int .i64 e) ∧ W'.cell? ⟨w.heap.size + 1, 0, none⟩ = some (.int .i64 M) ∧ W'.cell? ⟨w.heap.size + 1, 1, none⟩ = some (.int .i64 E) := fun W' hb => by
    subst hW
    exact ⟨(hb.cell (p := ⟨w.heap.size, 0, none⟩) (by simp; omega)).trans (by simp [go_sem]), (hb.cell (p := ⟨w.heap.size, 1, none⟩) (by simp; omega)).trans (by simp [go_sem]), (hb.cell (p := ⟨w.heap.size + 1, 0, none⟩) (by simp)).trans (by simp [go_sem]), (hb.cell (p := ⟨w.heap.size + 1, 1, none⟩) (by simp)).trans (by simp [go_sem])⟩
  have hend : ∀ W', Below W0.heap.size W0 W' → Below w.heap.size w W' := fun W' hb => by
    subst hW
    exact ((Below.refl _ _).alloc (Nat.le_refl _) _).alloc (by simp) _ |>.trans (hb.mono (by simp; omega))
  have hB := Below.refl W0.heap.size W0
  have hN := Nat.le_refl W0.heap.size
  have ca := relCall (fun W => fltok_impl m e W h0 h1 k0 k1) (N := W0.heap.size) (W0 := W0)
  have cb := relCall (fun W => fltok_impl M E W H0 H1 K0 K1) (N := W0.heap.size) (W0 := W0)
  have hkeep : ∀ W' : World, Below W0.heap.size W0 W' → W0.heap.size ≤ W'.heap.size → Below W0.heap.size W0 W' ∧ W0.heap.size ≤ W'.heap.size ∧ W'.cell? ⟨w.heap.size, 0, none⟩ = some (.int .i64 m) ∧ W'.cell? ⟨w.heap.size, 1, none⟩ = some (.int .i64 e) ∧ W'.cell? ⟨w.heap.size + 1, 0, none⟩ = some (.int .i64 M) ∧ W'.cell? ⟨w.heap.size + 1, 1, none⟩ = some (.int .i64 E) := fun W' hb hn => ⟨hb, hn, hcells W' hb⟩
  cases hv : fltOk m e
  · rw [hv] at ca
    rw [show lessF m e M E = false by unfold lessF; rw [hv]; rfl]
    clear h0 h1 k0 k1 H0 H1 K0 K1 hv
    go_enter Try.func129, Try.ntmps129
    go_wp2_with fail
    rw [← hW]
    clear hW
    obtain ⟨_, _, _, _⟩ := hcells _ hB
    go_region_with ((first | (go_at_call_of 122 (Value.agg #[Value.int IntKind.i64 m, Value.int IntKind.i64 e]); refine (ca _ ?_ ?_).mono ?_; (first | exact Below.drew hB | assumption); (first | exact hN | assumption); rintro r w' ⟨rfl, hb', hN'⟩; obtain ⟨_, _, _, _⟩ := hcells _ hb')))
    all_goals
      go_wp2
      go_ret
      exact ⟨rfl, hend _ (by assumption)⟩
  · rw [hv] at ca
    cases hk : fltOk M E
    · rw [hk] at cb
      rw [show lessF m e M E = false by unfold lessF; rw [hv, hk]; rfl]
      clear h0 h1 k0 k1 H0 H1 K0 K1 hv hk
      go_enter Try.func129, Try.ntmps129
      go_wp2_with fail
      rw [← hW]
      clear hW
      obtain ⟨_, _, _, _⟩ := hcells _ hB
      go_region_with ((first | (go_at_call_of 122 (Value.agg #[Value.int IntKind.i64 m, Value.int IntKind.i64 e]); refine (ca _ ?_ ?_).mono ?_; (first | exact Below.drew hB | assumption); (first | exact hN | assumption); rintro r w' ⟨rfl, hb', hN'⟩; obtain ⟨_, _, _, _⟩ := hcells _ hb') | (go_at_call_of 122 (Value.agg #[Value.int IntKind.i64 M, Value.int IntKind.i64 E]); refine (cb _ ?_ ?_).mono ?_; (first | exact Below.drew hB | assumption); (first | exact hN | assumption); rintro r w' ⟨rfl, hb', hN'⟩; obtain ⟨_, _, _, _⟩ := hcells _ hb')))
      all_goals
        go_wp2
        go_ret
        exact ⟨rfl, hend _ (by assumption)⟩
    · rw [hk] at cb
      rw [show lessF m e M E = lessB (decFN m e) (decFX m e) (decFN M E) (decFX M E) by unfold lessF; rw [hv, hk]; rfl]
      have pa := relCall (fun W => fltdec_impl m e W h0 h1 k0 k1) (N := W0.heap.size) (W0 := W0)
      have pb := relCall (fun W => fltdec_impl M E W H0 H1 K0 K1) (N := W0.heap.size) (W0 := W0)
      have cl := relCall (fun W => less_impl (decFN m e) (decFX m e) (decFN M E) (decFX M E) W (dec_int m e).1 (dec_int m e).2 (dec_int M E).1 (dec_int M E).2) (N := W0.heap.size) (W0 := W0)
      generalize decFN m e = n1 at *
      generalize decFX m e = x1 at *
      generalize decFN M E = n2 at *
      generalize decFX M E = x2 at *
      generalize lessB n1 x1 n2 x2 = L at *
      clear h0 h1 k0 k1 H0 H1 K0 K1 hv hk
      go_enter Try.func129, Try.ntmps129
      go_wp2_with fail
      rw [← hW]
      clear hW
      obtain ⟨_, _, _, _⟩ := hcells _ hB
      go_region_held3 (fun W' => Below W0.heap.size W0 W' ∧ W0.heap.size ≤ W'.heap.size ∧ W'.cell? ⟨w.heap.size, 0, none⟩ = some (.int .i64 m) ∧ W'.cell? ⟨w.heap.size, 1, none⟩ = some (.int .i64 e) ∧ W'.cell? ⟨w.heap.size + 1, 0, none⟩ = some (.int .i64 M) ∧ W'.cell? ⟨w.heap.size + 1, 1, none⟩ = some (.int .i64 E)) (first | (refine hkeep _ ?_ ?_ <;> assumption) | (refine hkeep _ (Below.drew ?_) ?_ <;> assumption)) ((first | (go_at_call_of 122 (Value.agg #[Value.int IntKind.i64 m, Value.int IntKind.i64 e]); go_split_ands; refine (ca _ ?_ ?_).mono ?_; assumption; assumption; rintro r w' ⟨rfl, hb', hN'⟩) | (go_at_call_of 122 (Value.agg #[Value.int IntKind.i64 M, Value.int IntKind.i64 E]); go_split_ands; refine (cb _ ?_ ?_).mono ?_; assumption; assumption; rintro r w' ⟨rfl, hb', hN'⟩) | (go_at_call_of 147 (Value.agg #[Value.int IntKind.i64 m, Value.int IntKind.i64 e]); go_split_ands; refine (pa _ ?_ ?_).mono ?_; assumption; assumption; rintro r w' ⟨rfl, hb', hN'⟩) | (go_at_call_of 147 (Value.agg #[Value.int IntKind.i64 M, Value.int IntKind.i64 E]); go_split_ands; refine (pb _ ?_ ?_).mono ?_; assumption; assumption; rintro r w' ⟨rfl, hb', hN'⟩) | (go_at_call 131; go_split_ands; refine (cl _ ?_ ?_).mono ?_; assumption; assumption; rintro r w' ⟨rfl, hb', hN'⟩)))
      all_goals
        go_split_ands
        go_wp2
        go_ret
        exact ⟨rfl, hend _ (by assumption)⟩
set_option maxRecDepth 100000 in
set_option maxHeartbeats 2000000 in
theorem lessflt_spec (m e M E : Int) (w : World) (h0 : -9223372036854775808 ≤ m) (h1 : m ≤ 9223372036854775807) (k0 : -9223372036854775808 ≤ e) (k1 : e ≤ 9223372036854775807) (H0 : -9223372036854775808 ≤ M) (H1 : M ≤ 9223372036854775807) (K0 : -9223372036854775808 ≤ E) (K1 : E ≤ 9223372036854775807) :
    Calls Try.prog 149 #[.agg #[.int .i64 m, .int .i64 e], .agg #[.int .i64 M, .int .i64 E]] w fun r w' => r = .returned (.bool (lessF m e M E)) ∧ Below w.heap.size w w' := by
  obtain ⟨W0, hW⟩ : ∃ W0 : World, W0 = (w.alloc (.cells #[.int .i64 m, .int .i64 e] 78)).alloc (.cells #[.int .i64 M, .int .i64 E] 78) := ⟨_, rfl⟩
  have hcells : ∀ W', Below W0.heap.size W0 W' → W'.cell? ⟨w.heap.size, 0, none⟩ = some (.int .i64 m) ∧ W'.cell? ⟨w.heap.size, 1, none⟩ = some (.int .i64 e) ∧ W'.cell? ⟨w.heap.size + 1, 0, none⟩ = some (.int .i64 M) ∧ W'.cell? ⟨w.heap.size + 1, 1, none⟩ = some (.int .i64 E) := fun W' hb => by
    subst hW
    exact ⟨(hb.cell (p := ⟨w.heap.size, 0, none⟩) (by simp; omega)).trans (by simp [go_sem]), (hb.cell (p := ⟨w.heap.size, 1, none⟩) (by simp; omega)).trans (by simp [go_sem]), (hb.cell (p := ⟨w.heap.size + 1, 0, none⟩) (by simp)).trans (by simp [go_sem]), (hb.cell (p := ⟨w.heap.size + 1, 1, none⟩) (by simp)).trans (by simp [go_sem])⟩
  have hend : ∀ W', Below W0.heap.size W0 W' → Below w.heap.size w W' := fun W' hb => by
    subst hW
    exact ((Below.refl _ _).alloc (Nat.le_refl _) _).alloc (by simp) _ |>.trans (hb.mono (by simp; omega))
  have hB := Below.refl W0.heap.size W0
  have hN := Nat.le_refl W0.heap.size
  have ca := relCall (fun W => fltok_spec m e W h0 h1 k0 k1) (N := W0.heap.size) (W0 := W0)
  have cb := relCall (fun W => fltok_spec M E W H0 H1 K0 K1) (N := W0.heap.size) (W0 := W0)
  have hkeep : ∀ W' : World, Below W0.heap.size W0 W' → W0.heap.size ≤ W'.heap.size → Below W0.heap.size W0 W' ∧ W0.heap.size ≤ W'.heap.size ∧ W'.cell? ⟨w.heap.size, 0, none⟩ = some (.int .i64 m) ∧ W'.cell? ⟨w.heap.size, 1, none⟩ = some (.int .i64 e) ∧ W'.cell? ⟨w.heap.size + 1, 0, none⟩ = some (.int .i64 M) ∧ W'.cell? ⟨w.heap.size + 1, 1, none⟩ = some (.int .i64 E) := fun W' hb hn => ⟨hb, hn, hcells W' hb⟩
  cases hv : fltOk m e
  · rw [hv] at ca
    rw [show lessF m e M E = false by unfold lessF; rw [hv]; rfl]
    clear h0 h1 k0 k1 H0 H1 K0 K1 hv
    go_enter Try.func149, Try.ntmps149
    go_wp2_with fail
    rw [← hW]
    clear hW
    obtain ⟨_, _, _, _⟩ := hcells _ hB
    go_region_with ((first | (go_at_call_of 81 (Value.agg #[Value.int IntKind.i64 m, Value.int IntKind.i64 e]); refine (ca _ ?_ ?_).mono ?_; (first | exact Below.drew hB | assumption); (first | exact hN | assumption); rintro r w' ⟨rfl, hb', hN'⟩; obtain ⟨_, _, _, _⟩ := hcells _ hb')))
    all_goals
      go_wp2
      go_ret
      exact ⟨rfl, hend _ (by assumption)⟩
  · rw [hv] at ca
    cases hk : fltOk M E
    · rw [hk] at cb
      rw [show lessF m e M E = false by unfold lessF; rw [hv, hk]; rfl]
      clear h0 h1 k0 k1 H0 H1 K0 K1 hv hk
      go_enter Try.func149, Try.ntmps149
      go_wp2_with fail
      rw [← hW]
      clear hW
      obtain ⟨_, _, _, _⟩ := hcells _ hB
      go_region_with ((first | (go_at_call_of 81 (Value.agg #[Value.int IntKind.i64 m, Value.int IntKind.i64 e]); refine (ca _ ?_ ?_).mono ?_; (first | exact Below.drew hB | assumption); (first | exact hN | assumption); rintro r w' ⟨rfl, hb', hN'⟩; obtain ⟨_, _, _, _⟩ := hcells _ hb') | (go_at_call_of 81 (Value.agg #[Value.int IntKind.i64 M, Value.int IntKind.i64 E]); refine (cb _ ?_ ?_).mono ?_; (first | exact Below.drew hB | assumption); (first | exact hN | assumption); rintro r w' ⟨rfl, hb', hN'⟩; obtain ⟨_, _, _, _⟩ := hcells _ hb')))
      all_goals
        go_wp2
        go_ret
        exact ⟨rfl, hend _ (by assumption)⟩
    · rw [hk] at cb
      rw [show lessF m e M E = lessB (decFN m e) (decFX m e) (decFN M E) (decFX M E) by unfold lessF; rw [hv, hk]; rfl]
      have pa := relCall (fun W => fltdec_spec m e W h0 h1 k0 k1) (N := W0.heap.size) (W0 := W0)
      have pb := relCall (fun W => fltdec_spec M E W H0 H1 K0 K1) (N := W0.heap.size) (W0 := W0)
      have cl := relCall (fun W => less_spec (decFN m e) (decFX m e) (decFN M E) (decFX M E) W (dec_int m e).1 (dec_int m e).2 (dec_int M E).1 (dec_int M E).2) (N := W0.heap.size) (W0 := W0)
      generalize decFN m e = n1 at *
      generalize decFX m e = x1 at *
      generalize decFN M E = n2 at *
      generalize decFX M E = x2 at *
      generalize lessB n1 x1 n2 x2 = L at *
      clear h0 h1 k0 k1 H0 H1 K0 K1 hv hk
      go_enter Try.func149, Try.ntmps149
      go_wp2_with fail
      rw [← hW]
      clear hW
      obtain ⟨_, _, _, _⟩ := hcells _ hB
      go_region_held3 (fun W' => Below W0.heap.size W0 W' ∧ W0.heap.size ≤ W'.heap.size ∧ W'.cell? ⟨w.heap.size, 0, none⟩ = some (.int .i64 m) ∧ W'.cell? ⟨w.heap.size, 1, none⟩ = some (.int .i64 e) ∧ W'.cell? ⟨w.heap.size + 1, 0, none⟩ = some (.int .i64 M) ∧ W'.cell? ⟨w.heap.size + 1, 1, none⟩ = some (.int .i64 E)) (first | (refine hkeep _ ?_ ?_ <;> assumption) | (refine hkeep _ (Below.drew ?_) ?_ <;> assumption)) ((first | (go_at_call_of 81 (Value.agg #[Value.int IntKind.i64 m, Value.int IntKind.i64 e]); go_split_ands; refine (ca _ ?_ ?_).mono ?_; assumption; assumption; rintro r w' ⟨rfl, hb', hN'⟩) | (go_at_call_of 81 (Value.agg #[Value.int IntKind.i64 M, Value.int IntKind.i64 E]); go_split_ands; refine (cb _ ?_ ?_).mono ?_; assumption; assumption; rintro r w' ⟨rfl, hb', hN'⟩) | (go_at_call_of 141 (Value.agg #[Value.int IntKind.i64 m, Value.int IntKind.i64 e]); go_split_ands; refine (pa _ ?_ ?_).mono ?_; assumption; assumption; rintro r w' ⟨rfl, hb', hN'⟩) | (go_at_call_of 141 (Value.agg #[Value.int IntKind.i64 M, Value.int IntKind.i64 E]); go_split_ands; refine (pb _ ?_ ?_).mono ?_; assumption; assumption; rintro r w' ⟨rfl, hb', hN'⟩) | (go_at_call 150; go_split_ands; refine (cl _ ?_ ?_).mono ?_; assumption; assumption; rintro r w' ⟨rfl, hb', hN'⟩)))
      all_goals
        go_split_ands
        go_wp2
        go_ret
        exact ⟨rfl, hend _ (by assumption)⟩
end Go.Proofs.Ytpkmlfmkgodhkaa
