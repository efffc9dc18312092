import Derived.Test.YtilgncebhgplaaaG5
import Derived.Test.YtilgncebhgplaaaG0
import Derived.IntWalk
import Derived.Deep.RegionHeld3
/- What LessDec of the program and of the model returns: whether both are numbers and the one is less. -/
namespace Go.Proofs.Ytilgncebhgplaaa
open Go.RowKit
theorem pow_split {x : Int} (h0 : -16 ≤ x) (h1 : x ≤ 0) : (10 : Int) ^ (-x).toNat * 10 ^ (16 + x).toNat = 10000000000000000 := by
  rw [← Int.pow_add, show (-x).toNat + (16 + x).toNat = 16 by omega]; rfl
theorem lo_bound {n q r : Int} (hq : 0 < q) (hr : 0 < r) (h : q * r = 10000000000000000) : -10000000000000000 ≤ n.tmod q * r ∧ n.tmod q * r ≤ 10000000000000000 := by
  have h1 : n.tmod q < q := Int.tmod_lt_of_pos _ hq
  have h2 : -q < n.tmod q := by
    have := Int.tmod_lt_of_pos (-n) hq
    rw [Int.neg_tmod] at this; omega
  have h3 : n.tmod q * r ≤ q * r := Int.mul_le_mul_of_nonneg_right (by omega) (by omega)
  have h4 : (-q) * r ≤ n.tmod q * r := Int.mul_le_mul_of_nonneg_right (by omega) (by omega)
  rw [Int.neg_mul] at h4
  omega
theorem hi_bound {n q : Int} (h : n.natAbs < 100000000000000000) : -100000000000000000 ≤ n.tdiv q ∧ n.tdiv q ≤ 100000000000000000 := by
  have h1 : (n.tdiv q).natAbs ≤ n.natAbs := by rw [Int.natAbs_tdiv]; exact Nat.div_le_self _ _
  omega
set_option maxRecDepth 100000 in
theorem parts_impl (n x : Int) (w : World) (hv : decOk n x = true) : Calls Try.prog 55 #[.agg #[.int .i64 n, .int .i64 x]] w fun e w' => e = .returned (.tuple #[.int .i64 (hiV n x), .int .i64 (loV n x)]) ∧ Below w.heap.size w w' := by
  obtain ⟨r0, r1, r2, _, _⟩ := decOk_range hv
  have hs := pow_split r0 r1
  have cp := relCall (fun W => pow_impl 10 (-x) W) (N := (w.alloc (.cells #[.int .i64 n, .int .i64 x] 60)).heap.size) (W0 := w.alloc (.cells #[.int .i64 n, .int .i64 x] 60))
  have cr := relCall (fun W => pow_impl 10 (16 + x) W) (N := (w.alloc (.cells #[.int .i64 n, .int .i64 x] 60)).heap.size) (W0 := w.alloc (.cells #[.int .i64 n, .int .i64 x] 60))
  unfold hiV loV
  rw [show powV 10 (-x) = 10 ^ (-x).toNat from by unfold powV; rw [if_pos ⟨by decide, by omega, by omega⟩]] at cp
  rw [show powV 10 (16 + x) = 10 ^ (16 + x).toNat from by unfold powV; rw [if_pos ⟨by decide, by omega, by omega⟩]] at cr
  have hq : (0 : Int) < 10 ^ (-x).toNat := Int.pow_pos (by decide)
  have hr : (0 : Int) < 10 ^ (16 + x).toNat := Int.pow_pos (by decide)
  generalize (10 : Int) ^ (-x).toNat = q at *
  generalize (10 : Int) ^ (16 + x).toNat = r at *
  have hb := lo_bound (n := n) hq hr hs
  have hh := hi_bound (q := q) r2
  have w1 : IntKind.i64.wrap (16 + x) = 16 + x := IntWalk.i64_in _ (by omega)
  have w2 : IntKind.i64.wrap (n.tdiv q) = n.tdiv q := IntWalk.i64_in _ (by omega)
  have w3 : IntKind.i64.wrap (n.tmod q * r) = n.tmod q * r := IntWalk.i64_in _ (by omega)
  have q0 : (q == 0) = false := by simp; omega
  have q1 : q ≠ 0 := by omega
  have hkeep : ∀ W' : World, Below (w.alloc (.cells #[.int .i64 n, .int .i64 x] 60)).heap.size (w.alloc (.cells #[.int .i64 n, .int .i64 x] 60)) W' → (w.alloc (.cells #[.int .i64 n, .int .i64 x] 60)).heap.size ≤ W'.heap.size →
      Below (w.alloc (.cells #[.int .i64 n, .int .i64 x] 60)).heap.size (w.alloc (.cells #[.int .i64 n, .int .i64 x] 60)) W' ∧ (w.alloc (.cells #[.int .i64 n, .int .i64 x] 60)).heap.size ≤ W'.heap.size ∧ W'.cell? ⟨w.heap.size, 0, none⟩ = some (.int .i64 n) ∧ W'.cell? ⟨w.heap.size, 1, none⟩ = some (.int .i64 x) := fun W' hb hN =>
    ⟨hb, hN, (hb.cell (p := ⟨w.heap.size, 0, none⟩) (by simp)).trans (by simp [go_sem]), (hb.cell (p := ⟨w.heap.size, 1, none⟩) (by simp)).trans (by simp [go_sem])⟩
  clear hs hb hh hv hr hq r2
  go_enter Try.func55, Try.ntmps55
  go_wp2_with (go_at_call 61; refine (cp _ (Below.refl _ _) (Nat.le_refl _)).mono ?_; rintro e w' ⟨rfl, hb, hN⟩; obtain ⟨_, _, _, _⟩ := hkeep _ hb hN)
  go_region_held3 (fun W' => Below (w.alloc (.cells #[.int .i64 n, .int .i64 x] 60)).heap.size (w.alloc (.cells #[.int .i64 n, .int .i64 x] 60)) W' ∧ (w.alloc (.cells #[.int .i64 n, .int .i64 x] 60)).heap.size ≤ W'.heap.size ∧ W'.cell? ⟨w.heap.size, 0, none⟩ = some (.int .i64 n) ∧ W'.cell? ⟨w.heap.size, 1, none⟩ = some (.int .i64 x)) (first | (refine hkeep _ ?_ ?_ <;> assumption) | (refine hkeep _ (Below.drew ?_) ?_ <;> assumption)) ((first | (go_at_call 61; go_split_ands; refine (cr _ ?_ ?_).mono ?_; assumption; assumption; rintro e w' ⟨rfl, hb', hN'⟩)))
  all_goals
    go_wp2
    go_ret2
    exact ⟨rfl, (below_box _ _).trans ((by assumption : Below (w.alloc _).heap.size (w.alloc _) _).mono (by simp))⟩
set_option maxRecDepth 100000 in
theorem parts_spec (n x : Int) (w : World) (hv : decOk n x = true) : Calls Try.prog 59 #[.agg #[.int .i64 n, .int .i64 x]] w fun e w' => e = .returned (.tuple #[.int .i64 (hiV n x), .int .i64 (loV n x)]) ∧ Below w.heap.size w w' := by
  obtain ⟨r0, r1, r2, _, _⟩ := decOk_range hv
  have hs := pow_split r0 r1
  have cp := fun W => pow_spec 10 (-x) W
  have cr := fun W => pow_spec 10 (16 + x) W
  unfold hiV loV
  rw [show powV 10 (-x) = 10 ^ (-x).toNat from by unfold powV; rw [if_pos ⟨by decide, by omega, by omega⟩]] at cp
  rw [show powV 10 (16 + x) = 10 ^ (16 + x).toNat from by unfold powV; rw [if_pos ⟨by decide, by omega, by omega⟩]] at cr
  have hq : (0 : Int) < 10 ^ (-x).toNat := Int.pow_pos (by decide)
  have hr : (0 : Int) < 10 ^ (16 + x).toNat := Int.pow_pos (by decide)
  generalize (10 : Int) ^ (-x).toNat = q at *
  generalize (10 : Int) ^ (16 + x).toNat = r at *
  have hb := lo_bound (n := n) hq hr hs
  have hh := hi_bound (q := q) r2
  have w1 : IntKind.i64.wrap (16 + x) = 16 + x := IntWalk.i64_in _ (by omega)
  have w2 : IntKind.i64.wrap (n.tdiv q) = n.tdiv q := IntWalk.i64_in _ (by omega)
  have w3 : IntKind.i64.wrap (n.tmod q * r) = n.tmod q * r := IntWalk.i64_in _ (by omega)
  have q0 : (q == 0) = false := by simp; omega
  have q1 : q ≠ 0 := by omega
  clear hs hb hh hv hr hq r2
  go_enter Try.func59, Try.ntmps59
  go_wp2_with (go_at_call 63; refine (cp _).mono ?_; rintro e w' ⟨rfl, rfl⟩)
  have k0 : (w.alloc (.cells #[.int .i64 n, .int .i64 x] 60)).cell? ⟨w.heap.size, 0, none⟩ = some (.int .i64 n) := by simp [go_sem]
  have k1 : (w.alloc (.cells #[.int .i64 n, .int .i64 x] 60)).cell? ⟨w.heap.size, 1, none⟩ = some (.int .i64 x) := by simp [go_sem]
  have hB := below_box w (.cells #[.int .i64 n, .int .i64 x] 60)
  generalize w.alloc (.cells #[.int .i64 n, .int .i64 x] 60) = W0 at *
  go_region_held3 (fun W' => Below w.heap.size w W' ∧ W'.cell? ⟨w.heap.size, 0, none⟩ = some (.int .i64 n) ∧ W'.cell? ⟨w.heap.size, 1, none⟩ = some (.int .i64 x)) (first | (refine ⟨?_, ?_, ?_⟩ <;> assumption) | (refine ⟨Below.drew ?_, ?_, ?_⟩ <;> assumption)) ((first | (go_at_call 63; refine (cr _).mono ?_; rintro e w' ⟨rfl, rfl⟩)))
  all_goals
    go_wp2
    go_ret2
    go_split_ands
    exact ⟨rfl, by assumption⟩
theorem less_bad {n x N X : Int} (h : decOk n x = false ∨ decOk N X = false) : lessB n x N X = false := by
  unfold lessB
  rcases h with h | h <;> simp [h]
theorem less_good {n x N X : Int} (h : decOk n x = true) (k : decOk N X = true) : lessB n x N X = (decide (hiV n x < hiV N X) || (hiV n x == hiV N X && decide (loV n x < loV N X))) := by
  unfold lessB; rw [h, k]; rfl
set_option maxRecDepth 100000 in
set_option maxHeartbeats 1000000 in
theorem less_impl (n x N X : Int) (w : World) (h0 : -9223372036854775808 ≤ n) (h1 : n ≤ 9223372036854775807) (H0 : -9223372036854775808 ≤ N) (H1 : N ≤ 9223372036854775807) :
    Calls Try.prog 43 #[.agg #[.int .i64 n, .int .i64 x], .agg #[.int .i64 N, .int .i64 X]] w fun e w' => e = .returned (.bool (lessB n x N X)) ∧ Below w.heap.size w w' := by
  have hW : ∃ W0 : World, W0 = (w.alloc (.cells #[.int .i64 n, .int .i64 x] 60)).alloc (.cells #[.int .i64 N, .int .i64 X] 60) := ⟨_, rfl⟩
  obtain ⟨W0, hW⟩ := hW
  have hcells : ∀ W', Below W0.heap.size W0 W' → W'.cell? ⟨w.heap.size, 0, none⟩ = some (.int .i64 n) ∧ W'.cell? ⟨w.heap.size, 1, none⟩ = some (.int .i64 x) ∧ W'.cell? ⟨w.heap.size + 1, 0, none⟩ = some (.int .i64 N) ∧ W'.cell? ⟨w.heap.size + 1, 1, none⟩ = some (.int .i64 X) := fun W' hb => by
    subst hW
    exact ⟨(hb.cell (p := ⟨w.heap.size, 0, none⟩) (by simp; omega)).trans (by simp [go_sem]), (hb.cell (p := ⟨w.heap.size, 1, none⟩) (by simp; omega)).trans (by simp [go_sem]), (hb.cell (p := ⟨w.heap.size + 1, 0, none⟩) (by simp)).trans (by simp [go_sem]), (hb.cell (p := ⟨w.heap.size + 1, 1, none⟩) (by simp)).trans (by simp [go_sem])⟩
  have hend : ∀ W', Below W0.heap.size W0 W' → Below w.heap.size w W' := fun W' hb => by
    subst hW
    exact ((Below.refl _ _).alloc (Nat.le_refl _) _).alloc (by simp) _ |>.trans (hb.mono (by simp; omega))
  have ca := relCall (fun W => decok_impl n x W h0 h1) (N := W0.heap.size) (W0 := W0)
  have cb := relCall (fun W => decok_impl N X W H0 H1) (N := W0.heap.size) (W0 := W0)
  have hB := Below.refl W0.heap.size W0
  have hN := Nat.le_refl W0.heap.size
  cases hv : decOk n x
  · rw [hv] at ca
    rw [less_bad (.inl hv)]
    go_enter Try.func43, Try.ntmps43
    go_wp2_with fail
    rw [← hW]
    refine (ca _ hB hN).mono ?_
    rintro e w' ⟨rfl, hB', hN'⟩
    go_wp2
    go_ret
    exact ⟨rfl, hend _ hB'⟩
  · rw [hv] at ca
    cases hk : decOk N X
    · rw [hk] at cb
      rw [less_bad (.inr hk)]
      go_enter Try.func43, Try.ntmps43
      go_wp2_with fail
      rw [← hW]
      refine (ca _ hB hN).mono ?_
      rintro e w' ⟨rfl, hB', hN'⟩
      obtain ⟨_, _, _, _⟩ := hcells _ hB'
      go_wp2_with fail
      refine (cb _ hB' hN').mono ?_
      rintro e w' ⟨rfl, hB', hN'⟩
      go_wp2
      go_ret
      exact ⟨rfl, hend _ hB'⟩
    · rw [hk] at cb
      rw [less_good hv hk]
      have pa := relCall (fun W => parts_impl n x W hv) (N := W0.heap.size) (W0 := W0)
      have pb := relCall (fun W => parts_impl N X W hk) (N := W0.heap.size) (W0 := W0)
      generalize hiV n x = p1 at *
      generalize hiV N X = p2 at *
      generalize loV n x = l1 at *
      generalize loV N X = l2 at *
      clear h0 h1 H0 H1 hv hk
      by_cases hp : p1 = p2
      · subst hp
        have he : (decide (p1 < p1) || (p1 == p1 && decide (l1 < l2))) = decide (l1 < l2) := by simp
        rw [he]
        clear he
        go_enter Try.func43, Try.ntmps43
        go_wp2_with fail
        rw [← hW]
        refine (ca _ hB hN).mono ?_
        clear hB hN
        rintro e w' ⟨rfl, hB, hN⟩
        obtain ⟨_, _, _, _⟩ := hcells _ hB
        go_wp2_with fail
        refine (cb _ hB hN).mono ?_
        clear hB hN
        rintro e w' ⟨rfl, hB, hN⟩
        obtain ⟨_, _, _, _⟩ := hcells _ hB
        go_wp2_with fail
        refine (pa _ hB hN).mono ?_
        clear hB hN
        rintro e w' ⟨rfl, hB, hN⟩
        obtain ⟨_, _, _, _⟩ := hcells _ hB
        go_wp2_with fail
        refine (pb _ hB hN).mono ?_
        clear hB hN
        rintro e w' ⟨rfl, hB, hN⟩
        go_wp2
        go_ret
        exact ⟨rfl, hend _ hB⟩
      · have he : (decide (p1 < p2) || (p1 == p2 && decide (l1 < l2))) = decide (p1 < p2) := by simp [hp]
        have hpn : (p1 != p2) = true := by simpa using hp
        rw [he]
        clear he
        go_enter Try.func43, Try.ntmps43
        go_wp2_with fail
        rw [← hW]
        refine (ca _ hB hN).mono ?_
        clear hB hN
        rintro e w' ⟨rfl, hB, hN⟩
        obtain ⟨_, _, _, _⟩ := hcells _ hB
        go_wp2_with fail
        refine (cb _ hB hN).mono ?_
        clear hB hN
        rintro e w' ⟨rfl, hB, hN⟩
        obtain ⟨_, _, _, _⟩ := hcells _ hB
        go_wp2_with fail
        refine (pa _ hB hN).mono ?_
        clear hB hN
        rintro e w' ⟨rfl, hB, hN⟩
        obtain ⟨_, _, _, _⟩ := hcells _ hB
        go_wp2_with fail
        refine (pb _ hB hN).mono ?_
        clear hB hN
        rintro e w' ⟨rfl, hB, hN⟩
        go_wp2
        go_ret
        exact ⟨rfl, hend _ hB⟩
set_option maxRecDepth 100000 in
set_option maxHeartbeats 1000000 in
theorem less_spec (n x N X : Int) (w : World) (h0 : -9223372036854775808 ≤ n) (h1 : n ≤ 9223372036854775807) (H0 : -9223372036854775808 ≤ N) (H1 : N ≤ 9223372036854775807) :
    Calls Try.prog 48 #[.agg #[.int .i64 n, .int .i64 x], .agg #[.int .i64 N, .int .i64 X]] w fun e w' => e = .returned (.bool (lessB n x N X)) ∧ Below w.heap.size w w' := by
  have hW : ∃ W0 : World, W0 = (w.alloc (.cells #[.int .i64 n, .int .i64 x] 60)).alloc (.cells #[.int .i64 N, .int .i64 X] 60) := ⟨_, rfl⟩
  obtain ⟨W0, hW⟩ := hW
  have hcells : ∀ W', Below W0.heap.size W0 W' → W'.cell? ⟨w.heap.size, 0, none⟩ = some (.int .i64 n) ∧ W'.cell? ⟨w.heap.size, 1, none⟩ = some (.int .i64 x) ∧ W'.cell? ⟨w.heap.size + 1, 0, none⟩ = some (.int .i64 N) ∧ W'.cell? ⟨w.heap.size + 1, 1, none⟩ = some (.int .i64 X) := fun W' hb => by
    subst hW
    exact ⟨(hb.cell (p := ⟨w.heap.size, 0, none⟩) (by simp; omega)).trans (by simp [go_sem]), (hb.cell (p := ⟨w.heap.size, 1, none⟩) (by simp; omega)).trans (by simp [go_sem]), (hb.cell (p := ⟨w.heap.size + 1, 0, none⟩) (by simp)).trans (by simp [go_sem]), (hb.cell (p := ⟨w.heap.size + 1, 1, none⟩) (by simp)).trans (by simp [go_sem])⟩
  have hend : ∀ W', Below W0.heap.size W0 W' → Below w.heap.size w W' := fun W' hb => by
    subst hW
    exact ((Below.refl _ _).alloc (Nat.le_refl _) _).alloc (by simp) _ |>.trans (hb.mono (by simp; omega))
  have ca := relCall (fun W => decok_spec n x W h0 h1) (N := W0.heap.size) (W0 := W0)
  have cb := relCall (fun W => decok_spec N X W H0 H1) (N := W0.heap.size) (W0 := W0)
  have hB := Below.refl W0.heap.size W0
  have hN := Nat.le_refl W0.heap.size
  cases hv : decOk n x
  · rw [hv] at ca
    rw [less_bad (.inl hv)]
    go_enter Try.func48, Try.ntmps48
    go_wp2_with fail
    rw [← hW]
    refine (ca _ hB hN).mono ?_
    rintro e w' ⟨rfl, hB', hN'⟩
    go_wp2
    go_ret
    exact ⟨rfl, hend _ hB'⟩
  · rw [hv] at ca
    cases hk : decOk N X
    · rw [hk] at cb
      rw [less_bad (.inr hk)]
      go_enter Try.func48, Try.ntmps48
      go_wp2_with fail
      rw [← hW]
      refine (ca _ hB hN).mono ?_
      rintro e w' ⟨rfl, hB', hN'⟩
      obtain ⟨_, _, _, _⟩ := hcells _ hB'
      go_wp2_with fail
      refine (cb _ hB' hN').mono ?_
      rintro e w' ⟨rfl, hB', hN'⟩
      go_wp2
      go_ret
      exact ⟨rfl, hend _ hB'⟩
    · rw [hk] at cb
      rw [less_good hv hk]
      have pa := relCall (fun W => parts_spec n x W hv) (N := W0.heap.size) (W0 := W0)
      have pb := relCall (fun W => parts_spec N X W hk) (N := W0.heap.size) (W0 := W0)
      generalize hiV n x = p1 at *
      generalize hiV N X = p2 at *
      generalize loV n x = l1 at *
      generalize loV N X = l2 at *
      clear h0 h1 H0 H1 hv hk
      rcases Int.lt_trichotomy p1 p2 with hp | hp | hp
      · have he : (decide (p1 < p2) || (p1 == p2 && decide (l1 < l2))) = true := by simp [hp]
        rw [he]
        clear he
        go_enter Try.func48, Try.ntmps48
        go_wp2_with fail
        rw [← hW]
        refine (ca _ hB hN).mono ?_
        clear hB hN
        rintro e w' ⟨rfl, hB, hN⟩
        obtain ⟨_, _, _, _⟩ := hcells _ hB
        go_wp2_with fail
        refine (cb _ hB hN).mono ?_
        clear hB hN
        rintro e w' ⟨rfl, hB, hN⟩
        obtain ⟨_, _, _, _⟩ := hcells _ hB
        go_wp2_with fail
        refine (pa _ hB hN).mono ?_
        clear hB hN
        rintro e w' ⟨rfl, hB, hN⟩
        obtain ⟨_, _, _, _⟩ := hcells _ hB
        go_wp2_with fail
        refine (pb _ hB hN).mono ?_
        clear hB hN
        rintro e w' ⟨rfl, hB, hN⟩
        go_wp2
        go_ret
        exact ⟨rfl, hend _ hB⟩
      · subst hp
        have he : (decide (p1 < p1) || (p1 == p1 && decide (l1 < l2))) = decide (l1 < l2) := by simp
        rw [he]
        clear he
        go_enter Try.func48, Try.ntmps48
        go_wp2_with fail
        rw [← hW]
        refine (ca _ hB hN).mono ?_
        clear hB hN
        rintro e w' ⟨rfl, hB, hN⟩
        obtain ⟨_, _, _, _⟩ := hcells _ hB
        go_wp2_with fail
        refine (cb _ hB hN).mono ?_
        clear hB hN
        rintro e w' ⟨rfl, hB, hN⟩
        obtain ⟨_, _, _, _⟩ := hcells _ hB
        go_wp2_with fail
        refine (pa _ hB hN).mono ?_
        clear hB hN
        rintro e w' ⟨rfl, hB, hN⟩
        obtain ⟨_, _, _, _⟩ := hcells _ hB
        go_wp2_with fail
        refine (pb _ hB hN).mono ?_
        clear hB hN
        rintro e w' ⟨rfl, hB, hN⟩
        go_wp2
        go_ret
        exact ⟨rfl, hend _ hB⟩
      · have he : (decide (p1 < p2) || (p1 == p2 && decide (l1 < l2))) = false := by simp; omega
        have hpn : (p1 == p2) = false := by simp; omega
        have hpm : decide (p1 < p2) = false := by simp; omega
        rw [he]
        clear he
        go_enter Try.func48, Try.ntmps48
        go_wp2_with fail
        rw [← hW]
        refine (ca _ hB hN).mono ?_
        clear hB hN
        rintro e w' ⟨rfl, hB, hN⟩
        obtain ⟨_, _, _, _⟩ := hcells _ hB
        go_wp2_with fail
        refine (cb _ hB hN).mono ?_
        clear hB hN
        rintro e w' ⟨rfl, hB, hN⟩
        obtain ⟨_, _, _, _⟩ := hcells _ hB
        go_wp2_with fail
        refine (pa _ hB hN).mono ?_
        clear hB hN
        rintro e w' ⟨rfl, hB, hN⟩
        obtain ⟨_, _, _, _⟩ := hcells _ hB
        go_wp2_with fail
        refine (pb _ hB hN).mono ?_
        clear hB hN
        rintro e w' ⟨rfl, hB, hN⟩
        go_wp2
        go_ret
        exact ⟨rfl, hend _ hB⟩
end Go.Proofs.Ytilgncebhgplaaa
