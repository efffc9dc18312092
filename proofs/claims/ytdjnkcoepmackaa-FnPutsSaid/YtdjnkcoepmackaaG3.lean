import Derived.Test.YtdjnkcoepmackaaG2
import Derived.IntWalk
import Derived.Deep.RegionHeld3
import Derived.Test.YtdjnkcoepmackaaG0
/- What LessDec of the program and of the model returns: whether both are numbers and the one is less. -/
namespace Go.Proofs.Ytdjnkcoepmackaa
open Go.RowKit
theorem relCall {P : Program} {f : FuncId} {args : Array Value} {v : Value} {N : Nat} {W0 : World} (h : ∀ W, Calls P f args W fun e w' => e = .returned v ∧ Below W.heap.size W w') :
    ∀ W, Below N W0 W → N ≤ W.heap.size → Calls P f args W fun e w' => e = .returned v ∧ Below N W0 w' ∧ N ≤ w'.heap.size :=
  fun W hb hN => (h W).mono fun _ _ ⟨he, hb2⟩ => ⟨he, hb.trans (hb2.mono hN), Nat.le_trans hN hb2.size⟩
theorem pow_split {x : Int} (h0 : -16 ≤ x) (h1 : x ≤ 0) : (10 : Int) ^ (-x).toNat * 10 ^ (16 + x).toNat = 10000000000000000 := by
  rw [← Int.pow_add, show (-x).toNat + (16 + x).toNat = 16 by omega]; rfl
theorem lo_bound {n q r : Int} (hq : 0 < q) (hr : 0 < r) (h : q * r = 10000000000000000) : -10000000000000000 ≤ n.tmod q * r ∧ n.tmod q * r ≤ 10000000000000000 := by
  have h1 : n.tmod q < q := Int.tmod_lt_of_pos _ hq
  have h2 : -q < n.tmod q := by
    have := Int.tmod_lt_of_pos (-n) hq
    rw [Int.neg_tmod] at this; omega
  have h3 : n.tmod q * r ≤ q * r := Int.mul_le_mul_of_nonneg_right (by omega) (by omega)
  have h4 : (-q) * r ≤ n.tmod q * r := Int.mul_le_mul_of_nonneg_right (by omega) (by omega)
  rw [Int.neg_mul] at h4
  omega
theorem hi_bound {n q : Int} (h : n.natAbs < 100000000000000000) : -100000000000000000 ≤ n.tdiv q ∧ n.tdiv q ≤ 100000000000000000 := by
  have h1 : (n.tdiv q).natAbs ≤ n.natAbs := by rw [Int.natAbs_tdiv]; exact Nat.div_le_self _ _
  omega
set_option maxRecDepth 100000 in
theorem parts_impl (n x : Int) (w : World) (hv : decOk n x = true) : Calls Try.prog 176 #[.agg #[.int .i64 n, .int .i64 x]] w fun e w' => e = .returned (.tuple #[.int .i64 (hiV n x), .int .i64 (loV n x)]) ∧ Below w.heap.size w w' := by
  obtain ⟨r0, r1, r2, _, _⟩ := decOk_range hv
  have hs := pow_split r0 r1
  have cp := relCall (fun W => pow_impl 10 (-x) W) (N := (w.alloc (.cells #[.int .i64 n, .int .i64 x] 58)).heap.size) (W0 := w.alloc (.cells #[.int .i64 n, .int .i64 x] 58))
  have cr := relCall (fun W => pow_impl 10 (16 + x) W) (N := (w.alloc (.cells #[.int .i64 n, .int .i64 x] 58)).heap.size) (W0 := w.alloc (.cells #[.int .i64 n, .int .i64 x] 58))
  unfold hiV loV
  rw [show powV 10 (-x) = 10 ^ (-x).toNat from by unfold powV; rw [if_pos ⟨by decide, by omega, by omega⟩]] at cp
  rw [show powV 10 (16 + x) = 10 ^ (16 + x).toNat from by unfold powV; rw [if_pos ⟨by decide, by omega, by omega⟩]] at cr
  have hq : (0 : Int) < 10 ^ (-x).toNat := Int.pow_pos (by decide)
  have hr : (0 : Int) < 10 ^ (16 + x).toNat := Int.pow_pos (by decide)
  generalize (10 : Int) ^ (-x).toNat = q at *
  generalize (10 : Int) ^ (16 + x).toNat = r at *
  have hb := lo_bound (n := n) hq hr hs
  have hh := hi_bound (q := q) r2
  have w1 : IntKind.i64.wrap (16 + x) = 16 + x := IntWalk.i64_in _ (by omega)
  have w2 : IntKind.i64.wrap (n.tdiv q) = n.tdiv q := IntWalk.i64_in _ (by omega)
  have w3 : IntKind.i64.wrap (n.tmod q * r) = n.tmod q * r := IntWalk.i64_in _ (by omega)
  have q0 : (q == 0) = false := by simp; omega
  have q1 : q ≠ 0 := by omega
  have hkeep : ∀ W' : World, Below (w.alloc (.cells #[.int .i64 n, .int .i64 x] 58)).heap.size (w.alloc (.cells #[.int .i64 n, .int .i64 x] 58)) W' → (w.alloc (.cells #[.int .i64 n, .int .i64 x] 58)).heap.size ≤ W'.heap.size →
      Below (w.alloc (.cells #[.int .i64 n, .int .i64 x] 58)).heap.size (w.alloc (.cells #[.int .i64 n, .int .i64 x] 58)) W' ∧ (w.alloc (.cells #[.int .i64 n, .int .i64 x] 58)).heap.size ≤ W'.heap.size ∧ W'.cell? ⟨w.heap.size, 0, none⟩ = some (.int .i64 n) ∧ W'.cell? ⟨w.heap.size, 1, none⟩ = some (.int .i64 x) := fun W' hb hN =>
    ⟨hb, hN, (hb.cell (p := ⟨w.heap.size, 0, none⟩) (by simp)).trans (by simp [go_sem]), (hb.cell (p := ⟨w.heap.size, 1, none⟩) (by simp)).trans (by simp [go_sem])⟩
  clear hs hb hh hv hr hq r2
  go_enter Try.func176, Try.ntmps176
  go_wp2_with (go_at_call 192; refine (cp _ (Below.refl _ _) (Nat.le_refl _)).mono ?_; rintro e w' ⟨rfl, hb, hN⟩; obtain ⟨_, _, _, _⟩ := hkeep _ hb hN)
  go_region_held3 (fun W' => Below (w.alloc (.cells #[.int .i64 n, .int .i64 x] 58)).heap.size (w.alloc (.cells #[.int .i64 n, .int .i64 x] 58)) W' ∧ (w.alloc (.cells #[.int .i64 n, .int .i64 x] 58)).heap.size ≤ W'.heap.size ∧ W'.cell? ⟨w.heap.size, 0, none⟩ = some (.int .i64 n) ∧ W'.cell? ⟨w.heap.size, 1, none⟩ = some (.int .i64 x)) (first | (refine hkeep _ ?_ ?_ <;> assumption) | (refine hkeep _ (Below.drew ?_) ?_ <;> assumption)) ((first | (go_at_call 192; go_split_ands; refine (cr _ ?_ ?_).mono ?_; assumption; assumption; rintro e w' ⟨rfl, hb', hN'⟩)))
  all_goals
    go_wp2
    go_ret2
    exact ⟨rfl, (below_box _ _).trans ((by assumption : Below (w.alloc _).heap.size (w.alloc _) _).mono (by simp))⟩
set_option maxRecDepth 100000 in
theorem parts_spec (n x : Int) (w : World) (hv : decOk n x = true) : Calls Try.prog 193 #[.agg #[.int .i64 n, .int .i64 x]] w fun e w' => e = .returned (.tuple #[.int .i64 (hiV n x), .int .i64 (loV n x)]) ∧ Below w.heap.size w w' := by
  obtain ⟨r0, r1, r2, _, _⟩ := decOk_range hv
  have hs := pow_split r0 r1
  have cp := fun W => pow_spec 10 (-x) W
  have cr := fun W => pow_spec 10 (16 + x) W
  unfold hiV loV
  rw [show powV 10 (-x) = 10 ^ (-x).toNat from by unfold powV; rw [if_pos ⟨by decide, by omega, by omega⟩]] at cp
  rw [show powV 10 (16 + x) = 10 ^ (16 + x).toNat from by unfold powV; rw [if_pos ⟨by decide, by omega, by omega⟩]] at cr
  have hq : (0 : Int) < 10 ^ (-x).toNat := Int.pow_pos (by decide)
  have hr : (0 : Int) < 10 ^ (16 + x).toNat := Int.pow_pos (by decide)
  generalize (10 : Int) ^ (-x).toNat = q at *
  generalize (10 : Int) ^ (16 + x).toNat = r at *
  have hb := lo_bound (n := n) hq hr hs
  have hh := hi_bound (q := q) r2
  have w1 : IntKind.i64.wrap (16 + x) = 16 + x := IntWalk.i64_in _ (by omega)
  have w2 : IntKind.i64.wrap (n.tdiv q) = n.tdiv q := IntWalk.i64_in _ (by omega)
  have w3 : IntKind.i64.wrap (n.tmod q * r) = n.tmod q * r := IntWalk.i64_in _ (by omega)
  have q0 : (q == 0) = false := by simp; omega
  have q1 : q ≠ 0 := by omega
  clear hs hb hh hv hr hq r2
  go_enter Try.func193, Try.ntmps193
  go_wp2_with (go_at_call 190; refine (cp _).mono ?_; rintro e w' ⟨rfl, rfl⟩)
  have k0 : (w.alloc (.cells #[.int .i64 n, .int .i64 x] 58)).cell? ⟨w.heap.size, 0, none⟩ = some (.int .i64 n) := by simp [go_sem]
  have k1 : (w.alloc (.cells #[.int .i64 n, .int .i64 x] 58)).cell? ⟨w.heap.size, 1, none⟩ = some (.int .i64 x) := by simp [go_sem]
  have hB := below_box w (.cells #[.int .i64 n, .int .i64 x] 58)
  generalize w.alloc (.cells #[.int .i64 n, .int .i64 x] 58) = W0 at *
  go_region_held3 (fun W' => Below w.heap.size w W' ∧ W'.cell? ⟨w.heap.size, 0, none⟩ = some (.int .i64 n) ∧ W'.cell? ⟨w.heap.size, 1, none⟩ = some (.int .i64 x)) (first | (refine ⟨?_, ?_, ?_⟩ <;> assumption) | (refine ⟨Below.drew ?_, ?_, ?_⟩ <;> assumption)) ((first | (go_at_call 190; refine (cr _).mono ?_; rintro e w' ⟨rfl, rfl⟩)))
  all_goals
    go_wp2
    go_ret2
    go_split_ands
    exact ⟨rfl, by assumption⟩
theorem less_bad {n x N X : Int} (h : decOk n x = false ∨ decOk N X = false) : lessB n x N X = false := by
  unfold lessB
  rcases h with h | h <;> simp [h]
theorem less_good {n x N X : Int} (h : decOk n x = true) (k : decOk N X = true) : lessB n x N X = (decide (hiV n x < hiV N X) || (hiV n x == hiV N X && decide (loV n x < loV N X))) := by
  unfold lessB; rw [h, k]; rfl
set_option maxRecDepth 100000 in
set_option maxHeartbeats 1000000 in
theorem less_impl (n x N X : Int) (w : World) (h0 : -9223372036854775808 ≤ n) (h1 : n ≤ 9223372036854775807) (H0 : -9223372036854775808 ≤ N) (H1 : N ≤ 9223372036854775807) :
    Calls Try.prog 144 #[.agg #[.int .i64 n, .int .i64 x], .agg #[.int .i64 N, .int .i64 X]] w fun e w' => e = .returned (.bool (lessB n x N X)) ∧ Below w.heap.size w w' := by
  have hW : ∃ W0 : World, W0 = (w.alloc (.cells #[.int .i64 n, .int .i64 x] 58)).alloc (.cells #[.int .i64 N, .int .i64 X] 58) := ⟨_, rfl⟩
  obtain ⟨W0, hW⟩ := hW
  have hcells : ∀ W', Below W0.heap.size W0 W' → W'.cell? ⟨w.heap.size, 0, none⟩ = some (.int .i64 n) ∧ W'.cell? ⟨w.heap.size, 1, none⟩ = some (.int .i64 x) ∧ W'.cell? ⟨w.heap.size + 1, 0, none⟩ = some (.int .i64 N) ∧ W'.cell? ⟨w.heap.size + 1, 1, none⟩ = some (.int .i64 X) := fun W' hb => by
    subst hW
    exact ⟨(hb.cell (p := ⟨w.heap.size, 0, none⟩) (by simp; omega)).trans (by simp [go_sem]), (hb.cell (p := ⟨w.heap.size, 1, none⟩) (by simp; omega)).trans (by simp [go_sem]), (hb.cell (p := ⟨w.heap.size + 1, 0, none⟩) (by simp)).trans (by simp [go_sem]), (hb.cell (p := ⟨w.heap.size + 1, 1, none⟩) (by simp)).trans (by simp [go_sem])⟩
  have hend : ∀ W', Below W0.heap.size W0 W' → Below w.heap.size w W' := fun W' hb => by
    subst hW
    exact ((Below.refl _ _).alloc (Nat.le_refl _) _).alloc (by simp) _ |>.trans (hb.mono (by simp; omega))
  have ca := relCall (fun W => decok_impl n x W h0 h1) (N := W0.heap.size) (W0 := W0)
  have cb := relCall (fun W => decok_impl N X W H0 H1) (N := W0.heap.size) (W0 := W0)
  have hB := Below.refl W0.heap.size W0
  have hN := Nat.le_refl W0.heap.size
  cases hv : decOk n x
  · rw [hv] at ca
    rw [less_bad (.inl hv)]
    go_enter Try.func144, Try.ntmps144
    go_wp2_with fail
    rw [← hW]
    refine (ca _ hB hN).mono ?_
    rintro e w' ⟨rfl, hB', hN'⟩
    go_wp2
    go_ret
    exact ⟨rfl, hend _ hB'⟩
  · rw [hv] at ca
    cases hk : decOk N X
    · rw [hk] at cb
      rw [less_bad (.inr hk)]
      go_enter Try.func144, Try.ntmps144
      go_wp2_with fail
      rw [← hW]
      refine (ca _ hB hN).mono ?_
      rintro e w' ⟨rfl, hB', hN'⟩
      obtain ⟨_, _, _, _⟩ := hcells _ hB'
      go_wp2_with fail
      refine (cb _ hB' hN').mono ?_
      rintro e w' ⟨rfl, hB', hN'⟩
      go_wp2
      go_ret
      exact ⟨rfl, hend _ hB'⟩
    · rw [hk] at cb
      rw [less_good hv hk]
      have pa := relCall (fun W => parts_impl n x W hv) (N := W0.heap.size) (W0 := W0)
      have pb := relCall (fun W => parts_impl N X W hk) (N := W0.heap.size) (W0 := W0)
      generalize hiV n x = p1 at *
      generalize hiV N X = p2 at *
      generalize loV n x = l1 at *
      generalize loV N X = l2 at *
      clear h0 h1 H0 H1 hv hk
      by_cases hp : p1 = p2
      · subst hp
        have he : (decide (p1 < p1) || (p1 == p1 && decide (l1 < l2))) = decide (l1 < l2) := by simp
        rw [he]
        clear he
        go_enter Try.func144, Try.ntmps144
        go_wp2_with fail
        rw [← hW]
        refine (ca _ hB hN).mono ?_
        clear hB hN
        rintro e w' ⟨rfl, hB, hN⟩
        obtain ⟨_, _, _, _⟩ := hcells _ hB
        go_wp2_with fail
        refine (cb _ hB hN).mono ?_
        clear hB hN
        rintro e w' ⟨rfl, hB, hN⟩
        obtain ⟨_, _, _, _⟩ := hcells _ hB
        go_wp2_with fail
        refine (pa _ hB hN).mono ?_
        clear hB hN
        rintro e w' ⟨rfl, hB, hN⟩
        obtain ⟨_, _, _, _⟩ := hcells _ hB
        go_wp2_with fail
        refine (pb _ hB hN).mono ?_
        clear hB hN
        rintro e w' ⟨rfl, hB, hN⟩
        go_wp2
        go_ret
        exact ⟨rfl, hend _ hB⟩
      · have he : (decide (p1 < p2) || (p1 == p2 && decide (l1 < l2))) = decide (p1 < p2) := by simp [hp]
        have hpn : (p1 != p2) = true := by simpa using hp
        rw [he]
        clear he
        go_enter Try.func144, Try.ntmps144
        go_wp2_with fail
        rw [← hW]
        refine (ca _ hB hN).mono ?_
        clear hB hN
        rintro e w' ⟨rfl, hB, hN⟩
        obtain ⟨_, _, _, _⟩ := hcells _ hB
        go_wp2_with fail
        refine (cb _ hB hN).mono ?_
        clear hB hN
        rintro e w' ⟨rfl, hB, hN⟩
        obtain ⟨_, _, _, _⟩ := hcells _ hB
        go_wp2_with fail
        refine (pa _ hB hN).mono ?_
        clear hB hN
        rintro e w' ⟨rfl, hB, hN⟩
        obtain ⟨_, _, _, _⟩ := hcells _ hB
        go_wp2_with fail
        refine (pb _ hB hN).mono ?_
        clear hB hN
        rintro e w' ⟨rfl, hB, hN⟩
        go_wp2
        go_ret
        exact ⟨rfl, hend _ hB⟩
set_option maxRecDepth 100000 in
set_option maxHeartbeats 1000000 in
theorem less_spec (n x N X : Int) (w : World) (h0 : -9223372036854775808 ≤ n) (h1 : n ≤ 9223372036854775807) (H0 : -9223372036854775808 ≤ N) (H1 : N ≤ 9223372036854775807) :
    Calls Try.prog 178 #[.agg #[.int .i64 n, .int .i64 x], .agg #[.int .i64 N, .int .i64 X]] w fun e w' => e = .returned (.bool (lessB n x N X)) ∧ Below w.heap.size w w' := by
  have hW : ∃ W0 : World, W0 = (w.alloc (.cells #[.int .i64 n, .int .i64 x] 58)).alloc (.cells #[.int .i64 N, .int .i64 X] 58) := ⟨_, rfl⟩
  obtain ⟨W0, hW⟩ := hW
  have hcells : ∀ W', Below W0.heap.size W0 W' → W'.cell? ⟨w.heap.size, 0, none⟩ = some (.int .i64 n) ∧ W'.cell? ⟨w.heap.size, 1, none⟩ = some (.int .i64 x) ∧ W'.cell? ⟨w.heap.size + 1, 0, none⟩ = some (.int .i64 N) ∧ W'.cell? ⟨w.heap.size + 1, 1, none⟩ = some (.int .i64 X) := fun W' hb => by
    subst hW
    exact ⟨(hb.cell (p := ⟨w.heap.size, 0, none⟩) (by simp; omega)).trans (by simp [go_sem]), (hb.cell (p := ⟨w.heap.size, 1, none⟩) (by simp; omega)).trans (by simp [go_sem]), (hb.cell (p := ⟨w.heap.size + 1, 0, none⟩) (by simp)).trans (by simp [go_sem]), (hb.cell (p := ⟨w.heap.size + 1, 1, none⟩) (by simp)).trans (by simp [go_sem])⟩
  have hend : ∀ W', Below W0.heap.size W0 W' → Below w.heap.size w W' := fun W' hb => by
    subst hW
    exact ((Below.refl _ _).alloc (Nat.le_refl _) _).alloc (by simp) _ |>.trans (hb.mono (by simp; omega))
  have ca := relCall (fun W => decok_spec n x W h0 h1) (N := W0.heap.size) (W0 := W0)
  have cb := relCall (fun W => decok_spec N X W H0 H1) (N := W0.heap.size) (W0 := W0)
  have hB := Below.refl W0.heap.size W0
  have hN := Nat.le_refl W0.heap.size
  cases hv : decOk n x
  · rw [hv] at ca
    rw [less_bad (.inl hv)]
    go_enter Try.func178, Try.ntmps178
    go_wp2_with fail
    rw [← hW]
    refine (ca _ hB hN).mono ?_
    rintro e w' ⟨rfl, hB', hN'⟩
    go_wp2
    go_ret
    exact ⟨rfl, hend _ hB'⟩
  · rw [hv] at ca
    cases hk : decOk N X
    · rw [hk] at cb
      rw [less_bad (.inr hk)]
      go_enter Try.func178, Try.ntmps178
      go_wp2_with fail
      rw [← hW]
      refine (ca _ hB hN).mono ?_
      rintro e w' ⟨rfl, hB', hN'⟩
      obtain ⟨_, _, _, _⟩ := hcells _ hB'
      go_wp2_with fail
      refine (cb _ hB' hN').mono ?_
      rintro e w' ⟨rfl, hB', hN'⟩
      go_wp2
      go_ret
      exact ⟨rfl, hend _ hB'⟩
    · rw [hk] at cb
      rw [less_good hv hk]
      have pa := relCall (fun W => parts_spec n x W hv) (N := W0.heap.size) (W0 := W0)
      have pb := relCall (fun W => parts_spec N X W hk) (N := W0.heap.size) (W0 := W0)
      generalize hiV n x = p1 at *
      generalize hiV N X = p2 at *
      generalize loV n x = l1 at *
      generalize loV N X = l2 at *
      clear h0 h1 H0 H1 hv hk
      rcases Int.lt_trichotomy p1 p2 with hp | hp | hp
      · have he : (decide (p1 < p2) || (p1 == p2 && decide (l1 < l2))) = true := by simp [hp]
        rw [he]
        clear he
        go_enter Try.func178, Try.ntmps178
        go_wp2_with fail
        rw [← hW]
        refine (ca _ hB hN).mono ?_
        clear hB hN
        rintro e w' ⟨rfl, hB, hN⟩
        obtain ⟨_, _, _, _⟩ := hcells _ hB
        go_wp2_with fail
        refine (cb _ hB hN).mono ?_
        clear hB hN
        rintro e w' ⟨rfl, hB, hN⟩
        obtain ⟨_, _, _, _⟩ := hcells _ hB
        go_wp2_with fail
        refine (pa _ hB hN).mono ?_
        clear hB hN
        rintro e w' ⟨rfl, hB, hN⟩
        obtain ⟨_, _, _, _⟩ := hcells _ hB
        go_wp2_with fail
        refine (pb _ hB hN).mono ?_
        clear hB hN
        rintro e w' ⟨rfl, hB, hN⟩
        go_wp2
        go_ret
        exact ⟨rfl, hend _ hB⟩
      · subst hp
        have he : (decide (p1 < p1) || (p1 == p1 && decide (l1 < l2))) = decide (l1 < l2) := by simp
        rw [he]
        clear he
        go_enter Try.func178, Try.ntmps178
        go_wp2_with fail
        rw [← hW]
        refine (ca _ hB hN).mono ?_
        clear hB hN
        rintro e w' ⟨rfl, hB, hN⟩
        obtain ⟨_, _, _, _⟩ := hcells _ hB
        go_wp2_with fail
        refine (cb _ hB hN).mono ?_
        clear hB hN
        rintro e w' ⟨rfl, hB, hN⟩
        obtain ⟨_, _, _, _⟩ := hcells _ hB
        go_wp2_with fail
        refine (pa _ hB hN).mono ?_
        clear hB hN
        rintro e w' ⟨rfl, hB, hN⟩
        obtain ⟨_, _, _, _⟩ := hcells _ hB
        go_wp2_with fail
        refine (pb _ hB hN).mono ?_
        clear hB hN
        rintro e w' ⟨rfl, hB, hN⟩
        go_wp2
        go_ret
        exact ⟨rfl, hend _ hB⟩
      · have he : (decide (p1 < p2) || (p1 == p2 && decide (l1 < l2))) = false := by simp; omega
        have hpn : (p1 == p2) = false := by simp; omega
        have hpm : decide (p1 < p2) = false := by simp; omega
        rw [he]
        clear he
        go_enter Try.func178, Try.ntmps178
        go_wp2_with fail
        rw [← hW]
        refine (ca _ hB hN).mono ?_
        clear hB hN
        rintro e w' ⟨rfl, hB, hN⟩
        obtain ⟨_, _, _, _⟩ := hcells _ hB
        go_wp2_with fail
        refine (cb _ hB hN).mono ?_
        clear hB hN
        rintro e w' ⟨rfl, hB, hN⟩
        obtain ⟨_, _, _, _⟩ := hcells _ hB
        go_wp2_with fail
        refine (pa _ hB hN).mono ?_
        clear hB hN
        rintro e w' ⟨rfl, hB, hN⟩
        obtain ⟨_, _, _, _⟩ := hcells _ hB
        go_wp2_with fail
        refine (pb _ hB hN).mono ?_
        clear hB hN
        rintro e w' ⟨rfl, hB, hN⟩
        go_wp2
        go_ret
        exact ⟨rfl, hend _ hB⟩
end Go.Proofs.Ytdjnkcoepmackaa
/- What FltDec of the program and of the model returns: the same number as a decimal number. -/
namespace Go.Proofs.Ytdjnkcoepmackaa
open Go.RowKit
theorem shl_of {m e : Int} (he : 0 ≤ e) (h2 : e ≤ 64) (h : (m * 2 ^ e.toNat).natAbs < 9223372036854775808) : Op.shift .shl .i64 m .i64 e = pure (.int .i64 (m * 2 ^ e.toNat)) := by
  rw [shift_shl_any _ _ _ _ he, show min e.toNat (IntKind.bits .i64) = e.toNat from Nat.min_eq_left (by show _ ≤ 64; omega), IntWalk.i64_in _ (by omega)]
theorem high_bound {m e : Int} (h : fltOk m e = true) (he : 0 ≤ e) : (m * 2 ^ e.toNat).natAbs < 70368744177664 := by
  have h1 := flt_small h he
  rw [Int.natAbs_mul, Int.natAbs_pow]
  exact h1
theorem high_wrap {m e : Int} (h : fltOk m e = true) (he : 0 ≤ e) : wrap64 (m * 2 ^ e.toNat) = m * 2 ^ e.toNat := by
  have := high_bound h he
  exact IntWalk.wrap64_in _ (by omega)
theorem pow5 {k : Int} (h0 : 0 ≤ k) (h1 : k ≤ 17) : powV 5 k = 5 ^ k.toNat := by unfold powV; rw [if_pos ⟨by decide, h0, h1⟩]
def FDecPost (m e : Int) (w : World) (r : Ending) (w' : World) : Prop := r = .returned (.agg #[.int .i64 (decFN m e), .int .i64 (decFX m e)]) ∧ Below w.heap.size w w'
set_option maxRecDepth 100000 in
set_option maxHeartbeats 2000000 in
theorem fltdec_impl (m e : Int) (w : World) (h0 : -9223372036854775808 ≤ m) (h1 : m ≤ 9223372036854775807) (k0 : -9223372036854775808 ≤ e) (k1 : e ≤ 9223372036854775807) :
    Calls Try.prog 175 #[.agg #[.int .i64 m, .int .i64 e]] w (FDecPost m e w) := by
  obtain ⟨W0, hW⟩ : ∃ W0 : World, W0 = (w.alloc (.cells #[.int .i64 m, .int .i64 e] 115)).alloc (.cells #[.int .i64 0, .int .i64 0] 58) := ⟨_, rfl⟩
  have hcells : ∀ W', Below W0.heap.size W0 W' → W'.cell? ⟨w.heap.size, 0, none⟩ = some (.int .i64 m) ∧ W'.cell? ⟨w.heap.size, 1, none⟩ = some (.int .i64 e) ∧ W'.cell? ⟨w.heap.size + 1, 0, none⟩ = some (.int .i64 0) ∧ W'.cell? ⟨w.heap.size + 1, 1, none⟩ = some (.int .i64 0) ∧ W'.frozen? ⟨w.heap.size + 1, 0, none⟩ = false ∧ W'.frozen? ⟨w.heap.size + 1, 1, none⟩ = false := fun W' hb => by
    subst hW
    exact ⟨(hb.cell (p := ⟨w.heap.size, 0, none⟩) (by simp; omega)).trans (by simp [go_sem]), (hb.cell (p := ⟨w.heap.size, 1, none⟩) (by simp; omega)).trans (by simp [go_sem]), (hb.cell (p := ⟨w.heap.size + 1, 0, none⟩) (by simp)).trans (by simp [go_sem]), (hb.cell (p := ⟨w.heap.size + 1, 1, none⟩) (by simp)).trans (by simp [go_sem]), (hb.frozen (p := ⟨w.heap.size + 1, 0, none⟩) (by simp)).trans (by simp [go_sem]), (hb.frozen (p := ⟨w.heap.size + 1, 1, none⟩) (by simp)).trans (by simp [go_sem])⟩
  have hend : ∀ W', Below W0.heap.size W0 W' → Below w.heap.size w W' := fun W' hb => by
    subst hW
    exact ((Below.refl _ _).alloc (Nat.le_refl _) _).alloc (by simp) _ |>.trans (hb.mono (by simp; omega))
  have hsz : W0.heap.size = w.heap.size + 2 := by subst hW; simp
  have hB := Below.refl W0.heap.size W0
  have hN := Nat.le_refl W0.heap.size
  have cok := relCall (fun W => fltok_impl m e W h0 h1 k0 k1) (N := W0.heap.size) (W0 := W0)
  unfold FDecPost
  cases hv : fltOk m e
  · rw [hv] at cok
    rw [(decF_bad hv).1, (decF_bad hv).2]
    clear h0 h1 k0 k1
    go_enter Try.func175, Try.ntmps175
    go_wp2_with fail
    rw [← hW]
    refine (cok _ hB hN).mono ?_
    rintro r w1 ⟨rfl, hb, hn⟩
    obtain ⟨f0, f1, r0, r1, z0, z1⟩ := hcells _ hb
    go_wp2
    refine bodyPost_ret (v := .agg #[.int .i64 0, .int .i64 0]) (by simp [results, Try.results175, go_sem, r0, r1]) rfl ⟨rfl, ?_⟩
    exact ((hend _ hb).setCell (by simp) _).setCell (by simp) _
  · rw [hv] at cok
    obtain ⟨a0, a1, a2, a3, a4⟩ := fltOk_range hv
    by_cases he : 0 ≤ e
    · have hs := shl_of (m := m) he (by omega) (by have := flt_small hv he; rw [Int.natAbs_mul, Int.natAbs_pow]; exact Nat.lt_trans this (by decide))
      rw [(decF_high hv he).1, (decF_high hv he).2]
      have hw := high_wrap hv he
      clear h0 h1 k0 k1 a3 a4 hv
      go_enter Try.func175, Try.ntmps175
      go_wp2_with fail
      rw [← hW]
      refine (cok _ hB hN).mono ?_
      rintro r w1 ⟨rfl, hb, hn⟩
      obtain ⟨f0, f1, r0, r1, z0, z1⟩ := hcells _ hb
      go_wp2
      refine bodyPost_ret (v := .agg #[.int .i64 (m * 2 ^ e.toNat), .int .i64 0]) (by simp [results, Try.results175, go_sem, r0, r1]) rfl ⟨rfl, ?_⟩
      exact ((hend _ hb).setCell (by simp) _).setCell (by simp) _
    · have hlt := five_le hv (by omega)
      have cp := relCall (fun W => pow_impl 5 (-e) W) (N := W0.heap.size) (W0 := W0)
      rw [pow5 (by omega) (by omega)] at cp
      rw [(decF_low hv (by omega)).1, (decF_low hv (by omega)).2]
      have hmul : IntKind.i64.wrap (m * 5 ^ (-e).toNat) = m * 5 ^ (-e).toNat := by
        have h2 : (m * 5 ^ (-e).toNat).natAbs < 100000000000000000 := by rw [Int.natAbs_mul, Int.natAbs_pow]; exact hlt
        exact IntWalk.i64_in _ (by omega)
      have hp : (5 : Int) ^ (-e).toNat ≤ 152587890625 := by
        have h1 : 5 ^ (-e).toNat ≤ 5 ^ 16 := Nat.pow_le_pow_right (by decide) (by omega)
        have h2 : ((5 ^ (-e).toNat : Nat) : Int) = (5 : Int) ^ (-e).toNat := by rw [Int.natCast_pow]; rfl
        omega
      have hp0 : (0 : Int) < 5 ^ (-e).toNat := Int.pow_pos (by decide)
      generalize (5 : Int) ^ (-e).toNat = v at *
      have hm0 : -65535 ≤ m := by omega
      have hm1 : m ≤ 65535 := by omega
      have he2 : e < 0 := by omega
      have hneg : IntKind.i64.wrap (-e) = -e := IntWalk.i64_in _ (by omega)
      clear h0 h1 k0 k1 a2 a3 a4 hv hlt he
      go_enter Try.func175, Try.ntmps175
      go_wp2_with fail
      rw [← hW]
      refine (cok _ hB hN).mono ?_
      clear hB hN
      rintro r w1 ⟨rfl, hB, hN⟩
      obtain ⟨f0, f1, r0, r1, z0, z1⟩ := hcells _ hB
      go_wp2_with fail
      go_region_with ((first | (go_at_call 192; refine (cp _ (Below.drew hB) hN).mono ?_; rintro r w2 ⟨rfl, hB2, hN2⟩; obtain ⟨f0', f1', r0', r1', z0', z1'⟩ := hcells _ hB2)))
      all_goals
        go_wp2
        refine bodyPost_ret (v := .agg #[.int .i64 (m * v), .int .i64 e]) (by simp [results, Try.results175, go_sem, r0', r1']) rfl ⟨rfl, ?_⟩
        exact ((hend _ hB2).setCell (by simp) _).setCell (by simp) _
end Go.Proofs.Ytdjnkcoepmackaa
/- What FltDec of the model returns. -/
namespace Go.Proofs.Ytdjnkcoepmackaa
open Go.RowKit
theorem tcells {W : World} {r : Nat} {a b : Value} (h0 : W.cell? ⟨r, 0, none⟩ = some a) (h1 : W.cell? ⟨r, 1, none⟩ = some b) (u v : Value) : ((W.setCell ⟨r, 0, none⟩ u).setCell ⟨r, 1, none⟩ v).cell? ⟨r, 0, none⟩ = some u ∧ ((W.setCell ⟨r, 0, none⟩ u).setCell ⟨r, 1, none⟩ v).cell? ⟨r, 1, none⟩ = some v := by
  have e : (W.setCell ⟨r, 0, none⟩ u).cell? ⟨r, 1, none⟩ = some b := (World.cell?_setCell_other W ⟨r, 0, none⟩ ⟨r, 1, none⟩ u (by simp)).trans h1
  exact ⟨(World.cell?_setCell_other _ ⟨r, 1, none⟩ ⟨r, 0, none⟩ v (by simp)).trans (World.cell?_setCell_same _ _ _ h0), World.cell?_setCell_same _ _ _ e⟩
theorem isNew_own {n x N X : Int} {ok : Bool} (hv : decOk n x = true) (h : IsNew n x N X ok) : N = n ∧ X = x ∧ ok = true := by
  obtain ⟨r0, r1, r2, _, _⟩ := decOk_range hv
  have hs : IsNew n x n x true := isNew_yes ⟨(digV_17 n).2 r2, by omega, by omega⟩ (same_refl n x) hv
  obtain ⟨rfl, rfl, rfl⟩ := isNew_uniq hs h
  exact ⟨rfl, rfl, rfl⟩
theorem decnew_self {n x : Int} (W : World) (hv : decOk n x = true) : Calls Try.prog 182 #[.int .i64 n, .int .i64 x] W fun r w' => r = .returned (.tuple #[.agg #[.int .i64 n, .int .i64 x], .bool true]) ∧ Below W.heap.size W w' := by
  obtain ⟨r0, r1, r2, _, _⟩ := decOk_range hv
  refine (decnew_spec n x W (by omega) (by omega)).mono ?_
  rintro r w' ⟨N, X, ok, rfl, hN, hb⟩
  obtain ⟨rfl, rfl, rfl⟩ := isNew_own hv hN
  exact ⟨rfl, hb⟩
theorem decnew_rel {n x : Int} {N : Nat} {W0 : World} (hv : decOk n x = true) : ∀ W, Below N W0 W → N ≤ W.heap.size →
    Calls Try.prog 182 #[.int .i64 n, .int .i64 x] W fun r w' => r = .returned (.tuple #[.agg #[.int .i64 n, .int .i64 x], .bool true]) ∧ Below N W0 w' ∧ N ≤ w'.heap.size :=
  fun W hb hN => (decnew_self W hv).mono fun _ _ ⟨he, hb2⟩ => ⟨he, hb.trans (hb2.mono hN), Nat.le_trans hN hb2.size⟩
def DBox (W : World) (g : Nat) : Prop := W.cell? ⟨g, 0, none⟩ = some (.int .i64 0) ∧ W.cell? ⟨g, 1, none⟩ = some (.int .i64 0) ∧ W.frozen? ⟨g, 0, none⟩ = false ∧ W.frozen? ⟨g, 1, none⟩ = false
theorem dbox_new (w : World) (T : TypeId) : DBox (w.alloc (.cells #[.int .i64 0, .int .i64 0] T)) w.heap.size :=
  ⟨by simp [go_sem], by simp [go_sem], by simp [go_sem], by simp [go_sem]⟩
theorem dbox_drew (w : World) (T : TypeId) : DBox (w.alloc (.cells #[.int .i64 0, .int .i64 0] T)).drew w.heap.size := dbox_new w T
theorem decnew_relbox {n x : Int} {N : Nat} {W0 : World} (hv : decOk n x = true) : ∀ W g, Below N W0 W → N ≤ W.heap.size → DBox W g →
    Calls Try.prog 182 #[.int .i64 n, .int .i64 x] W fun r w' => r = .returned (.tuple #[.agg #[.int .i64 n, .int .i64 x], .bool true]) ∧ Below N W0 w' ∧ N ≤ w'.heap.size ∧ w'.cell? ⟨g, 0, none⟩ = some (.int .i64 0) ∧ w'.cell? ⟨g, 1, none⟩ = some (.int .i64 0) ∧ w'.frozen? ⟨g, 0, none⟩ = false ∧ w'.frozen? ⟨g, 1, none⟩ = false :=
  fun W g hb hN hg => (decnew_self W hv).mono fun _ _ ⟨he, hb2⟩ => by
    have hlt := cell_lt hg.1
    exact ⟨he, hb.trans (hb2.mono hN), Nat.le_trans hN hb2.size, (hb2.cell (p := ⟨g, 0, none⟩) hlt).trans hg.1, (hb2.cell (p := ⟨g, 1, none⟩) hlt).trans hg.2.1, (hb2.frozen (p := ⟨g, 0, none⟩) hlt).trans hg.2.2.1, (hb2.frozen (p := ⟨g, 1, none⟩) hlt).trans hg.2.2.2⟩
set_option maxRecDepth 100000 in
set_option maxHeartbeats 2000000 in
theorem fltdec_spec (m e : Int) (w : World) (h0 : -9223372036854775808 ≤ m) (h1 : m ≤ 9223372036854775807) (k0 : -9223372036854775808 ≤ e) (k1 : e ≤ 9223372036854775807) :
    Calls Try.prog 172 #[.agg #[.int .i64 m, .int .i64 e]] w (FDecPost m e w) := by
  obtain ⟨W0, hW⟩ : ∃ W0 : World, W0 = (w.alloc (.cells #[.int .i64 m, .int .i64 e] 115)).alloc (.cells #[.int .i64 0, .int .i64 0] 58) := ⟨_, rfl⟩
  have hcells : ∀ W', Below W0.heap.size W0 W' → W'.cell? ⟨w.heap.size, 0, none⟩ = some (.int .i64 m) ∧ W'.cell? ⟨w.heap.size, 1, none⟩ = some (.int .i64 e) ∧ W'.cell? ⟨w.heap.size + 1, 0, none⟩ = some (.int .i64 0) ∧ W'.cell? ⟨w.heap.size + 1, 1, none⟩ = some (.int .i64 0) ∧ W'.frozen? ⟨w.heap.size + 1, 0, none⟩ = false ∧ W'.frozen? ⟨w.heap.size + 1, 1, none⟩ = false := fun W' hb => by
    subst hW
    exact ⟨(hb.cell (p := ⟨w.heap.size, 0, none⟩) (by simp; omega)).trans (by simp [go_sem]), (hb.cell (p := ⟨w.heap.size, 1, none⟩) (by simp; omega)).trans (by simp [go_sem]), (hb.cell (p := ⟨w.heap.size + 1, 0, none⟩) (by simp)).trans (by simp [go_sem]), (hb.cell (p := ⟨w.heap.size + 1, 1, none⟩) (by simp)).trans (by simp [go_sem]), (hb.frozen (p := ⟨w.heap.size + 1, 0, none⟩) (by simp)).trans (by simp [go_sem]), (hb.frozen (p := ⟨w.heap.size + 1, 1, none⟩) (by simp)).trans (by simp [go_sem])⟩
  have hend : ∀ W', Below W0.heap.size W0 W' → Below w.heap.size w W' := fun W' hb => by
    subst hW
    exact ((Below.refl _ _).alloc (Nat.le_refl _) _).alloc (by simp) _ |>.trans (hb.mono (by simp; omega))
  have hsz : W0.heap.size = w.heap.size + 2 := by subst hW; simp
  have hB := Below.refl W0.heap.size W0
  have hN := Nat.le_refl W0.heap.size
  have cok := relCall (fun W => fltok_spec m e W h0 h1 k0 k1) (N := W0.heap.size) (W0 := W0)
  unfold FDecPost
  cases hv : fltOk m e
  · rw [hv] at cok
    rw [(decF_bad hv).1, (decF_bad hv).2]
    clear h0 h1 k0 k1
    go_enter Try.func172, Try.ntmps172
    go_wp2_with fail
    rw [← hW]
    refine (cok _ hB hN).mono ?_
    rintro r w1 ⟨rfl, hb, hn⟩
    obtain ⟨f0, f1, r0, r1, z0, z1⟩ := hcells _ hb
    go_wp2
    refine bodyPost_ret (v := .agg #[.int .i64 0, .int .i64 0]) (by simp [results, Try.results172, go_sem, r0, r1]) rfl ⟨rfl, ?_⟩
    exact ((hend _ hb).setCell (by simp) _).setCell (by simp) _
  · rw [hv] at cok
    obtain ⟨a0, a1, a2, a3, a4⟩ := fltOk_range hv
    by_cases he : 0 ≤ e
    · have hs := shl_of (m := m) he (by omega) (by have := flt_small hv he; rw [Int.natAbs_mul, Int.natAbs_pow]; exact Nat.lt_trans this (by decide))
      rw [(decF_high hv he).1, (decF_high hv he).2]
      have hw := high_wrap hv he
      clear h0 h1 k0 k1 a3 a4 hv
      go_enter Try.func172, Try.ntmps172
      go_wp2_with fail
      rw [← hW]
      refine (cok _ hB hN).mono ?_
      rintro r w1 ⟨rfl, hb, hn⟩
      obtain ⟨f0, f1, r0, r1, z0, z1⟩ := hcells _ hb
      go_wp2
      refine bodyPost_ret (v := .agg #[.int .i64 (m * 2 ^ e.toNat), .int .i64 0]) (by simp [results, Try.results172, go_sem, r0, r1]) rfl ⟨rfl, ?_⟩
      exact ((hend _ hb).setCell (by simp) _).setCell (by simp) _
    · have hlt := five_le hv (by omega)
      have cp := fun W => pow_spec 5 (-e) W
      rw [pow5 (by omega) (by omega)] at cp
      have hdec := decF_ok m e
      rw [(decF_low hv (by omega)).1, (decF_low hv (by omega)).2] at hdec
      have cd := fun W => decnew_self W hdec
      rw [(decF_low hv (by omega)).1, (decF_low hv (by omega)).2]
      have hmul : IntKind.i64.wrap (m * 5 ^ (-e).toNat) = m * 5 ^ (-e).toNat := by
        have h2 : (m * 5 ^ (-e).toNat).natAbs < 100000000000000000 := by rw [Int.natAbs_mul, Int.natAbs_pow]; exact hlt
        exact IntWalk.i64_in _ (by omega)
      have hp : (5 : Int) ^ (-e).toNat ≤ 152587890625 := by
        have h1 : 5 ^ (-e).toNat ≤ 5 ^ 16 := Nat.pow_le_pow_right (by decide) (by omega)
        have h2 : ((5 ^ (-e).toNat : Nat) : Int) = (5 : Int) ^ (-e).toNat := by rw [Int.natCast_pow]; rfl
        omega
      have hp0 : (0 : Int) < 5 ^ (-e).toNat := Int.pow_pos (by decide)
      generalize (5 : Int) ^ (-e).toNat = v at *
      have hm0 : -65535 ≤ m := by omega
      have hm1 : m ≤ 65535 := by omega
      have he2 : e < 0 := by omega
      have hneg : IntKind.i64.wrap (-e) = -e := IntWalk.i64_in _ (by omega)
      clear h0 h1 k0 k1 a2 a3 a4 hv hlt he
      go_enter Try.func172, Try.ntmps172
      go_wp2_with fail
      rw [← hW]
      refine (cok _ hB hN).mono ?_
      clear hB hN
      rintro r w1 ⟨rfl, hB, hN⟩
      obtain ⟨f0, f1, r0, r1, z0, z1⟩ := hcells _ hB
      go_wp2_with fail
      have hkeep : ∀ W' : World, Below W0.heap.size W0 W' → W0.heap.size ≤ W'.heap.size → Below W0.heap.size W0 W' ∧ W0.heap.size ≤ W'.heap.size ∧ W'.cell? ⟨w.heap.size, 0, none⟩ = some (.int .i64 m) ∧ W'.cell? ⟨w.heap.size, 1, none⟩ = some (.int .i64 e) := fun W' hb hn => ⟨hb, hn, (hcells _ hb).1, (hcells _ hb).2.1⟩
      have hkeepA : ∀ (W' : World) (o : Obj), Below W0.heap.size W0 W' → W0.heap.size ≤ W'.heap.size → Below W0.heap.size W0 (W'.alloc o) ∧ W0.heap.size ≤ (W'.alloc o).heap.size ∧ (W'.alloc o).cell? ⟨w.heap.size, 0, none⟩ = some (.int .i64 m) ∧ (W'.alloc o).cell? ⟨w.heap.size, 1, none⟩ = some (.int .i64 e) := fun W' o hb hn => hkeep _ (hb.alloc hn o) (by simp; omega)
      have hkeepAD : ∀ (W' : World) (o : Obj), Below W0.heap.size W0 W' → W0.heap.size ≤ W'.heap.size → Below W0.heap.size W0 (W'.alloc o).drew ∧ W0.heap.size ≤ (W'.alloc o).drew.heap.size ∧ (W'.alloc o).drew.cell? ⟨w.heap.size, 0, none⟩ = some (.int .i64 m) ∧ (W'.alloc o).drew.cell? ⟨w.heap.size, 1, none⟩ = some (.int .i64 e) := fun W' o hb hn => hkeep _ (Below.drew (hb.alloc hn o)) (by show _ ≤ (W'.alloc o).heap.size; simp; omega)
      have hkeepS : ∀ (W' : World) (p q : Addr) (u v : Value), W0.heap.size ≤ p.block → W0.heap.size ≤ q.block → Below W0.heap.size W0 W' → W0.heap.size ≤ W'.heap.size → Below W0.heap.size W0 ((W'.setCell p u).setCell q v) ∧ W0.heap.size ≤ ((W'.setCell p u).setCell q v).heap.size ∧ ((W'.setCell p u).setCell q v).cell? ⟨w.heap.size, 0, none⟩ = some (.int .i64 m) ∧ ((W'.setCell p u).setCell q v).cell? ⟨w.heap.size, 1, none⟩ = some (.int .i64 e) := fun W' p q u v hp hq hb hn => hkeep _ ((hb.setCell hp u).setCell hq v) (by simpa [World.setCell] using hn)
      have hRB : DBox w1.drew (w.heap.size + 1) := ⟨r0, r1, z0, z1⟩
      have crg := decnew_relbox (N := W0.heap.size) (W0 := W0) hdec
      clear cok a0 a1 hp hp0 hm0 hm1 hdec cd r0 r1 z0 z1
      go_region_held3 (fun W' => Below W0.heap.size W0 W' ∧ W0.heap.size ≤ W'.heap.size ∧ W'.cell? ⟨w.heap.size, 0, none⟩ = some (.int .i64 m) ∧ W'.cell? ⟨w.heap.size, 1, none⟩ = some (.int .i64 e)) (first | (refine hkeep _ ?_ ?_ <;> assumption) | (refine hkeep _ (Below.drew ?_) ?_ <;> assumption) | (refine hkeepA _ _ ?_ ?_ <;> assumption) | (refine hkeepAD _ _ ?_ ?_ <;> assumption) | (refine hkeepS _ _ _ _ _ ?_ ?_ ?_ ?_ <;> first | assumption | (show _ ≤ _; simp; done) | (show _ ≤ _; assumption))) ((first | (go_at_call 190; refine (cp _).mono ?_; rintro r w' ⟨rfl, rfl⟩) | (go_at_call 182; go_split_ands; refine (crg _ _ ?_ ?_ (dbox_drew _ _)).mono ?_; assumption; assumption; rintro r w2 ⟨rfl, hb2, hn2, hg0, hg1, hy0, hy1⟩) | (go_at_call 182; go_split_ands; refine (crg _ _ ?_ ?_ (dbox_new _ _)).mono ?_; assumption; assumption; rintro r w2 ⟨rfl, hb2, hn2, hg0, hg1, hy0, hy1⟩) | (go_at_call 182; go_split_ands; refine (crg _ _ ?_ ?_ hRB).mono ?_; assumption; assumption; rintro r w2 ⟨rfl, hb2, hn2, hg0, hg1, hy0, hy1⟩)))
      all_goals
        go_split_ands
        obtain ⟨t0, t1⟩ := tcells hg0 hg1 (.int .i64 (m * v)) (.int .i64 e)
        have hRB := Lib.hid hRB
        have hbf := (by assumption : Below W0.heap.size W0 _)
        obtain ⟨_, _, r0, r1, z0, z1⟩ := hcells _ hbf
        clear crg cp
        go_wp2
        refine bodyPost_ret (v := .agg #[.int .i64 (m * v), .int .i64 e]) (by simp [results, Try.results172, go_sem, r0, r1]) rfl ⟨rfl, ?_⟩
        exact ((hend _ hbf).setCell (by simp) _).setCell (by simp) _
end Go.Proofs.Ytdjnkcoepmackaa
/- What the model's draws for decimal numbers return. -/
namespace Go.Proofs.Ytdjnkcoepmackaa
open Go.RowKit
def DecPost (B : Nat) (P : Int → Int → Prop) (w : World) (e : Ending) (w' : World) : Prop := ∃ n x : Int, P n x ∧ e = .returned (.agg #[.int .i64 n, .int .i64 x]) ∧ Only B w w' ∧ Cur w' B
theorem decOk_15 : decOk 15 (-1) = true := decOk_neg (by decide) (by decide) ((digV_17 15).2 (by decide)) (by decide)
theorem isNew_ok {n x N X : Int} (h : IsNew n x N X true) : decOk N X = true := by
  rcases h with ⟨_, _, h, _⟩ | ⟨h, _⟩
  · exact h
  · cases h
set_option maxRecDepth 100000 in
theorem l4draw_any (w : World) (B : Nat) (hC : Cur w B) : Calls Try.prog 155 #[.pointer (some ⟨B, 0, none⟩)] w (DecPost B (fun n x => decOk n x = true) w) := by
  have hBw := hC.lt
  go_enter Try.func155, Try.ntmps155
  go_wp2
  go_loopw [3] (fun i wr => ∃ k : Nat, i = .int .i64 k ∧ (k : Int) ≤ 6 ∧ Only B (w.alloc (.cells #[.int .i64 0, .int .i64 0] 58)) wr ∧ Cur wr B) (fun i _ => 6 - (intOf i).toNat)
  case atStart => exact ⟨0, rfl, by omega, Only.refl _ _, hC.alloc _⟩
  case round =>
    obtain ⟨k, rfl, hk, ho, hc⟩ := hrel
    by_cases hlt : (k : Int) < 6
    · go_wp2_with fail
      refine (signed_any _ B hc).mono ?_
      rintro e w1 ⟨x, ⟨hx0, hx1⟩, rfl, ho1, hc1⟩
      go_wp2_with fail
      refine (below_any w1 B 17 hc1 (by decide)).mono ?_
      rintro e w2 ⟨y, ⟨hy0, hy1⟩, rfl, ho2, hc2⟩
      go_wp2_with fail
      refine (decnew_spec x (-y) w2 (by omega) (by omega)).mono ?_
      rintro e w3 ⟨N, X, ok, rfl, hN, hb3⟩
      have hO := (ho.trans (ho1.trans ho2)).then_below hb3 (by have := ho.size; have := ho1.size; have := ho2.size; omega)
      have hC3 := hc2.below hb3 hc2.lt
      have hN := Lib.hid hN
      cases ok
      · go_wp2
        go_roundw
        case rel => exact ⟨k + 1, by go_num, by omega, hO.trans ((Only.refl B _).alloc _), hC3.alloc _⟩
        case measure => simp [intOf]; omega
      · have hbox := (box_new w 0 0 58).only hO (by omega)
        obtain ⟨e0, e1⟩ := two_set_alloc hbox (.int .i64 N) (.int .i64 X) (.cells #[.int .i64 N, .int .i64 X] 58)
        obtain ⟨b0, b1, b2, b3⟩ := hbox
        have hsz : w.heap.size < w3.heap.size := by have := hO.size; simp at this; omega
        go_wp2
        refine bodyPost_ret (v := .agg #[.int .i64 N, .int .i64 X]) (by simp [results, Try.results155, go_sem, e0, e1]) rfl ⟨N, X, isNew_ok hN.out, rfl, ?_, ?_⟩
        · exact (((((Only.refl B w).alloc _).trans hO).setNew (Nat.le_refl _) _).setNew (Nat.le_refl _) _).alloc _
        · exact ((hC3.setNew (by show _ < w.heap.size; omega) _).setNew (by show _ < w.heap.size; omega) _).alloc _
    · obtain ⟨b0, b1, b2, b3⟩ := (box_new w 0 0 58).only ho (by omega)
      go_wp2
      refine bodyPost_ret (v := .agg #[.int .i64 15, .int .i64 (-1)]) (by simp [results, Try.results155, go_sem, b0, b1, b2, b3]) rfl ⟨15, -1, decOk_15, rfl, ?_, ?_⟩
      · exact ((((Only.refl B w).alloc _).trans ho).setNew (Nat.le_refl _) _).setNew (Nat.le_refl _) _
      · exact (hc.setNew (by show _ < w.heap.size; omega) _).setNew (by show _ < w.heap.size; omega) _
def AnyDec (n x : Int) : Prop := isInt n ∧ -17 ≤ x ∧ x ≤ 1
theorem any_of {n x : Int} (h : decOk n x = true) : AnyDec n x := by
  obtain ⟨r0, r1, r2, _, _⟩ := decOk_range h
  exact ⟨⟨by omega, by omega⟩, by omega, by omega⟩
set_option maxRecDepth 100000 in
theorem l4any_any (w : World) (B : Nat) (hC : Cur w B) : Calls Try.prog 112 #[.pointer (some ⟨B, 0, none⟩)] w (DecPost B AnyDec w) := by
  have hBw := hC.lt
  go_enter Try.func112, Try.ntmps112
  go_wp2_with fail
  refine (l4draw_any _ B (hC.alloc _)).mono ?_
  rintro e w1 ⟨n, x, hv, rfl, ho1, hc1⟩
  have hv1 := Lib.hid (any_of hv)
  clear hv
  have hz1 : w.heap.size < w1.heap.size := by have := ho1.size; simp at this; omega
  have O1 := (((Only.refl B w).alloc (.cells #[.int .i64 0, .int .i64 0] 58)).trans ho1).alloc (.cells #[.int .i64 n, .int .i64 x] 58)
  have R1 := ((box_new w 0 0 58).only ho1 (by omega)).below (N := w1.heap.size) ((Below.refl _ _).alloc (Nat.le_refl _) (.cells #[.int .i64 n, .int .i64 x] 58)) hz1
  have D1 := box_new w1 n x 58
  have hC1 := hc1.alloc (.cells #[.int .i64 n, .int .i64 x] 58)
  go_wp2_with fail
  refine (below_any _ B 8 hC1 (by decide)).mono ?_
  rintro e w2 ⟨k, ⟨hk0, hk1⟩, rfl, ho2, hc2⟩
  have O2 := O1.trans ho2
  have R2 := R1.only ho2 (by omega)
  have D2 := D1.only ho2 (by omega)
  clear R1 D1 ho1 ho2 hC1 hc1 O1
  have hne : w1.heap.size ≠ w.heap.size := by omega
  by_cases h0 : k = 0
  · subst h0
    go_wp2_with fail
    refine (raw_any w2 B hc2).mono ?_
    rintro e w3 ⟨m, hm, rfl, ho3, hc3⟩
    obtain ⟨b0, b1, b2, b3⟩ := R2.only ho3 (by omega)
    obtain ⟨d0, d1, d2, d3⟩ := D2.only ho3 (by omega)
    have O3 := O2.trans ho3
    go_wp2
    refine bodyPost_ret (v := .agg #[.int .i64 m, .int .i64 x]) (by simp [results, Try.results112, go_sem, b0, b1, b2, b3, d0, d1, hne]) rfl ⟨m, x, ⟨hm, hv1.out.2⟩, rfl, ?_, ?_⟩
    · exact ((O3.setNew (by show _ ≤ w1.heap.size; omega) _).setNew (Nat.le_refl _) _).setNew (Nat.le_refl _) _
    · exact ((hc3.setNew (by show _ < w1.heap.size; omega) _).setNew (by show _ < w.heap.size; omega) _).setNew (by show _ < w.heap.size; omega) _
  · by_cases h1 : k = 1
    · subst h1
      go_wp2_with fail
      refine (int_lit w2 B [-17, -16, 0, 1] 3 (fun y => -17 ≤ y ∧ y ≤ 1) hc2 (by decide) (by decide) (by decide)).mono ?_
      rintro e w3 ⟨y, hy, rfl, ho3, hc3⟩
      obtain ⟨b0, b1, b2, b3⟩ := R2.only ho3 (by omega)
      obtain ⟨d0, d1, d2, d3⟩ := D2.only ho3 (by omega)
      have O3 := O2.trans ho3
      go_wp2
      refine bodyPost_ret (v := .agg #[.int .i64 n, .int .i64 y]) (by simp [results, Try.results112, go_sem, b0, b1, b2, b3, d0, d1, hne]) rfl ⟨n, y, ⟨hv1.out.1, hy⟩, rfl, ?_, ?_⟩
      · exact ((O3.setNew (by show _ ≤ w1.heap.size; omega) _).setNew (Nat.le_refl _) _).setNew (Nat.le_refl _) _
      · exact ((hc3.setNew (by show _ < w1.heap.size; omega) _).setNew (by show _ < w.heap.size; omega) _).setNew (by show _ < w.heap.size; omega) _
    · by_cases h2 : k = 2
      · subst h2
        go_wp2_with fail
        refine (below_any w2 B 9 hc2 (by decide)).mono ?_
        rintro e w3 ⟨y, ⟨hy0, hy1⟩, rfl, ho3, hc3⟩
        obtain ⟨b0, b1, b2, b3⟩ := R2.only ho3 (by omega)
        obtain ⟨d0, d1, d2, d3⟩ := D2.only ho3 (by omega)
        have O3 := O2.trans ho3
        go_wp2
        refine bodyPost_ret (v := .agg #[.int .i64 (10 * y), .int .i64 x]) (by simp [results, Try.results112, go_sem, b0, b1, b2, b3, d0, d1, hne]) rfl ⟨10 * y, x, ⟨⟨by omega, by omega⟩, hv1.out.2⟩, rfl, ?_, ?_⟩
        · exact ((O3.setNew (by show _ ≤ w1.heap.size; omega) _).setNew (Nat.le_refl _) _).setNew (Nat.le_refl _) _
        · exact ((hc3.setNew (by show _ < w1.heap.size; omega) _).setNew (by show _ < w.heap.size; omega) _).setNew (by show _ < w.heap.size; omega) _
      · obtain ⟨b0, b1, b2, b3⟩ := R2
        obtain ⟨d0, d1, d2, d3⟩ := D2
        go_wp2
        refine bodyPost_ret (v := .agg #[.int .i64 n, .int .i64 x]) (by simp [results, Try.results112, go_sem, b0, b1, b2, b3, d0, d1, hne]) rfl ⟨n, x, hv1.out, rfl, ?_, ?_⟩
        · exact (O2.setNew (Nat.le_refl _) _).setNew (Nat.le_refl _) _
        · exact (hc2.setNew (by show _ < w.heap.size; omega) _).setNew (by show _ < w.heap.size; omega) _
end Go.Proofs.Ytdjnkcoepmackaa
