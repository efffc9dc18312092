/- What NearFlt of the program returns: the nearest floating-point number. -/
import Derived.Test.YtjfjbocaplpdfaaDoorFltNew
import Derived.Test.YtjfjbocaplpdfaaDoorShelf
import Derived.Test.YtjfjbocaplpdfaaDoorHalf
import Derived.Test.YtjfjbocaplpdfaaDoorPow
import Derived.Test.YtjfjbocaplpdfaaDoorDecOk
import Derived.Test.YtjfjbocaplpdfaaDoorLess
import Derived.Deep.QuietTactic
import Derived.BigQuiet
import Derived.Deep.RegionHeld3
namespace Go.Proofs.YtjfjbocaplpdfaaDoor
open Go.RowKit
theorem signed_val (b : Bool) (v : Int) (w : World) (h : -9223372036854775808 < v) (h2 : v ≤ 9223372036854775807) : Calls Tryd.prog 37 #[.int .i64 v, .bool b] w fun r w' => r = .returned (.int .i64 (if b = true then -v else v)) ∧ w = w' := by
  cases b
  · go_enter Tryd.func37, Tryd.ntmps37
    go_wp2
    go_ret
    exact ⟨rfl, rfl⟩
  · go_enter Tryd.func37, Tryd.ntmps37
    go_wp2
    go_ret
    exact ⟨rfl, rfl⟩
theorem least_val (n : Nat) (w : World) (h : n < 4611686018427387904) : Calls Tryd.prog 38 #[.int .i64 n] w fun r w' => r = .returned (.int .i64 ((Lib.bitLen n : Int) - 16)) ∧ w = w' := by
  have hl : Lib.bitLen n ≤ 64 := Lib.bitLen_le n 64 (by omega) (by omega)
  have hl2 : (Lib.bitLen n : Int) ≤ 64 := by omega
  have h3 : (n : Int) < 4611686018427387904 := by omega
  have cb := fun w1 => Tryd.bits_Len (n : Int) w1 (by omega) (by omega)
  rw [Int.toNat_natCast] at cb
  generalize Lib.bitLen n = L at *
  clear hl
  go_enter Tryd.func38, Tryd.ntmps38
  go_wp2_with (go_at_call 55; refine (cb _).mono ?_; rintro r w' ⟨rfl, rfl⟩)
  go_ret
  exact ⟨rfl, rfl⟩
theorem halfV_rnd (n d : Nat) (hn : n ≤ 1000000000000000) (hd : 1 ≤ d) (hd2 : d ≤ 1000000000000000) : halfV n d = rnd n d := by
  unfold halfV rnd
  rw [if_neg (by omega)]
  have h1 : ((n : Int) % d) = ((n % d : Nat) : Int) := (Int.natCast_emod n d).symm
  have h2 : ((n : Int) / d) = ((n / d : Nat) : Int) := (Int.natCast_ediv n d).symm
  rw [h1, h2]
  generalize n % d = r
  generalize n / d = q
  by_cases c : d < 2 * r ∨ (2 * r = d ∧ q % 2 = 1)
  · rw [if_pos c, if_pos (by omega)]; rfl
  · rw [if_neg c, if_neg (by omega)]
theorem quot_val (n d : Nat) (w : World) (hn : n < 4611686018427387904) (hd : 1 ≤ d) (hd2 : d ≤ 500000000000000) :
    Calls Tryd.prog 39 #[.int .i64 n, .int .i64 d] w fun r w' => r = .returned (.int .i64 (rnd n d)) ∧ Below w.heap.size w w' := by
  have hp : 0 < 2 * d := by omega
  have hr : n % (2 * d) < 2 * d := Nat.mod_lt _ hp
  have hq : n / (2 * d) ≤ n / 2 := Nat.div_le_div_left (by omega) (by omega)
  have ch := fun w1 => half_impl ((n % (2 * d) : Nat) : Int) d w1
  rw [halfV_rnd _ _ (by omega) hd (by omega)] at ch
  have hf := rnd_pair n d (by omega)
  have hb := rnd_le (n % (2 * d)) d
  have hb2 := Nat.div_le_self (n % (2 * d)) d
  obtain ⟨k, hk⟩ : ∃ k, k = n / (2 * d) := ⟨_, rfl⟩
  obtain ⟨r, hr2⟩ : ∃ r, r = n % (2 * d) := ⟨_, rfl⟩
  have hkI : (n : Int) / (2 * (d : Int)) = (k : Int) := by rw [hk, Int.natCast_ediv, Int.natCast_mul]; rfl
  have hrI : (n : Int) % (2 * (d : Int)) = (r : Int) := by rw [hr2, Int.natCast_emod, Int.natCast_mul]; rfl
  have hkT : (n : Int).tdiv (2 * (d : Int)) = (k : Int) := by rw [Int.tdiv_eq_ediv_of_nonneg (by omega)]; exact hkI
  have hrT : (n : Int).tmod (2 * (d : Int)) = (r : Int) := by rw [Int.tmod_eq_emod_of_nonneg (by omega)]; exact hrI
  rw [← hr2] at ch hb hb2 hr
  rw [← hk, ← hr2] at hf
  generalize hv : rnd r d = v at *
  have b1 : (d : Int) ≤ 500000000000000 := by omega
  have b2 : (0 : Int) < d := by omega
  have b3 : (k : Int) ≤ 2305843009213693952 := by omega
  have b4 : (v : Int) ≤ 1000000000000001 := by omega
  have b5 : (n : Int) < 4611686018427387904 := by omega
  have hfin : ((k : Int) * 2 + v) = (rnd n d : Nat) := by omega
  have w1 : IntKind.i64.wrap (k : Int) = k := IntWalk.i64_in _ (by omega)
  have w2 : IntKind.i64.wrap ((k : Int) * 2) = k * 2 := IntWalk.i64_in _ (by omega)
  have w3 : IntKind.i64.wrap ((rnd n d : Nat) : Int) = (rnd n d : Nat) := IntWalk.i64_in _ (by omega)
  have q0 : (2 * (d : Int) == 0) = false := by simp; omega
  have q1 : 2 * (d : Int) ≠ 0 := by omega
  clear hf hb hb2 hk hr2 hr hq hp hv hkI hrI
  go_enter Tryd.func39, Tryd.ntmps39
  go_wp2_with fail
  go_region_held3 (fun _ => True) (trivial) ((first | (go_at_call 56; refine (ch _).mono ?_; rintro e w' ⟨rfl, hb⟩)))
  all_goals
    go_wp2
    go_ret
    exact ⟨rfl, ⟨hb.os, hb.tape, hb.output, hb.size, hb.block⟩⟩
theorem abs_of {n : Int} : (if decide (n < 0) = true then -n else n) = (n.natAbs : Int) := by
  by_cases h : n < 0
  · rw [if_pos (by simpa using h)]; omega
  · rw [if_neg (by simpa using h)]; omega
theorem back_of (n x : Int) : (if decide (n < 0) = true then -(nearR n.natAbs (10 ^ (-x).toNat) : Int) else nearR n.natAbs (10 ^ (-x).toNat)) = nearN n x := by
  unfold nearN
  by_cases h : n < 0
  · rw [if_pos (by simpa using h), if_pos h]
  · rw [if_neg (by simpa using h), if_neg h]
theorem under_bound {a p k : Nat} (ha : a < 100000000000000000) (hp : p ≤ 16) (hL : p + nearL a (10 ^ p) = 16 + k) : 5 ^ p * 2 ^ k ≤ 10000000000000 := by
  have e1 : 5 ^ p * 2 ^ k * 65536 = 10 ^ p * 2 ^ nearL a (10 ^ p) := by
    generalize nearL a (10 ^ p) = L at *
    rw [show (10 : Nat) ^ p = 5 ^ p * 2 ^ p by rw [← Nat.mul_pow], Nat.mul_assoc, Nat.mul_assoc, ← Nat.pow_add, hL, Nat.pow_add, Nat.mul_comm (2 ^ 16)]
  by_cases h0 : nearL a (10 ^ p) = 0
  · have hk : k = 0 := by omega
    have h5 : 5 ^ p ≤ 5 ^ 16 := Nat.pow_le_pow_right (by decide) hp
    rw [hk, Nat.pow_zero, Nat.mul_one]
    omega
  · have hw : a / 10 ^ p < 2 ^ 64 := Nat.lt_of_le_of_lt (Nat.div_le_self _ _) (by omega)
    have h1 := near_ge (ten_pos p) hw h0
    have e2 : 10 ^ p * 2 ^ nearL a (10 ^ p) = 2 * (2 ^ (nearL a (10 ^ p) - 1) * 10 ^ p) := by
      rw [show (2 : Nat) ^ nearL a (10 ^ p) = 2 ^ (nearL a (10 ^ p) - 1) * 2 by rw [← Nat.pow_succ]; congr 1; omega, Nat.mul_comm (10 ^ p), Nat.mul_comm _ 2, Nat.mul_assoc]
    omega
theorem over_bound {a p k : Nat} (ha : a < 100000000000000000) (hp : p ≤ 16) (hL : p + nearL a (10 ^ p) + k = 16) : a * 2 ^ k ≤ 10000000000000000 := by
  have hw : a / 10 ^ p < 2 ^ 64 := Nat.lt_of_le_of_lt (Nat.div_le_self _ _) (by omega)
  have h1 := near_lt (ten_pos p) hw
  have h2 : a * 2 ^ k ≤ 2 ^ nearL a (10 ^ p) * 10 ^ p * 2 ^ k := Nat.mul_le_mul_right _ (Nat.le_of_lt h1)
  have e1 : 2 ^ nearL a (10 ^ p) * 10 ^ p * 2 ^ k = 5 ^ p * 65536 := by
    generalize nearL a (10 ^ p) = L at *
    rw [show (10 : Nat) ^ p = 5 ^ p * 2 ^ p by rw [← Nat.mul_pow], show (65536 : Nat) = 2 ^ 16 from rfl, ← hL, Nat.pow_add, Nat.pow_add]
    generalize 5 ^ p = x
    generalize 2 ^ p = y
    generalize 2 ^ L = z
    generalize 2 ^ k = t
    rw [Nat.mul_comm z, Nat.mul_assoc x, Nat.mul_assoc x]
  have h5 : 5 ^ p ≤ 5 ^ 16 := Nat.pow_le_pow_right (by decide) hp
  omega
def NearPost (n x : Int) (w : World) (r : Ending) (w' : World) : Prop := ∃ (M E : Int) (ok : Bool), r = .returned (.tuple #[.agg #[.int .i64 M, .int .i64 E], .bool ok]) ∧ IsNear n x M E ok ∧ Below w.heap.size w w'
theorem pow10 {k : Int} (h0 : 0 ≤ k) (h1 : k ≤ 17) : powV 10 k = 10 ^ k.toNat := by unfold powV; rw [if_pos ⟨by decide, h0, h1⟩]
set_option maxRecDepth 100000 in
set_option maxHeartbeats 4000000 in
theorem near_impl (n x : Int) (w : World) (h0 : -9223372036854775808 ≤ n) (h1 : n ≤ 9223372036854775807) : Calls Tryd.prog 19 #[.agg #[.int .i64 n, .int .i64 x]] w (NearPost n x w) := by
  obtain ⟨W0, hW⟩ : ∃ W0 : World, W0 = (w.alloc (.cells #[.int .i64 n, .int .i64 x] 28)).alloc (.cells #[.int .i64 0, .int .i64 0] 25) := ⟨_, rfl⟩
  have hcells : ∀ W', Below W0.heap.size W0 W' → W'.cell? ⟨w.heap.size, 0, none⟩ = some (.int .i64 n) ∧ W'.cell? ⟨w.heap.size, 1, none⟩ = some (.int .i64 x) ∧ W'.cell? ⟨w.heap.size + 1, 0, none⟩ = some (.int .i64 0) ∧ W'.cell? ⟨w.heap.size + 1, 1, none⟩ = some (.int .i64 0) ∧ W'.frozen? ⟨w.heap.size + 1, 0, none⟩ = false ∧ W'.frozen? ⟨w.heap.size + 1, 1, none⟩ = false := fun W' hb => by
    subst hW
    exact ⟨(hb.cell (p := ⟨w.heap.size, 0, none⟩) (by simp; omega)).trans (by simp [go_sem]), (hb.cell (p := ⟨w.heap.size, 1, none⟩) (by simp; omega)).trans (by simp [go_sem]), (hb.cell (p := ⟨w.heap.size + 1, 0, none⟩) (by simp)).trans (by simp [go_sem]), (hb.cell (p := ⟨w.heap.size + 1, 1, none⟩) (by simp)).trans (by simp [go_sem]), (hb.frozen (p := ⟨w.heap.size + 1, 0, none⟩) (by simp)).trans (by simp [go_sem]), (hb.frozen (p := ⟨w.heap.size + 1, 1, none⟩) (by simp)).trans (by simp [go_sem])⟩
  have hend : ∀ W', Below W0.heap.size W0 W' → Below w.heap.size w W' := fun W' hb => by
    subst hW
    exact ((Below.refl _ _).alloc (Nat.le_refl _) _).alloc (by simp) _ |>.trans (hb.mono (by simp; omega))
  have hsz : W0.heap.size = w.heap.size + 2 := by subst hW; simp
  have hB := Below.refl W0.heap.size W0
  have hN := Nat.le_refl W0.heap.size
  have cok := relCall (fun W => decok_impl n x W h0 h1) (N := W0.heap.size) (W0 := W0)
  cases hv : decOk n x
  · rw [hv] at cok
    have hfin : IsNear n x 0 0 false := .inr ⟨hv, rfl, rfl, rfl⟩
    have hfin := Lib.hid hfin
    clear h0 h1 hv
    go_enter Tryd.func19, Tryd.ntmps19
    go_wp2_with fail
    rw [← hW]
    refine (cok _ hB hN).mono ?_
    rintro r w1 ⟨rfl, hb, hn⟩
    obtain ⟨f0, f1, r0, r1, z0, z1⟩ := hcells _ hb
    go_wp2
    refine bodyPost_ret (v := .tuple #[.agg #[.int .i64 0, .int .i64 0], .bool false]) (by simp [results, Tryd.results19, go_sem, r0, r1]) rfl ⟨0, 0, false, rfl, hfin.out, ?_⟩
    exact ((hend _ hb).setCell (by simp) _).setCell (by simp) _
  · rw [hv] at cok
    obtain ⟨a0, a1, a2, _, _⟩ := decOk_range hv
    have hLn := near_in hv
    have hwl := whole_lt hv
    have hnear : Hid (∀ M E ok, IsFlt (nearN n x) (nearE n x) M E ok → IsNear n x M E ok) := Lib.hid fun M E ok h => .inl ⟨hv, h⟩
    have hbk := back_of n x
    have hnE : nearE n x = (nearL n.natAbs (10 ^ (-x).toNat) : Int) - 16 := rfl
    obtain ⟨p, hp⟩ : ∃ p : Nat, -x = (p : Int) := ⟨(-x).toNat, by omega⟩
    have hp16 : p ≤ 16 := by omega
    rw [hp, Int.toNat_natCast] at hbk hnE hwl
    have cp10 := relCall (fun W => pow_impl 10 p W) (N := W0.heap.size) (W0 := W0)
    rw [pow10 (by omega) (by omega), Int.toNat_natCast] at cp10
    have cp5 := relCall (fun W => pow_impl 5 p W) (N := W0.heap.size) (W0 := W0)
    rw [show powV 5 (p : Int) = 5 ^ (p : Int).toNat from by unfold powV; rw [if_pos ⟨by decide, by omega, by omega⟩], Int.toNat_natCast] at cp5
    have cs1 := fun W => signed_val (decide (n < 0)) n W (by omega) (by omega)
    rw [abs_of] at cs1
    have hR := nearR_le (ten_pos p) (show n.natAbs / 10 ^ p < 2 ^ 64 from hwl)
    have cs2 := fun W => signed_val (decide (n < 0)) (nearR n.natAbs (10 ^ p)) W (by omega) (by omega)
    rw [hbk] at cs2
    have cl := fun W => least_val (n.natAbs / 10 ^ p) W (by have := Nat.div_le_self n.natAbs (10 ^ p); omega)
    rw [show Lib.bitLen (n.natAbs / 10 ^ p) = nearL n.natAbs (10 ^ p) from rfl] at cl
    have cf := fun W => fltnew_impl (nearN n x) (nearE n x) W (by have := hLn.1; omega) (by have := hLn.1; omega) (by have := hLn.2.1; omega) (by have := hLn.2.2; omega)
    rw [hnE] at cf hnear hLn
    have hL54 : nearL n.natAbs (10 ^ p) ≤ 64 := (bitLen_le_iff 64 _ hwl).2 hwl
    have hT : ((10 ^ p : Nat) : Int) = (10 : Int) ^ p := by rw [Int.natCast_pow]; rfl
    have hF : ((5 ^ p : Nat) : Int) = (5 : Int) ^ p := by rw [Int.natCast_pow]; rfl
    have hF2 : 5 ^ p ≤ 5 ^ 16 := Nat.pow_le_pow_right (by decide) hp16
    have hF3 : 0 < 5 ^ p := Nat.pow_pos (by decide)
    have hq : (n.natAbs : Int) / (10 : Int) ^ p = ((n.natAbs / 10 ^ p : Nat) : Int) := by rw [Int.natCast_ediv, hT]
    have hT0 : (0 : Int) < 10 ^ p := Int.pow_pos (by decide)
    have hwp : IntKind.i64.wrap (p : Int) = p := IntWalk.i64_in _ (by omega)
    have hkeep : ∀ W' : World, Below W0.heap.size W0 W' → W0.heap.size ≤ W'.heap.size → Below W0.heap.size W0 W' ∧ W0.heap.size ≤ W'.heap.size ∧ W'.cell? ⟨w.heap.size, 0, none⟩ = some (.int .i64 n) ∧ W'.cell? ⟨w.heap.size, 1, none⟩ = some (.int .i64 x) := fun W' hb hn => ⟨hb, hn, (hcells _ hb).1, (hcells _ hb).2.1⟩
    rw [← hF] at cp5
    have hsplit : (∃ k, p + nearL n.natAbs (10 ^ p) = 16 + k) ∨ (∃ k, p + nearL n.natAbs (10 ^ p) + k = 16 ∧ 0 < k) := by
      rcases Nat.lt_or_ge (p + nearL n.natAbs (10 ^ p)) 16 with h | h
      · exact .inr ⟨16 - (p + nearL n.natAbs (10 ^ p)), by omega, by omega⟩
      · exact .inl ⟨p + nearL n.natAbs (10 ^ p) - 16, by omega⟩
    rcases hsplit with ⟨k, hk⟩ | ⟨k, hk, hk0⟩
    · have hu := under_bound a2 hp16 hk
      have hu1 : 0 < 5 ^ p * 2 ^ k := Nat.mul_pos hF3 (two_pos k)
      have cq := relCall (fun W => quot_val n.natAbs (5 ^ p * 2 ^ k) W (by omega) hu1 (by omega)) (N := W0.heap.size) (W0 := W0)
      rw [← nearR_down hk] at cq
      have hUc : ((5 ^ p * 2 ^ k : Nat) : Int) = ((5 ^ p : Nat) : Int) * 2 ^ k := by rw [Int.natCast_mul, Int.natCast_pow]; rfl
      have hw1 : wrap64 (((5 ^ p : Nat) : Int) * 2 ^ k) = ((5 ^ p * 2 ^ k : Nat) : Int) := by rw [← hUc]; exact IntWalk.wrap64_in _ (by omega)
      have hk38 : k ≤ 64 := by omega
      have hsum : (p : Int) + ((nearL n.natAbs (10 ^ p) : Nat) - 16) = (k : Int) := by omega
      have hkI : (k : Int) ≤ 64 := by omega
      have hq62 : n.natAbs / 10 ^ p ≤ n.natAbs := Nat.div_le_self _ _
      clear hbk hnE hUc hT hF hv hLn hwl h0 h1 hR hF2 hF3 hu hu1 hk
      generalize hb : decide (n < 0) = b at *
      generalize nearR n.natAbs (10 ^ p) = R at *
      generalize nearN n x = v at *
      generalize nearL n.natAbs (10 ^ p) = L at *
      generalize n.natAbs / 10 ^ p = q at *
      generalize (10 : Int) ^ p = T at *
      generalize 5 ^ p * 2 ^ k = U at *
      generalize 5 ^ p = F at *
      generalize hna : n.natAbs = a at *
      have haI : (a : Int) ≤ 100000000000000000 := by omega
      have hLI : (L : Int) ≤ 64 := by omega
      have hqI : (q : Int) ≤ 100000000000000000 := by omega
      have hpI : (p : Int) ≤ 16 := by omega
      clear hna a2 hL54 hp16 hq62 hk38

      go_enter Tryd.func19, Tryd.ntmps19
      go_wp2_with fail
      rw [← hW]
      refine (cok _ hB hN).mono ?_
      clear hB hN cok hW
      rintro r w1 ⟨rfl, hB, hN⟩
      obtain ⟨f0, f1, _, _, _, _⟩ := hcells _ hB
      go_wp2_with fail
      go_region_held3 (fun W' => Below W0.heap.size W0 W' ∧ W0.heap.size ≤ W'.heap.size ∧ W'.cell? ⟨w.heap.size, 0, none⟩ = some (.int .i64 n) ∧ W'.cell? ⟨w.heap.size, 1, none⟩ = some (.int .i64 x)) (first | (refine hkeep _ ?_ ?_ <;> assumption) | (refine hkeep _ (Below.drew ?_) ?_ <;> assumption)) ((first | (go_at_call 37; refine (cs1 _).mono ?_; rintro r w' ⟨rfl, rfl⟩)))
      all_goals
        go_split_ands
        clear f0 f1 hB hN
        have hB := (by assumption : Below W0.heap.size W0 _)
        have hN := (by assumption : W0.heap.size ≤ _)
        go_wp2_with fail
        refine (cp10 _ hB hN).mono ?_
        clear hB hN cp10
        rintro r w2 ⟨rfl, hB, hN⟩
        go_wp2_with (go_at_call 38; refine (cl _).mono ?_; rintro r w' ⟨rfl, rfl⟩)
        refine (cp5 _ hB hN).mono ?_
        clear hB hN cp5 cl hq
        rintro r w3 ⟨rfl, hB, hN⟩
        go_wp2_with fail
        refine (cq _ hB hN).mono ?_
        clear hB hN cq
        rintro r w4 ⟨rfl, hB, hN⟩
        obtain ⟨_, _, r0, r1, z0, z1⟩ := hcells _ hB
        go_wp2_with (go_at_call 37; refine (cs2 _).mono ?_; rintro r w' ⟨rfl, rfl⟩)
        refine (cf _).mono ?_
        rintro r w5 ⟨M, E, ok, rfl, hfl, hb5⟩
        have hfl := Lib.hid hfl
        have hB5 := hB.trans (hb5.mono hN)
        obtain ⟨_, _, r0, r1, z0, z1⟩ := hcells _ hB5
        go_wp2
        refine bodyPost_ret (v := .tuple #[.agg #[.int .i64 M, .int .i64 E], .bool ok]) (by simp [results, Tryd.results19, go_sem, r0, r1]) rfl ⟨M, E, ok, rfl, hnear.out _ _ _ hfl.out, ?_⟩
        exact ((hend _ hB5).setCell (by simp) _).setCell (by simp) _
    · have hu := over_bound a2 hp16 hk
      have cq := relCall (fun W => quot_val (n.natAbs * 2 ^ k) (5 ^ p) W (by omega) (by omega) (by omega)) (N := W0.heap.size) (W0 := W0)
      rw [← nearR_up hk] at cq
      have hUc : ((n.natAbs * 2 ^ k : Nat) : Int) = (n.natAbs : Int) * 2 ^ k := by rw [Int.natCast_mul, Int.natCast_pow]; rfl
      have hw1 : wrap64 ((n.natAbs : Int) * 2 ^ k) = ((n.natAbs * 2 ^ k : Nat) : Int) := by rw [← hUc]; exact IntWalk.wrap64_in _ (by omega)
      have hk38 : k ≤ 64 := by omega
      have hsum : (p : Int) + ((nearL n.natAbs (10 ^ p) : Nat) - 16) = -(k : Int) := by omega
      have hkI : (k : Int) ≤ 64 := by omega
      have hkp : (0 : Int) < k := by omega
      have hkn : decide (0 ≤ -(k : Int)) = false := by simp; omega
      have hq62 : n.natAbs / 10 ^ p ≤ n.natAbs := Nat.div_le_self _ _
      clear hbk hnE hUc hT hF hv hLn hwl h0 h1 hR hF2 hF3 hu hk hk0
      generalize hb : decide (n < 0) = b at *
      generalize nearR n.natAbs (10 ^ p) = R at *
      generalize nearN n x = v at *
      generalize nearL n.natAbs (10 ^ p) = L at *
      generalize n.natAbs / 10 ^ p = q at *
      generalize (10 : Int) ^ p = T at *
      generalize n.natAbs * 2 ^ k = U at *
      generalize 5 ^ p = F at *
      generalize hna : n.natAbs = a at *
      have haI : (a : Int) ≤ 100000000000000000 := by omega
      have hLI : (L : Int) ≤ 64 := by omega
      have hqI : (q : Int) ≤ 100000000000000000 := by omega
      have hpI : (p : Int) ≤ 16 := by omega
      clear hna a2 hL54 hp16 hq62 hk38

      go_enter Tryd.func19, Tryd.ntmps19
      go_wp2_with fail
      rw [← hW]
      refine (cok _ hB hN).mono ?_
      clear hB hN cok hW
      rintro r w1 ⟨rfl, hB, hN⟩
      obtain ⟨f0, f1, _, _, _, _⟩ := hcells _ hB
      go_wp2_with fail
      go_region_held3 (fun W' => Below W0.heap.size W0 W' ∧ W0.heap.size ≤ W'.heap.size ∧ W'.cell? ⟨w.heap.size, 0, none⟩ = some (.int .i64 n) ∧ W'.cell? ⟨w.heap.size, 1, none⟩ = some (.int .i64 x)) (first | (refine hkeep _ ?_ ?_ <;> assumption) | (refine hkeep _ (Below.drew ?_) ?_ <;> assumption)) ((first | (go_at_call 37; refine (cs1 _).mono ?_; rintro r w' ⟨rfl, rfl⟩)))
      all_goals
        go_split_ands
        clear f0 f1 hB hN
        have hB := (by assumption : Below W0.heap.size W0 _)
        have hN := (by assumption : W0.heap.size ≤ _)
        go_wp2_with fail
        refine (cp10 _ hB hN).mono ?_
        clear hB hN cp10
        rintro r w2 ⟨rfl, hB, hN⟩
        go_wp2_with (go_at_call 38; refine (cl _).mono ?_; rintro r w' ⟨rfl, rfl⟩)
        refine (cp5 _ hB hN).mono ?_
        clear hB hN cp5 cl hq
        rintro r w3 ⟨rfl, hB, hN⟩
        go_wp2_with fail
        refine (cq _ hB hN).mono ?_
        clear hB hN cq
        rintro r w4 ⟨rfl, hB, hN⟩
        obtain ⟨_, _, r0, r1, z0, z1⟩ := hcells _ hB
        go_wp2_with (go_at_call 37; refine (cs2 _).mono ?_; rintro r w' ⟨rfl, rfl⟩)
        refine (cf _).mono ?_
        rintro r w5 ⟨M, E, ok, rfl, hfl, hb5⟩
        have hfl := Lib.hid hfl
        have hB5 := hB.trans (hb5.mono hN)
        obtain ⟨_, _, r0, r1, z0, z1⟩ := hcells _ hB5
        go_wp2
        refine bodyPost_ret (v := .tuple #[.agg #[.int .i64 M, .int .i64 E], .bool ok]) (by simp [results, Tryd.results19, go_sem, r0, r1]) rfl ⟨M, E, ok, rfl, hnear.out _ _ _ hfl.out, ?_⟩
        exact ((hend _ hB5).setCell (by simp) _).setCell (by simp) _
end Go.Proofs.YtjfjbocaplpdfaaDoor
