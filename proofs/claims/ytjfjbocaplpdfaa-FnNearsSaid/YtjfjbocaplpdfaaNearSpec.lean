/- What NearFlt of the model returns: the nearest floating-point number. -/
import Derived.Test.YtjfjbocaplpdfaaScaled
import Derived.Test.YtjfjbocaplpdfaaFltNew
import Derived.Test.YtjfjbocaplpdfaaFltDecS
import Derived.Test.YtjfjbocaplpdfaaNearImpl
import Derived.Deep.Cut
import Derived.Deep.QuietTactic
import Derived.BigQuiet
namespace Go.Proofs.Ytjfjbocaplpdfaa
open Go.RowKit
/-- how the model rounds: by the half and by whether there is a rest -/
def Rounds (m : Nat) (h : Int) (r : Bool) (R : Nat) : Prop := (h = -1 ∧ R = m) ∨ (h = 1 ∧ r = true ∧ R = m + 1) ∨ (h = 0 ∧ r = true ∧ m % 2 = 1 ∧ R = m + 1) ∨ (h = 0 ∧ r = true ∧ m % 2 = 0 ∧ R = m)
theorem rounds_low {a q j : Nat} (hL : nearL a q + j = 16) : Rounds (sq a q j) (sHalf a q j) (sRest a q j) (nearR a q) := by
  rw [nearR_low hL]
  unfold Rounds sHalf sRest rnd
  rw [show a * 2 ^ j / q = sq a q j from rfl, show a * 2 ^ j % q = sr a q j from rfl]
  generalize sq a q j = m
  generalize sr a q j = r
  by_cases h1 : 2 * r < q
  · rw [if_pos h1, if_pos h1, if_neg (by omega)]; exact .inl ⟨rfl, rfl⟩
  · rw [if_neg h1, if_neg h1]
    by_cases h2 : q < 2 * r
    · rw [if_pos h2, if_pos (.inl h2)]; exact .inr (.inl ⟨rfl, rfl, rfl⟩)
    · rw [if_neg h2]
      by_cases h3 : m % 2 = 1
      · rw [if_pos (by omega)]; exact .inr (.inr (.inl ⟨rfl, rfl, h3, rfl⟩))
      · rw [if_neg (by omega)]; exact .inr (.inr (.inr ⟨rfl, rfl, by omega, rfl⟩))
theorem rounds_high {a q k : Nat} (hq : 0 < q) (hL : nearL a q = 16 + (k + 1)) :
    (a / q % 2 ^ (k + 1) < 2 ^ k → ∀ r, Rounds (a / q / 2 ^ (k + 1)) (-1) r (nearR a q)) ∧
    (2 ^ k < a / q % 2 ^ (k + 1) → Rounds (a / q / 2 ^ (k + 1)) 1 true (nearR a q)) ∧
    (a / q % 2 ^ (k + 1) = 2 ^ k → 0 < a % q → Rounds (a / q / 2 ^ (k + 1)) 1 true (nearR a q)) ∧
    (a / q % 2 ^ (k + 1) = 2 ^ k → a % q = 0 → Rounds (a / q / 2 ^ (k + 1)) 0 true (nearR a q)) := by
  rw [nearR_high hL]
  have hr : a % q < q := Nat.mod_lt _ hq
  have hl : a / q % 2 ^ (k + 1) < 2 ^ (k + 1) := Nat.mod_lt _ (two_pos _)
  have hd : rnd a (q * 2 ^ (k + 1)) = if q * 2 ^ (k + 1) < 2 * (a % q + q * (a / q % 2 ^ (k + 1))) ∨ (2 * (a % q + q * (a / q % 2 ^ (k + 1))) = q * 2 ^ (k + 1) ∧ a / q / 2 ^ (k + 1) % 2 = 1) then a / q / 2 ^ (k + 1) + 1 else a / q / 2 ^ (k + 1) := by
    unfold rnd; rw [high_div, high_mod]
  rw [hd]
  rw [Nat.pow_succ] at hl ⊢
  generalize 2 ^ k = t at *
  generalize a / q % (t * 2) = l at *
  generalize a / q / (t * 2) = m at *
  generalize a % q = r at *
  have e1 : q * (t * 2) = 2 * (q * t) := by rw [← Nat.mul_assoc, Nat.mul_comm]
  rw [e1]
  refine ⟨fun h s => ?_, fun h => ?_, fun h h0 => ?_, fun h h0 => ?_⟩
  · have h1 : q * (l + 1) ≤ q * t := Nat.mul_le_mul_left _ h
    rw [Nat.mul_add, Nat.mul_one] at h1
    rw [if_neg (by omega)]; exact .inl ⟨rfl, rfl⟩
  · have h1 : q * (t + 1) ≤ q * l := Nat.mul_le_mul_left _ h
    rw [Nat.mul_add, Nat.mul_one] at h1
    rw [if_pos (by omega)]; exact .inr (.inl ⟨rfl, rfl, rfl⟩)
  · rw [h, if_pos (by omega)]; exact .inr (.inl ⟨rfl, rfl, rfl⟩)
  · rw [h, h0]
    by_cases h3 : m % 2 = 1
    · rw [if_pos (by omega)]; exact .inr (.inr (.inl ⟨rfl, rfl, h3, rfl⟩))
    · rw [if_neg (by omega)]; exact .inr (.inr (.inr ⟨rfl, rfl, by omega, rfl⟩))
theorem end_big1 {sg : Int} {L : Nat} (hs : sg = 1 ∨ sg = -1) (h : 30 ≤ (L : Int) - 16) : IsFlt (sg * ((65536 : Nat) : Int)) ((L : Int) - 16) 0 0 false := by
  refine isFlt_big (by omega) ?_
  have h1 : 2 ^ 30 ≤ 2 ^ ((L : Int) - 16).toNat := Nat.pow_le_pow_right (by decide) (by omega)
  have h2 : (sg * ((65536 : Nat) : Int)).natAbs = 65536 := by rcases hs with rfl | rfl <;> rfl
  rw [h2]; omega
theorem end_big2 {sg : Int} {L R : Nat} (hs : sg = 1 ∨ sg = -1) (h : 30 < (L : Int) - 16) (hR : 32768 ≤ R) : IsFlt (sg * (R : Int)) ((L : Int) - 16) 0 0 false := by
  refine isFlt_big (by omega) ?_
  have h1 : 2 ^ 31 ≤ 2 ^ ((L : Int) - 16).toNat := Nat.pow_le_pow_right (by decide) (by omega)
  have h2 : (sg * (R : Int)).natAbs = R := by rcases hs with rfl | rfl <;> omega
  rw [h2]
  have := Nat.mul_le_mul hR h1
  omega
theorem end_move {sg M E : Int} {L : Nat} {ok : Bool} (hs : sg = 1 ∨ sg = -1) (hL : L ≤ 57) (h : IsFlt (sg * 32768) ((L : Int) - 16 + 1) M E ok) : IsFlt (sg * ((65536 : Nat) : Int)) ((L : Int) - 16) M E ok := by
  refine isFlt_move ?_ ⟨by rcases hs with rfl | rfl <;> decide, by omega, by omega⟩ ⟨by rcases hs with rfl | rfl <;> decide, by omega, by omega⟩ h
  unfold sameF
  rw [show ((L : Int) - 16 + 1 + 200).toNat = ((L : Int) - 16 + 200).toNat + 1 by omega, Int.pow_succ, show (((65536 : Nat) : Int)) = 32768 * 2 by decide]
  generalize (2 : Int) ^ ((L : Int) - 16 + 200).toNat = t
  rw [Int.mul_assoc, Int.mul_assoc, Int.mul_assoc, Int.mul_comm t 2]
theorem acells {W : World} {r : Nat} {a b : Value} (h0 : W.cell? ⟨r, 0, none⟩ = some a) (h1 : W.cell? ⟨r, 1, none⟩ = some b) (u v : Value) (o : Obj) :
    (((W.setCell ⟨r, 0, none⟩ u).setCell ⟨r, 1, none⟩ v).alloc o).cell? ⟨r, 0, none⟩ = some u ∧ (((W.setCell ⟨r, 0, none⟩ u).setCell ⟨r, 1, none⟩ v).alloc o).cell? ⟨r, 1, none⟩ = some v := by
  obtain ⟨e0, e1⟩ := tcells h0 h1 u v
  exact ⟨by rw [World.cell?_alloc_some _ _ _ (by rw [e0]; rfl)]; exact e0, by rw [World.cell?_alloc_some _ _ _ (by rw [e1]; rfl)]; exact e1⟩
theorem near_zero {n x M E : Int} (h : IsNear n x M E false) : IsNear n x 0 0 false := by
  obtain ⟨rfl, rfl⟩ := isNear_bad h
  exact h
theorem mul_sg {sg : Int} {R : Nat} (hs : sg = 1 ∨ sg = -1) (hR : (R : Int) ≤ 65536) : -65536 ≤ sg * (R : Int) ∧ sg * (R : Int) ≤ 65536 := by
  rcases hs with rfl | rfl <;> omega
theorem high_pack {q kk k1 : Nat} (hq : (q : Int) ≤ 100000000000000000) (hk : kk = k1 + 1) (hk2 : kk ≤ 41) : ∃ m mk low top : Nat, q / 2 ^ kk = m ∧ q % 2 ^ kk = low ∧ 2 ^ k1 = top ∧ (q : Int) / 2 ^ kk = (m : Int) ∧ wrap64 ((m : Int) * 2 ^ kk) = (mk : Int) ∧ (q : Int) - (mk : Int) = (low : Int) ∧
    wrap64 ((2 : Int) ^ k1) = (top : Int) ∧ wrap64 (1 * (2 : Int) ^ k1) = (top : Int) ∧ (mk : Int) ≤ 100000000000000000 ∧ (m : Int) ≤ 100000000000000000 ∧ (low : Int) ≤ 100000000000000000 ∧ (top : Int) ≤ 2199023255552 ∧ (0 : Int) < top := by
  have hdm := Nat.div_add_mod q (2 ^ kk)
  have hqm : q / 2 ^ kk ≤ q := Nat.div_le_self _ _
  have hkP1 : 2 ^ k1 ≤ 2199023255552 := Nat.le_trans (Nat.pow_le_pow_right (n := 2) (by decide) (show k1 ≤ 41 by omega)) (by decide)
  have hkP0 := two_pos k1
  have hd : (q : Int) / 2 ^ kk = ((q / 2 ^ kk : Nat) : Int) := by rw [Int.natCast_ediv, Int.natCast_pow]; rfl
  have hmk : ((2 ^ kk * (q / 2 ^ kk) : Nat) : Int) = ((q / 2 ^ kk : Nat) : Int) * 2 ^ kk := by rw [Int.natCast_mul, Int.natCast_pow, Int.mul_comm]; rfl
  have ht1 : ((2 ^ k1 : Nat) : Int) = (2 : Int) ^ k1 := by rw [Int.natCast_pow]; rfl
  have hw2 : wrap64 ((2 : Int) ^ k1) = ((2 ^ k1 : Nat) : Int) := by rw [← ht1]; exact IntWalk.wrap64_in _ (by omega)
  refine ⟨q / 2 ^ kk, 2 ^ kk * (q / 2 ^ kk), q % 2 ^ kk, 2 ^ k1, rfl, rfl, rfl, hd, ?_, ?_, hw2, ?_, ?_, ?_, ?_, ?_, ?_⟩
  · rw [← hmk]; generalize 2 ^ kk * (q / 2 ^ kk) = mk at *; exact IntWalk.wrap64_in _ (by omega)
  · generalize 2 ^ kk * (q / 2 ^ kk) = mk at *; generalize q % 2 ^ kk = l at *; omega
  · rw [Int.one_mul]; exact hw2
  · generalize 2 ^ kk * (q / 2 ^ kk) = mk at *; generalize q % 2 ^ kk = l at *; omega
  · generalize q / 2 ^ kk = m at *; omega
  · generalize 2 ^ kk * (q / 2 ^ kk) = mk at *; generalize q % 2 ^ kk = l at *; omega
  · exact (Int.ofNat_le.2 hkP1 : ((2 ^ k1 : Nat) : Int) ≤ ((2199023255552 : Nat) : Int))
  · exact Int.natCast_pos.2 hkP0
set_option maxRecDepth 100000 in
set_option maxHeartbeats 4000000 in
theorem near_spec (n x : Int) (w : World) (h0 : -9223372036854775808 ≤ n) (h1 : n ≤ 9223372036854775807) : Calls Try.prog 13 #[.agg #[.int .i64 n, .int .i64 x]] w (NearPost n x w) := by
  obtain ⟨W0, hW⟩ : ∃ W0 : World, W0 = (w.alloc (.cells #[.int .i64 n, .int .i64 x] 25)).alloc (.cells #[.int .i64 0, .int .i64 0] 28) := ⟨_, rfl⟩
  have hcells : ∀ W', Below W0.heap.size W0 W' → W'.cell? ⟨w.heap.size, 0, none⟩ = some (.int .i64 n) ∧ W'.cell? ⟨w.heap.size, 1, none⟩ = some (.int .i64 x) ∧ W'.cell? ⟨w.heap.size + 1, 0, none⟩ = some (.int .i64 0) ∧ W'.cell? ⟨w.heap.size + 1, 1, none⟩ = some (.int .i64 0) ∧ W'.frozen? ⟨w.heap.size + 1, 0, none⟩ = false ∧ W'.frozen? ⟨w.heap.size + 1, 1, none⟩ = false := fun W' hb => by
    subst hW
    exact ⟨(hb.cell (p := ⟨w.heap.size, 0, none⟩) (by simp; omega)).trans (by simp [go_sem]), (hb.cell (p := ⟨w.heap.size, 1, none⟩) (by simp; omega)).trans (by simp [go_sem]), (hb.cell (p := ⟨w.heap.size + 1, 0, none⟩) (by simp)).trans (by simp [go_sem]), (hb.cell (p := ⟨w.heap.size + 1, 1, none⟩) (by simp)).trans (by simp [go_sem]), (hb.frozen (p := ⟨w.heap.size + 1, 0, none⟩) (by simp)).trans (by simp [go_sem]), (hb.frozen (p := ⟨w.heap.size + 1, 1, none⟩) (by simp)).trans (by simp [go_sem])⟩
  have hend : ∀ W', Below W0.heap.size W0 W' → Below w.heap.size w W' := fun W' hb => by
    subst hW
    exact ((Below.refl _ _).alloc (Nat.le_refl _) _).alloc (by simp) _ |>.trans (hb.mono (by simp; omega))
  have hsz : W0.heap.size = w.heap.size + 2 := by subst hW; simp
  have hB := Below.refl W0.heap.size W0
  have hN := Nat.le_refl W0.heap.size
  have cok := relCall (fun W => decok_spec n x W h0 h1) (N := W0.heap.size) (W0 := W0)
  cases hv : decOk n x
  · rw [hv] at cok
    have hfin : IsNear n x 0 0 false := .inr ⟨hv, rfl, rfl, rfl⟩
    have hfin_ := Lib.hid hfin
    clear hfin
    have hfin := hfin_
    clear hfin_
    clear h0 h1 hv
    go_enter Try.func13, Try.ntmps13
    go_wp2_with fail
    rw [← hW]
    refine (cok _ hB hN).mono ?_
    rintro r w1 ⟨rfl, hb, hn⟩
    obtain ⟨f0, f1, r0, r1, z0, z1⟩ := hcells _ hb
    go_wp2
    refine bodyPost_ret (v := .tuple #[.agg #[.int .i64 0, .int .i64 0], .bool false]) (by simp [results, Try.results13, go_sem, r0, r1]) rfl ⟨0, 0, false, rfl, hfin.out, ?_⟩
    exact ((hend _ hb).setCell (by simp) _).setCell (by simp) _
  · rw [hv] at cok
    obtain ⟨a0, a1, a2, a3, a4⟩ := decOk_range hv
    have hLn := near_in hv
    have hwl := whole_lt hv
    have hnear : Hid (∀ M E ok, IsFlt (nearN n x) (nearE n x) M E ok → IsNear n x M E ok) := Lib.hid fun M E ok h => .inl ⟨hv, h⟩
    have hnE : nearE n x = (nearL n.natAbs (10 ^ (-x).toNat) : Int) - 16 := rfl
    have hnN : nearN n x = (if n < 0 then -1 else 1) * (nearR n.natAbs (10 ^ (-x).toNat) : Int) := by unfold nearN; split <;> omega
    obtain ⟨p, hp⟩ : ∃ p : Nat, -x = (p : Int) := ⟨(-x).toNat, by omega⟩
    have hp16 : p ≤ 16 := by omega
    rw [hp, Int.toNat_natCast] at hnE hwl hnN
    have cp10 := fun W => pow_spec 10 p W
    rw [pow10 (by omega) (by omega), Int.toNat_natCast] at cp10
    have hR := nearR_le (ten_pos p) (show n.natAbs / 10 ^ p < 2 ^ 64 from hwl)
    rw [hnE] at hnear
    rw [hnN] at hnear
    have hT : ((10 ^ p : Nat) : Int) = (10 : Int) ^ p := by rw [Int.natCast_pow]; rfl
    have hTle : 10 ^ p ≤ 10 ^ 16 := Nat.pow_le_pow_right (by decide) hp16
    have hT0 : 0 < 10 ^ p := ten_pos p
    rw [← hT] at cp10
    have hwp : IntKind.i64.wrap (p : Int) = p := IntWalk.i64_in _ (by omega)
    clear hnE hnN hT hLn hv h0 h1 a0 a1 a3 a4
    generalize 10 ^ p = T at *
    obtain ⟨a, ha⟩ : ∃ a : Nat, n.natAbs = a := ⟨_, rfl⟩
    obtain ⟨sg, hsg⟩ : ∃ sg : Int, (if n < 0 then (-1 : Int) else 1) = sg := ⟨_, rfl⟩
    rw [ha] at hwl hnear hR a2
    rw [hsg] at hnear
    have hsgI : sg = 1 ∨ sg = -1 := by rw [← hsg]; split <;> simp
    have hnI : -100000000000000000 < n ∧ n < 100000000000000000 := by omega
    obtain ⟨hn0, hn1⟩ := hnI
    go_enter Try.func13, Try.ntmps13
    go_wp2_with fail
    rw [← hW]
    refine (cok _ hB hN).mono ?_
    clear hB hN cok hW
    rintro r w1 ⟨rfl, hB, hN⟩
    obtain ⟨f0, f1, _, _, _, _⟩ := hcells _ hB
    go_upto_if 26 with (fail)
    go_cut [4, 5] from 19 (fun u v wx => u = .int .i64 a ∧ v = .int .i64 sg ∧ w1 = wx)
    case first =>
      by_cases hn : n < 0
      · have e1 : a = -n := by omega
        have e2 : sg = -1 := by rw [← hsg, if_pos hn]
        clear hsg ha hsgI hnear
        go_wp2
        go_meet
        case rel => exact ⟨by rw [e1], by rw [e2], rfl⟩
      · have e1 : a = n := by omega
        have e2 : sg = 1 := by rw [← hsg, if_neg hn]
        clear hsg ha hsgI hnear
        go_wp2
        go_meet
        case rel => exact ⟨by rw [e1], by rw [e2], rfl⟩
    case rest =>
      obtain ⟨rfl, rfl, rfl⟩ := hcut
      have ha_ := Lib.hid ha
      have hsg_ := Lib.hid hsg
      clear ha hsg hn0 hn1
      go_wp2_with (go_at_call 40; refine (cp10 _).mono ?_; rintro r w' ⟨rfl, rfl⟩)
      have hlim := fun k => bitLen_le_iff k (a / T) hwl
      rw [show Lib.bitLen (a / T) = nearL a T from rfl] at hlim
      have hq : (a : Int) / (T : Int) = ((a / T : Nat) : Int) := (Int.natCast_ediv a T).symm
      have hqT : (a : Int).tdiv (T : Int) = ((a / T : Nat) : Int) := by rw [Int.tdiv_eq_ediv_of_nonneg (by omega)]; exact hq
      have hqa : a / T ≤ a := Nat.div_le_self _ _
      generalize hQ : a / T = q at *
      generalize hLe : nearL a T = L at *
      have hQ_ := Lib.hid hQ
      clear hQ
      have hQ := hQ_
      clear hQ_
      have hLe_ := Lib.hid hLe
      clear hLe
      have hLe := hLe_
      clear hLe_
      have hqw : IntKind.i64.wrap (q : Int) = q := IntWalk.i64_in _ (by omega)
      have hTn : (T : Int) ≠ 0 := by omega
      have hTb : ((T : Int) == 0) = false := by simpa using hTn
      have hL57 : Hid (L ≤ 57) := Lib.hid ((hlim 57).2 (by omega))
      have hLI : (L : Int) ≤ 57 := by have := hL57.out; omega
      have hTI : (T : Int) ≤ 10000000000000000 := by omega
      have hTp : (0 : Int) < T := by omega
      have haI : (a : Int) ≤ 100000000000000000 := by omega
      have hqI : (q : Int) ≤ 100000000000000000 := by omega
      have hpI : (p : Int) ≤ 16 := by omega
      have hRI : (nearR a T : Int) ≤ 65536 := by omega
      have ha2 := Lib.hid a2
      clear a2
      have hT0_ := Lib.hid hT0
      clear hT0
      have hT0 := hT0_
      clear hT0_
      have hwl_ := Lib.hid hwl
      clear hwl
      have hwl := hwl_
      clear hwl_
      have hlim_ := Lib.hid hlim
      clear hlim
      have hlim := hlim_
      clear hlim_
      clear hR hTle hp16 hqa
      have hsgI_ := Lib.hid hsgI
      clear hsgI
      have hsgI := hsgI_
      clear hsgI_
      go_loopw [7] (fun e wr => ∃ k : Nat, e = .int .i64 k ∧ (k = 0 ∨ k + 16 ≤ L) ∧ Below W0.heap.size W0 wr ∧ W0.heap.size ≤ wr.heap.size) (fun e _ => 64 - (intOf e).toNat)
      case atStart => exact ⟨0, rfl, .inl rfl, hB, hN⟩
      case round =>
        obtain ⟨k, rfl, hk, hB2, hN2⟩ := hrel
        clear hB hN f0 f1
        have hk41 : k ≤ 41 := by have := hL57.out; omega
        have hp2 : 2 ^ k ≤ 2 ^ 41 := Nat.pow_le_pow_right (by decide) hk41
        have hX : ((65536 * 2 ^ k : Nat) : Int) = 65536 * 2 ^ k := by rw [Int.natCast_mul, Int.natCast_pow]; rfl
        have hs : Op.shift .shl .i64 65536 .i64 k = pure (.int .i64 ((65536 * 2 ^ k : Nat) : Int)) := by
          rw [hX, shl_of (by omega) (by omega) (by rw [Int.toNat_natCast, ← hX]; omega), Int.toNat_natCast]
        have hw : wrap64 (65536 * 2 ^ k) = ((65536 * 2 ^ k : Nat) : Int) := by rw [hX]; exact IntWalk.wrap64_in _ (by omega)
        have htest := hlim.out (16 + k)
        rw [Nat.pow_add, show (2 : Nat) ^ 16 = 65536 from rfl] at htest
        clear hX hp2
        generalize hXX : 65536 * 2 ^ k = X at *
        have hXX_ := Lib.hid hXX
        clear hXX
        have hXX := hXX_
        clear hXX_
        have hkI : (k : Int) ≤ 41 := by omega
        have hk_ := Lib.hid hk
        clear hk
        have hk := hk_
        clear hk_
        clear hk41
        by_cases hc : L ≤ 16 + k
        · have hge : decide (X ≤ q) = false := by have := htest.1 hc; simp; omega
          have hkL := Lib.hid (show k = L - 16 by have := hk.out; omega)
          clear htest hc
          go_wp2_with fail
          go_region_with ((first | fail))
          all_goals
            have hB3 : Below W0.heap.size W0 wr.drew := Below.drew hB2
            have hN3 : W0.heap.size ≤ wr.drew.heap.size := hN2
            clear hB2 hN2
            generalize hV : wr.drew = V at *
            clear hV hge hs hw hqw hq hqT
            go_upto_if 42 with (fail)
            go_cut [7, 8, 9, 10] from 19 (fun e _ _ _ wx => e = .int .i64 ((L : Int) - 16) ∧ Below W0.heap.size W0 wx ∧ W0.heap.size ≤ wx.heap.size)
            case first =>
              by_cases hz : k = 0
              · have hL16 := Lib.hid (show L ≤ 16 by have := hkL.out; omega)
                subst hz
                go_wp2_with fail
                go_loopw [7, 8, 9, 10] (fun e _ _ _ wr => ∃ j : Nat, e = .int .i64 (-(j : Int)) ∧ L + j ≤ 16 ∧ Below W0.heap.size W0 wr ∧ W0.heap.size ≤ wr.heap.size) (fun e _ _ _ _ => 16 - (-(intOf e)).toNat)
                case atStart => exact ⟨0, rfl, hL16.out, hB3, hN3⟩
                case round =>
                  obtain ⟨j, rfl, hj, hB4, hN4⟩ := hrel
                  have hjI : (j : Int) ≤ 16 := by omega
                  by_cases hj16 : j = 16
                  · subst hj16
                    have hfin := Lib.hid (show -((16 : Nat) : Int) = (L : Int) - 16 by omega)
                    clear hj
                    go_wp2_with fail
                    go_meet
                    case rel => exact ⟨congrArg (Value.int .i64) hfin.out, hB4, hN4⟩
                  · have hjd : decide (-16 < -(j : Int)) = true := by simp; omega
                    have hjd2 : (j : Int) < 16 := by omega
                    have hj1 : (1 : Int) + (j : Int) = ((j + 1 : Nat) : Int) := by omega
                    have hj2 : (1 : Int) - -(j : Int) = ((j + 1 : Nat) : Int) := by omega
                    have hsub : -(j : Int) - 1 = -((j + 1 : Nat) : Int) := by omega
                    have hqq : a / T < 65536 := by rw [hQ.out]; exact (hlim.out 16).1 hL16.out
                    have csc := fun W => scaled_spec a T (j + 1) W ha2.out hT0.out (by omega) hqq (by omega)
                    unfold ScaledPost at csc
                    have hfit := quot_fits (a := a) (q := T) (k := j + 1) hT0.out (by rw [hQ.out]; exact hwl.out) (by omega)
                    rw [show a * 2 ^ (j + 1) / T = sq a T (j + 1) from rfl, hLe.out] at hfit
                    have hsb := sq_bound (i := j + 1) hT0.out hqq (by omega)
                    have hsbI : (sq a T (j + 1) : Int) ≤ 8589934592 := by omega
                    generalize sq a T (j + 1) = m at *
                    generalize sHalf a T (j + 1) = H at *
                    generalize sRest a T (j + 1) = Z at *
                    have hj_ := Lib.hid hj
                    clear hj hqq hsb
                    by_cases hm : m ≤ 65535
                    · have hmI : ¬ (65535 : Int) < m := by omega
                      have hL2 := Lib.hid (hfit.1 hm)
                      clear hfit hm hj16
                      generalize hj' : ((j + 1 : Nat) : Int) = j' at *
                      go_wp2_with (go_at_call 41; refine (csc _).mono ?_; rintro r w' ⟨rfl, rfl⟩)
                      exact ⟨⟨j + 1, by rw [← hj'], by have := hL2.out; omega, hB4, hN4⟩, by rw [← hj']; simp [intOf]; omega⟩
                    · have hmI : (65535 : Int) < m := by omega
                      have hL2 := Lib.hid (show ¬ (L + (j + 1) ≤ 16) from fun h => hm (hfit.2 h))
                      clear hfit hm hj16
                      go_wp2_with (go_at_call 41; refine (csc _).mono ?_; rintro r w' ⟨rfl, rfl⟩)
                      go_meet
                      case rel => exact ⟨congrArg (Value.int .i64) (by have := hL2.out; have := hj_.out; omega), hB4, hN4⟩
              · have hzb : ((k : Int) == 0) = false := by simpa using hz
                have hkz := Lib.hid (show (k : Int) = (L : Int) - 16 by have := hkL.out; omega)
                have hz_ := Lib.hid hz
                clear hz
                go_wp2_with fail
                go_meet
                case rel => exact ⟨congrArg (Value.int .i64) hkz.out, hB3, hN3⟩
            case rest =>
              obtain ⟨rfl, hB4, hN4⟩ := hcut
              clear hB3 hN3 hkI
              go_upto_if 59 with (fail)
              go_cut [11, 12, 13, 14, 15, 16] from 19 (fun m h r _ _ _ wx => ∃ (mm : Nat) (hh : Int) (rr : Bool), m = .int .i64 mm ∧ h = .int .i64 hh ∧ r = .bool rr ∧ Hid (Rounds mm hh rr (nearR a T)) ∧ wc = wx)
              case first =>
                by_cases hE : L ≤ 16
                · obtain ⟨j, hj⟩ : ∃ j, L + j = 16 := ⟨16 - L, by omega⟩
                  have hEj : (L : Int) - 16 = -(j : Int) := by omega
                  have hle : decide (-(j : Int) ≤ 0) = true := by simp
                  have hqq : a / T < 65536 := by rw [hQ.out]; exact (hlim.out 16).1 hE
                  have csc := fun W => scaled_spec a T j W ha2.out hT0.out (by omega) hqq (by omega)
                  unfold ScaledPost at csc
                  have hr := Lib.hid (rounds_low (a := a) (q := T) (j := j) (by rw [hLe.out]; exact hj))
                  have hsb := sq_bound (i := j) hT0.out hqq (by omega)
                  have hsbI : (sq a T j : Int) ≤ 8589934592 := by omega
                  generalize sq a T j = m at *
                  generalize sHalf a T j = H at *
                  generalize sRest a T j = Z at *
                  clear hj hqq hsb hE
                  have hjI : -16 ≤ -(j : Int) := by omega
                  go_wp2_with (go_at_call 41; refine (csc _).mono ?_; rintro r w' ⟨rfl, rfl⟩)
                  rw [← hEj]
                  go_meet
                  case rel => exact ⟨m, H, Z, rfl, rfl, rfl, hr, rfl⟩
                · obtain ⟨k1, hk1⟩ : ∃ k1, L = 16 + (k1 + 1) := ⟨L - 17, by omega⟩
                  obtain ⟨r1, r2, r3, r4⟩ := rounds_high (a := a) (q := T) (k := k1) hT0.out (by rw [hLe.out]; exact hk1)
                  rw [hQ.out] at r1 r2 r3 r4
                  obtain ⟨kk, hkk⟩ : ∃ kk, kk = k1 + 1 := ⟨_, rfl⟩
                  rw [← hkk] at r1 r2 r3 r4
                  have hEk : (L : Int) - 16 = (kk : Int) := by omega
                  have hE1 : (kk : Int) - 1 = (k1 : Int) := by omega
                  have hkp : (0 : Int) < kk := by omega
                  have hkd : decide ((kk : Int) ≤ 0) = false := by simp; omega
                  have hkd2 : decide (kk ≤ 0) = false := by simp; omega
                  have hkd3 : (kk == 0) = false := by simp; omega
                  have hk64 : (kk : Int) ≤ 64 := by have := hL57.out; omega
                  obtain ⟨m, mk, low, top, g1, g2, g3, hd, hw1, hsub, hw2, hw3, hmkI, hmI, hlowI, htopI, htop0⟩ := high_pack hqI hkk (by have := hL57.out; omega)
                  rw [g1, g2, g3] at r1 r2 r3 r4
                  clear g1 g2 g3
                  have hrm : (a : Int) % (T : Int) = ((a % T : Nat) : Int) := (Int.natCast_emod a T).symm
                  have hrT : (a : Int).tmod (T : Int) = ((a % T : Nat) : Int) := by rw [Int.tmod_eq_emod_of_nonneg (by omega)]; exact hrm
                  have hrl : a % T < T := Nat.mod_lt _ hT0.out
                  generalize a % T = rr at *
                  have hq' : (a : Int) / (T : Int) = (q : Int) := by rw [← Int.natCast_ediv, hQ.out]
                  have hqT' : (a : Int).tdiv (T : Int) = (q : Int) := by rw [Int.tdiv_eq_ediv_of_nonneg (by omega)]; exact hq'
                  clear hE hk1 hkk hrl
                  go_upto_region 26 with fail
                  rw [hw2]
                  clear hw1 hw2 hw3 hd hsub hq' hqT' hEk hE1 hkp hkd hkd2 hkd3 hk64 hmkI
                  rcases Nat.lt_trichotomy low top with hc | hc | hc
                  · have hr := fun z => Lib.hid (r1 hc z)
                    have x1 : decide (top < low) = false := by simp; omega
                    have x2 : (low == top) = false := by simp; omega
                    have x4 : ((low : Int) == top) = false := by simp; omega
                    clear r1 r2 r3 r4 hc
                    by_cases y1 : 0 < low
                    · have y2 : decide (0 < low) = true := by simpa using y1
                      clear y1
                      go_wp2_with fail
                      go_meet
                      case rel => exact ⟨m, -1, _, rfl, rfl, rfl, hr _, rfl⟩
                    · have y2 : decide (0 < low) = false := by simpa using y1
                      by_cases y3 : 0 < rr
                      · have y4 : decide (0 < rr) = true := by simpa using y3
                        clear y1 y3
                        go_wp2_with fail
                        go_meet
                        case rel => exact ⟨m, -1, _, rfl, rfl, rfl, hr _, rfl⟩
                      · have y4 : decide (0 < rr) = false := by simpa using y3
                        clear y1 y3
                        go_wp2_with fail
                        go_meet
                        case rel => exact ⟨m, -1, _, rfl, rfl, rfl, hr _, rfl⟩
                  · subst hc
                    have x1 : decide (low < low) = false := by simp
                    have x5 : decide (0 < low) = true := by simp; omega
                    by_cases hr0 : 0 < rr
                    · have hr := Lib.hid (r3 rfl hr0)
                      have x2 : decide (0 < rr) = true := by simpa using hr0
                      clear r1 r2 r3 r4 hr0
                      go_wp2_with fail
                      go_meet
                      case rel => exact ⟨m, 1, true, rfl, rfl, rfl, hr, rfl⟩
                    · have hr := Lib.hid (r4 rfl (by omega))
                      have x2 : decide (0 < rr) = false := by simpa using hr0
                      clear r1 r2 r3 r4 hr0
                      go_wp2_with fail
                      go_meet
                      case rel => exact ⟨m, 0, true, rfl, rfl, rfl, hr, rfl⟩
                  · have hr := Lib.hid (r2 hc)
                    have x1 : decide (top < low) = true := by simp; omega
                    have x5 : decide (0 < low) = true := by simp; omega
                    clear r1 r2 r3 r4 hc
                    go_wp2_with fail
                    go_meet
                    case rel => exact ⟨m, 1, true, rfl, rfl, rfl, hr, rfl⟩
              case rest =>
                obtain ⟨mm, hh, rr, rfl, rfl, rfl, hro, rfl⟩ := hcut
                go_upto_region 31 with fail
                go_cut [123] from 19 (fun v wx => ∃ b : Bool, v = .bool b ∧ Hid (nearR a T = if b = true then mm + 1 else mm) ∧ wc = wx)
                case first =>
                  rcases hro.out with ⟨rfl, hR⟩ | ⟨rfl, rfl, hR⟩ | ⟨rfl, rfl, hmo, hR⟩ | ⟨rfl, rfl, hmo, hR⟩
                  · have hR := Lib.hid (show nearR a T = if false = true then mm + 1 else mm from hR)
                    clear hro
                    cases rr
                    · go_wp2_with fail
                      go_meet
                      case rel => exact ⟨false, rfl, hR, rfl⟩
                    · go_wp2_with fail
                      go_meet
                      case rel => exact ⟨false, rfl, hR, rfl⟩
                  · have hR := Lib.hid (show nearR a T = if true = true then mm + 1 else mm from hR)
                    clear hro
                    go_wp2_with fail
                    go_meet
                    case rel => exact ⟨true, rfl, hR, rfl⟩
                  · have hR := Lib.hid (show nearR a T = if true = true then mm + 1 else mm from hR)
                    have hmt : (mm : Int) % 2 = 1 := by omega
                    have hmb : ((mm : Int) % 2 == 1) = true := by simpa using hmt
                    clear hro hmo hmt
                    go_wp2_with fail
                    go_meet
                    case rel => exact ⟨true, rfl, hR, rfl⟩
                  · have hR := Lib.hid (show nearR a T = if false = true then mm + 1 else mm from hR)
                    have hmt : ¬ (mm : Int) % 2 = 1 := by omega
                    have hmb : ((mm : Int) % 2 == 1) = false := by simpa using hmt
                    clear hro hmo hmt
                    go_wp2_with fail
                    go_meet
                    case rel => exact ⟨false, rfl, hR, rfl⟩
                case rest =>
                  obtain ⟨b, rfl, hRb, rfl⟩ := hcut
                  clear hro
                  go_upto_if 123 with (fail)
                  go_cut [11] from 19 (fun m wx => m = .int .i64 (nearR a T) ∧ wc = wx)
                  case first =>
                    cases b
                    · have hR := Lib.hid (show (mm : Int) = nearR a T by have := hRb.out; simp at this; omega)
                      clear hRb
                      go_wp2_with fail
                      go_meet
                      case rel => exact ⟨congrArg (Value.int .i64) hR.out, rfl⟩
                    · have hR := Lib.hid (show (mm : Int) + 1 = nearR a T by have := hRb.out; simp at this; omega)
                      have hmI : (mm : Int) ≤ 65536 := by have := hRb.out; simp at this; omega
                      clear hRb
                      go_wp2_with fail
                      go_meet
                      case rel => exact ⟨congrArg (Value.int .i64) hR.out, rfl⟩
                  case rest =>
                    obtain ⟨rfl, rfl⟩ := hcut
                    have hge := Lib.hid (show 30 < (L : Int) - 16 → 32768 ≤ nearR a T from fun h => nearR_ge hT0.out (by rw [hQ.out]; exact hwl.out) (by rw [hLe.out]; omega))
                    clear hRb hLe hQ
                    generalize nearR a T = R at *
                    have hsgb : -1 ≤ sg ∧ sg ≤ 1 := by have := hsgI.out; omega
                    obtain ⟨hsg0, hsg1⟩ := hsgb
                    obtain ⟨_, _, r0, r1, z0, z1⟩ := hcells _ hB4
                    by_cases hR6 : R = 65536
                    · subst hR6
                      by_cases hbig : 30 < (L : Int) - 16 + 1
                      · have hfin := Lib.hid (hnear.out _ _ _ (end_big1 hsgI.out (by omega)))
                        clear hge
                        go_wp2_with fail
                        refine bodyPost_ret (v := .tuple #[.agg #[.int .i64 0, .int .i64 0], .bool false]) (by simp [results, Try.results13, go_sem, r0, r1]) rfl ⟨0, 0, false, rfl, hfin.out, ?_⟩
                        exact ((hend _ hB4).setCell (by simp) _).setCell (by simp) _
                      · have cf := fun W => fltnew_spec (sg * 32768) ((L : Int) - 16 + 1) W (by omega) (by omega) (by omega) (by omega)
                        clear hge
                        go_wp2_with fail
                        refine (cf _).mono ?_
                        rintro r w5 ⟨M, E, ok, rfl, hfl, hb5⟩
                        have hfin := Lib.hid (hnear.out _ _ _ (end_move hsgI.out hL57.out hfl))
                        clear hfl
                        have hB5 := hB4.trans (hb5.mono hN4)
                        have hN5 := Nat.le_trans hN4 hb5.size
                        have hlt0 : w.heap.size < w5.heap.size := by omega
                        obtain ⟨_, _, r0, r1, z0, z1⟩ := hcells _ hB5
                        have hlt : w.heap.size + 1 < w5.heap.size := by omega
                        cases ok
                        · go_wp2_with fail
                          obtain ⟨x0, x1⟩ := acells r0 r1 (.int .i64 0) (.int .i64 0) (.cells #[.int .i64 M, .int .i64 E] 28)
                          refine bodyPost_ret (v := .tuple #[.agg #[.int .i64 0, .int .i64 0], .bool false]) (by simp [results, Try.results13, go_sem, x0, x1]) rfl ⟨0, 0, false, rfl, near_zero hfin.out, ?_⟩
                          exact (((hend _ hB5).setCell (by simp) _).setCell (by simp) _).alloc (by simp [World.setCell]; omega) _
                        · go_wp2_with fail
                          obtain ⟨x0, x1⟩ := acells r0 r1 (.int .i64 M) (.int .i64 E) (.cells #[.int .i64 M, .int .i64 E] 28)
                          refine bodyPost_ret (v := .tuple #[.agg #[.int .i64 M, .int .i64 E], .bool true]) (by simp [results, Try.results13, go_sem, x0, x1]) rfl ⟨M, E, true, rfl, hfin.out, ?_⟩
                          exact (((hend _ hB5).setCell (by simp) _).setCell (by simp) _).alloc (by simp [World.setCell]; omega) _
                    · have hR6b : ((R : Int) == 65536) = false := by simp; omega
                      by_cases hbig : 30 < (L : Int) - 16
                      · have hfin := Lib.hid (hnear.out _ _ _ (end_big2 hsgI.out hbig (hge.out hbig)))
                        clear hge hR6
                        go_wp2_with fail
                        refine bodyPost_ret (v := .tuple #[.agg #[.int .i64 0, .int .i64 0], .bool false]) (by simp [results, Try.results13, go_sem, r0, r1]) rfl ⟨0, 0, false, rfl, hfin.out, ?_⟩
                        exact ((hend _ hB4).setCell (by simp) _).setCell (by simp) _
                      · have hmb := mul_sg (R := R) hsgI.out (by omega)
                        have cf := fun W => fltnew_spec (sg * (R : Int)) ((L : Int) - 16) W (by omega) (by omega) (by omega) (by omega)
                        have hmw : wrap64 (sg * (R : Int)) = sg * R := IntWalk.wrap64_in _ (by omega)
                        clear hge hR6 hmb
                        go_wp2_with fail
                        refine (cf _).mono ?_
                        rintro r w5 ⟨M, E, ok, rfl, hfl, hb5⟩
                        have hfin := Lib.hid (hnear.out _ _ _ (hfl))
                        clear hfl
                        have hB5 := hB4.trans (hb5.mono hN4)
                        have hN5 := Nat.le_trans hN4 hb5.size
                        have hlt0 : w.heap.size < w5.heap.size := by omega
                        obtain ⟨_, _, r0, r1, z0, z1⟩ := hcells _ hB5
                        have hlt : w.heap.size + 1 < w5.heap.size := by omega
                        cases ok
                        · go_wp2_with fail
                          obtain ⟨x0, x1⟩ := acells r0 r1 (.int .i64 0) (.int .i64 0) (.cells #[.int .i64 M, .int .i64 E] 28)
                          refine bodyPost_ret (v := .tuple #[.agg #[.int .i64 0, .int .i64 0], .bool false]) (by simp [results, Try.results13, go_sem, x0, x1]) rfl ⟨0, 0, false, rfl, near_zero hfin.out, ?_⟩
                          exact (((hend _ hB5).setCell (by simp) _).setCell (by simp) _).alloc (by simp [World.setCell]; omega) _
                        · go_wp2_with fail
                          obtain ⟨x0, x1⟩ := acells r0 r1 (.int .i64 M) (.int .i64 E) (.cells #[.int .i64 M, .int .i64 E] 28)
                          refine bodyPost_ret (v := .tuple #[.agg #[.int .i64 M, .int .i64 E], .bool true]) (by simp [results, Try.results13, go_sem, x0, x1]) rfl ⟨M, E, true, rfl, hfin.out, ?_⟩
                          exact (((hend _ hB5).setCell (by simp) _).setCell (by simp) _).alloc (by simp [World.setCell]; omega) _
        · have hge : decide (X ≤ q) = true := by have := fun h => hc (htest.2 h); simp; omega
          have hc := Lib.hid hc
          clear htest
          go_wp2_with fail
          go_region_with ((first | fail))
          all_goals
            have hB3 : Below W0.heap.size W0 wr.drew := Below.drew hB2
            have hN3 : W0.heap.size ≤ wr.drew.heap.size := hN2
            go_wp2_with fail
            go_roundw
            case rel => exact ⟨k + 1, by go_num, .inr (by have := hc.out; omega), hB3, hN3⟩
            case measure => simp [intOf]; omega
end Go.Proofs.Ytjfjbocaplpdfaa
