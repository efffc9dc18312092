/- For every input the law FnHalves returns true and its arguments read afterwards as they read before; beside what the row states there is no condition. -/
import Derived.Test.YtplmgmjjjfgokaaRows
import Derived.WalkKit
import Derived.ProofKit
import Derived.OpenShut
import Derived.SizedLaws
import Derived.Carry
import Derived.Deep.DeepHandedRow

import Derived.Lib.LaidTab
import Derived.Stop.LaidErr
import Derived.Test.YtplmgmjjjfgokaaDrawNum
import Derived.Test.YtplmgmjjjfgokaaHalf
import Derived.Test.YtplmgmjjjfgokaaPow
import Derived.Test.YtplmgmjjjfgokaaBits
import Derived.Lib.ItoaNum

namespace Go.Proofs.Ytplmgmjjjfgokaa.fnHalves
open Go.ChangeShapes Go.WideShapes Go.ChangeAt Go.RowKit
open Go.ChangeMaps (open_string shut_string)
set_option linter.unusedVariables false

theorem own : ownKnob Try.prog.godebug = none := by kernel_rfl
theorem laidOut : laidOutB Try.prog = true := by kernel_rfl

/-- what the law asks of the rounded quotient q, with s for q times d -/
theorem half_law (n d : Int) (h : ¬ halfBad n d) : ∃ q s : Int, halfV n d = q ∧ q * d = s ∧ 0 ≤ q ∧ q ≤ 1000000000000001 ∧ 2 * (n - s) ≤ d ∧ -(2 * (n - s)) ≤ d ∧ (2 * (n - s) = d → q % 2 = 0) ∧ (-(2 * (n - s)) = d → q % 2 = 0) := by
  obtain ⟨a1, a2, a3, a4, a5, a6, a7, a8⟩ := half_facts n d h
  have hm : n = n / d * d + n % d := by have := Int.emod_add_mul_ediv n d; rw [Int.mul_comm] at this; omega
  have hp : (n / d + 1) * d = n / d * d + d := by rw [Int.add_mul, Int.one_mul]
  rcases halfWay n d h with ⟨g1, hv⟩ | ⟨g1, g2, hv⟩ | ⟨g1, g2, hv⟩ | ⟨g1, hv⟩
  · exact ⟨_, _, hv, hp, by omega, by omega, by omega, by omega, by omega, by omega⟩
  · exact ⟨_, _, hv, hp, by omega, by omega, by omega, by omega, by omega, by omega⟩
  · exact ⟨_, _, hv, rfl, by omega, by omega, by omega, by omega, by omega, by omega⟩
  · exact ⟨_, _, hv, rfl, by omega, by omega, by omega, by omega, by omega, by omega⟩
theorem bits_law (w : Int) (h1 : 1 ≤ w) (h2 : w ≤ 1000000000000000) : ∃ k : Nat, (bitsV w : Int) = k + 1 ∧ k < 50 ∧ (2 : Int) ^ k ≤ w ∧ w < (2 : Int) ^ (k + 1) := by
  have hb := Lib.bitLenAux_bounds 64 w.toNat (by omega) (by omega)
  have hl := Lib.bitLen_le w.toNat 50 (by omega) (by omega)
  have hv : bitsV w = Lib.bitLenAux 64 w.toNat := by unfold bitsV; rw [if_pos ⟨by omega, h2⟩]; rfl
  have hl' : Lib.bitLenAux 64 w.toNat ≤ 50 := hl
  obtain ⟨k, hk⟩ : ∃ k, Lib.bitLenAux 64 w.toNat = k + 1 := ⟨Lib.bitLenAux 64 w.toNat - 1, by omega⟩
  rw [hk] at hb hv hl'
  refine ⟨k, by rw [hv]; omega, by omega, ?_, ?_⟩
  · have h3 : 2 ^ k ≤ w.toNat := hb.2.1
    have h4 : ((2 ^ k : Nat) : Int) ≤ w := by omega
    rwa [Int.natCast_pow] at h4
  · have h3 : w.toNat < 2 ^ (k + 1) := hb.2.2
    have h4 : w < ((2 ^ (k + 1) : Nat) : Int) := by omega
    rwa [Int.natCast_pow] at h4
theorem p103 : powV 10 3 = 1000 := by decide
theorem p23 : powV 2 3 = 8 := by decide
theorem p53 : powV 5 3 = 125 := by decide
theorem walk_long (a : Option Addr) (len cap : Nat) (W : World) (h : 1048576 < len) (hm : len ≤ maxLen) : Calls Try.prog 3 #[.slice a len cap] W fun e w' => e = .returned (.bool true) ∧ Below W.heap.size W w' := by
  go_enter Try.func3, Try.ntmps3
  go_wp2_with (go_at_call 8; refine (big_yes a len cap _ h hm).mono ?_; rintro e w' ⟨rfl, rfl⟩)
  go_ret
  exact ⟨rfl, Below.refl _ _⟩
theorem rel {P : Program} {f : FuncId} {args : Array Value} {v : Value} (h : ∀ W, Calls P f args W fun e w' => e = .returned v ∧ Below W.heap.size W w') (W0 : World) :
    ∀ W, Below W0.heap.size W0 W → Calls P f args W fun e w' => e = .returned v ∧ Below W0.heap.size W0 w' :=
  fun W hb => (h W).mono fun _ _ ⟨he, hb2⟩ => ⟨he, hb.trans (hb2.mono hb.size)⟩
theorem rel0 {P : Program} {f : FuncId} {args : Array Value} {v : Value} (h : ∀ W, Calls P f args W fun e w' => e = .returned v ∧ W = w') (W0 : World) :
    ∀ W, Below W0.heap.size W0 W → Calls P f args W fun e w' => e = .returned v ∧ Below W0.heap.size W0 w' :=
  fun W hb => (h W).mono fun _ _ ⟨he, hb2⟩ => ⟨he, by subst hb2; exact hb⟩
def Post (W0 : World) (e : Ending) (w' : World) : Prop := e = .returned (.bool true) ∧ Below W0.heap.size W0 w'
set_option maxRecDepth 100000 in
set_option maxHeartbeats 8000000 in
theorem walk (a : Option Addr) (len cap : Nat) (W : World) (hC : CodeAt W a len) (hl : len ≤ 1048576) : Calls Try.prog 3 #[.slice a len cap] W (Post W) := by
  have P103 := rel (pow_impl 10 3) W
  have P23 := rel (pow_impl 2 3) W
  have P53 := rel (pow_impl 5 3) W
  rw [p103] at P103
  rw [p23] at P23
  rw [p53] at P53
  go_enter Try.func3, Try.ntmps3
  go_wp2_with fail
  refine (big_no a len cap _ hl).mono ?_
  rintro e w' ⟨rfl, rfl⟩
  go_wp2_with fail
  refine (drawhalf_any a len cap W hC hl).mono ?_
  rintro e w1 ⟨n, d, ⟨hn, hd⟩, rfl, hb1⟩
  go_wp2_with fail
  refine (drawpow_any a len cap w1 (hC.below hb1) hl).mono ?_
  rintro e w2 ⟨b, k, ⟨hb, hk⟩, rfl, hb2⟩
  have hB2 := hb1.trans (hb2.mono hb1.size)
  go_wp2_with fail
  refine (drawbits_any a len cap w2 (hC.below hB2) hl).mono ?_
  rintro e w3 ⟨w, hw, rfl, hb3⟩
  have hB := hB2.trans (hb3.mono hB2.size)
  clear hB2 hb3 hb2 hb1
  have HI := rel (half_impl n d) W
  have HS := rel0 (half_spec n d) W
  have PI := rel (pow_impl b k) W
  have PS := rel0 (pow_spec b k) W
  have BI := rel0 (bits_impl w) W
  have BS := rel0 (bits_spec w) W
  generalize powV b k = pv at PI PS
  by_cases hbad : halfBad n d
  · have hv : halfV n d = 0 := by unfold halfBad at hbad; unfold halfV; rw [if_pos hbad]
    rw [hv] at HI HS
    generalize (bitsV w : Int) = bv at BI BS
    unfold halfBad at hbad
    by_cases h1 : n < 0
    · clear hbad
      go_wp2_with (first | (go_at_call 12; refine (HI _ hB).mono ?_; clear hB; rintro e w' ⟨rfl, hB⟩) | (go_at_call 13; refine (HS _ hB).mono ?_; clear hB; rintro e w' ⟨rfl, hB⟩) | (go_at_call 15; refine (PS _ hB).mono ?_; clear hB; rintro e w' ⟨rfl, hB⟩) | (go_at_call 16; refine (BI _ hB).mono ?_; clear hB; rintro e w' ⟨rfl, hB⟩) | (go_at_call 17; refine (BS _ hB).mono ?_; clear hB; rintro e w' ⟨rfl, hB⟩) | (go_at_call 14; (first | (with_reducible refine (P103 _ hB).mono ?_) | (with_reducible refine (P23 _ hB).mono ?_) | (with_reducible refine (P53 _ hB).mono ?_) | (with_reducible refine (PI _ hB).mono ?_)); clear hB; rintro e w' ⟨rfl, hB⟩))
      go_ret
      exact ⟨rfl, hB⟩
    · by_cases h2 : 1000000000000000 < n
      · clear hbad
        go_wp2_with (first | (go_at_call 12; refine (HI _ hB).mono ?_; clear hB; rintro e w' ⟨rfl, hB⟩) | (go_at_call 13; refine (HS _ hB).mono ?_; clear hB; rintro e w' ⟨rfl, hB⟩) | (go_at_call 15; refine (PS _ hB).mono ?_; clear hB; rintro e w' ⟨rfl, hB⟩) | (go_at_call 16; refine (BI _ hB).mono ?_; clear hB; rintro e w' ⟨rfl, hB⟩) | (go_at_call 17; refine (BS _ hB).mono ?_; clear hB; rintro e w' ⟨rfl, hB⟩) | (go_at_call 14; (first | (with_reducible refine (P103 _ hB).mono ?_) | (with_reducible refine (P23 _ hB).mono ?_) | (with_reducible refine (P53 _ hB).mono ?_) | (with_reducible refine (PI _ hB).mono ?_)); clear hB; rintro e w' ⟨rfl, hB⟩))
        go_ret
        exact ⟨rfl, hB⟩
      · by_cases h3 : d < 1
        · clear hbad
          go_wp2_with (first | (go_at_call 12; refine (HI _ hB).mono ?_; clear hB; rintro e w' ⟨rfl, hB⟩) | (go_at_call 13; refine (HS _ hB).mono ?_; clear hB; rintro e w' ⟨rfl, hB⟩) | (go_at_call 15; refine (PS _ hB).mono ?_; clear hB; rintro e w' ⟨rfl, hB⟩) | (go_at_call 16; refine (BI _ hB).mono ?_; clear hB; rintro e w' ⟨rfl, hB⟩) | (go_at_call 17; refine (BS _ hB).mono ?_; clear hB; rintro e w' ⟨rfl, hB⟩) | (go_at_call 14; (first | (with_reducible refine (P103 _ hB).mono ?_) | (with_reducible refine (P23 _ hB).mono ?_) | (with_reducible refine (P53 _ hB).mono ?_) | (with_reducible refine (PI _ hB).mono ?_)); clear hB; rintro e w' ⟨rfl, hB⟩))
          go_ret
          exact ⟨rfl, hB⟩
        · have h4 : 1000000000000000 < d := by omega
          clear hbad
          go_wp2_with (first | (go_at_call 12; refine (HI _ hB).mono ?_; clear hB; rintro e w' ⟨rfl, hB⟩) | (go_at_call 13; refine (HS _ hB).mono ?_; clear hB; rintro e w' ⟨rfl, hB⟩) | (go_at_call 15; refine (PS _ hB).mono ?_; clear hB; rintro e w' ⟨rfl, hB⟩) | (go_at_call 16; refine (BI _ hB).mono ?_; clear hB; rintro e w' ⟨rfl, hB⟩) | (go_at_call 17; refine (BS _ hB).mono ?_; clear hB; rintro e w' ⟨rfl, hB⟩) | (go_at_call 14; (first | (with_reducible refine (P103 _ hB).mono ?_) | (with_reducible refine (P23 _ hB).mono ?_) | (with_reducible refine (P53 _ hB).mono ?_) | (with_reducible refine (PI _ hB).mono ?_)); clear hB; rintro e w' ⟨rfl, hB⟩))
          go_ret
          exact ⟨rfl, hB⟩
  · obtain ⟨q, s, hv, hs, hq0, hq1, hr1, hr2, hr3, hr4⟩ := half_law n d hbad
    rw [hv] at HI HS
    unfold halfBad at hbad
    have g1 : 0 ≤ n := by omega
    have g2 : n ≤ 1000000000000000 := by omega
    have g3 : 1 ≤ d := by omega
    have g4 : d ≤ 1000000000000000 := by omega
    clear hbad hv
    by_cases e1 : 2 * (n - s) = d
    · have e2 : ((2 * (n - s)) != d) = false := by simp [e1]
      have e3 : q % 2 = 0 := hr3 e1
      clear hr3 hr4 e1
      by_cases w1 : w < 1
      · generalize (bitsV w : Int) = bv at BI BS
        go_wp2_with (first | (go_at_call 12; refine (HI _ hB).mono ?_; clear hB; rintro e w' ⟨rfl, hB⟩) | (go_at_call 13; refine (HS _ hB).mono ?_; clear hB; rintro e w' ⟨rfl, hB⟩) | (go_at_call 15; refine (PS _ hB).mono ?_; clear hB; rintro e w' ⟨rfl, hB⟩) | (go_at_call 16; refine (BI _ hB).mono ?_; clear hB; rintro e w' ⟨rfl, hB⟩) | (go_at_call 17; refine (BS _ hB).mono ?_; clear hB; rintro e w' ⟨rfl, hB⟩) | (go_at_call 14; (first | (with_reducible refine (P103 _ hB).mono ?_) | (with_reducible refine (P23 _ hB).mono ?_) | (with_reducible refine (P53 _ hB).mono ?_) | (with_reducible refine (PI _ hB).mono ?_)); clear hB; rintro e w' ⟨rfl, hB⟩))
        go_ret
        exact ⟨rfl, hB⟩
      · by_cases w2 : 1000000000000000 < w
        · generalize (bitsV w : Int) = bv at BI BS
          go_wp2_with (first | (go_at_call 12; refine (HI _ hB).mono ?_; clear hB; rintro e w' ⟨rfl, hB⟩) | (go_at_call 13; refine (HS _ hB).mono ?_; clear hB; rintro e w' ⟨rfl, hB⟩) | (go_at_call 15; refine (PS _ hB).mono ?_; clear hB; rintro e w' ⟨rfl, hB⟩) | (go_at_call 16; refine (BI _ hB).mono ?_; clear hB; rintro e w' ⟨rfl, hB⟩) | (go_at_call 17; refine (BS _ hB).mono ?_; clear hB; rintro e w' ⟨rfl, hB⟩) | (go_at_call 14; (first | (with_reducible refine (P103 _ hB).mono ?_) | (with_reducible refine (P23 _ hB).mono ?_) | (with_reducible refine (P53 _ hB).mono ?_) | (with_reducible refine (PI _ hB).mono ?_)); clear hB; rintro e w' ⟨rfl, hB⟩))
          go_ret
          exact ⟨rfl, hB⟩
        · obtain ⟨kk, hbv, hkk, hp1, hp2⟩ := bits_law w (by omega) (by omega)
          have hpb : (2 : Int) ^ (kk + 1) ≤ 2000000000000000 ∧ (2 : Int) ^ kk ≤ 1000000000000000 ∧ 0 ≤ (2 : Int) ^ kk := by
            have e := Int.pow_succ 2 kk
            have : (0 : Int) ≤ 2 ^ kk := Int.pow_nonneg (by decide)
            omega
          obtain ⟨hpb1, hpb2, hpb3⟩ := hpb
          rw [hbv] at BI BS
          have ekk : ((kk : Int) + 1).toNat = kk + 1 := by omega
          clear hbv
          go_wp2_with (first | (go_at_call 12; refine (HI _ hB).mono ?_; clear hB; rintro e w' ⟨rfl, hB⟩) | (go_at_call 13; refine (HS _ hB).mono ?_; clear hB; rintro e w' ⟨rfl, hB⟩) | (go_at_call 15; refine (PS _ hB).mono ?_; clear hB; rintro e w' ⟨rfl, hB⟩) | (go_at_call 16; refine (BI _ hB).mono ?_; clear hB; rintro e w' ⟨rfl, hB⟩) | (go_at_call 17; refine (BS _ hB).mono ?_; clear hB; rintro e w' ⟨rfl, hB⟩) | (go_at_call 14; (first | (with_reducible refine (P103 _ hB).mono ?_) | (with_reducible refine (P23 _ hB).mono ?_) | (with_reducible refine (P53 _ hB).mono ?_) | (with_reducible refine (PI _ hB).mono ?_)); clear hB; rintro e w' ⟨rfl, hB⟩))
          go_ret
          exact ⟨rfl, hB⟩
    · by_cases e1' : -(2 * (n - s)) = d
      · have e2 : ((2 * (n - s)) != d) = true := by simp; omega
        have e4 : ((-(2 * (n - s))) != d) = false := by simp [e1']
        have e3 : q % 2 = 0 := hr4 e1'
        clear hr3 hr4 e1 e1'
        by_cases w1 : w < 1
        · generalize (bitsV w : Int) = bv at BI BS
          go_wp2_with (first | (go_at_call 12; refine (HI _ hB).mono ?_; clear hB; rintro e w' ⟨rfl, hB⟩) | (go_at_call 13; refine (HS _ hB).mono ?_; clear hB; rintro e w' ⟨rfl, hB⟩) | (go_at_call 15; refine (PS _ hB).mono ?_; clear hB; rintro e w' ⟨rfl, hB⟩) | (go_at_call 16; refine (BI _ hB).mono ?_; clear hB; rintro e w' ⟨rfl, hB⟩) | (go_at_call 17; refine (BS _ hB).mono ?_; clear hB; rintro e w' ⟨rfl, hB⟩) | (go_at_call 14; (first | (with_reducible refine (P103 _ hB).mono ?_) | (with_reducible refine (P23 _ hB).mono ?_) | (with_reducible refine (P53 _ hB).mono ?_) | (with_reducible refine (PI _ hB).mono ?_)); clear hB; rintro e w' ⟨rfl, hB⟩))
          go_ret
          exact ⟨rfl, hB⟩
        · by_cases w2 : 1000000000000000 < w
          · generalize (bitsV w : Int) = bv at BI BS
            go_wp2_with (first | (go_at_call 12; refine (HI _ hB).mono ?_; clear hB; rintro e w' ⟨rfl, hB⟩) | (go_at_call 13; refine (HS _ hB).mono ?_; clear hB; rintro e w' ⟨rfl, hB⟩) | (go_at_call 15; refine (PS _ hB).mono ?_; clear hB; rintro e w' ⟨rfl, hB⟩) | (go_at_call 16; refine (BI _ hB).mono ?_; clear hB; rintro e w' ⟨rfl, hB⟩) | (go_at_call 17; refine (BS _ hB).mono ?_; clear hB; rintro e w' ⟨rfl, hB⟩) | (go_at_call 14; (first | (with_reducible refine (P103 _ hB).mono ?_) | (with_reducible refine (P23 _ hB).mono ?_) | (with_reducible refine (P53 _ hB).mono ?_) | (with_reducible refine (PI _ hB).mono ?_)); clear hB; rintro e w' ⟨rfl, hB⟩))
            go_ret
            exact ⟨rfl, hB⟩
          · obtain ⟨kk, hbv, hkk, hp1, hp2⟩ := bits_law w (by omega) (by omega)
            have hpb : (2 : Int) ^ (kk + 1) ≤ 2000000000000000 ∧ (2 : Int) ^ kk ≤ 1000000000000000 ∧ 0 ≤ (2 : Int) ^ kk := by
              have e := Int.pow_succ 2 kk
              have : (0 : Int) ≤ 2 ^ kk := Int.pow_nonneg (by decide)
              omega
            obtain ⟨hpb1, hpb2, hpb3⟩ := hpb
            rw [hbv] at BI BS
            have ekk : ((kk : Int) + 1).toNat = kk + 1 := by omega
            clear hbv
            go_wp2_with (first | (go_at_call 12; refine (HI _ hB).mono ?_; clear hB; rintro e w' ⟨rfl, hB⟩) | (go_at_call 13; refine (HS _ hB).mono ?_; clear hB; rintro e w' ⟨rfl, hB⟩) | (go_at_call 15; refine (PS _ hB).mono ?_; clear hB; rintro e w' ⟨rfl, hB⟩) | (go_at_call 16; refine (BI _ hB).mono ?_; clear hB; rintro e w' ⟨rfl, hB⟩) | (go_at_call 17; refine (BS _ hB).mono ?_; clear hB; rintro e w' ⟨rfl, hB⟩) | (go_at_call 14; (first | (with_reducible refine (P103 _ hB).mono ?_) | (with_reducible refine (P23 _ hB).mono ?_) | (with_reducible refine (P53 _ hB).mono ?_) | (with_reducible refine (PI _ hB).mono ?_)); clear hB; rintro e w' ⟨rfl, hB⟩))
            go_ret
            exact ⟨rfl, hB⟩
      · have e2 : ((2 * (n - s)) != d) = true := by simp; omega
        have e4 : ((-(2 * (n - s))) != d) = true := by simp; omega
        clear hr3 hr4 e1 e1'
        by_cases w1 : w < 1
        · generalize (bitsV w : Int) = bv at BI BS
          go_wp2_with (first | (go_at_call 12; refine (HI _ hB).mono ?_; clear hB; rintro e w' ⟨rfl, hB⟩) | (go_at_call 13; refine (HS _ hB).mono ?_; clear hB; rintro e w' ⟨rfl, hB⟩) | (go_at_call 15; refine (PS _ hB).mono ?_; clear hB; rintro e w' ⟨rfl, hB⟩) | (go_at_call 16; refine (BI _ hB).mono ?_; clear hB; rintro e w' ⟨rfl, hB⟩) | (go_at_call 17; refine (BS _ hB).mono ?_; clear hB; rintro e w' ⟨rfl, hB⟩) | (go_at_call 14; (first | (with_reducible refine (P103 _ hB).mono ?_) | (with_reducible refine (P23 _ hB).mono ?_) | (with_reducible refine (P53 _ hB).mono ?_) | (with_reducible refine (PI _ hB).mono ?_)); clear hB; rintro e w' ⟨rfl, hB⟩))
          go_ret
          exact ⟨rfl, hB⟩
        · by_cases w2 : 1000000000000000 < w
          · generalize (bitsV w : Int) = bv at BI BS
            go_wp2_with (first | (go_at_call 12; refine (HI _ hB).mono ?_; clear hB; rintro e w' ⟨rfl, hB⟩) | (go_at_call 13; refine (HS _ hB).mono ?_; clear hB; rintro e w' ⟨rfl, hB⟩) | (go_at_call 15; refine (PS _ hB).mono ?_; clear hB; rintro e w' ⟨rfl, hB⟩) | (go_at_call 16; refine (BI _ hB).mono ?_; clear hB; rintro e w' ⟨rfl, hB⟩) | (go_at_call 17; refine (BS _ hB).mono ?_; clear hB; rintro e w' ⟨rfl, hB⟩) | (go_at_call 14; (first | (with_reducible refine (P103 _ hB).mono ?_) | (with_reducible refine (P23 _ hB).mono ?_) | (with_reducible refine (P53 _ hB).mono ?_) | (with_reducible refine (PI _ hB).mono ?_)); clear hB; rintro e w' ⟨rfl, hB⟩))
            go_ret
            exact ⟨rfl, hB⟩
          · obtain ⟨kk, hbv, hkk, hp1, hp2⟩ := bits_law w (by omega) (by omega)
            have hpb : (2 : Int) ^ (kk + 1) ≤ 2000000000000000 ∧ (2 : Int) ^ kk ≤ 1000000000000000 ∧ 0 ≤ (2 : Int) ^ kk := by
              have e := Int.pow_succ 2 kk
              have : (0 : Int) ≤ 2 ^ kk := Int.pow_nonneg (by decide)
              omega
            obtain ⟨hpb1, hpb2, hpb3⟩ := hpb
            rw [hbv] at BI BS
            have ekk : ((kk : Int) + 1).toNat = kk + 1 := by omega
            clear hbv
            go_wp2_with (first | (go_at_call 12; refine (HI _ hB).mono ?_; clear hB; rintro e w' ⟨rfl, hB⟩) | (go_at_call 13; refine (HS _ hB).mono ?_; clear hB; rintro e w' ⟨rfl, hB⟩) | (go_at_call 15; refine (PS _ hB).mono ?_; clear hB; rintro e w' ⟨rfl, hB⟩) | (go_at_call 16; refine (BI _ hB).mono ?_; clear hB; rintro e w' ⟨rfl, hB⟩) | (go_at_call 17; refine (BS _ hB).mono ?_; clear hB; rintro e w' ⟨rfl, hB⟩) | (go_at_call 14; (first | (with_reducible refine (P103 _ hB).mono ?_) | (with_reducible refine (P23 _ hB).mono ?_) | (with_reducible refine (P53 _ hB).mono ?_) | (with_reducible refine (PI _ hB).mono ?_)); clear hB; rintro e w' ⟨rfl, hB⟩))
            go_ret
            exact ⟨rfl, hB⟩

theorem contract (H : Type) (enc : TypeId × Value → H) (W : World) (base : Nat) (args : Array Value) (ds gs : List (DataW H)) (before : List MemPlace)
    (hval : ∀ (j : Nat) t v, Try.f3.params[j]? = some t → args[j]? = some v → Value.okWide Try.prog W .any base t v)
    (hW : DataW.Whole enc Try.prog Try.f3.params.toList Rows.fnHalvesSpec.vars false W args.toList ds gs before)
    (hcond : ∀ k, (OpenSpec.ofChange Rows.fnHalvesSpec).cond = some k → k H (ds ++ gs) = true)
    (hsz : (DataW.weightsEach Try.prog (Try.f3.params.toList ++ (OpenSpec.ofChange Rows.fnHalvesSpec).bare.plain.varTypes Try.prog) (ds ++ gs)).all (· ≤ reachBytes) = true)
    (hL : laidMetH Try.prog Rows.fnHalvesRow.laid W) :
    Calls Try.prog 3 args W fun e W' => ∃ v, e = .returned v ∧ Rows.fnHalvesSpec.post enc Try.prog Try.f3 false true false false W args v W' := by
  have hW' := hW
  have hlt := hW'.lt
  obtain ⟨p, q, hA0, hV, rfl, hfz, hnd⟩ := hW
  have hA : DataW.TrodAll enc Try.prog W 0 (fun _ => true) true Try.f3.params.toList args.toList ds p := hA0
  rw [Try.params3] at hA hval hsz
  obtain ⟨v0, vs0, d0, ds0, p0, q0, hargs, rfl, rfl, h0, r0⟩ := trodAll_cons hA
  obtain ⟨rfl, rfl, rfl⟩ := trodAll_nil r0
  obtain rfl : args = #[v0] := by cases args; simp_all
  obtain ⟨rfl, rfl⟩ := trodVars_none hV
  simp only [List.append_nil] at hW' hlt
  have hlt0 : ∀ x ∈ p0, x.block < W.heap.size := fun x hx => hlt x (by simp [hx])
  have hk0 := h0
  clear hA0 hA
  have fin : ∀ W' : World, Below W.heap.size W W' → Rows.fnHalvesSpec.post enc Try.prog Try.f3 false true false false W _ (.bool true) W' := fun W' hb =>
    ⟨_, _, _, [], _, [], hW', trodAll_mk1 (shut_bool Try.underlying4 _), (trodAll_cons_mk (Below.trod laidOut (by kernel_rfl) (of_decide_eq_true (by kernel_rfl)) hk0 hb hlt0) trodAll_mk0), rfl, hb.frame _, fun h => by cases h⟩
  refine Calls.mono (R := fun e w' => e = .returned (.bool true) ∧ Below W.heap.size W w') ?_ (fun e W' h => ⟨_, h.1, fin W' h.2⟩)
  clear fin
  obtain ⟨a, len, cap, rfl, hC, hm⟩ := open_code (hval 0 _ v0 rfl rfl) h0 hlt0
  by_cases hl : 1048576 < len
  · exact walk_long a len cap W hl hm
  · exact walk a len cap W hC (by omega)

theorem laid_met (os : Os) : laidMet Try.prog Rows.fnHalvesRow.laid (((World.holding Try.prog os ⟨#[], #[], []⟩)).forCall (fun _ _ => 0) ⟨#[], #[.slice none 0 0], []⟩).memory :=
  ⟨[], rfl, List.nodup_nil, fun _ _ h => by cases h⟩
theorem reads (os : Os) {H : Type} (enc : TypeId × Value → H) : ∃ places, DataW.whole enc Try.prog (((World.holding Try.prog os ⟨#[], #[], []⟩)).forCall (fun _ _ => 0) ⟨#[], #[.slice none 0 0], []⟩).memory Try.f3.params.toList Rows.fnHalvesSpec.vars false (#[.slice none 0 0] : Array Value).toList 8 = some ([.nil], [], places) :=
  ⟨[], by kernel_rfl⟩

set_option maxRecDepth 100000 in
theorem lifted (os : Os) (started : os.Started) (H : Type) (enc : TypeId × Value → H) (F : Stop.Interp) :
    ReturnsInHanded {} Try.checked os 3 .any ((OpenSpec.ofChange Rows.fnHalvesSpec).preRow enc Try.prog Try.f3 Rows.fnHalvesRow.domain false Rows.fnHalvesRow.laid) (((OpenSpec.ofChange Rows.fnHalvesSpec).at F).post enc Try.prog Try.f3 false true false false) := by
  obtain ⟨places, hx⟩ := reads os enc
  refine returnsInHanded_of_row (C := Try.checked) (s := OpenSpec.ofChange Rows.fnHalvesSpec) own started (by kernel_rfl) Try.func3
    (witness_row_at (enc := enc) (C := Try.checked) false (World.holding Try.prog os ⟨#[], #[], []⟩) #[.slice none 0 0] rfl (by kernel_rfl) (by kernel_rfl) (by kernel_rfl)
      (OpenSpec.preRow_of_cond 8 hx (by kernel_rfl) (fun k hk => by cases hk) (by kernel_rfl) (laid_met os))) ?_
  intro W base args ds gs before hval hW _ hcond hsz hL _ _
  exact contract H enc W base args ds gs before hval hW hcond hsz hL

theorem said : Rows.FnHalvesSaid :=
  OpenClaim.holds_of_cond 3 Try.f3 rfl rfl rfl rfl rfl rfl rfl ⟨rfl, rfl, rfl, rfl, rfl⟩ rfl rfl rfl rfl rfl (by kernel_rfl) Try.func3 (by kernel_rfl)
    (of_decide_eq_true (by kernel_rfl)) (by unfold Func.isWrapper; first | (rw [if_pos (by decide +kernel)]; kernel_rfl) | (rw [if_neg (by decide +kernel)]; exact ⟨rfl, rfl⟩))
    (fun os started H enc _ F => by rw [OpenClaim.pre_eq_preRow]; exact lifted os started H enc F)

theorem proved : Rows.FnHalvesSaid := said
#print axioms proved
end Go.Proofs.Ytplmgmjjjfgokaa.fnHalves
