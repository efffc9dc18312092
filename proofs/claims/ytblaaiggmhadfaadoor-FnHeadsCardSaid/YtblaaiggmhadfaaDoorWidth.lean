/- The width for an integer: the program's and the model's answers. -/
import Derived.Test.YtblaaiggmhadfaaDoorBig
namespace Go.Proofs.YtblaaiggmhadfaaDoor
open Go.RowKit
theorem widR_neg {n : Int} (h : n < 0) : widR n = 0 := by unfold widR; rw [if_pos h]
theorem widR_1 {n : Int} (h : 0 ≤ n) (k : n < 256) : widR n = 1 := by unfold widR; rw [if_neg (by omega), if_pos k]
theorem widR_2 {n : Int} (h : 256 ≤ n) (k : n < 65536) : widR n = 2 := by unfold widR; rw [if_neg (by omega), if_neg (by omega), if_pos k]
theorem widR_4 {n : Int} (h : 65536 ≤ n) (k : n < 4294967296) : widR n = 4 := by unfold widR; rw [if_neg (by omega), if_neg (by omega), if_neg (by omega), if_pos k]
theorem widR_8 {n : Int} (h : 4294967296 ≤ n) : widR n = 8 := by unfold widR; rw [if_neg (by omega), if_neg (by omega), if_neg (by omega), if_neg (by omega)]
theorem widR_cases (n : Int) : (n < 0 ∧ widR n = 0) ∨ (0 ≤ n ∧ n < 256 ∧ widR n = 1) ∨ (256 ≤ n ∧ n < 65536 ∧ widR n = 2) ∨ (65536 ≤ n ∧ n < 4294967296 ∧ widR n = 4) ∨ (4294967296 ≤ n ∧ widR n = 8) := by
  by_cases h0 : n < 0
  · exact .inl ⟨h0, widR_neg h0⟩
  by_cases h1 : n < 256
  · exact .inr (.inl ⟨by omega, h1, widR_1 (by omega) h1⟩)
  by_cases h2 : n < 65536
  · exact .inr (.inr (.inl ⟨by omega, h2, widR_2 (by omega) h2⟩))
  by_cases h4 : n < 4294967296
  · exact .inr (.inr (.inr (.inl ⟨by omega, h4, widR_4 (by omega) h4⟩)))
  · exact .inr (.inr (.inr (.inr ⟨by omega, widR_8 (by omega)⟩)))
theorem width_spec (n : Int) (w : World) : Calls Tryd.prog 40 #[.int .i64 n] w fun e w' => e = .returned (.int .i64 (widR n)) ∧ w = w' := by
  rcases widR_cases n with ⟨h0, e⟩ | ⟨h0, h1, e⟩ | ⟨h0, h1, e⟩ | ⟨h0, h1, e⟩ | ⟨h0, e⟩
  · rw [e]
    clear e
    go_enter Tryd.func40, Tryd.ntmps40
    go_wp2
    go_ret
    exact ⟨rfl, rfl⟩
  · rw [e]
    have k0 : ¬ n < 0 := by omega
    clear e
    go_enter Tryd.func40, Tryd.ntmps40
    go_wp2
    go_ret
    exact ⟨rfl, rfl⟩
  · rw [e]
    have k0 : ¬ n < 0 := by omega
    have k1 : ¬ n < 256 := by omega
    clear e
    go_enter Tryd.func40, Tryd.ntmps40
    go_wp2
    go_ret
    exact ⟨rfl, rfl⟩
  · rw [e]
    have k0 : ¬ n < 0 := by omega
    have k1 : ¬ n < 256 := by omega
    have k2 : ¬ n < 65536 := by omega
    clear e
    go_enter Tryd.func40, Tryd.ntmps40
    go_wp2
    go_ret
    exact ⟨rfl, rfl⟩
  · rw [e]
    have k0 : ¬ n < 0 := by omega
    have k1 : ¬ n < 256 := by omega
    have k2 : ¬ n < 65536 := by omega
    have k4 : ¬ n < 4294967296 := by omega
    clear e
    go_enter Tryd.func40, Tryd.ntmps40
    go_wp2
    go_ret
    exact ⟨rfl, rfl⟩
theorem widR_fit {n : Int} (h : 0 ≤ n) : fitB n (widR n) := by
  refine fit_mk ⟨h, ?_⟩
  rcases widR_cases n with ⟨h0, e⟩ | ⟨h0, h1, e⟩ | ⟨h0, h1, e⟩ | ⟨h0, h1, e⟩ | ⟨h0, e⟩ <;> rw [e] <;> omega
theorem width_impl (n : Int) (w : World) : Calls Tryd.prog 30 #[.int .i64 n] w fun e w' => e = .returned (.int .i64 (widR n)) ∧ w = w' := by
  by_cases hn : n < 0
  · rw [widR_neg hn]
    have c : ∀ x, Calls Tryd.prog 47 #[.int .i64 n, .int .i64 x] w fun e w' => e = .returned (.bool false) ∧ w = w' := fun x => fits_no (fun h => by have := fit_un h; omega) w
    go_enter Tryd.func30, Tryd.ntmps30
    go_wp2
    go_loop [3] (fun x => x = .int .i64 1 ∨ x = .int .i64 2 ∨ x = .int .i64 4 ∨ x = .int .i64 8 ∨ x = .int .i64 16) (fun x => (16 - intOf x).toNat)
    case atStart => exact .inl rfl
    case round =>
      rcases hrel with rfl | rfl | rfl | rfl | rfl
      · have c := c 1
        go_wp2_with (go_at_call 47; refine c.mono ?_; rintro e w' ⟨rfl, rfl⟩)
        go_round
        case rel => exact .inr (.inl rfl)
        case measure => simp [intOf]
      · have c := c 2
        go_wp2_with (go_at_call 47; refine c.mono ?_; rintro e w' ⟨rfl, rfl⟩)
        go_round
        case rel => exact .inr (.inr (.inl rfl))
        case measure => simp [intOf]
      · have c := c 4
        go_wp2_with (go_at_call 47; refine c.mono ?_; rintro e w' ⟨rfl, rfl⟩)
        go_round
        case rel => exact .inr (.inr (.inr (.inl rfl)))
        case measure => simp [intOf]
      · have c := c 8
        go_wp2_with (go_at_call 47; refine c.mono ?_; rintro e w' ⟨rfl, rfl⟩)
        go_round
        case rel => exact .inr (.inr (.inr (.inr rfl)))
        case measure => simp [intOf]
      · go_wp2
        go_ret
        exact ⟨rfl, rfl⟩
  · have c : ∀ x, (x = 1 ∨ x = 2 ∨ x = 4 ∨ x = 8) → x < widR n → Calls Tryd.prog 47 #[.int .i64 n, .int .i64 x] w fun e w' => e = .returned (.bool false) ∧ w = w' := fun x hx hlt => fits_no (fun h => by
      have := fit_un h
      rcases widR_cases n with ⟨h0, e⟩ | ⟨h0, h1, e⟩ | ⟨h0, h1, e⟩ | ⟨h0, h1, e⟩ | ⟨h0, e⟩ <;> rw [e] at hlt <;> omega) w
    have cy := fits_yes (widR_fit (by omega : 0 ≤ n)) w
    have hr : widR n = 1 ∨ widR n = 2 ∨ widR n = 4 ∨ widR n = 8 := by
      rcases widR_cases n with ⟨h0, e⟩ | ⟨h0, h1, e⟩ | ⟨h0, h1, e⟩ | ⟨h0, h1, e⟩ | ⟨h0, e⟩ <;> rw [e] <;> omega
    have C := Lib.hid c
    clear c
    generalize widR n = r at *
    go_enter Tryd.func30, Tryd.ntmps30
    go_wp2
    go_loop [3] (fun x => ∃ z : Int, x = .int .i64 z ∧ z ≤ r ∧ (z = 1 ∨ z = 2 ∨ z = 4 ∨ z = 8)) (fun x => (16 - intOf x).toNat)
    case atStart => exact ⟨1, rfl, by omega, .inl rfl⟩
    case round =>
      obtain ⟨z, rfl, hz, hz4⟩ := hrel
      by_cases e : z = r
      · subst e
        have hz8 : z ≤ 8 := by omega
        clear hz hz4 hr
        go_wp2_with (go_at_call 47; refine cy.mono ?_; rintro e w' ⟨rfl, rfl⟩)
        go_ret
        exact ⟨rfl, rfl⟩
      · have c := C.out z hz4 (by omega)
        have hz8 : z ≤ 4 := by omega
        have hz1 : 1 ≤ z := by omega
        have HZ := Lib.hid (show 2 * z ≤ r ∧ (2 * z = 1 ∨ 2 * z = 2 ∨ 2 * z = 4 ∨ 2 * z = 8) by omega)
        clear hz hz4 hr e cy
        go_wp2_with (go_at_call 47; refine c.mono ?_; rintro e w' ⟨rfl, rfl⟩)
        go_round
        case rel => exact ⟨2 * z, by go_num, HZ.out.1, HZ.out.2⟩
        case measure => simp [intOf]; omega
end Go.Proofs.YtblaaiggmhadfaaDoor
