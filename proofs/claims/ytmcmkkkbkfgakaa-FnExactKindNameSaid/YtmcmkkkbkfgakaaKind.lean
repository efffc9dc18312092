/- KindName of the program and of the model. -/
import Derived.Test.YtmcmkkkbkfgakaaIn
import Derived.Test.YtmcmkkkbkfgakaaMem
import Derived.Lib.Hide
namespace Go.Proofs.Ytmcmkkkbkfgakaa
open Go.RowKit
/-- the kinds' names -/
def kname (n : Int) : ByteArray :=
  if n = 1 then ⟨#[110, 117, 108, 108]⟩ else if n = 2 then ⟨#[98, 111, 111, 108]⟩ else if n = 3 then ⟨#[105, 110, 116]⟩ else if n = 4 then ⟨#[102, 108, 116]⟩ else if n = 5 then ⟨#[111, 100, 100]⟩ else if n = 6 then ⟨#[100, 101, 99]⟩ else if n = 7 then ⟨#[116, 101, 120, 116]⟩ else if n = 8 then ⟨#[98, 121, 116, 101, 115]⟩ else if n = 9 then ⟨#[108, 105, 115, 116]⟩ else if n = 10 then ⟨#[109, 97, 112]⟩ else if n = 11 then ⟨#[116, 97, 103]⟩ else ⟨#[]⟩
theorem kind_cases (n : Int) : (n < 0 ∨ 11 < n) ∨ n = 0 ∨ n = 1 ∨ n = 2 ∨ n = 3 ∨ n = 4 ∨ n = 5 ∨ n = 6 ∨ n = 7 ∨ n = 8 ∨ n = 9 ∨ n = 10 ∨ n = 11 := by omega
theorem kname_out (n : Int) (h : n < 0 ∨ 11 < n) : kname n = ⟨#[]⟩ := by
  unfold kname
  rw [if_neg (by omega)]
  rw [if_neg (by omega)]
  rw [if_neg (by omega)]
  rw [if_neg (by omega)]
  rw [if_neg (by omega)]
  rw [if_neg (by omega)]
  rw [if_neg (by omega)]
  rw [if_neg (by omega)]
  rw [if_neg (by omega)]
  rw [if_neg (by omega)]
  rw [if_neg (by omega)]
set_option maxHeartbeats 4000000 in
theorem kind_impl (n : Int) (w : World) : Calls Try.prog 30 #[.int .i64 n] w fun e w' => e = .returned (.string (kname n)) ∧ Below w.heap.size w w' := by
  rcases kind_cases n with hc | rfl | rfl | rfl | rfl | rfl | rfl | rfl | rfl | rfl | rfl | rfl | rfl
  · rw [kname_out n hc]
    by_cases h0 : n < 0
    · go_enter Try.func30, Try.ntmps30
      go_wp2
      go_ret
      exact ⟨rfl, (Below.refl _ _).alloc (Nat.le_refl _) _⟩
    · have h1 : 12 ≤ n := by omega
      have h2 : 0 ≤ n := by omega
      clear hc h0
      go_enter Try.func30, Try.ntmps30
      go_wp2
      go_ret
      exact ⟨rfl, (Below.refl _ _).alloc (Nat.le_refl _) _⟩
  all_goals
    go_enter Try.func30, Try.ntmps30
    go_wp2
    go_ret
    exact ⟨rfl, (Below.refl _ _).alloc (Nat.le_refl _) _⟩
set_option maxHeartbeats 4000000 in
theorem kind_spec (n : Int) (w : World) : Calls Try.prog 31 #[.int .i64 n] w fun e w' => e = .returned (.string (kname n)) ∧ Below w.heap.size w w' := by
  rcases kind_cases n with hc | rfl | rfl | rfl | rfl | rfl | rfl | rfl | rfl | rfl | rfl | rfl | rfl
  · rw [kname_out n hc]
    have c := fun w1 => in_no n 0 11 w1 hc
    have C := Lib.hid c
    clear hc c
    go_enter Try.func31, Try.ntmps31
    go_wp2_with fail
    refine (C.out _).mono ?_
    rintro e w1 ⟨rfl, rfl⟩
    go_wp2
    go_ret
    exact ⟨rfl, (Below.refl _ _).alloc (Nat.le_refl _) _⟩
  all_goals
    go_enter Try.func31, Try.ntmps31
    go_wp2_with fail
    refine (in_yes _ 0 11 _ (by decide) (by decide)).mono ?_
    rintro e w1 ⟨rfl, rfl⟩
    go_wp2
    go_ret
    exact ⟨rfl, (Below.refl _ _).alloc (Nat.le_refl _) _⟩
end Go.Proofs.Ytmcmkkkbkfgakaa
