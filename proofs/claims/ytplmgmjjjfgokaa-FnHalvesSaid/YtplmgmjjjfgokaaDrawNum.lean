/- What the model's draws for integers return: some integers in a range; nothing of what was there changes. -/
import Derived.Test.YtplmgmjjjfgokaaCur
namespace Go.Proofs.Ytplmgmjjjfgokaa
open Go.RowKit
def Pair (P : Int → Int → Prop) (w : World) (e : Ending) (w' : World) : Prop := ∃ x y : Int, P x y ∧ e = .returned (.tuple #[.int .i64 x, .int .i64 y]) ∧ Below w.heap.size w w'
def Single (P : Int → Prop) (w : World) (e : Ending) (w' : World) : Prop := ∃ x : Int, P x ∧ e = .returned (.int .i64 x) ∧ Below w.heap.size w w'
theorem below_only {w w1 w2 : World} {B : Nat} (h : Below w.heap.size w w1) (ho : Only B w1 w2) (hB : B = w.heap.size) : Below w.heap.size w w2 :=
  h.trans (ho.below w.heap.size (by omega) h.size)
theorem drawbits_any (a : Option Addr) (len cap : Nat) (w : World) (hC : CodeAt w a len) (hl : len ≤ 1048576) : Calls Try.prog 11 #[.slice a len cap] w (Single isInt w) := by
  go_enter Try.func11, Try.ntmps11
  go_wp2_with fail
  refine (new_any a len cap w hC hl).mono ?_
  rintro e w1 ⟨rfl, hb, hc, _⟩
  go_wp2_with fail
  refine (one_any w1 _ hc).mono ?_
  rintro e w2 ⟨x, hx, rfl, ho, hc2⟩
  go_wp2
  go_ret
  exact ⟨_, hx, rfl, below_only hb ho rfl⟩
theorem drawpow_any (a : Option Addr) (len cap : Nat) (w : World) (hC : CodeAt w a len) (hl : len ≤ 1048576) : Calls Try.prog 10 #[.slice a len cap] w (Pair (fun x y => isInt x ∧ isInt y) w) := by
  go_enter Try.func10, Try.ntmps10
  go_wp2_with fail
  refine (new_any a len cap w hC hl).mono ?_
  rintro e w1 ⟨rfl, hb, hc, _⟩
  have hd := int_lit w1 _ [2, 5, 10, 3, 0] 3 isInt hc (by decide) (by decide) (by unfold isInt; decide)
  go_wp2_with fail
  refine hd.mono ?_
  rintro e w2 ⟨x, hx, rfl, ho, hc2⟩
  go_wp2_with fail
  refine (below_any w2 _ 20 hc2 (by decide)).mono ?_
  rintro e w3 ⟨y, ⟨hy0, hy1⟩, rfl, ho3, hc3⟩
  go_wp2
  go_ret2
  exact ⟨_, _, ⟨hx, by unfold isInt; omega⟩, rfl, below_only hb (ho.trans ho3) rfl⟩
theorem drawhalf_any (a : Option Addr) (len cap : Nat) (w : World) (hC : CodeAt w a len) (hl : len ≤ 1048576) : Calls Try.prog 9 #[.slice a len cap] w (Pair (fun x y => isInt x ∧ isInt y) w) := by
  go_enter Try.func9, Try.ntmps9
  go_wp2_with fail
  refine (new_any a len cap w hC hl).mono ?_
  rintro e w1 ⟨rfl, hb, hc, _⟩
  have hd := int_lit w1 _ [1, 2, 3, 4, 10, 1000, 0] 3 (fun d => 0 ≤ d ∧ d ≤ 1000) hc (by decide) (by decide) (by decide)
  go_wp2_with fail
  refine hd.mono ?_
  rintro e w2 ⟨d, ⟨hd0, hd1⟩, rfl, ho, hc2⟩
  go_wp2_with fail
  refine (once_any w2 _ 2 hc2 (by decide)).mono ?_
  rintro e w3 ⟨b, rfl, ho3, hc3⟩
  cases b
  · go_wp2_with fail
    refine (one_any w3 _ hc3).mono ?_
    rintro e w4 ⟨x, hx, rfl, ho4, hc4⟩
    go_wp2
    go_ret2
    exact ⟨_, _, ⟨hx, by unfold isInt; omega⟩, rfl, below_only hb ((ho.trans ho3).trans ho4) rfl⟩
  · by_cases hp : 0 < d
    · go_wp2_with fail
      refine (below_any w3 _ 9 hc3 (by decide)).mono ?_
      rintro e w4 ⟨x, ⟨hx0, hx1⟩, rfl, ho4, hc4⟩
      have h1 : 0 ≤ d * x := Int.mul_nonneg hd0 hx0
      have h2 : d * x ≤ 1000 * 9 := Int.mul_le_mul hd1 (by omega) hx0 (by decide)
      go_wp2
      go_ret2
      exact ⟨_, _, ⟨by unfold isInt; omega, by unfold isInt; omega⟩, rfl, below_only hb ((ho.trans ho3).trans ho4) rfl⟩
    · go_wp2_with fail
      refine (one_any w3 _ hc3).mono ?_
      rintro e w4 ⟨x, hx, rfl, ho4, hc4⟩
      go_wp2
      go_ret2
      exact ⟨_, _, ⟨hx, by unfold isInt; omega⟩, rfl, below_only hb ((ho.trans ho3).trans ho4) rfl⟩
end Go.Proofs.Ytplmgmjjjfgokaa
