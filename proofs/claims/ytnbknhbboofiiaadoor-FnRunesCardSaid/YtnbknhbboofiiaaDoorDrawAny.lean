/- Draws of single characters. -/
import Derived.Test.YtnbknhbboofiiaaDoorCur
namespace Go.Proofs.YtnbknhbboofiiaaDoor
open Go.RowKit
def isRn (x : Int) : Prop := -1 ≤ x ∧ x ≤ 1114112
theorem rune_any (w : World) (B : Nat) (hC : Cur w B) : Calls Tryd.prog 22 #[.pointer (some ⟨B, 0, none⟩)] w (DrawPost B isRn w) := by
  have hd := int_lit w B [0, 97, 98, 34, 92, 10, 127, 128, 233, 2047, 2048, 8364, 55295, 57344, 65535, 65536, 128512, 1114111] 3 isRn hC (by decide) (by decide) (by unfold isRn; decide)
  go_enter Tryd.func22, Tryd.ntmps22
  go_wp2_with fail
  refine hd.mono ?_
  rintro e w1 ⟨x, hx, rfl, ho, hc⟩
  go_wp2
  go_ret
  exact ⟨_, hx, rfl, ho, hc⟩
theorem any_any (w : World) (B : Nat) (hC : Cur w B) : Calls Tryd.prog 19 #[.pointer (some ⟨B, 0, none⟩)] w (DrawPost B isRn w) := by
  go_enter Tryd.func19, Tryd.ntmps19
  go_wp2_with fail
  refine (once_any w B 5 hC (by decide)).mono ?_
  rintro e w1 ⟨b, rfl, ho, hc⟩
  cases b
  · go_wp2_with fail
    refine (rune_any w1 B hc).mono ?_
    rintro e w2 ⟨x, hx, rfl, ho2, hc2⟩
    go_wp2
    go_ret
    exact ⟨_, hx, rfl, ho.trans ho2, hc2⟩
  · have hd := int_lit w1 B [-1, 55296, 57343, 1114112] 3 isRn hc (by decide) (by decide) (by unfold isRn; decide)
    go_wp2_with fail
    refine hd.mono ?_
    rintro e w2 ⟨x, hx, rfl, ho2, hc2⟩
    go_wp2
    go_ret
    exact ⟨_, hx, rfl, ho.trans ho2, hc2⟩
end Go.Proofs.YtnbknhbboofiiaaDoor
