/- Draws of single characters. -/
import Derived.Test.YtaelepaogkakmaaDoorCur
namespace Go.Proofs.YtaelepaogkakmaaDoor
open Go.RowKit
def isRn (x : Int) : Prop := -1 ≤ x ∧ x ≤ 1114112
theorem rune_any (w : World) (B : Nat) (hC : Cur w B) : Calls Tryd.prog 67 #[.pointer (some ⟨B, 0, none⟩)] w (DrawPost B isRn w) := by
  have hd := int_lit w B [0, 97, 98, 34, 92, 10, 127, 128, 233, 2047, 2048, 8364, 55295, 57344, 65535, 65536, 128512, 1114111] 3 isRn hC (by decide) (by decide) (by unfold isRn; decide)
  go_enter Tryd.func67, Tryd.ntmps67
  go_wp2_with fail
  refine hd.mono ?_
  rintro e w1 ⟨x, hx, rfl, ho, hc⟩
  go_wp2
  go_ret
  exact ⟨_, hx, rfl, ho, hc⟩
end Go.Proofs.YtaelepaogkakmaaDoor
