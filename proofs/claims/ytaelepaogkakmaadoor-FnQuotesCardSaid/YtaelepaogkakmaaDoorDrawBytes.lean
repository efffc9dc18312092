/- Bytes of its own that the model draws. -/
import Derived.Test.YtaelepaogkakmaaDoorCur
import Derived.Test.YtaelepaogkakmaaDoorMem
import Derived.Test.YtaelepaogkakmaaDoorFresh
namespace Go.Proofs.YtaelepaogkakmaaDoor
open Go.RowKit
/-- bytes of its own, the cursor stepped -/
def BytesPost (B : Nat) (P : List UInt8 → Prop) (w : World) (e : Ending) (w' : World) : Prop := ∃ v' l', P l' ∧ e = .returned v' ∧ v' ≠ .slice none 0 0 ∧ w'.ownsRow w.heap.size 5 1 v' l'.length (bv l') ∧ Only B w w' ∧ Cur w' B
end Go.Proofs.YtaelepaogkakmaaDoor
