/- What FltNew of the program and of the model returns: the number's one valid form, or none where there is none. -/
import Derived.Test.YtpkmlfmkgodhkaaFltOk
import Derived.Test.YtpkmlfmkgodhkaaMem
namespace Go.Proofs.Ytpkmlfmkgodhkaa
open Go.RowKit
theorem fcell {W w1 : World} (hb : Below W.heap.size W w1) : (∀ b o, b < W.heap.size → w1.cell? ⟨b, o, none⟩ = W.cell? ⟨b, o, none⟩) ∧ (∀ b o, b < W.heap.size → w1.frozen? ⟨b, o, none⟩ = W.frozen? ⟨b, o, none⟩) :=
  ⟨fun b o h => hb.cell (p := ⟨b, o, none⟩) h, fun b o h => hb.frozen (p := ⟨b, o, none⟩) h⟩
def FNewPost (m e : Int) (w : World) (r : Ending) (w' : World) : Prop := ∃ (M E : Int) (ok : Bool), r = .returned (.tuple #[.agg #[.int .i64 M, .int .i64 E], .bool ok]) ∧ IsFlt m e M E ok ∧ Below w.heap.size w w'

end Go.Proofs.Ytpkmlfmkgodhkaa
