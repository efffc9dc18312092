/- A law's decimal number handed to the program: the conversion, the comparison. -/
import Derived.Test.YtpkmlfmkgodhkaaDecNew
namespace Go.Proofs.Ytpkmlfmkgodhkaa
open Go.RowKit
end Go.Proofs.Ytpkmlfmkgodhkaa
