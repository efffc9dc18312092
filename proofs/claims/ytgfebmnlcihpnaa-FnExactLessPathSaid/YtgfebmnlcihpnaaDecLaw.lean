/- A law's decimal number handed to the program: the conversion, the comparison. -/
import Derived.Test.YtgfebmnlcihpnaaDecNew
namespace Go.Proofs.Ytgfebmnlcihpnaa
open Go.RowKit
end Go.Proofs.Ytgfebmnlcihpnaa
