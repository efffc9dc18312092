/- A law's decimal number handed to the program: the conversion, the comparison. -/
import Derived.Test.YtjfjbocaplpdfaaDoorDecNew
namespace Go.Proofs.YtjfjbocaplpdfaaDoor
open Go.RowKit
end Go.Proofs.YtjfjbocaplpdfaaDoor
