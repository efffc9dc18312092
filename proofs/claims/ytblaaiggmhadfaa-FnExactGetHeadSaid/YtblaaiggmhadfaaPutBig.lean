/- The encoding of an integer behind given bytes: the program's and the model's answers. -/
import Derived.Test.YtblaaiggmhadfaaIn
import Derived.Test.YtblaaiggmhadfaaMem
import Derived.Test.YtblaaiggmhadfaaFresh
import Derived.Test.YtblaaiggmhadfaaBigMath
import Derived.Test.YtblaaiggmhadfaaBig
import Derived.Test.YtblaaiggmhadfaaCut
import Derived.Test.YtblaaiggmhadfaaCur
import Derived.WalkKit
import Derived.Lib.Hide
import Derived.Outline
import Derived.ProofKit
namespace Go.Proofs.Ytblaaiggmhadfaa
open Go.RowKit
end Go.Proofs.Ytblaaiggmhadfaa
