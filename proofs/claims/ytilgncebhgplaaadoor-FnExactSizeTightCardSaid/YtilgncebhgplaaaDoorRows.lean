/-
  NARROWER THAN 'FOR EVERY INPUT', by the rows' own cells (each row's printed sentence says how): FnExactFitsTight: loops, laid · FnExactPackTight: loops, laid · FnExactWriteTight: loops, laid · FnExactLessTight: loops, laid · FnExactSortTight: loops, laid · FnExactSizeTight: loops, laid.
  DERIVED. THE GIVEN ROWS OF THIS SEAT. 6 by the template 'for every input the law returns true; each argument reads behind the call as it read before'; 0 by the template 'total and deterministic' (their statements: YtilgncebhgplaaaDoorTotals.lean).
  GIVEN WITH THE SEED: the statements are not yours to turn. If you find one false, say at which input.
  Laid BY PROGRAM, IN A SANDBOX (cutbox-rows.mjs): the forced cells as the released guide's own fill.sh prints them over the translation 9bdf8f7bc3de1d44… (all of the seat's roots in one cut). By AI agents, Wed Nov 11 2026. No macro, syntax, notation, axiom, sorry.
-/
import Derived.Test.YtilgncebhgplaaaDoorChecked
import GoSem.Claim
import GoSem.ClaimJoined
import GoSem.ClaimMapViews
import Derived.JoinedTies
import Derived.KernelRfl
namespace Go.Proofs.YtilgncebhgplaaaDoor
/- THE CELL 'sum', in the pinned program and in every row, IS THE sha256 OF THE DUMP (.gsa) THAT YtilgncebhgplaaaDoorProg.lean LOADS. Nothing in Lean hashes anything: it is a label: what it is worth is what the hold of that sum in a sandbox is worth. -/
noncomputable def Tryd.pinned : Pinned := { name := "ytilgncebhgplaaadoor", sum := "9bdf8f7bc3de1d4469f5587d6d7d6ca6bfe1b845e69dfb140fc423ebb2be8c67", checked := Tryd.checked }
namespace Rows
def none {H : Type} : Left H := { results := [], args := [] }

/- WHAT THE LISTED PACKAGE-LEVEL VARIABLES READ AS WHEN THE CALL BEGINS. Each datum BY PROGRAM (the guide's laid-datum.mjs) off the statement by which the dump's own 'gosem.cut.vars' lays the variable. In a bare row this is a premise. The card (YtilgncebhgplaaaDoorCards.lean) ties it to the program's text. -/
def laid_math_bits_deBruijn32tab {H : Type} : DataW H := .agg [.lit (.int .u8 0), .lit (.int .u8 1), .lit (.int .u8 28), .lit (.int .u8 2), .lit (.int .u8 29), .lit (.int .u8 14), .lit (.int .u8 24), .lit (.int .u8 3), .lit (.int .u8 30), .lit (.int .u8 22), .lit (.int .u8 20), .lit (.int .u8 15), .lit (.int .u8 25), .lit (.int .u8 17), .lit (.int .u8 4), .lit (.int .u8 8), .lit (.int .u8 31), .lit (.int .u8 27), .lit (.int .u8 13), .lit (.int .u8 23), .lit (.int .u8 21), .lit (.int .u8 19), .lit (.int .u8 16), .lit (.int .u8 7), .lit (.int .u8 26), .lit (.int .u8 12), .lit (.int .u8 18), .lit (.int .u8 6), .lit (.int .u8 11), .lit (.int .u8 5), .lit (.int .u8 10), .lit (.int .u8 9)]
def laid_math_bits_deBruijn64tab {H : Type} : DataW H := .agg [.lit (.int .u8 0), .lit (.int .u8 1), .lit (.int .u8 56), .lit (.int .u8 2), .lit (.int .u8 57), .lit (.int .u8 49), .lit (.int .u8 28), .lit (.int .u8 3), .lit (.int .u8 61), .lit (.int .u8 58), .lit (.int .u8 42), .lit (.int .u8 50), .lit (.int .u8 38), .lit (.int .u8 29), .lit (.int .u8 17), .lit (.int .u8 4), .lit (.int .u8 62), .lit (.int .u8 47), .lit (.int .u8 59), .lit (.int .u8 36), .lit (.int .u8 45), .lit (.int .u8 43), .lit (.int .u8 51), .lit (.int .u8 22), .lit (.int .u8 53), .lit (.int .u8 39), .lit (.int .u8 33), .lit (.int .u8 30), .lit (.int .u8 24), .lit (.int .u8 18), .lit (.int .u8 12), .lit (.int .u8 5), .lit (.int .u8 63), .lit (.int .u8 55), .lit (.int .u8 48), .lit (.int .u8 27), .lit (.int .u8 60), .lit (.int .u8 41), .lit (.int .u8 37), .lit (.int .u8 16), .lit (.int .u8 46), .lit (.int .u8 35), .lit (.int .u8 44), .lit (.int .u8 21), .lit (.int .u8 52), .lit (.int .u8 32), .lit (.int .u8 23), .lit (.int .u8 11), .lit (.int .u8 54), .lit (.int .u8 26), .lit (.int .u8 40), .lit (.int .u8 15), .lit (.int .u8 34), .lit (.int .u8 20), .lit (.int .u8 31), .lit (.int .u8 10), .lit (.int .u8 25), .lit (.int .u8 14), .lit (.int .u8 19), .lit (.int .u8 9), .lit (.int .u8 13), .lit (.int .u8 8), .lit (.int .u8 7), .lit (.int .u8 6)]

/-- 'laws.FnExactFitsTight': WHATEVER THE INPUT: true; the input reads as it did. -/
def fnExactFitsTightSpec : ChangeSpec := { name := "fnExactFitsTight", fn := fun _ => fun
  | [d] => { results := [.lit (.bool true)], args := [d] }
  | _ => none }
def fnExactFitsTightRow : OpenClaim := { program := "ytilgncebhgplaaadoor", sum := "9bdf8f7bc3de1d4469f5587d6d7d6ca6bfe1b845e69dfb140fc423ebb2be8c67", func := "loop.example/g00502/laws.FnExactFitsTight", spec := "fnExactFitsTight", inPlace := ["internal/bytealg.Compare"], unfollowed := true, recurses := true, named := ["math/bits.deBruijn32tab", "math/bits.deBruijn64tab"], loops := true, apart := false, laid := [("math/bits.deBruijn32tab", laid_math_bits_deBruijn32tab), ("math/bits.deBruijn64tab", laid_math_bits_deBruijn64tab)] }
def FnExactFitsTightSaid : Prop := fnExactFitsTightRow.holds Tryd.pinned (OpenSpec.ofChange fnExactFitsTightSpec)

/-- ITS FALSE NEIGHBOUR: 'it returns false'. Refute it at one input. -/
def fnExactFitsTightWrong : ChangeSpec := { name := "fnExactFitsTight", fn := fun _ => fun
  | [d] => { results := [.lit (.bool false)], args := [d] }
  | _ => none }
def FnExactFitsTightWrongFalsely : Prop := fnExactFitsTightRow.holds Tryd.pinned (OpenSpec.ofChange fnExactFitsTightWrong)

/-- 'laws.FnExactPackTight': WHATEVER THE INPUT: true; the input reads as it did. -/
def fnExactPackTightSpec : ChangeSpec := { name := "fnExactPackTight", fn := fun _ => fun
  | [d] => { results := [.lit (.bool true)], args := [d] }
  | _ => none }
def fnExactPackTightRow : OpenClaim := { program := "ytilgncebhgplaaadoor", sum := "9bdf8f7bc3de1d4469f5587d6d7d6ca6bfe1b845e69dfb140fc423ebb2be8c67", func := "loop.example/g00502/laws.FnExactPackTight", spec := "fnExactPackTight", inPlace := ["internal/bytealg.Compare"], unfollowed := true, recurses := true, named := ["math/bits.deBruijn32tab", "math/bits.deBruijn64tab"], loops := true, apart := false, laid := [("math/bits.deBruijn32tab", laid_math_bits_deBruijn32tab), ("math/bits.deBruijn64tab", laid_math_bits_deBruijn64tab)] }
def FnExactPackTightSaid : Prop := fnExactPackTightRow.holds Tryd.pinned (OpenSpec.ofChange fnExactPackTightSpec)

/-- ITS FALSE NEIGHBOUR: 'it returns false'. Refute it at one input. -/
def fnExactPackTightWrong : ChangeSpec := { name := "fnExactPackTight", fn := fun _ => fun
  | [d] => { results := [.lit (.bool false)], args := [d] }
  | _ => none }
def FnExactPackTightWrongFalsely : Prop := fnExactPackTightRow.holds Tryd.pinned (OpenSpec.ofChange fnExactPackTightWrong)

/-- 'laws.FnExactWriteTight': WHATEVER THE INPUT: true; the input reads as it did. -/
def fnExactWriteTightSpec : ChangeSpec := { name := "fnExactWriteTight", fn := fun _ => fun
  | [d] => { results := [.lit (.bool true)], args := [d] }
  | _ => none }
def fnExactWriteTightRow : OpenClaim := { program := "ytilgncebhgplaaadoor", sum := "9bdf8f7bc3de1d4469f5587d6d7d6ca6bfe1b845e69dfb140fc423ebb2be8c67", func := "loop.example/g00502/laws.FnExactWriteTight", spec := "fnExactWriteTight", inPlace := ["internal/bytealg.Compare"], unfollowed := true, recurses := true, named := ["math/bits.deBruijn32tab", "math/bits.deBruijn64tab"], loops := true, apart := false, laid := [("math/bits.deBruijn32tab", laid_math_bits_deBruijn32tab), ("math/bits.deBruijn64tab", laid_math_bits_deBruijn64tab)] }
def FnExactWriteTightSaid : Prop := fnExactWriteTightRow.holds Tryd.pinned (OpenSpec.ofChange fnExactWriteTightSpec)

/-- ITS FALSE NEIGHBOUR: 'it returns false'. Refute it at one input. -/
def fnExactWriteTightWrong : ChangeSpec := { name := "fnExactWriteTight", fn := fun _ => fun
  | [d] => { results := [.lit (.bool false)], args := [d] }
  | _ => none }
def FnExactWriteTightWrongFalsely : Prop := fnExactWriteTightRow.holds Tryd.pinned (OpenSpec.ofChange fnExactWriteTightWrong)

/-- 'laws.FnExactLessTight': WHATEVER THE INPUT: true; the input reads as it did. -/
def fnExactLessTightSpec : ChangeSpec := { name := "fnExactLessTight", fn := fun _ => fun
  | [d1, d2] => { results := [.lit (.bool true)], args := [d1, d2] }
  | _ => none }
def fnExactLessTightRow : OpenClaim := { program := "ytilgncebhgplaaadoor", sum := "9bdf8f7bc3de1d4469f5587d6d7d6ca6bfe1b845e69dfb140fc423ebb2be8c67", func := "loop.example/g00502/laws.FnExactLessTight", spec := "fnExactLessTight", inPlace := ["internal/bytealg.Compare"], unfollowed := true, recurses := true, named := ["math/bits.deBruijn32tab", "math/bits.deBruijn64tab"], loops := true, apart := false, laid := [("math/bits.deBruijn32tab", laid_math_bits_deBruijn32tab), ("math/bits.deBruijn64tab", laid_math_bits_deBruijn64tab)] }
def FnExactLessTightSaid : Prop := fnExactLessTightRow.holds Tryd.pinned (OpenSpec.ofChange fnExactLessTightSpec)

/-- ITS FALSE NEIGHBOUR: 'it returns false'. Refute it at one input. -/
def fnExactLessTightWrong : ChangeSpec := { name := "fnExactLessTight", fn := fun _ => fun
  | [d1, d2] => { results := [.lit (.bool false)], args := [d1, d2] }
  | _ => none }
def FnExactLessTightWrongFalsely : Prop := fnExactLessTightRow.holds Tryd.pinned (OpenSpec.ofChange fnExactLessTightWrong)

/-- 'laws.FnExactSortTight': WHATEVER THE INPUT: true; the input reads as it did. -/
def fnExactSortTightSpec : ChangeSpec := { name := "fnExactSortTight", fn := fun _ => fun
  | [d] => { results := [.lit (.bool true)], args := [d] }
  | _ => none }
def fnExactSortTightRow : OpenClaim := { program := "ytilgncebhgplaaadoor", sum := "9bdf8f7bc3de1d4469f5587d6d7d6ca6bfe1b845e69dfb140fc423ebb2be8c67", func := "loop.example/g00502/laws.FnExactSortTight", spec := "fnExactSortTight", inPlace := ["internal/bytealg.Compare"], unfollowed := true, recurses := true, named := ["math/bits.deBruijn32tab", "math/bits.deBruijn64tab"], loops := true, apart := false, laid := [("math/bits.deBruijn32tab", laid_math_bits_deBruijn32tab), ("math/bits.deBruijn64tab", laid_math_bits_deBruijn64tab)] }
def FnExactSortTightSaid : Prop := fnExactSortTightRow.holds Tryd.pinned (OpenSpec.ofChange fnExactSortTightSpec)

/-- ITS FALSE NEIGHBOUR: 'it returns false'. Refute it at one input. -/
def fnExactSortTightWrong : ChangeSpec := { name := "fnExactSortTight", fn := fun _ => fun
  | [d] => { results := [.lit (.bool false)], args := [d] }
  | _ => none }
def FnExactSortTightWrongFalsely : Prop := fnExactSortTightRow.holds Tryd.pinned (OpenSpec.ofChange fnExactSortTightWrong)

/-- 'laws.FnExactSizeTight': WHATEVER THE INPUT: true; the input reads as it did. -/
def fnExactSizeTightSpec : ChangeSpec := { name := "fnExactSizeTight", fn := fun _ => fun
  | [d] => { results := [.lit (.bool true)], args := [d] }
  | _ => none }
def fnExactSizeTightRow : OpenClaim := { program := "ytilgncebhgplaaadoor", sum := "9bdf8f7bc3de1d4469f5587d6d7d6ca6bfe1b845e69dfb140fc423ebb2be8c67", func := "loop.example/g00502/laws.FnExactSizeTight", spec := "fnExactSizeTight", inPlace := ["internal/bytealg.Compare"], unfollowed := true, recurses := true, named := ["math/bits.deBruijn32tab", "math/bits.deBruijn64tab"], loops := true, apart := false, laid := [("math/bits.deBruijn32tab", laid_math_bits_deBruijn32tab), ("math/bits.deBruijn64tab", laid_math_bits_deBruijn64tab)] }
def FnExactSizeTightSaid : Prop := fnExactSizeTightRow.holds Tryd.pinned (OpenSpec.ofChange fnExactSizeTightSpec)

/-- ITS FALSE NEIGHBOUR: 'it returns false'. Refute it at one input. -/
def fnExactSizeTightWrong : ChangeSpec := { name := "fnExactSizeTight", fn := fun _ => fun
  | [d] => { results := [.lit (.bool false)], args := [d] }
  | _ => none }
def FnExactSizeTightWrongFalsely : Prop := fnExactSizeTightRow.holds Tryd.pinned (OpenSpec.ofChange fnExactSizeTightWrong)

/- THE SECOND FORM. 'bulk': how many values and letters a reading holds, each counted each time it is reached (what is shared counts as often as it is met; a slice's spare places count too). A statement '..UptoSaid' is the law's where the arguments, and the package variables that the reading takes, are together of bulk at most 1048576: NARROWER than '..Said'. Prove '..Said' where nothing that the law and all that it calls make is longer than what came in: it says more and counts as full. Else prove '..UptoSaid'. A law counts once. -/
mutual
def uptoBulk {H : Type} : DataW H → Nat
  | .lit (.string bytes) => bytes.length + 1
  | .lit _ => 1
  | .nil => 1
  | .ptr d => uptoBulk d + 1
  | .slice elems spare => uptoBulkAll elems + uptoBulkAll spare + 1
  | .agg parts => uptoBulkAll parts + 1
  | .iface _ d => uptoBulk d + 1
  | .map entries => uptoBulkEntries entries + 1
  | .held _ => 1
def uptoBulkAll {H : Type} : List (DataW H) → Nat
  | [] => 0
  | d :: r => uptoBulk d + uptoBulkAll r
def uptoBulkEntries {H : Type} : List (Lit × DataW H) → Nat
  | [] => 0
  | x :: r => uptoBulkEntry x + uptoBulkEntries r
def uptoBulkEntry {H : Type} : Lit × DataW H → Nat
  | (.string bytes, d) => bytes.length + uptoBulk d + 1
  | (_, d) => uptoBulk d + 1
 end
def uptoSmall : (H : Type) → List (DataW H) → Bool := fun _ ds => decide (uptoBulkAll ds ≤ 1048576)
def OpenSpec.upto (s : _root_.Go.ChangeSpec) : _root_.Go.OpenSpec := { _root_.Go.OpenSpec.ofChange s with cond := some uptoSmall }

/-- 'laws.FnExactFitsTight', WHERE WHAT IT READS IS OF BULK AT MOST 1048576: true; the input reads as it did. -/
def fnExactFitsTightUptoRow : OpenClaim := { program := "ytilgncebhgplaaadoor", sum := "9bdf8f7bc3de1d4469f5587d6d7d6ca6bfe1b845e69dfb140fc423ebb2be8c67", func := "loop.example/g00502/laws.FnExactFitsTight", spec := "fnExactFitsTight", inPlace := ["internal/bytealg.Compare"], unfollowed := true, recurses := true, named := ["math/bits.deBruijn32tab", "math/bits.deBruijn64tab"], loops := true, apart := false, laid := [("math/bits.deBruijn32tab", laid_math_bits_deBruijn32tab), ("math/bits.deBruijn64tab", laid_math_bits_deBruijn64tab)], narrowed := true }
def FnExactFitsTightUptoSaid : Prop := fnExactFitsTightUptoRow.holds Tryd.pinned (OpenSpec.upto fnExactFitsTightSpec)

/-- 'laws.FnExactPackTight', WHERE WHAT IT READS IS OF BULK AT MOST 1048576: true; the input reads as it did. -/
def fnExactPackTightUptoRow : OpenClaim := { program := "ytilgncebhgplaaadoor", sum := "9bdf8f7bc3de1d4469f5587d6d7d6ca6bfe1b845e69dfb140fc423ebb2be8c67", func := "loop.example/g00502/laws.FnExactPackTight", spec := "fnExactPackTight", inPlace := ["internal/bytealg.Compare"], unfollowed := true, recurses := true, named := ["math/bits.deBruijn32tab", "math/bits.deBruijn64tab"], loops := true, apart := false, laid := [("math/bits.deBruijn32tab", laid_math_bits_deBruijn32tab), ("math/bits.deBruijn64tab", laid_math_bits_deBruijn64tab)], narrowed := true }
def FnExactPackTightUptoSaid : Prop := fnExactPackTightUptoRow.holds Tryd.pinned (OpenSpec.upto fnExactPackTightSpec)

/-- 'laws.FnExactWriteTight', WHERE WHAT IT READS IS OF BULK AT MOST 1048576: true; the input reads as it did. -/
def fnExactWriteTightUptoRow : OpenClaim := { program := "ytilgncebhgplaaadoor", sum := "9bdf8f7bc3de1d4469f5587d6d7d6ca6bfe1b845e69dfb140fc423ebb2be8c67", func := "loop.example/g00502/laws.FnExactWriteTight", spec := "fnExactWriteTight", inPlace := ["internal/bytealg.Compare"], unfollowed := true, recurses := true, named := ["math/bits.deBruijn32tab", "math/bits.deBruijn64tab"], loops := true, apart := false, laid := [("math/bits.deBruijn32tab", laid_math_bits_deBruijn32tab), ("math/bits.deBruijn64tab", laid_math_bits_deBruijn64tab)], narrowed := true }
def FnExactWriteTightUptoSaid : Prop := fnExactWriteTightUptoRow.holds Tryd.pinned (OpenSpec.upto fnExactWriteTightSpec)

/-- 'laws.FnExactLessTight', WHERE WHAT IT READS IS OF BULK AT MOST 1048576: true; the input reads as it did. -/
def fnExactLessTightUptoRow : OpenClaim := { program := "ytilgncebhgplaaadoor", sum := "9bdf8f7bc3de1d4469f5587d6d7d6ca6bfe1b845e69dfb140fc423ebb2be8c67", func := "loop.example/g00502/laws.FnExactLessTight", spec := "fnExactLessTight", inPlace := ["internal/bytealg.Compare"], unfollowed := true, recurses := true, named := ["math/bits.deBruijn32tab", "math/bits.deBruijn64tab"], loops := true, apart := false, laid := [("math/bits.deBruijn32tab", laid_math_bits_deBruijn32tab), ("math/bits.deBruijn64tab", laid_math_bits_deBruijn64tab)], narrowed := true }
def FnExactLessTightUptoSaid : Prop := fnExactLessTightUptoRow.holds Tryd.pinned (OpenSpec.upto fnExactLessTightSpec)

/-- 'laws.FnExactSortTight', WHERE WHAT IT READS IS OF BULK AT MOST 1048576: true; the input reads as it did. -/
def fnExactSortTightUptoRow : OpenClaim := { program := "ytilgncebhgplaaadoor", sum := "9bdf8f7bc3de1d4469f5587d6d7d6ca6bfe1b845e69dfb140fc423ebb2be8c67", func := "loop.example/g00502/laws.FnExactSortTight", spec := "fnExactSortTight", inPlace := ["internal/bytealg.Compare"], unfollowed := true, recurses := true, named := ["math/bits.deBruijn32tab", "math/bits.deBruijn64tab"], loops := true, apart := false, laid := [("math/bits.deBruijn32tab", laid_math_bits_deBruijn32tab), ("math/bits.deBruijn64tab", laid_math_bits_deBruijn64tab)], narrowed := true }
def FnExactSortTightUptoSaid : Prop := fnExactSortTightUptoRow.holds Tryd.pinned (OpenSpec.upto fnExactSortTightSpec)

/-- 'laws.FnExactSizeTight', WHERE WHAT IT READS IS OF BULK AT MOST 1048576: true; the input reads as it did. -/
def fnExactSizeTightUptoRow : OpenClaim := { program := "ytilgncebhgplaaadoor", sum := "9bdf8f7bc3de1d4469f5587d6d7d6ca6bfe1b845e69dfb140fc423ebb2be8c67", func := "loop.example/g00502/laws.FnExactSizeTight", spec := "fnExactSizeTight", inPlace := ["internal/bytealg.Compare"], unfollowed := true, recurses := true, named := ["math/bits.deBruijn32tab", "math/bits.deBruijn64tab"], loops := true, apart := false, laid := [("math/bits.deBruijn32tab", laid_math_bits_deBruijn32tab), ("math/bits.deBruijn64tab", laid_math_bits_deBruijn64tab)], narrowed := true }
def FnExactSizeTightUptoSaid : Prop := fnExactSizeTightUptoRow.holds Tryd.pinned (OpenSpec.upto fnExactSizeTightSpec)

end Rows
end Go.Proofs.YtilgncebhgplaaaDoor
