/-
  NARROWER THAN 'FOR EVERY INPUT', by the rows' own cells (each row's printed sentence says how): FnExactSortMap: loops · FnExactOnceEach: loops · FnExactAllPaths: loops.
  DERIVED. THE GIVEN ROWS OF THIS SEAT. 7 by the template 'for every input the law returns true; each argument reads behind the call as it read before'; 0 by the template 'total and deterministic' (their statements: YtdjnkcoepmackaaTotals.lean).
  GIVEN WITH THE SEED: the statements are not yours to turn. If you find one false, say at which input.
  Laid BY PROGRAM, IN A SANDBOX (cutbox-rows.mjs): the forced cells as the released guide's own fill.sh prints them over the translation b2d3b8dc974e406a… (all of the seat's roots in one cut). By AI agents, Wed Nov 11 2026. No macro, syntax, notation, axiom, sorry.
-/
import Derived.Test.YtdjnkcoepmackaaChecked
import GoSem.Claim
import GoSem.ClaimJoined
import GoSem.ClaimMapViews
import Derived.JoinedTies
import Derived.KernelRfl
namespace Go.Proofs.Ytdjnkcoepmackaa
/- THE CELL 'sum', in the pinned program and in every row, IS THE sha256 OF THE DUMP (.gsa) THAT YtdjnkcoepmackaaProg.lean LOADS. Nothing in Lean hashes anything: it is a label: what it is worth is what the hold of that sum in a sandbox is worth. -/
noncomputable def Try.pinned : Pinned := { name := "ytdjnkcoepmackaa", sum := "b2d3b8dc974e406a57a16667b913f7b381d9008b54638ac94e7f532702516bc1", checked := Try.checked }
namespace Rows
def none {H : Type} : Left H := { results := [], args := [] }

/-- 'laws.FnExactSortMap': WHATEVER THE INPUT: true; the input reads as it did. -/
def fnExactSortMapSpec : ChangeSpec := { name := "fnExactSortMap", fn := fun _ => fun
  | [d] => { results := [.lit (.bool true)], args := [d] }
  | _ => none }
def fnExactSortMapRow : OpenClaim := { program := "ytdjnkcoepmackaa", sum := "b2d3b8dc974e406a57a16667b913f7b381d9008b54638ac94e7f532702516bc1", func := "loop.example/g00502/laws.FnExactSortMap", spec := "fnExactSortMap", unfollowed := true, recurses := true, loops := true, apart := false }
def FnExactSortMapSaid : Prop := fnExactSortMapRow.holds Try.pinned (OpenSpec.ofChange fnExactSortMapSpec)

/-- ITS FALSE NEIGHBOUR: 'it returns false'. Refute it at one input. -/
def fnExactSortMapWrong : ChangeSpec := { name := "fnExactSortMap", fn := fun _ => fun
  | [d] => { results := [.lit (.bool false)], args := [d] }
  | _ => none }
def FnExactSortMapWrongFalsely : Prop := fnExactSortMapRow.holds Try.pinned (OpenSpec.ofChange fnExactSortMapWrong)

/-- 'laws.FnExactOnceEach': WHATEVER THE INPUT: true; the input reads as it did. -/
def fnExactOnceEachSpec : ChangeSpec := { name := "fnExactOnceEach", fn := fun _ => fun
  | [d] => { results := [.lit (.bool true)], args := [d] }
  | _ => none }
def fnExactOnceEachRow : OpenClaim := { program := "ytdjnkcoepmackaa", sum := "b2d3b8dc974e406a57a16667b913f7b381d9008b54638ac94e7f532702516bc1", func := "loop.example/g00502/laws.FnExactOnceEach", spec := "fnExactOnceEach", unfollowed := true, recurses := true, loops := true, apart := false }
def FnExactOnceEachSaid : Prop := fnExactOnceEachRow.holds Try.pinned (OpenSpec.ofChange fnExactOnceEachSpec)

/-- ITS FALSE NEIGHBOUR: 'it returns false'. Refute it at one input. -/
def fnExactOnceEachWrong : ChangeSpec := { name := "fnExactOnceEach", fn := fun _ => fun
  | [d] => { results := [.lit (.bool false)], args := [d] }
  | _ => none }
def FnExactOnceEachWrongFalsely : Prop := fnExactOnceEachRow.holds Try.pinned (OpenSpec.ofChange fnExactOnceEachWrong)

/-- 'laws.FnOrders': WHATEVER THE INPUT: true; the input reads as it did. -/
def fnOrdersSpec : ChangeSpec := { name := "fnOrders", fn := fun _ => fun
  | [d] => { results := [.lit (.bool true)], args := [d] }
  | _ => none }
def fnOrdersRow : OpenClaim := { program := "ytdjnkcoepmackaa", sum := "b2d3b8dc974e406a57a16667b913f7b381d9008b54638ac94e7f532702516bc1", func := "loop.example/g00502/laws.FnOrders", spec := "fnOrders", unfollowed := true, recurses := true, apart := false }
def FnOrdersSaid : Prop := fnOrdersRow.holds Try.pinned (OpenSpec.ofChange fnOrdersSpec)

/-- ITS FALSE NEIGHBOUR: 'it returns false'. Refute it at one input. -/
def fnOrdersWrong : ChangeSpec := { name := "fnOrders", fn := fun _ => fun
  | [d] => { results := [.lit (.bool false)], args := [d] }
  | _ => none }
def FnOrdersWrongFalsely : Prop := fnOrdersRow.holds Try.pinned (OpenSpec.ofChange fnOrdersWrong)

/-- 'laws.FnMaps': WHATEVER THE INPUT: true; the input reads as it did. -/
def fnMapsSpec : ChangeSpec := { name := "fnMaps", fn := fun _ => fun
  | [d] => { results := [.lit (.bool true)], args := [d] }
  | _ => none }
def fnMapsRow : OpenClaim := { program := "ytdjnkcoepmackaa", sum := "b2d3b8dc974e406a57a16667b913f7b381d9008b54638ac94e7f532702516bc1", func := "loop.example/g00502/laws.FnMaps", spec := "fnMaps", unfollowed := true, recurses := true, apart := false }
def FnMapsSaid : Prop := fnMapsRow.holds Try.pinned (OpenSpec.ofChange fnMapsSpec)

/-- ITS FALSE NEIGHBOUR: 'it returns false'. Refute it at one input. -/
def fnMapsWrong : ChangeSpec := { name := "fnMaps", fn := fun _ => fun
  | [d] => { results := [.lit (.bool false)], args := [d] }
  | _ => none }
def FnMapsWrongFalsely : Prop := fnMapsRow.holds Try.pinned (OpenSpec.ofChange fnMapsWrong)

/-- 'laws.FnExactAllPaths': WHATEVER THE INPUT: true; the input reads as it did. -/
def fnExactAllPathsSpec : ChangeSpec := { name := "fnExactAllPaths", fn := fun _ => fun
  | [d] => { results := [.lit (.bool true)], args := [d] }
  | _ => none }
def fnExactAllPathsRow : OpenClaim := { program := "ytdjnkcoepmackaa", sum := "b2d3b8dc974e406a57a16667b913f7b381d9008b54638ac94e7f532702516bc1", func := "loop.example/g00502/laws.FnExactAllPaths", spec := "fnExactAllPaths", unfollowed := true, recurses := true, loops := true, apart := false }
def FnExactAllPathsSaid : Prop := fnExactAllPathsRow.holds Try.pinned (OpenSpec.ofChange fnExactAllPathsSpec)

/-- ITS FALSE NEIGHBOUR: 'it returns false'. Refute it at one input. -/
def fnExactAllPathsWrong : ChangeSpec := { name := "fnExactAllPaths", fn := fun _ => fun
  | [d] => { results := [.lit (.bool false)], args := [d] }
  | _ => none }
def FnExactAllPathsWrongFalsely : Prop := fnExactAllPathsRow.holds Try.pinned (OpenSpec.ofChange fnExactAllPathsWrong)

/-- 'laws.FnPuts': WHATEVER THE INPUT: true; the input reads as it did. -/
def fnPutsSpec : ChangeSpec := { name := "fnPuts", fn := fun _ => fun
  | [d] => { results := [.lit (.bool true)], args := [d] }
  | _ => none }
def fnPutsRow : OpenClaim := { program := "ytdjnkcoepmackaa", sum := "b2d3b8dc974e406a57a16667b913f7b381d9008b54638ac94e7f532702516bc1", func := "loop.example/g00502/laws.FnPuts", spec := "fnPuts", recurses := true, apart := false }
def FnPutsSaid : Prop := fnPutsRow.holds Try.pinned (OpenSpec.ofChange fnPutsSpec)

/-- ITS FALSE NEIGHBOUR: 'it returns false'. Refute it at one input. -/
def fnPutsWrong : ChangeSpec := { name := "fnPuts", fn := fun _ => fun
  | [d] => { results := [.lit (.bool false)], args := [d] }
  | _ => none }
def FnPutsWrongFalsely : Prop := fnPutsRow.holds Try.pinned (OpenSpec.ofChange fnPutsWrong)

/-- 'laws.FnVals': WHATEVER THE INPUT: true; the input reads as it did. -/
def fnValsSpec : ChangeSpec := { name := "fnVals", fn := fun _ => fun
  | [d] => { results := [.lit (.bool true)], args := [d] }
  | _ => none }
def fnValsRow : OpenClaim := { program := "ytdjnkcoepmackaa", sum := "b2d3b8dc974e406a57a16667b913f7b381d9008b54638ac94e7f532702516bc1", func := "loop.example/g00502/laws.FnVals", spec := "fnVals", unfollowed := true, recurses := true, apart := false }
def FnValsSaid : Prop := fnValsRow.holds Try.pinned (OpenSpec.ofChange fnValsSpec)

/-- ITS FALSE NEIGHBOUR: 'it returns false'. Refute it at one input. -/
def fnValsWrong : ChangeSpec := { name := "fnVals", fn := fun _ => fun
  | [d] => { results := [.lit (.bool false)], args := [d] }
  | _ => none }
def FnValsWrongFalsely : Prop := fnValsRow.holds Try.pinned (OpenSpec.ofChange fnValsWrong)

/- THE SECOND FORM. 'bulk': how many values and letters a reading holds, each counted each time it is reached (what is shared counts as often as it is met; a slice's spare places count too). A statement '..UptoSaid' is the law's where the arguments, and the package variables that the reading takes, are together of bulk at most 1048576: NARROWER than '..Said'. Prove '..Said' where nothing that the law and all that it calls make is longer than what came in: it says more and counts as full. Else prove '..UptoSaid'. A law counts once. -/
mutual
def uptoBulk {H : Type} : DataW H → Nat
  | .lit (.string bytes) => bytes.length + 1
  | .lit _ => 1
  | .nil => 1
  | .ptr d => uptoBulk d + 1
  | .slice elems spare => uptoBulkAll elems + uptoBulkAll spare + 1
  | .agg parts => uptoBulkAll parts + 1
  | .iface _ d => uptoBulk d + 1
  | .map entries => uptoBulkEntries entries + 1
  | .held _ => 1
def uptoBulkAll {H : Type} : List (DataW H) → Nat
  | [] => 0
  | d :: r => uptoBulk d + uptoBulkAll r
def uptoBulkEntries {H : Type} : List (Lit × DataW H) → Nat
  | [] => 0
  | x :: r => uptoBulkEntry x + uptoBulkEntries r
def uptoBulkEntry {H : Type} : Lit × DataW H → Nat
  | (.string bytes, d) => bytes.length + uptoBulk d + 1
  | (_, d) => uptoBulk d + 1
 end
def uptoSmall : (H : Type) → List (DataW H) → Bool := fun _ ds => decide (uptoBulkAll ds ≤ 1048576)
def OpenSpec.upto (s : _root_.Go.ChangeSpec) : _root_.Go.OpenSpec := { _root_.Go.OpenSpec.ofChange s with cond := some uptoSmall }

/-- 'laws.FnExactSortMap', WHERE WHAT IT READS IS OF BULK AT MOST 1048576: true; the input reads as it did. -/
def fnExactSortMapUptoRow : OpenClaim := { program := "ytdjnkcoepmackaa", sum := "b2d3b8dc974e406a57a16667b913f7b381d9008b54638ac94e7f532702516bc1", func := "loop.example/g00502/laws.FnExactSortMap", spec := "fnExactSortMap", unfollowed := true, recurses := true, loops := true, apart := false, narrowed := true }
def FnExactSortMapUptoSaid : Prop := fnExactSortMapUptoRow.holds Try.pinned (OpenSpec.upto fnExactSortMapSpec)

/-- 'laws.FnExactOnceEach', WHERE WHAT IT READS IS OF BULK AT MOST 1048576: true; the input reads as it did. -/
def fnExactOnceEachUptoRow : OpenClaim := { program := "ytdjnkcoepmackaa", sum := "b2d3b8dc974e406a57a16667b913f7b381d9008b54638ac94e7f532702516bc1", func := "loop.example/g00502/laws.FnExactOnceEach", spec := "fnExactOnceEach", unfollowed := true, recurses := true, loops := true, apart := false, narrowed := true }
def FnExactOnceEachUptoSaid : Prop := fnExactOnceEachUptoRow.holds Try.pinned (OpenSpec.upto fnExactOnceEachSpec)

/-- 'laws.FnOrders', WHERE WHAT IT READS IS OF BULK AT MOST 1048576: true; the input reads as it did. -/
def fnOrdersUptoRow : OpenClaim := { program := "ytdjnkcoepmackaa", sum := "b2d3b8dc974e406a57a16667b913f7b381d9008b54638ac94e7f532702516bc1", func := "loop.example/g00502/laws.FnOrders", spec := "fnOrders", unfollowed := true, recurses := true, apart := false, narrowed := true }
def FnOrdersUptoSaid : Prop := fnOrdersUptoRow.holds Try.pinned (OpenSpec.upto fnOrdersSpec)

/-- 'laws.FnMaps', WHERE WHAT IT READS IS OF BULK AT MOST 1048576: true; the input reads as it did. -/
def fnMapsUptoRow : OpenClaim := { program := "ytdjnkcoepmackaa", sum := "b2d3b8dc974e406a57a16667b913f7b381d9008b54638ac94e7f532702516bc1", func := "loop.example/g00502/laws.FnMaps", spec := "fnMaps", unfollowed := true, recurses := true, apart := false, narrowed := true }
def FnMapsUptoSaid : Prop := fnMapsUptoRow.holds Try.pinned (OpenSpec.upto fnMapsSpec)

/-- 'laws.FnExactAllPaths', WHERE WHAT IT READS IS OF BULK AT MOST 1048576: true; the input reads as it did. -/
def fnExactAllPathsUptoRow : OpenClaim := { program := "ytdjnkcoepmackaa", sum := "b2d3b8dc974e406a57a16667b913f7b381d9008b54638ac94e7f532702516bc1", func := "loop.example/g00502/laws.FnExactAllPaths", spec := "fnExactAllPaths", unfollowed := true, recurses := true, loops := true, apart := false, narrowed := true }
def FnExactAllPathsUptoSaid : Prop := fnExactAllPathsUptoRow.holds Try.pinned (OpenSpec.upto fnExactAllPathsSpec)

/-- 'laws.FnPuts', WHERE WHAT IT READS IS OF BULK AT MOST 1048576: true; the input reads as it did. -/
def fnPutsUptoRow : OpenClaim := { program := "ytdjnkcoepmackaa", sum := "b2d3b8dc974e406a57a16667b913f7b381d9008b54638ac94e7f532702516bc1", func := "loop.example/g00502/laws.FnPuts", spec := "fnPuts", recurses := true, apart := false, narrowed := true }
def FnPutsUptoSaid : Prop := fnPutsUptoRow.holds Try.pinned (OpenSpec.upto fnPutsSpec)

/-- 'laws.FnVals', WHERE WHAT IT READS IS OF BULK AT MOST 1048576: true; the input reads as it did. -/
def fnValsUptoRow : OpenClaim := { program := "ytdjnkcoepmackaa", sum := "b2d3b8dc974e406a57a16667b913f7b381d9008b54638ac94e7f532702516bc1", func := "loop.example/g00502/laws.FnVals", spec := "fnVals", unfollowed := true, recurses := true, apart := false, narrowed := true }
def FnValsUptoSaid : Prop := fnValsUptoRow.holds Try.pinned (OpenSpec.upto fnValsSpec)

end Rows
end Go.Proofs.Ytdjnkcoepmackaa
