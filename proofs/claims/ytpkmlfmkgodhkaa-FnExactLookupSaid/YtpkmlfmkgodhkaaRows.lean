/-
  NARROWER THAN 'FOR EVERY INPUT', by the rows' own cells (each row's printed sentence says how): FnExactLessVal: loops · FnExactSortMap: loops · FnExactNamesOf: loops · FnExactLookup: loops · FnExactOnceEach: loops · FnExactSorted: loops.
  DERIVED. THE GIVEN ROWS OF THIS SEAT. 9 by the template 'for every input the law returns true; each argument reads behind the call as it read before'; 0 by the template 'total and deterministic' (their statements: YtpkmlfmkgodhkaaTotals.lean).
  GIVEN WITH THE SEED: the statements are not yours to turn. If you find one false, say at which input.
  Laid BY PROGRAM, IN A SANDBOX (cutbox-rows.mjs): the forced cells as the released guide's own fill.sh prints them over the translation 2cb2c25736d661d5… (all of the seat's roots in one cut). By AI agents, Wed Nov 11 2026. No macro, syntax, notation, axiom, sorry.
-/
import Derived.Test.YtpkmlfmkgodhkaaChecked
import GoSem.Claim
import GoSem.ClaimJoined
import GoSem.ClaimMapViews
import Derived.JoinedTies
import Derived.KernelRfl
namespace Go.Proofs.Ytpkmlfmkgodhkaa
/- THE CELL 'sum', in the pinned program and in every row, IS THE sha256 OF THE DUMP (.gsa) THAT YtpkmlfmkgodhkaaProg.lean LOADS. Nothing in Lean hashes anything: it is a label: what it is worth is what the hold of that sum in a sandbox is worth. -/
noncomputable def Try.pinned : Pinned := { name := "ytpkmlfmkgodhkaa", sum := "2cb2c25736d661d54b7a9be3a0ad8e5702ba772d87ce2bed97c76425ed0992ad", checked := Try.checked }
namespace Rows
def none {H : Type} : Left H := { results := [], args := [] }

/-- 'laws.FnVals': WHATEVER THE INPUT: true; the input reads as it did. -/
def fnValsSpec : ChangeSpec := { name := "fnVals", fn := fun _ => fun
  | [d] => { results := [.lit (.bool true)], args := [d] }
  | _ => none }
def fnValsRow : OpenClaim := { program := "ytpkmlfmkgodhkaa", sum := "2cb2c25736d661d54b7a9be3a0ad8e5702ba772d87ce2bed97c76425ed0992ad", func := "loop.example/g00502/laws.FnVals", spec := "fnVals", unfollowed := true, recurses := true, apart := false }
def FnValsSaid : Prop := fnValsRow.holds Try.pinned (OpenSpec.ofChange fnValsSpec)

/-- ITS FALSE NEIGHBOUR: 'it returns false'. Refute it at one input. -/
def fnValsWrong : ChangeSpec := { name := "fnVals", fn := fun _ => fun
  | [d] => { results := [.lit (.bool false)], args := [d] }
  | _ => none }
def FnValsWrongFalsely : Prop := fnValsRow.holds Try.pinned (OpenSpec.ofChange fnValsWrong)

/-- 'laws.FnOrders': WHATEVER THE INPUT: true; the input reads as it did. -/
def fnOrdersSpec : ChangeSpec := { name := "fnOrders", fn := fun _ => fun
  | [d] => { results := [.lit (.bool true)], args := [d] }
  | _ => none }
def fnOrdersRow : OpenClaim := { program := "ytpkmlfmkgodhkaa", sum := "2cb2c25736d661d54b7a9be3a0ad8e5702ba772d87ce2bed97c76425ed0992ad", func := "loop.example/g00502/laws.FnOrders", spec := "fnOrders", unfollowed := true, recurses := true, apart := false }
def FnOrdersSaid : Prop := fnOrdersRow.holds Try.pinned (OpenSpec.ofChange fnOrdersSpec)

/-- ITS FALSE NEIGHBOUR: 'it returns false'. Refute it at one input. -/
def fnOrdersWrong : ChangeSpec := { name := "fnOrders", fn := fun _ => fun
  | [d] => { results := [.lit (.bool false)], args := [d] }
  | _ => none }
def FnOrdersWrongFalsely : Prop := fnOrdersRow.holds Try.pinned (OpenSpec.ofChange fnOrdersWrong)

/-- 'laws.FnMaps': WHATEVER THE INPUT: true; the input reads as it did. -/
def fnMapsSpec : ChangeSpec := { name := "fnMaps", fn := fun _ => fun
  | [d] => { results := [.lit (.bool true)], args := [d] }
  | _ => none }
def fnMapsRow : OpenClaim := { program := "ytpkmlfmkgodhkaa", sum := "2cb2c25736d661d54b7a9be3a0ad8e5702ba772d87ce2bed97c76425ed0992ad", func := "loop.example/g00502/laws.FnMaps", spec := "fnMaps", unfollowed := true, recurses := true, apart := false }
def FnMapsSaid : Prop := fnMapsRow.holds Try.pinned (OpenSpec.ofChange fnMapsSpec)

/-- ITS FALSE NEIGHBOUR: 'it returns false'. Refute it at one input. -/
def fnMapsWrong : ChangeSpec := { name := "fnMaps", fn := fun _ => fun
  | [d] => { results := [.lit (.bool false)], args := [d] }
  | _ => none }
def FnMapsWrongFalsely : Prop := fnMapsRow.holds Try.pinned (OpenSpec.ofChange fnMapsWrong)

/-- 'laws.FnExactLessVal': WHATEVER THE INPUT: true; the input reads as it did. -/
def fnExactLessValSpec : ChangeSpec := { name := "fnExactLessVal", fn := fun _ => fun
  | [d1, d2] => { results := [.lit (.bool true)], args := [d1, d2] }
  | _ => none }
def fnExactLessValRow : OpenClaim := { program := "ytpkmlfmkgodhkaa", sum := "2cb2c25736d661d54b7a9be3a0ad8e5702ba772d87ce2bed97c76425ed0992ad", func := "loop.example/g00502/laws.FnExactLessVal", spec := "fnExactLessVal", unfollowed := true, recurses := true, loops := true, apart := false }
def FnExactLessValSaid : Prop := fnExactLessValRow.holds Try.pinned (OpenSpec.ofChange fnExactLessValSpec)

/-- ITS FALSE NEIGHBOUR: 'it returns false'. Refute it at one input. -/
def fnExactLessValWrong : ChangeSpec := { name := "fnExactLessVal", fn := fun _ => fun
  | [d1, d2] => { results := [.lit (.bool false)], args := [d1, d2] }
  | _ => none }
def FnExactLessValWrongFalsely : Prop := fnExactLessValRow.holds Try.pinned (OpenSpec.ofChange fnExactLessValWrong)

/-- 'laws.FnExactSortMap': WHATEVER THE INPUT: true; the input reads as it did. -/
def fnExactSortMapSpec : ChangeSpec := { name := "fnExactSortMap", fn := fun _ => fun
  | [d] => { results := [.lit (.bool true)], args := [d] }
  | _ => none }
def fnExactSortMapRow : OpenClaim := { program := "ytpkmlfmkgodhkaa", sum := "2cb2c25736d661d54b7a9be3a0ad8e5702ba772d87ce2bed97c76425ed0992ad", func := "loop.example/g00502/laws.FnExactSortMap", spec := "fnExactSortMap", unfollowed := true, recurses := true, loops := true, apart := false }
def FnExactSortMapSaid : Prop := fnExactSortMapRow.holds Try.pinned (OpenSpec.ofChange fnExactSortMapSpec)

/-- ITS FALSE NEIGHBOUR: 'it returns false'. Refute it at one input. -/
def fnExactSortMapWrong : ChangeSpec := { name := "fnExactSortMap", fn := fun _ => fun
  | [d] => { results := [.lit (.bool false)], args := [d] }
  | _ => none }
def FnExactSortMapWrongFalsely : Prop := fnExactSortMapRow.holds Try.pinned (OpenSpec.ofChange fnExactSortMapWrong)

/-- 'laws.FnExactNamesOf': WHATEVER THE INPUT: true; the input reads as it did. -/
def fnExactNamesOfSpec : ChangeSpec := { name := "fnExactNamesOf", fn := fun _ => fun
  | [d] => { results := [.lit (.bool true)], args := [d] }
  | _ => none }
def fnExactNamesOfRow : OpenClaim := { program := "ytpkmlfmkgodhkaa", sum := "2cb2c25736d661d54b7a9be3a0ad8e5702ba772d87ce2bed97c76425ed0992ad", func := "loop.example/g00502/laws.FnExactNamesOf", spec := "fnExactNamesOf", recurses := true, loops := true, apart := false }
def FnExactNamesOfSaid : Prop := fnExactNamesOfRow.holds Try.pinned (OpenSpec.ofChange fnExactNamesOfSpec)

/-- ITS FALSE NEIGHBOUR: 'it returns false'. Refute it at one input. -/
def fnExactNamesOfWrong : ChangeSpec := { name := "fnExactNamesOf", fn := fun _ => fun
  | [d] => { results := [.lit (.bool false)], args := [d] }
  | _ => none }
def FnExactNamesOfWrongFalsely : Prop := fnExactNamesOfRow.holds Try.pinned (OpenSpec.ofChange fnExactNamesOfWrong)

/-- 'laws.FnExactLookup': WHATEVER THE INPUT: true; the input reads as it did. -/
def fnExactLookupSpec : ChangeSpec := { name := "fnExactLookup", fn := fun _ => fun
  | [d1, d2] => { results := [.lit (.bool true)], args := [d1, d2] }
  | _ => none }
def fnExactLookupRow : OpenClaim := { program := "ytpkmlfmkgodhkaa", sum := "2cb2c25736d661d54b7a9be3a0ad8e5702ba772d87ce2bed97c76425ed0992ad", func := "loop.example/g00502/laws.FnExactLookup", spec := "fnExactLookup", unfollowed := true, recurses := true, loops := true, apart := false }
def FnExactLookupSaid : Prop := fnExactLookupRow.holds Try.pinned (OpenSpec.ofChange fnExactLookupSpec)

/-- ITS FALSE NEIGHBOUR: 'it returns false'. Refute it at one input. -/
def fnExactLookupWrong : ChangeSpec := { name := "fnExactLookup", fn := fun _ => fun
  | [d1, d2] => { results := [.lit (.bool false)], args := [d1, d2] }
  | _ => none }
def FnExactLookupWrongFalsely : Prop := fnExactLookupRow.holds Try.pinned (OpenSpec.ofChange fnExactLookupWrong)

/-- 'laws.FnExactOnceEach': WHATEVER THE INPUT: true; the input reads as it did. -/
def fnExactOnceEachSpec : ChangeSpec := { name := "fnExactOnceEach", fn := fun _ => fun
  | [d] => { results := [.lit (.bool true)], args := [d] }
  | _ => none }
def fnExactOnceEachRow : OpenClaim := { program := "ytpkmlfmkgodhkaa", sum := "2cb2c25736d661d54b7a9be3a0ad8e5702ba772d87ce2bed97c76425ed0992ad", func := "loop.example/g00502/laws.FnExactOnceEach", spec := "fnExactOnceEach", unfollowed := true, recurses := true, loops := true, apart := false }
def FnExactOnceEachSaid : Prop := fnExactOnceEachRow.holds Try.pinned (OpenSpec.ofChange fnExactOnceEachSpec)

/-- ITS FALSE NEIGHBOUR: 'it returns false'. Refute it at one input. -/
def fnExactOnceEachWrong : ChangeSpec := { name := "fnExactOnceEach", fn := fun _ => fun
  | [d] => { results := [.lit (.bool false)], args := [d] }
  | _ => none }
def FnExactOnceEachWrongFalsely : Prop := fnExactOnceEachRow.holds Try.pinned (OpenSpec.ofChange fnExactOnceEachWrong)

/-- 'laws.FnExactSorted': WHATEVER THE INPUT: true; the input reads as it did. -/
def fnExactSortedSpec : ChangeSpec := { name := "fnExactSorted", fn := fun _ => fun
  | [d] => { results := [.lit (.bool true)], args := [d] }
  | _ => none }
def fnExactSortedRow : OpenClaim := { program := "ytpkmlfmkgodhkaa", sum := "2cb2c25736d661d54b7a9be3a0ad8e5702ba772d87ce2bed97c76425ed0992ad", func := "loop.example/g00502/laws.FnExactSorted", spec := "fnExactSorted", unfollowed := true, recurses := true, loops := true, apart := false }
def FnExactSortedSaid : Prop := fnExactSortedRow.holds Try.pinned (OpenSpec.ofChange fnExactSortedSpec)

/-- ITS FALSE NEIGHBOUR: 'it returns false'. Refute it at one input. -/
def fnExactSortedWrong : ChangeSpec := { name := "fnExactSorted", fn := fun _ => fun
  | [d] => { results := [.lit (.bool false)], args := [d] }
  | _ => none }
def FnExactSortedWrongFalsely : Prop := fnExactSortedRow.holds Try.pinned (OpenSpec.ofChange fnExactSortedWrong)

/- THE SECOND FORM. 'bulk': how many values and letters a reading holds, each counted each time it is reached (what is shared counts as often as it is met; a slice's spare places count too). A statement '..UptoSaid' is the law's where the arguments, and the package variables that the reading takes, are together of bulk at most 1048576: NARROWER than '..Said'. Prove '..Said' where nothing that the law and all that it calls make is longer than what came in: it says more and counts as full. Else prove '..UptoSaid'. A law counts once. -/
mutual
def uptoBulk {H : Type} : DataW H → Nat
  | .lit (.string bytes) => bytes.length + 1
  | .lit _ => 1
  | .nil => 1
  | .ptr d => uptoBulk d + 1
  | .slice elems spare => uptoBulkAll elems + uptoBulkAll spare + 1
  | .agg parts => uptoBulkAll parts + 1
  | .iface _ d => uptoBulk d + 1
  | .map entries => uptoBulkEntries entries + 1
  | .held _ => 1
def uptoBulkAll {H : Type} : List (DataW H) → Nat
  | [] => 0
  | d :: r => uptoBulk d + uptoBulkAll r
def uptoBulkEntries {H : Type} : List (Lit × DataW H) → Nat
  | [] => 0
  | x :: r => uptoBulkEntry x + uptoBulkEntries r
def uptoBulkEntry {H : Type} : Lit × DataW H → Nat
  | (.string bytes, d) => bytes.length + uptoBulk d + 1
  | (_, d) => uptoBulk d + 1
 end
def uptoSmall : (H : Type) → List (DataW H) → Bool := fun _ ds => decide (uptoBulkAll ds ≤ 1048576)
def OpenSpec.upto (s : _root_.Go.ChangeSpec) : _root_.Go.OpenSpec := { _root_.Go.OpenSpec.ofChange s with cond := some uptoSmall }

/-- 'laws.FnVals', WHERE WHAT IT READS IS OF BULK AT MOST 1048576: true; the input reads as it did. -/
def fnValsUptoRow : OpenClaim := { program := "ytpkmlfmkgodhkaa", sum := "2cb2c25736d661d54b7a9be3a0ad8e5702ba772d87ce2bed97c76425ed0992ad", func := "loop.example/g00502/laws.FnVals", spec := "fnVals", unfollowed := true, recurses := true, apart := false, narrowed := true }
def FnValsUptoSaid : Prop := fnValsUptoRow.holds Try.pinned (OpenSpec.upto fnValsSpec)

/-- 'laws.FnOrders', WHERE WHAT IT READS IS OF BULK AT MOST 1048576: true; the input reads as it did. -/
def fnOrdersUptoRow : OpenClaim := { program := "ytpkmlfmkgodhkaa", sum := "2cb2c25736d661d54b7a9be3a0ad8e5702ba772d87ce2bed97c76425ed0992ad", func := "loop.example/g00502/laws.FnOrders", spec := "fnOrders", unfollowed := true, recurses := true, apart := false, narrowed := true }
def FnOrdersUptoSaid : Prop := fnOrdersUptoRow.holds Try.pinned (OpenSpec.upto fnOrdersSpec)

/-- 'laws.FnMaps', WHERE WHAT IT READS IS OF BULK AT MOST 1048576: true; the input reads as it did. -/
def fnMapsUptoRow : OpenClaim := { program := "ytpkmlfmkgodhkaa", sum := "2cb2c25736d661d54b7a9be3a0ad8e5702ba772d87ce2bed97c76425ed0992ad", func := "loop.example/g00502/laws.FnMaps", spec := "fnMaps", unfollowed := true, recurses := true, apart := false, narrowed := true }
def FnMapsUptoSaid : Prop := fnMapsUptoRow.holds Try.pinned (OpenSpec.upto fnMapsSpec)

/-- 'laws.FnExactLessVal', WHERE WHAT IT READS IS OF BULK AT MOST 1048576: true; the input reads as it did. -/
def fnExactLessValUptoRow : OpenClaim := { program := "ytpkmlfmkgodhkaa", sum := "2cb2c25736d661d54b7a9be3a0ad8e5702ba772d87ce2bed97c76425ed0992ad", func := "loop.example/g00502/laws.FnExactLessVal", spec := "fnExactLessVal", unfollowed := true, recurses := true, loops := true, apart := false, narrowed := true }
def FnExactLessValUptoSaid : Prop := fnExactLessValUptoRow.holds Try.pinned (OpenSpec.upto fnExactLessValSpec)

/-- 'laws.FnExactSortMap', WHERE WHAT IT READS IS OF BULK AT MOST 1048576: true; the input reads as it did. -/
def fnExactSortMapUptoRow : OpenClaim := { program := "ytpkmlfmkgodhkaa", sum := "2cb2c25736d661d54b7a9be3a0ad8e5702ba772d87ce2bed97c76425ed0992ad", func := "loop.example/g00502/laws.FnExactSortMap", spec := "fnExactSortMap", unfollowed := true, recurses := true, loops := true, apart := false, narrowed := true }
def FnExactSortMapUptoSaid : Prop := fnExactSortMapUptoRow.holds Try.pinned (OpenSpec.upto fnExactSortMapSpec)

/-- 'laws.FnExactNamesOf', WHERE WHAT IT READS IS OF BULK AT MOST 1048576: true; the input reads as it did. -/
def fnExactNamesOfUptoRow : OpenClaim := { program := "ytpkmlfmkgodhkaa", sum := "2cb2c25736d661d54b7a9be3a0ad8e5702ba772d87ce2bed97c76425ed0992ad", func := "loop.example/g00502/laws.FnExactNamesOf", spec := "fnExactNamesOf", recurses := true, loops := true, apart := false, narrowed := true }
def FnExactNamesOfUptoSaid : Prop := fnExactNamesOfUptoRow.holds Try.pinned (OpenSpec.upto fnExactNamesOfSpec)

/-- 'laws.FnExactLookup', WHERE WHAT IT READS IS OF BULK AT MOST 1048576: true; the input reads as it did. -/
def fnExactLookupUptoRow : OpenClaim := { program := "ytpkmlfmkgodhkaa", sum := "2cb2c25736d661d54b7a9be3a0ad8e5702ba772d87ce2bed97c76425ed0992ad", func := "loop.example/g00502/laws.FnExactLookup", spec := "fnExactLookup", unfollowed := true, recurses := true, loops := true, apart := false, narrowed := true }
def FnExactLookupUptoSaid : Prop := fnExactLookupUptoRow.holds Try.pinned (OpenSpec.upto fnExactLookupSpec)

/-- 'laws.FnExactOnceEach', WHERE WHAT IT READS IS OF BULK AT MOST 1048576: true; the input reads as it did. -/
def fnExactOnceEachUptoRow : OpenClaim := { program := "ytpkmlfmkgodhkaa", sum := "2cb2c25736d661d54b7a9be3a0ad8e5702ba772d87ce2bed97c76425ed0992ad", func := "loop.example/g00502/laws.FnExactOnceEach", spec := "fnExactOnceEach", unfollowed := true, recurses := true, loops := true, apart := false, narrowed := true }
def FnExactOnceEachUptoSaid : Prop := fnExactOnceEachUptoRow.holds Try.pinned (OpenSpec.upto fnExactOnceEachSpec)

/-- 'laws.FnExactSorted', WHERE WHAT IT READS IS OF BULK AT MOST 1048576: true; the input reads as it did. -/
def fnExactSortedUptoRow : OpenClaim := { program := "ytpkmlfmkgodhkaa", sum := "2cb2c25736d661d54b7a9be3a0ad8e5702ba772d87ce2bed97c76425ed0992ad", func := "loop.example/g00502/laws.FnExactSorted", spec := "fnExactSorted", unfollowed := true, recurses := true, loops := true, apart := false, narrowed := true }
def FnExactSortedUptoSaid : Prop := fnExactSortedUptoRow.holds Try.pinned (OpenSpec.upto fnExactSortedSpec)

end Rows
end Go.Proofs.Ytpkmlfmkgodhkaa
