/-
  NARROWER THAN 'FOR EVERY INPUT', by the rows' own cells (each row's printed sentence says how): FnExactValOk: loops · FnExactSameVal: loops · FnExactDeepOf: loops · FnExactCountOf: loops · FnExactListVal: loops.
  DERIVED. THE GIVEN ROWS OF THIS SEAT. 10 by the template 'for every input the law returns true; each argument reads behind the call as it read before'; 0 by the template 'total and deterministic' (their statements: YtmcmkkkbkfgakaaTotals.lean).
  GIVEN WITH THE SEED: the statements are not yours to turn. If you find one false, say at which input.
  Laid BY PROGRAM, IN A SANDBOX (cutbox-rows.mjs): the forced cells as the released guide's own fill.sh prints them over the translation 30f4d49870eecddc… (all of the seat's roots in one cut). By AI agents, Wed Nov 11 2026. No macro, syntax, notation, axiom, sorry.
-/
import Derived.Test.YtmcmkkkbkfgakaaChecked
import GoSem.Claim
import GoSem.ClaimJoined
import GoSem.ClaimMapViews
import Derived.JoinedTies
import Derived.KernelRfl
namespace Go.Proofs.Ytmcmkkkbkfgakaa
/- THE CELL 'sum', in the pinned program and in every row, IS THE sha256 OF THE DUMP (.gsa) THAT YtmcmkkkbkfgakaaProg.lean LOADS. Nothing in Lean hashes anything: it is a label: what it is worth is what the hold of that sum in a sandbox is worth. -/
noncomputable def Try.pinned : Pinned := { name := "ytmcmkkkbkfgakaa", sum := "30f4d49870eecddc759661342dacaae1f5a417f4ba9d33f845eed5e21075b479", checked := Try.checked }
namespace Rows
def none {H : Type} : Left H := { results := [], args := [] }

/-- 'laws.FnVals': WHATEVER THE INPUT: true; the input reads as it did. -/
def fnValsSpec : ChangeSpec := { name := "fnVals", fn := fun _ => fun
  | [d] => { results := [.lit (.bool true)], args := [d] }
  | _ => none }
def fnValsRow : OpenClaim := { program := "ytmcmkkkbkfgakaa", sum := "30f4d49870eecddc759661342dacaae1f5a417f4ba9d33f845eed5e21075b479", func := "loop.example/g00502/laws.FnVals", spec := "fnVals", unfollowed := true, recurses := true, apart := false }
def FnValsSaid : Prop := fnValsRow.holds Try.pinned (OpenSpec.ofChange fnValsSpec)

/-- ITS FALSE NEIGHBOUR: 'it returns false'. Refute it at one input. -/
def fnValsWrong : ChangeSpec := { name := "fnVals", fn := fun _ => fun
  | [d] => { results := [.lit (.bool false)], args := [d] }
  | _ => none }
def FnValsWrongFalsely : Prop := fnValsRow.holds Try.pinned (OpenSpec.ofChange fnValsWrong)

/-- 'laws.FnExactValOk': WHATEVER THE INPUT: true; the input reads as it did. -/
def fnExactValOkSpec : ChangeSpec := { name := "fnExactValOk", fn := fun _ => fun
  | [d] => { results := [.lit (.bool true)], args := [d] }
  | _ => none }
def fnExactValOkRow : OpenClaim := { program := "ytmcmkkkbkfgakaa", sum := "30f4d49870eecddc759661342dacaae1f5a417f4ba9d33f845eed5e21075b479", func := "loop.example/g00502/laws.FnExactValOk", spec := "fnExactValOk", unfollowed := true, recurses := true, loops := true, apart := false }
def FnExactValOkSaid : Prop := fnExactValOkRow.holds Try.pinned (OpenSpec.ofChange fnExactValOkSpec)

/-- ITS FALSE NEIGHBOUR: 'it returns false'. Refute it at one input. -/
def fnExactValOkWrong : ChangeSpec := { name := "fnExactValOk", fn := fun _ => fun
  | [d] => { results := [.lit (.bool false)], args := [d] }
  | _ => none }
def FnExactValOkWrongFalsely : Prop := fnExactValOkRow.holds Try.pinned (OpenSpec.ofChange fnExactValOkWrong)

/-- 'laws.FnExactSameVal': WHATEVER THE INPUT: true; the input reads as it did. -/
def fnExactSameValSpec : ChangeSpec := { name := "fnExactSameVal", fn := fun _ => fun
  | [d1, d2] => { results := [.lit (.bool true)], args := [d1, d2] }
  | _ => none }
def fnExactSameValRow : OpenClaim := { program := "ytmcmkkkbkfgakaa", sum := "30f4d49870eecddc759661342dacaae1f5a417f4ba9d33f845eed5e21075b479", func := "loop.example/g00502/laws.FnExactSameVal", spec := "fnExactSameVal", recurses := true, loops := true, apart := false }
def FnExactSameValSaid : Prop := fnExactSameValRow.holds Try.pinned (OpenSpec.ofChange fnExactSameValSpec)

/-- ITS FALSE NEIGHBOUR: 'it returns false'. Refute it at one input. -/
def fnExactSameValWrong : ChangeSpec := { name := "fnExactSameVal", fn := fun _ => fun
  | [d1, d2] => { results := [.lit (.bool false)], args := [d1, d2] }
  | _ => none }
def FnExactSameValWrongFalsely : Prop := fnExactSameValRow.holds Try.pinned (OpenSpec.ofChange fnExactSameValWrong)

/-- 'laws.FnExactDeepOf': WHATEVER THE INPUT: true; the input reads as it did. -/
def fnExactDeepOfSpec : ChangeSpec := { name := "fnExactDeepOf", fn := fun _ => fun
  | [d] => { results := [.lit (.bool true)], args := [d] }
  | _ => none }
def fnExactDeepOfRow : OpenClaim := { program := "ytmcmkkkbkfgakaa", sum := "30f4d49870eecddc759661342dacaae1f5a417f4ba9d33f845eed5e21075b479", func := "loop.example/g00502/laws.FnExactDeepOf", spec := "fnExactDeepOf", recurses := true, loops := true, apart := false }
def FnExactDeepOfSaid : Prop := fnExactDeepOfRow.holds Try.pinned (OpenSpec.ofChange fnExactDeepOfSpec)

/-- ITS FALSE NEIGHBOUR: 'it returns false'. Refute it at one input. -/
def fnExactDeepOfWrong : ChangeSpec := { name := "fnExactDeepOf", fn := fun _ => fun
  | [d] => { results := [.lit (.bool false)], args := [d] }
  | _ => none }
def FnExactDeepOfWrongFalsely : Prop := fnExactDeepOfRow.holds Try.pinned (OpenSpec.ofChange fnExactDeepOfWrong)

/-- 'laws.FnExactCountOf': WHATEVER THE INPUT: true; the input reads as it did. -/
def fnExactCountOfSpec : ChangeSpec := { name := "fnExactCountOf", fn := fun _ => fun
  | [d] => { results := [.lit (.bool true)], args := [d] }
  | _ => none }
def fnExactCountOfRow : OpenClaim := { program := "ytmcmkkkbkfgakaa", sum := "30f4d49870eecddc759661342dacaae1f5a417f4ba9d33f845eed5e21075b479", func := "loop.example/g00502/laws.FnExactCountOf", spec := "fnExactCountOf", recurses := true, loops := true, apart := false }
def FnExactCountOfSaid : Prop := fnExactCountOfRow.holds Try.pinned (OpenSpec.ofChange fnExactCountOfSpec)

/-- ITS FALSE NEIGHBOUR: 'it returns false'. Refute it at one input. -/
def fnExactCountOfWrong : ChangeSpec := { name := "fnExactCountOf", fn := fun _ => fun
  | [d] => { results := [.lit (.bool false)], args := [d] }
  | _ => none }
def FnExactCountOfWrongFalsely : Prop := fnExactCountOfRow.holds Try.pinned (OpenSpec.ofChange fnExactCountOfWrong)

/-- 'laws.FnExactKindName': WHATEVER THE INPUT: true; the input reads as it did. -/
def fnExactKindNameSpec : ChangeSpec := { name := "fnExactKindName", fn := fun _ => fun
  | [d] => { results := [.lit (.bool true)], args := [d] }
  | _ => none }
def fnExactKindNameRow : OpenClaim := { program := "ytmcmkkkbkfgakaa", sum := "30f4d49870eecddc759661342dacaae1f5a417f4ba9d33f845eed5e21075b479", func := "loop.example/g00502/laws.FnExactKindName", spec := "fnExactKindName", apart := false }
def FnExactKindNameSaid : Prop := fnExactKindNameRow.holds Try.pinned (OpenSpec.ofChange fnExactKindNameSpec)

/-- ITS FALSE NEIGHBOUR: 'it returns false'. Refute it at one input. -/
def fnExactKindNameWrong : ChangeSpec := { name := "fnExactKindName", fn := fun _ => fun
  | [d] => { results := [.lit (.bool false)], args := [d] }
  | _ => none }
def FnExactKindNameWrongFalsely : Prop := fnExactKindNameRow.holds Try.pinned (OpenSpec.ofChange fnExactKindNameWrong)

/-- 'laws.FnExactIntVal': WHATEVER THE INPUT: true; the input reads as it did. -/
def fnExactIntValSpec : ChangeSpec := { name := "fnExactIntVal", fn := fun _ => fun
  | [d] => { results := [.lit (.bool true)], args := [d] }
  | _ => none }
def fnExactIntValRow : OpenClaim := { program := "ytmcmkkkbkfgakaa", sum := "30f4d49870eecddc759661342dacaae1f5a417f4ba9d33f845eed5e21075b479", func := "loop.example/g00502/laws.FnExactIntVal", spec := "fnExactIntVal", recurses := true, apart := false }
def FnExactIntValSaid : Prop := fnExactIntValRow.holds Try.pinned (OpenSpec.ofChange fnExactIntValSpec)

/-- ITS FALSE NEIGHBOUR: 'it returns false'. Refute it at one input. -/
def fnExactIntValWrong : ChangeSpec := { name := "fnExactIntVal", fn := fun _ => fun
  | [d] => { results := [.lit (.bool false)], args := [d] }
  | _ => none }
def FnExactIntValWrongFalsely : Prop := fnExactIntValRow.holds Try.pinned (OpenSpec.ofChange fnExactIntValWrong)

/-- 'laws.FnExactTextVal': WHATEVER THE INPUT: true; the input reads as it did. -/
def fnExactTextValSpec : ChangeSpec := { name := "fnExactTextVal", fn := fun _ => fun
  | [d] => { results := [.lit (.bool true)], args := [d] }
  | _ => none }
def fnExactTextValRow : OpenClaim := { program := "ytmcmkkkbkfgakaa", sum := "30f4d49870eecddc759661342dacaae1f5a417f4ba9d33f845eed5e21075b479", func := "loop.example/g00502/laws.FnExactTextVal", spec := "fnExactTextVal", recurses := true, apart := false }
def FnExactTextValSaid : Prop := fnExactTextValRow.holds Try.pinned (OpenSpec.ofChange fnExactTextValSpec)

/-- ITS FALSE NEIGHBOUR: 'it returns false'. Refute it at one input. -/
def fnExactTextValWrong : ChangeSpec := { name := "fnExactTextVal", fn := fun _ => fun
  | [d] => { results := [.lit (.bool false)], args := [d] }
  | _ => none }
def FnExactTextValWrongFalsely : Prop := fnExactTextValRow.holds Try.pinned (OpenSpec.ofChange fnExactTextValWrong)

/-- 'laws.FnExactListVal': WHATEVER THE INPUT: true; the input reads as it did. -/
def fnExactListValSpec : ChangeSpec := { name := "fnExactListVal", fn := fun _ => fun
  | [d] => { results := [.lit (.bool true)], args := [d] }
  | _ => none }
def fnExactListValRow : OpenClaim := { program := "ytmcmkkkbkfgakaa", sum := "30f4d49870eecddc759661342dacaae1f5a417f4ba9d33f845eed5e21075b479", func := "loop.example/g00502/laws.FnExactListVal", spec := "fnExactListVal", recurses := true, loops := true, apart := false }
def FnExactListValSaid : Prop := fnExactListValRow.holds Try.pinned (OpenSpec.ofChange fnExactListValSpec)

/-- ITS FALSE NEIGHBOUR: 'it returns false'. Refute it at one input. -/
def fnExactListValWrong : ChangeSpec := { name := "fnExactListVal", fn := fun _ => fun
  | [d] => { results := [.lit (.bool false)], args := [d] }
  | _ => none }
def FnExactListValWrongFalsely : Prop := fnExactListValRow.holds Try.pinned (OpenSpec.ofChange fnExactListValWrong)

/-- 'laws.FnExactNumberVal': WHATEVER THE INPUT: true; the input reads as it did. -/
def fnExactNumberValSpec : ChangeSpec := { name := "fnExactNumberVal", fn := fun _ => fun
  | [d] => { results := [.lit (.bool true)], args := [d] }
  | _ => none }
def fnExactNumberValRow : OpenClaim := { program := "ytmcmkkkbkfgakaa", sum := "30f4d49870eecddc759661342dacaae1f5a417f4ba9d33f845eed5e21075b479", func := "loop.example/g00502/laws.FnExactNumberVal", spec := "fnExactNumberVal", recurses := true, apart := false }
def FnExactNumberValSaid : Prop := fnExactNumberValRow.holds Try.pinned (OpenSpec.ofChange fnExactNumberValSpec)

/-- ITS FALSE NEIGHBOUR: 'it returns false'. Refute it at one input. -/
def fnExactNumberValWrong : ChangeSpec := { name := "fnExactNumberVal", fn := fun _ => fun
  | [d] => { results := [.lit (.bool false)], args := [d] }
  | _ => none }
def FnExactNumberValWrongFalsely : Prop := fnExactNumberValRow.holds Try.pinned (OpenSpec.ofChange fnExactNumberValWrong)

/- THE SECOND FORM. 'bulk': how many values and letters a reading holds, each counted each time it is reached (what is shared counts as often as it is met; a slice's spare places count too). A statement '..UptoSaid' is the law's where the arguments, and the package variables that the reading takes, are together of bulk at most 1048576: NARROWER than '..Said'. Prove '..Said' where nothing that the law and all that it calls make is longer than what came in: it says more and counts as full. Else prove '..UptoSaid'. A law counts once. -/
mutual
def uptoBulk {H : Type} : DataW H → Nat
  | .lit (.string bytes) => bytes.length + 1
  | .lit _ => 1
  | .nil => 1
  | .ptr d => uptoBulk d + 1
  | .slice elems spare => uptoBulkAll elems + uptoBulkAll spare + 1
  | .agg parts => uptoBulkAll parts + 1
  | .iface _ d => uptoBulk d + 1
  | .map entries => uptoBulkEntries entries + 1
  | .held _ => 1
def uptoBulkAll {H : Type} : List (DataW H) → Nat
  | [] => 0
  | d :: r => uptoBulk d + uptoBulkAll r
def uptoBulkEntries {H : Type} : List (Lit × DataW H) → Nat
  | [] => 0
  | x :: r => uptoBulkEntry x + uptoBulkEntries r
def uptoBulkEntry {H : Type} : Lit × DataW H → Nat
  | (.string bytes, d) => bytes.length + uptoBulk d + 1
  | (_, d) => uptoBulk d + 1
 end
def uptoSmall : (H : Type) → List (DataW H) → Bool := fun _ ds => decide (uptoBulkAll ds ≤ 1048576)
def OpenSpec.upto (s : _root_.Go.ChangeSpec) : _root_.Go.OpenSpec := { _root_.Go.OpenSpec.ofChange s with cond := some uptoSmall }

/-- 'laws.FnVals', WHERE WHAT IT READS IS OF BULK AT MOST 1048576: true; the input reads as it did. -/
def fnValsUptoRow : OpenClaim := { program := "ytmcmkkkbkfgakaa", sum := "30f4d49870eecddc759661342dacaae1f5a417f4ba9d33f845eed5e21075b479", func := "loop.example/g00502/laws.FnVals", spec := "fnVals", unfollowed := true, recurses := true, apart := false, narrowed := true }
def FnValsUptoSaid : Prop := fnValsUptoRow.holds Try.pinned (OpenSpec.upto fnValsSpec)

/-- 'laws.FnExactValOk', WHERE WHAT IT READS IS OF BULK AT MOST 1048576: true; the input reads as it did. -/
def fnExactValOkUptoRow : OpenClaim := { program := "ytmcmkkkbkfgakaa", sum := "30f4d49870eecddc759661342dacaae1f5a417f4ba9d33f845eed5e21075b479", func := "loop.example/g00502/laws.FnExactValOk", spec := "fnExactValOk", unfollowed := true, recurses := true, loops := true, apart := false, narrowed := true }
def FnExactValOkUptoSaid : Prop := fnExactValOkUptoRow.holds Try.pinned (OpenSpec.upto fnExactValOkSpec)

/-- 'laws.FnExactSameVal', WHERE WHAT IT READS IS OF BULK AT MOST 1048576: true; the input reads as it did. -/
def fnExactSameValUptoRow : OpenClaim := { program := "ytmcmkkkbkfgakaa", sum := "30f4d49870eecddc759661342dacaae1f5a417f4ba9d33f845eed5e21075b479", func := "loop.example/g00502/laws.FnExactSameVal", spec := "fnExactSameVal", recurses := true, loops := true, apart := false, narrowed := true }
def FnExactSameValUptoSaid : Prop := fnExactSameValUptoRow.holds Try.pinned (OpenSpec.upto fnExactSameValSpec)

/-- 'laws.FnExactDeepOf', WHERE WHAT IT READS IS OF BULK AT MOST 1048576: true; the input reads as it did. -/
def fnExactDeepOfUptoRow : OpenClaim := { program := "ytmcmkkkbkfgakaa", sum := "30f4d49870eecddc759661342dacaae1f5a417f4ba9d33f845eed5e21075b479", func := "loop.example/g00502/laws.FnExactDeepOf", spec := "fnExactDeepOf", recurses := true, loops := true, apart := false, narrowed := true }
def FnExactDeepOfUptoSaid : Prop := fnExactDeepOfUptoRow.holds Try.pinned (OpenSpec.upto fnExactDeepOfSpec)

/-- 'laws.FnExactCountOf', WHERE WHAT IT READS IS OF BULK AT MOST 1048576: true; the input reads as it did. -/
def fnExactCountOfUptoRow : OpenClaim := { program := "ytmcmkkkbkfgakaa", sum := "30f4d49870eecddc759661342dacaae1f5a417f4ba9d33f845eed5e21075b479", func := "loop.example/g00502/laws.FnExactCountOf", spec := "fnExactCountOf", recurses := true, loops := true, apart := false, narrowed := true }
def FnExactCountOfUptoSaid : Prop := fnExactCountOfUptoRow.holds Try.pinned (OpenSpec.upto fnExactCountOfSpec)

/-- 'laws.FnExactKindName', WHERE WHAT IT READS IS OF BULK AT MOST 1048576: true; the input reads as it did. -/
def fnExactKindNameUptoRow : OpenClaim := { program := "ytmcmkkkbkfgakaa", sum := "30f4d49870eecddc759661342dacaae1f5a417f4ba9d33f845eed5e21075b479", func := "loop.example/g00502/laws.FnExactKindName", spec := "fnExactKindName", apart := false, narrowed := true }
def FnExactKindNameUptoSaid : Prop := fnExactKindNameUptoRow.holds Try.pinned (OpenSpec.upto fnExactKindNameSpec)

/-- 'laws.FnExactIntVal', WHERE WHAT IT READS IS OF BULK AT MOST 1048576: true; the input reads as it did. -/
def fnExactIntValUptoRow : OpenClaim := { program := "ytmcmkkkbkfgakaa", sum := "30f4d49870eecddc759661342dacaae1f5a417f4ba9d33f845eed5e21075b479", func := "loop.example/g00502/laws.FnExactIntVal", spec := "fnExactIntVal", recurses := true, apart := false, narrowed := true }
def FnExactIntValUptoSaid : Prop := fnExactIntValUptoRow.holds Try.pinned (OpenSpec.upto fnExactIntValSpec)

/-- 'laws.FnExactTextVal', WHERE WHAT IT READS IS OF BULK AT MOST 1048576: true; the input reads as it did. -/
def fnExactTextValUptoRow : OpenClaim := { program := "ytmcmkkkbkfgakaa", sum := "30f4d49870eecddc759661342dacaae1f5a417f4ba9d33f845eed5e21075b479", func := "loop.example/g00502/laws.FnExactTextVal", spec := "fnExactTextVal", recurses := true, apart := false, narrowed := true }
def FnExactTextValUptoSaid : Prop := fnExactTextValUptoRow.holds Try.pinned (OpenSpec.upto fnExactTextValSpec)

/-- 'laws.FnExactListVal', WHERE WHAT IT READS IS OF BULK AT MOST 1048576: true; the input reads as it did. -/
def fnExactListValUptoRow : OpenClaim := { program := "ytmcmkkkbkfgakaa", sum := "30f4d49870eecddc759661342dacaae1f5a417f4ba9d33f845eed5e21075b479", func := "loop.example/g00502/laws.FnExactListVal", spec := "fnExactListVal", recurses := true, loops := true, apart := false, narrowed := true }
def FnExactListValUptoSaid : Prop := fnExactListValUptoRow.holds Try.pinned (OpenSpec.upto fnExactListValSpec)

/-- 'laws.FnExactNumberVal', WHERE WHAT IT READS IS OF BULK AT MOST 1048576: true; the input reads as it did. -/
def fnExactNumberValUptoRow : OpenClaim := { program := "ytmcmkkkbkfgakaa", sum := "30f4d49870eecddc759661342dacaae1f5a417f4ba9d33f845eed5e21075b479", func := "loop.example/g00502/laws.FnExactNumberVal", spec := "fnExactNumberVal", recurses := true, apart := false, narrowed := true }
def FnExactNumberValUptoSaid : Prop := fnExactNumberValUptoRow.holds Try.pinned (OpenSpec.upto fnExactNumberValSpec)

end Rows
end Go.Proofs.Ytmcmkkkbkfgakaa
