/-
  No cell of these rows narrows 'for every input' (looked for: loops, veiled, ifaces, maps, wideKeys, modest, calm, conditions, laid).
  DERIVED. THE GIVEN ROWS OF THIS SEAT. 8 by the template 'for every input the law returns true; each argument reads behind the call as it read before'; 0 by the template 'total and deterministic' (their statements: YtnbknhbboofiiaaTotals.lean).
  GIVEN WITH THE SEED: the statements are not yours to turn. If you find one false, say at which input.
  Laid BY PROGRAM, IN A SANDBOX (cutbox-rows.mjs): the forced cells as the released guide's own fill.sh prints them over the translation a035cccf6dc5facb… (all of the seat's roots in one cut). By AI agents, Wed Nov 11 2026. No macro, syntax, notation, axiom, sorry.
-/
import Derived.Test.YtnbknhbboofiiaaChecked
import GoSem.Claim
import GoSem.ClaimJoined
import GoSem.ClaimMapViews
import Derived.JoinedTies
import Derived.KernelRfl
namespace Go.Proofs.Ytnbknhbboofiiaa
/- THE CELL 'sum', in the pinned program and in every row, IS THE sha256 OF THE DUMP (.gsa) THAT YtnbknhbboofiiaaProg.lean LOADS. Nothing in Lean hashes anything: it is a label: what it is worth is what the hold of that sum in a sandbox is worth. -/
noncomputable def Try.pinned : Pinned := { name := "ytnbknhbboofiiaa", sum := "a035cccf6dc5facb7d6c6375f70592889fc750512d9098439d902f91b40da952", checked := Try.checked }
namespace Rows
def none {H : Type} : Left H := { results := [], args := [] }

/-- 'laws.FnBigs': WHATEVER THE INPUT: true; the input reads as it did. -/
def fnBigsSpec : ChangeSpec := { name := "fnBigs", fn := fun _ => fun
  | [d] => { results := [.lit (.bool true)], args := [d] }
  | _ => none }
def fnBigsRow : OpenClaim := { program := "ytnbknhbboofiiaa", sum := "a035cccf6dc5facb7d6c6375f70592889fc750512d9098439d902f91b40da952", func := "loop.example/g00502/laws.FnBigs", spec := "fnBigs", apart := false }
def FnBigsSaid : Prop := fnBigsRow.holds Try.pinned (OpenSpec.ofChange fnBigsSpec)

/-- ITS FALSE NEIGHBOUR: 'it returns false'. Refute it at one input. -/
def fnBigsWrong : ChangeSpec := { name := "fnBigs", fn := fun _ => fun
  | [d] => { results := [.lit (.bool false)], args := [d] }
  | _ => none }
def FnBigsWrongFalsely : Prop := fnBigsRow.holds Try.pinned (OpenSpec.ofChange fnBigsWrong)

/-- 'laws.FnHex': WHATEVER THE INPUT: true; the input reads as it did. -/
def fnHexSpec : ChangeSpec := { name := "fnHex", fn := fun _ => fun
  | [d] => { results := [.lit (.bool true)], args := [d] }
  | _ => none }
def fnHexRow : OpenClaim := { program := "ytnbknhbboofiiaa", sum := "a035cccf6dc5facb7d6c6375f70592889fc750512d9098439d902f91b40da952", func := "loop.example/g00502/laws.FnHex", spec := "fnHex", inPlace := ["internal/bytealg.IndexByteString"], apart := false }
def FnHexSaid : Prop := fnHexRow.holds Try.pinned (OpenSpec.ofChange fnHexSpec)

/-- ITS FALSE NEIGHBOUR: 'it returns false'. Refute it at one input. -/
def fnHexWrong : ChangeSpec := { name := "fnHex", fn := fun _ => fun
  | [d] => { results := [.lit (.bool false)], args := [d] }
  | _ => none }
def FnHexWrongFalsely : Prop := fnHexRow.holds Try.pinned (OpenSpec.ofChange fnHexWrong)

/-- 'laws.FnExactPutBig': WHATEVER THE INPUT: true; the input reads as it did. -/
def fnExactPutBigSpec : ChangeSpec := { name := "fnExactPutBig", fn := fun _ => fun
  | [d1, d2, d3] => { results := [.lit (.bool true)], args := [d1, d2, d3] }
  | _ => none }
def fnExactPutBigRow : OpenClaim := { program := "ytnbknhbboofiiaa", sum := "a035cccf6dc5facb7d6c6375f70592889fc750512d9098439d902f91b40da952", func := "loop.example/g00502/laws.FnExactPutBig", spec := "fnExactPutBig", apart := false }
def FnExactPutBigSaid : Prop := fnExactPutBigRow.holds Try.pinned (OpenSpec.ofChange fnExactPutBigSpec)

/-- ITS FALSE NEIGHBOUR: 'it returns false'. Refute it at one input. -/
def fnExactPutBigWrong : ChangeSpec := { name := "fnExactPutBig", fn := fun _ => fun
  | [d1, d2, d3] => { results := [.lit (.bool false)], args := [d1, d2, d3] }
  | _ => none }
def FnExactPutBigWrongFalsely : Prop := fnExactPutBigRow.holds Try.pinned (OpenSpec.ofChange fnExactPutBigWrong)

/-- 'laws.FnExactGetBig': WHATEVER THE INPUT: true; the input reads as it did. -/
def fnExactGetBigSpec : ChangeSpec := { name := "fnExactGetBig", fn := fun _ => fun
  | [d1, d2, d3] => { results := [.lit (.bool true)], args := [d1, d2, d3] }
  | _ => none }
def fnExactGetBigRow : OpenClaim := { program := "ytnbknhbboofiiaa", sum := "a035cccf6dc5facb7d6c6375f70592889fc750512d9098439d902f91b40da952", func := "loop.example/g00502/laws.FnExactGetBig", spec := "fnExactGetBig", apart := false }
def FnExactGetBigSaid : Prop := fnExactGetBigRow.holds Try.pinned (OpenSpec.ofChange fnExactGetBigSpec)

/-- ITS FALSE NEIGHBOUR: 'it returns false'. Refute it at one input. -/
def fnExactGetBigWrong : ChangeSpec := { name := "fnExactGetBig", fn := fun _ => fun
  | [d1, d2, d3] => { results := [.lit (.bool false)], args := [d1, d2, d3] }
  | _ => none }
def FnExactGetBigWrongFalsely : Prop := fnExactGetBigRow.holds Try.pinned (OpenSpec.ofChange fnExactGetBigWrong)

/-- 'laws.FnExactWidthFor': WHATEVER THE INPUT: true; the input reads as it did. -/
def fnExactWidthForSpec : ChangeSpec := { name := "fnExactWidthFor", fn := fun _ => fun
  | [d] => { results := [.lit (.bool true)], args := [d] }
  | _ => none }
def fnExactWidthForRow : OpenClaim := { program := "ytnbknhbboofiiaa", sum := "a035cccf6dc5facb7d6c6375f70592889fc750512d9098439d902f91b40da952", func := "loop.example/g00502/laws.FnExactWidthFor", spec := "fnExactWidthFor", apart := false }
def FnExactWidthForSaid : Prop := fnExactWidthForRow.holds Try.pinned (OpenSpec.ofChange fnExactWidthForSpec)

/-- ITS FALSE NEIGHBOUR: 'it returns false'. Refute it at one input. -/
def fnExactWidthForWrong : ChangeSpec := { name := "fnExactWidthFor", fn := fun _ => fun
  | [d] => { results := [.lit (.bool false)], args := [d] }
  | _ => none }
def FnExactWidthForWrongFalsely : Prop := fnExactWidthForRow.holds Try.pinned (OpenSpec.ofChange fnExactWidthForWrong)

/-- 'laws.FnExactSlice': WHATEVER THE INPUT: true; the input reads as it did. -/
def fnExactSliceSpec : ChangeSpec := { name := "fnExactSlice", fn := fun _ => fun
  | [d1, d2, d3] => { results := [.lit (.bool true)], args := [d1, d2, d3] }
  | _ => none }
def fnExactSliceRow : OpenClaim := { program := "ytnbknhbboofiiaa", sum := "a035cccf6dc5facb7d6c6375f70592889fc750512d9098439d902f91b40da952", func := "loop.example/g00502/laws.FnExactSlice", spec := "fnExactSlice", apart := false }
def FnExactSliceSaid : Prop := fnExactSliceRow.holds Try.pinned (OpenSpec.ofChange fnExactSliceSpec)

/-- ITS FALSE NEIGHBOUR: 'it returns false'. Refute it at one input. -/
def fnExactSliceWrong : ChangeSpec := { name := "fnExactSlice", fn := fun _ => fun
  | [d1, d2, d3] => { results := [.lit (.bool false)], args := [d1, d2, d3] }
  | _ => none }
def FnExactSliceWrongFalsely : Prop := fnExactSliceRow.holds Try.pinned (OpenSpec.ofChange fnExactSliceWrong)

/-- 'laws.FnExactHexText': WHATEVER THE INPUT: true; the input reads as it did. -/
def fnExactHexTextSpec : ChangeSpec := { name := "fnExactHexText", fn := fun _ => fun
  | [d] => { results := [.lit (.bool true)], args := [d] }
  | _ => none }
def fnExactHexTextRow : OpenClaim := { program := "ytnbknhbboofiiaa", sum := "a035cccf6dc5facb7d6c6375f70592889fc750512d9098439d902f91b40da952", func := "loop.example/g00502/laws.FnExactHexText", spec := "fnExactHexText", apart := false }
def FnExactHexTextSaid : Prop := fnExactHexTextRow.holds Try.pinned (OpenSpec.ofChange fnExactHexTextSpec)

/-- ITS FALSE NEIGHBOUR: 'it returns false'. Refute it at one input. -/
def fnExactHexTextWrong : ChangeSpec := { name := "fnExactHexText", fn := fun _ => fun
  | [d] => { results := [.lit (.bool false)], args := [d] }
  | _ => none }
def FnExactHexTextWrongFalsely : Prop := fnExactHexTextRow.holds Try.pinned (OpenSpec.ofChange fnExactHexTextWrong)

/-- 'laws.FnExactParseHex': WHATEVER THE INPUT: true; the input reads as it did. -/
def fnExactParseHexSpec : ChangeSpec := { name := "fnExactParseHex", fn := fun _ => fun
  | [d] => { results := [.lit (.bool true)], args := [d] }
  | _ => none }
def fnExactParseHexRow : OpenClaim := { program := "ytnbknhbboofiiaa", sum := "a035cccf6dc5facb7d6c6375f70592889fc750512d9098439d902f91b40da952", func := "loop.example/g00502/laws.FnExactParseHex", spec := "fnExactParseHex", inPlace := ["internal/bytealg.IndexByteString"], apart := false }
def FnExactParseHexSaid : Prop := fnExactParseHexRow.holds Try.pinned (OpenSpec.ofChange fnExactParseHexSpec)

/-- ITS FALSE NEIGHBOUR: 'it returns false'. Refute it at one input. -/
def fnExactParseHexWrong : ChangeSpec := { name := "fnExactParseHex", fn := fun _ => fun
  | [d] => { results := [.lit (.bool false)], args := [d] }
  | _ => none }
def FnExactParseHexWrongFalsely : Prop := fnExactParseHexRow.holds Try.pinned (OpenSpec.ofChange fnExactParseHexWrong)

/- THE SECOND FORM. 'bulk': how many values and letters a reading holds, each counted each time it is reached (what is shared counts as often as it is met; a slice's spare places count too). A statement '..UptoSaid' is the law's where the arguments, and the package variables that the reading takes, are together of bulk at most 1048576: NARROWER than '..Said'. Prove '..Said' where nothing that the law and all that it calls make is longer than what came in: it says more and counts as full. Else prove '..UptoSaid'. A law counts once. -/
mutual
def uptoBulk {H : Type} : DataW H → Nat
  | .lit (.string bytes) => bytes.length + 1
  | .lit _ => 1
  | .nil => 1
  | .ptr d => uptoBulk d + 1
  | .slice elems spare => uptoBulkAll elems + uptoBulkAll spare + 1
  | .agg parts => uptoBulkAll parts + 1
  | .iface _ d => uptoBulk d + 1
  | .map entries => uptoBulkEntries entries + 1
  | .held _ => 1
def uptoBulkAll {H : Type} : List (DataW H) → Nat
  | [] => 0
  | d :: r => uptoBulk d + uptoBulkAll r
def uptoBulkEntries {H : Type} : List (Lit × DataW H) → Nat
  | [] => 0
  | x :: r => uptoBulkEntry x + uptoBulkEntries r
def uptoBulkEntry {H : Type} : Lit × DataW H → Nat
  | (.string bytes, d) => bytes.length + uptoBulk d + 1
  | (_, d) => uptoBulk d + 1
 end
def uptoSmall : (H : Type) → List (DataW H) → Bool := fun _ ds => decide (uptoBulkAll ds ≤ 1048576)
def OpenSpec.upto (s : _root_.Go.ChangeSpec) : _root_.Go.OpenSpec := { _root_.Go.OpenSpec.ofChange s with cond := some uptoSmall }

/-- 'laws.FnBigs', WHERE WHAT IT READS IS OF BULK AT MOST 1048576: true; the input reads as it did. -/
def fnBigsUptoRow : OpenClaim := { program := "ytnbknhbboofiiaa", sum := "a035cccf6dc5facb7d6c6375f70592889fc750512d9098439d902f91b40da952", func := "loop.example/g00502/laws.FnBigs", spec := "fnBigs", apart := false, narrowed := true }
def FnBigsUptoSaid : Prop := fnBigsUptoRow.holds Try.pinned (OpenSpec.upto fnBigsSpec)

/-- 'laws.FnHex', WHERE WHAT IT READS IS OF BULK AT MOST 1048576: true; the input reads as it did. -/
def fnHexUptoRow : OpenClaim := { program := "ytnbknhbboofiiaa", sum := "a035cccf6dc5facb7d6c6375f70592889fc750512d9098439d902f91b40da952", func := "loop.example/g00502/laws.FnHex", spec := "fnHex", inPlace := ["internal/bytealg.IndexByteString"], apart := false, narrowed := true }
def FnHexUptoSaid : Prop := fnHexUptoRow.holds Try.pinned (OpenSpec.upto fnHexSpec)

/-- 'laws.FnExactPutBig', WHERE WHAT IT READS IS OF BULK AT MOST 1048576: true; the input reads as it did. -/
def fnExactPutBigUptoRow : OpenClaim := { program := "ytnbknhbboofiiaa", sum := "a035cccf6dc5facb7d6c6375f70592889fc750512d9098439d902f91b40da952", func := "loop.example/g00502/laws.FnExactPutBig", spec := "fnExactPutBig", apart := false, narrowed := true }
def FnExactPutBigUptoSaid : Prop := fnExactPutBigUptoRow.holds Try.pinned (OpenSpec.upto fnExactPutBigSpec)

/-- 'laws.FnExactGetBig', WHERE WHAT IT READS IS OF BULK AT MOST 1048576: true; the input reads as it did. -/
def fnExactGetBigUptoRow : OpenClaim := { program := "ytnbknhbboofiiaa", sum := "a035cccf6dc5facb7d6c6375f70592889fc750512d9098439d902f91b40da952", func := "loop.example/g00502/laws.FnExactGetBig", spec := "fnExactGetBig", apart := false, narrowed := true }
def FnExactGetBigUptoSaid : Prop := fnExactGetBigUptoRow.holds Try.pinned (OpenSpec.upto fnExactGetBigSpec)

/-- 'laws.FnExactWidthFor', WHERE WHAT IT READS IS OF BULK AT MOST 1048576: true; the input reads as it did. -/
def fnExactWidthForUptoRow : OpenClaim := { program := "ytnbknhbboofiiaa", sum := "a035cccf6dc5facb7d6c6375f70592889fc750512d9098439d902f91b40da952", func := "loop.example/g00502/laws.FnExactWidthFor", spec := "fnExactWidthFor", apart := false, narrowed := true }
def FnExactWidthForUptoSaid : Prop := fnExactWidthForUptoRow.holds Try.pinned (OpenSpec.upto fnExactWidthForSpec)

/-- 'laws.FnExactSlice', WHERE WHAT IT READS IS OF BULK AT MOST 1048576: true; the input reads as it did. -/
def fnExactSliceUptoRow : OpenClaim := { program := "ytnbknhbboofiiaa", sum := "a035cccf6dc5facb7d6c6375f70592889fc750512d9098439d902f91b40da952", func := "loop.example/g00502/laws.FnExactSlice", spec := "fnExactSlice", apart := false, narrowed := true }
def FnExactSliceUptoSaid : Prop := fnExactSliceUptoRow.holds Try.pinned (OpenSpec.upto fnExactSliceSpec)

/-- 'laws.FnExactHexText', WHERE WHAT IT READS IS OF BULK AT MOST 1048576: true; the input reads as it did. -/
def fnExactHexTextUptoRow : OpenClaim := { program := "ytnbknhbboofiiaa", sum := "a035cccf6dc5facb7d6c6375f70592889fc750512d9098439d902f91b40da952", func := "loop.example/g00502/laws.FnExactHexText", spec := "fnExactHexText", apart := false, narrowed := true }
def FnExactHexTextUptoSaid : Prop := fnExactHexTextUptoRow.holds Try.pinned (OpenSpec.upto fnExactHexTextSpec)

/-- 'laws.FnExactParseHex', WHERE WHAT IT READS IS OF BULK AT MOST 1048576: true; the input reads as it did. -/
def fnExactParseHexUptoRow : OpenClaim := { program := "ytnbknhbboofiiaa", sum := "a035cccf6dc5facb7d6c6375f70592889fc750512d9098439d902f91b40da952", func := "loop.example/g00502/laws.FnExactParseHex", spec := "fnExactParseHex", inPlace := ["internal/bytealg.IndexByteString"], apart := false, narrowed := true }
def FnExactParseHexUptoSaid : Prop := fnExactParseHexUptoRow.holds Try.pinned (OpenSpec.upto fnExactParseHexSpec)

end Rows
end Go.Proofs.Ytnbknhbboofiiaa
