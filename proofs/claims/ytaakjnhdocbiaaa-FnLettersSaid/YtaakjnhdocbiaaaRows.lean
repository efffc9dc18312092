/-
  No cell of these rows narrows 'for every input' (looked for: loops, veiled, ifaces, maps, wideKeys, modest, calm, conditions, laid).
  DERIVED. THE GIVEN ROWS OF THIS SEAT. 7 by the template 'for every input the law returns true; each argument reads behind the call as it read before'; 0 by the template 'total and deterministic' (their statements: YtaakjnhdocbiaaaTotals.lean).
  GIVEN WITH THE SEED: the statements are not yours to turn. If you find one false, say at which input.
  Laid BY PROGRAM, IN A SANDBOX (cutbox-rows.mjs): the forced cells as the released guide's own fill.sh prints them over the translation 2d3db94b4f25545c… (all of the seat's roots in one cut). By AI agents, Wed Nov 11 2026. No macro, syntax, notation, axiom, sorry.
-/
import Derived.Test.YtaakjnhdocbiaaaChecked
import GoSem.Claim
import GoSem.ClaimJoined
import GoSem.ClaimMapViews
import Derived.JoinedTies
import Derived.KernelRfl
namespace Go.Proofs.Ytaakjnhdocbiaaa
/- THE CELL 'sum', in the pinned program and in every row, IS THE sha256 OF THE DUMP (.gsa) THAT YtaakjnhdocbiaaaProg.lean LOADS. Nothing in Lean hashes anything: it is a label: what it is worth is what the hold of that sum in a sandbox is worth. -/
noncomputable def Try.pinned : Pinned := { name := "ytaakjnhdocbiaaa", sum := "2d3db94b4f25545cf5ed8f36271f671f476e799d8faa16959e85d105a8e64ea4", checked := Try.checked }
namespace Rows
def none {H : Type} : Left H := { results := [], args := [] }

/-- 'laws.FnLetters': WHATEVER THE INPUT: true; the input reads as it did. -/
def fnLettersSpec : ChangeSpec := { name := "fnLetters", fn := fun _ => fun
  | [d] => { results := [.lit (.bool true)], args := [d] }
  | _ => none }
def fnLettersRow : OpenClaim := { program := "ytaakjnhdocbiaaa", sum := "2d3db94b4f25545cf5ed8f36271f671f476e799d8faa16959e85d105a8e64ea4", func := "loop.example/g00502/laws.FnLetters", spec := "fnLetters", apart := false }
def FnLettersSaid : Prop := fnLettersRow.holds Try.pinned (OpenSpec.ofChange fnLettersSpec)

/-- ITS FALSE NEIGHBOUR: 'it returns false'. Refute it at one input. -/
def fnLettersWrong : ChangeSpec := { name := "fnLetters", fn := fun _ => fun
  | [d] => { results := [.lit (.bool false)], args := [d] }
  | _ => none }
def FnLettersWrongFalsely : Prop := fnLettersRow.holds Try.pinned (OpenSpec.ofChange fnLettersWrong)

/-- 'laws.FnExactRuneOk': WHATEVER THE INPUT: true; the input reads as it did. -/
def fnExactRuneOkSpec : ChangeSpec := { name := "fnExactRuneOk", fn := fun _ => fun
  | [d] => { results := [.lit (.bool true)], args := [d] }
  | _ => none }
def fnExactRuneOkRow : OpenClaim := { program := "ytaakjnhdocbiaaa", sum := "2d3db94b4f25545cf5ed8f36271f671f476e799d8faa16959e85d105a8e64ea4", func := "loop.example/g00502/laws.FnExactRuneOk", spec := "fnExactRuneOk", apart := false }
def FnExactRuneOkSaid : Prop := fnExactRuneOkRow.holds Try.pinned (OpenSpec.ofChange fnExactRuneOkSpec)

/-- ITS FALSE NEIGHBOUR: 'it returns false'. Refute it at one input. -/
def fnExactRuneOkWrong : ChangeSpec := { name := "fnExactRuneOk", fn := fun _ => fun
  | [d] => { results := [.lit (.bool false)], args := [d] }
  | _ => none }
def FnExactRuneOkWrongFalsely : Prop := fnExactRuneOkRow.holds Try.pinned (OpenSpec.ofChange fnExactRuneOkWrong)

/-- 'laws.FnExactPutRune': WHATEVER THE INPUT: true; the input reads as it did. -/
def fnExactPutRuneSpec : ChangeSpec := { name := "fnExactPutRune", fn := fun _ => fun
  | [d1, d2] => { results := [.lit (.bool true)], args := [d1, d2] }
  | _ => none }
def fnExactPutRuneRow : OpenClaim := { program := "ytaakjnhdocbiaaa", sum := "2d3db94b4f25545cf5ed8f36271f671f476e799d8faa16959e85d105a8e64ea4", func := "loop.example/g00502/laws.FnExactPutRune", spec := "fnExactPutRune", apart := false }
def FnExactPutRuneSaid : Prop := fnExactPutRuneRow.holds Try.pinned (OpenSpec.ofChange fnExactPutRuneSpec)

/-- ITS FALSE NEIGHBOUR: 'it returns false'. Refute it at one input. -/
def fnExactPutRuneWrong : ChangeSpec := { name := "fnExactPutRune", fn := fun _ => fun
  | [d1, d2] => { results := [.lit (.bool false)], args := [d1, d2] }
  | _ => none }
def FnExactPutRuneWrongFalsely : Prop := fnExactPutRuneRow.holds Try.pinned (OpenSpec.ofChange fnExactPutRuneWrong)

/-- 'laws.FnExactTextOk': WHATEVER THE INPUT: true; the input reads as it did. -/
def fnExactTextOkSpec : ChangeSpec := { name := "fnExactTextOk", fn := fun _ => fun
  | [d] => { results := [.lit (.bool true)], args := [d] }
  | _ => none }
def fnExactTextOkRow : OpenClaim := { program := "ytaakjnhdocbiaaa", sum := "2d3db94b4f25545cf5ed8f36271f671f476e799d8faa16959e85d105a8e64ea4", func := "loop.example/g00502/laws.FnExactTextOk", spec := "fnExactTextOk", apart := false }
def FnExactTextOkSaid : Prop := fnExactTextOkRow.holds Try.pinned (OpenSpec.ofChange fnExactTextOkSpec)

/-- ITS FALSE NEIGHBOUR: 'it returns false'. Refute it at one input. -/
def fnExactTextOkWrong : ChangeSpec := { name := "fnExactTextOk", fn := fun _ => fun
  | [d] => { results := [.lit (.bool false)], args := [d] }
  | _ => none }
def FnExactTextOkWrongFalsely : Prop := fnExactTextOkRow.holds Try.pinned (OpenSpec.ofChange fnExactTextOkWrong)

/-- 'laws.FnExactRunesOf': WHATEVER THE INPUT: true; the input reads as it did. -/
def fnExactRunesOfSpec : ChangeSpec := { name := "fnExactRunesOf", fn := fun _ => fun
  | [d] => { results := [.lit (.bool true)], args := [d] }
  | _ => none }
def fnExactRunesOfRow : OpenClaim := { program := "ytaakjnhdocbiaaa", sum := "2d3db94b4f25545cf5ed8f36271f671f476e799d8faa16959e85d105a8e64ea4", func := "loop.example/g00502/laws.FnExactRunesOf", spec := "fnExactRunesOf", apart := false }
def FnExactRunesOfSaid : Prop := fnExactRunesOfRow.holds Try.pinned (OpenSpec.ofChange fnExactRunesOfSpec)

/-- ITS FALSE NEIGHBOUR: 'it returns false'. Refute it at one input. -/
def fnExactRunesOfWrong : ChangeSpec := { name := "fnExactRunesOf", fn := fun _ => fun
  | [d] => { results := [.lit (.bool false)], args := [d] }
  | _ => none }
def FnExactRunesOfWrongFalsely : Prop := fnExactRunesOfRow.holds Try.pinned (OpenSpec.ofChange fnExactRunesOfWrong)

/-- 'laws.FnExactFromRunes': WHATEVER THE INPUT: true; the input reads as it did. -/
def fnExactFromRunesSpec : ChangeSpec := { name := "fnExactFromRunes", fn := fun _ => fun
  | [d] => { results := [.lit (.bool true)], args := [d] }
  | _ => none }
def fnExactFromRunesRow : OpenClaim := { program := "ytaakjnhdocbiaaa", sum := "2d3db94b4f25545cf5ed8f36271f671f476e799d8faa16959e85d105a8e64ea4", func := "loop.example/g00502/laws.FnExactFromRunes", spec := "fnExactFromRunes", apart := false }
def FnExactFromRunesSaid : Prop := fnExactFromRunesRow.holds Try.pinned (OpenSpec.ofChange fnExactFromRunesSpec)

/-- ITS FALSE NEIGHBOUR: 'it returns false'. Refute it at one input. -/
def fnExactFromRunesWrong : ChangeSpec := { name := "fnExactFromRunes", fn := fun _ => fun
  | [d] => { results := [.lit (.bool false)], args := [d] }
  | _ => none }
def FnExactFromRunesWrongFalsely : Prop := fnExactFromRunesRow.holds Try.pinned (OpenSpec.ofChange fnExactFromRunesWrong)

/-- 'laws.FnExactWideOf': WHATEVER THE INPUT: true; the input reads as it did. -/
def fnExactWideOfSpec : ChangeSpec := { name := "fnExactWideOf", fn := fun _ => fun
  | [d] => { results := [.lit (.bool true)], args := [d] }
  | _ => none }
def fnExactWideOfRow : OpenClaim := { program := "ytaakjnhdocbiaaa", sum := "2d3db94b4f25545cf5ed8f36271f671f476e799d8faa16959e85d105a8e64ea4", func := "loop.example/g00502/laws.FnExactWideOf", spec := "fnExactWideOf", apart := false }
def FnExactWideOfSaid : Prop := fnExactWideOfRow.holds Try.pinned (OpenSpec.ofChange fnExactWideOfSpec)

/-- ITS FALSE NEIGHBOUR: 'it returns false'. Refute it at one input. -/
def fnExactWideOfWrong : ChangeSpec := { name := "fnExactWideOf", fn := fun _ => fun
  | [d] => { results := [.lit (.bool false)], args := [d] }
  | _ => none }
def FnExactWideOfWrongFalsely : Prop := fnExactWideOfRow.holds Try.pinned (OpenSpec.ofChange fnExactWideOfWrong)

/- THE SECOND FORM. 'bulk': how many values and letters a reading holds, each counted each time it is reached (what is shared counts as often as it is met; a slice's spare places count too). A statement '..UptoSaid' is the law's where the arguments, and the package variables that the reading takes, are together of bulk at most 1048576: NARROWER than '..Said'. Prove '..Said' where nothing that the law and all that it calls make is longer than what came in: it says more and counts as full. Else prove '..UptoSaid'. A law counts once. -/
mutual
def uptoBulk {H : Type} : DataW H → Nat
  | .lit (.string bytes) => bytes.length + 1
  | .lit _ => 1
  | .nil => 1
  | .ptr d => uptoBulk d + 1
  | .slice elems spare => uptoBulkAll elems + uptoBulkAll spare + 1
  | .agg parts => uptoBulkAll parts + 1
  | .iface _ d => uptoBulk d + 1
  | .map entries => uptoBulkEntries entries + 1
  | .held _ => 1
def uptoBulkAll {H : Type} : List (DataW H) → Nat
  | [] => 0
  | d :: r => uptoBulk d + uptoBulkAll r
def uptoBulkEntries {H : Type} : List (Lit × DataW H) → Nat
  | [] => 0
  | x :: r => uptoBulkEntry x + uptoBulkEntries r
def uptoBulkEntry {H : Type} : Lit × DataW H → Nat
  | (.string bytes, d) => bytes.length + uptoBulk d + 1
  | (_, d) => uptoBulk d + 1
 end
def uptoSmall : (H : Type) → List (DataW H) → Bool := fun _ ds => decide (uptoBulkAll ds ≤ 1048576)
def OpenSpec.upto (s : _root_.Go.ChangeSpec) : _root_.Go.OpenSpec := { _root_.Go.OpenSpec.ofChange s with cond := some uptoSmall }

/-- 'laws.FnLetters', WHERE WHAT IT READS IS OF BULK AT MOST 1048576: true; the input reads as it did. -/
def fnLettersUptoRow : OpenClaim := { program := "ytaakjnhdocbiaaa", sum := "2d3db94b4f25545cf5ed8f36271f671f476e799d8faa16959e85d105a8e64ea4", func := "loop.example/g00502/laws.FnLetters", spec := "fnLetters", apart := false, narrowed := true }
def FnLettersUptoSaid : Prop := fnLettersUptoRow.holds Try.pinned (OpenSpec.upto fnLettersSpec)

/-- 'laws.FnExactRuneOk', WHERE WHAT IT READS IS OF BULK AT MOST 1048576: true; the input reads as it did. -/
def fnExactRuneOkUptoRow : OpenClaim := { program := "ytaakjnhdocbiaaa", sum := "2d3db94b4f25545cf5ed8f36271f671f476e799d8faa16959e85d105a8e64ea4", func := "loop.example/g00502/laws.FnExactRuneOk", spec := "fnExactRuneOk", apart := false, narrowed := true }
def FnExactRuneOkUptoSaid : Prop := fnExactRuneOkUptoRow.holds Try.pinned (OpenSpec.upto fnExactRuneOkSpec)

/-- 'laws.FnExactPutRune', WHERE WHAT IT READS IS OF BULK AT MOST 1048576: true; the input reads as it did. -/
def fnExactPutRuneUptoRow : OpenClaim := { program := "ytaakjnhdocbiaaa", sum := "2d3db94b4f25545cf5ed8f36271f671f476e799d8faa16959e85d105a8e64ea4", func := "loop.example/g00502/laws.FnExactPutRune", spec := "fnExactPutRune", apart := false, narrowed := true }
def FnExactPutRuneUptoSaid : Prop := fnExactPutRuneUptoRow.holds Try.pinned (OpenSpec.upto fnExactPutRuneSpec)

/-- 'laws.FnExactTextOk', WHERE WHAT IT READS IS OF BULK AT MOST 1048576: true; the input reads as it did. -/
def fnExactTextOkUptoRow : OpenClaim := { program := "ytaakjnhdocbiaaa", sum := "2d3db94b4f25545cf5ed8f36271f671f476e799d8faa16959e85d105a8e64ea4", func := "loop.example/g00502/laws.FnExactTextOk", spec := "fnExactTextOk", apart := false, narrowed := true }
def FnExactTextOkUptoSaid : Prop := fnExactTextOkUptoRow.holds Try.pinned (OpenSpec.upto fnExactTextOkSpec)

/-- 'laws.FnExactRunesOf', WHERE WHAT IT READS IS OF BULK AT MOST 1048576: true; the input reads as it did. -/
def fnExactRunesOfUptoRow : OpenClaim := { program := "ytaakjnhdocbiaaa", sum := "2d3db94b4f25545cf5ed8f36271f671f476e799d8faa16959e85d105a8e64ea4", func := "loop.example/g00502/laws.FnExactRunesOf", spec := "fnExactRunesOf", apart := false, narrowed := true }
def FnExactRunesOfUptoSaid : Prop := fnExactRunesOfUptoRow.holds Try.pinned (OpenSpec.upto fnExactRunesOfSpec)

/-- 'laws.FnExactFromRunes', WHERE WHAT IT READS IS OF BULK AT MOST 1048576: true; the input reads as it did. -/
def fnExactFromRunesUptoRow : OpenClaim := { program := "ytaakjnhdocbiaaa", sum := "2d3db94b4f25545cf5ed8f36271f671f476e799d8faa16959e85d105a8e64ea4", func := "loop.example/g00502/laws.FnExactFromRunes", spec := "fnExactFromRunes", apart := false, narrowed := true }
def FnExactFromRunesUptoSaid : Prop := fnExactFromRunesUptoRow.holds Try.pinned (OpenSpec.upto fnExactFromRunesSpec)

/-- 'laws.FnExactWideOf', WHERE WHAT IT READS IS OF BULK AT MOST 1048576: true; the input reads as it did. -/
def fnExactWideOfUptoRow : OpenClaim := { program := "ytaakjnhdocbiaaa", sum := "2d3db94b4f25545cf5ed8f36271f671f476e799d8faa16959e85d105a8e64ea4", func := "loop.example/g00502/laws.FnExactWideOf", spec := "fnExactWideOf", apart := false, narrowed := true }
def FnExactWideOfUptoSaid : Prop := fnExactWideOfUptoRow.holds Try.pinned (OpenSpec.upto fnExactWideOfSpec)

end Rows
end Go.Proofs.Ytaakjnhdocbiaaa
