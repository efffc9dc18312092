/-
  NARROWER THAN 'FOR EVERY INPUT', by the rows' own cells (each row's printed sentence says how): FnExactSortMap: loops · FnExactOnceEach: loops · FnExactAllPaths: loops · FnExactFitsText: loops.
  DERIVED. THE GIVEN ROWS OF THIS SEAT. 6 by the template 'for every input the law returns true; each argument reads behind the call as it read before'; 0 by the template 'total and deterministic' (their statements: YtnikcgmbkmbloaaTotals.lean).
  GIVEN WITH THE SEED: the statements are not yours to turn. If you find one false, say at which input.
  Laid BY PROGRAM, IN A SANDBOX (cutbox-rows.mjs): the forced cells as the released guide's own fill.sh prints them over the translation 74cef99cf2f1803a… (all of the seat's roots in one cut). By AI agents, Wed Nov 11 2026. No macro, syntax, notation, axiom, sorry.
-/
import Derived.Test.YtnikcgmbkmbloaaChecked
import GoSem.Claim
import GoSem.ClaimJoined
import GoSem.ClaimMapViews
import Derived.JoinedTies
import Derived.KernelRfl
namespace Go.Proofs.Ytnikcgmbkmbloaa
/- THE CELL 'sum', in the pinned program and in every row, IS THE sha256 OF THE DUMP (.gsa) THAT YtnikcgmbkmbloaaProg.lean LOADS. Nothing in Lean hashes anything: it is a label: what it is worth is what the hold of that sum in a sandbox is worth. -/
noncomputable def Try.pinned : Pinned := { name := "ytnikcgmbkmbloaa", sum := "74cef99cf2f1803ac2d6ad1d72e94e7b1296496c005bf4a3d20b81361001a9c2", checked := Try.checked }
namespace Rows
def none {H : Type} : Left H := { results := [], args := [] }

/-- 'laws.FnMaps': WHATEVER THE INPUT: true; the input reads as it did. -/
def fnMapsSpec : ChangeSpec := { name := "fnMaps", fn := fun _ => fun
  | [d] => { results := [.lit (.bool true)], args := [d] }
  | _ => none }
def fnMapsRow : OpenClaim := { program := "ytnikcgmbkmbloaa", sum := "74cef99cf2f1803ac2d6ad1d72e94e7b1296496c005bf4a3d20b81361001a9c2", func := "loop.example/g00502/laws.FnMaps", spec := "fnMaps", unfollowed := true, recurses := true, apart := false }
def FnMapsSaid : Prop := fnMapsRow.holds Try.pinned (OpenSpec.ofChange fnMapsSpec)

/-- ITS FALSE NEIGHBOUR: 'it returns false'. Refute it at one input. -/
def fnMapsWrong : ChangeSpec := { name := "fnMaps", fn := fun _ => fun
  | [d] => { results := [.lit (.bool false)], args := [d] }
  | _ => none }
def FnMapsWrongFalsely : Prop := fnMapsRow.holds Try.pinned (OpenSpec.ofChange fnMapsWrong)

/-- 'laws.FnExactSortMap': WHATEVER THE INPUT: true; the input reads as it did. -/
def fnExactSortMapSpec : ChangeSpec := { name := "fnExactSortMap", fn := fun _ => fun
  | [d] => { results := [.lit (.bool true)], args := [d] }
  | _ => none }
def fnExactSortMapRow : OpenClaim := { program := "ytnikcgmbkmbloaa", sum := "74cef99cf2f1803ac2d6ad1d72e94e7b1296496c005bf4a3d20b81361001a9c2", func := "loop.example/g00502/laws.FnExactSortMap", spec := "fnExactSortMap", unfollowed := true, recurses := true, loops := true, apart := false }
def FnExactSortMapSaid : Prop := fnExactSortMapRow.holds Try.pinned (OpenSpec.ofChange fnExactSortMapSpec)

/-- ITS FALSE NEIGHBOUR: 'it returns false'. Refute it at one input. -/
def fnExactSortMapWrong : ChangeSpec := { name := "fnExactSortMap", fn := fun _ => fun
  | [d] => { results := [.lit (.bool false)], args := [d] }
  | _ => none }
def FnExactSortMapWrongFalsely : Prop := fnExactSortMapRow.holds Try.pinned (OpenSpec.ofChange fnExactSortMapWrong)

/-- 'laws.FnExactOnceEach': WHATEVER THE INPUT: true; the input reads as it did. -/
def fnExactOnceEachSpec : ChangeSpec := { name := "fnExactOnceEach", fn := fun _ => fun
  | [d] => { results := [.lit (.bool true)], args := [d] }
  | _ => none }
def fnExactOnceEachRow : OpenClaim := { program := "ytnikcgmbkmbloaa", sum := "74cef99cf2f1803ac2d6ad1d72e94e7b1296496c005bf4a3d20b81361001a9c2", func := "loop.example/g00502/laws.FnExactOnceEach", spec := "fnExactOnceEach", unfollowed := true, recurses := true, loops := true, apart := false }
def FnExactOnceEachSaid : Prop := fnExactOnceEachRow.holds Try.pinned (OpenSpec.ofChange fnExactOnceEachSpec)

/-- ITS FALSE NEIGHBOUR: 'it returns false'. Refute it at one input. -/
def fnExactOnceEachWrong : ChangeSpec := { name := "fnExactOnceEach", fn := fun _ => fun
  | [d] => { results := [.lit (.bool false)], args := [d] }
  | _ => none }
def FnExactOnceEachWrongFalsely : Prop := fnExactOnceEachRow.holds Try.pinned (OpenSpec.ofChange fnExactOnceEachWrong)

/-- 'laws.FnExactAllPaths': WHATEVER THE INPUT: true; the input reads as it did. -/
def fnExactAllPathsSpec : ChangeSpec := { name := "fnExactAllPaths", fn := fun _ => fun
  | [d] => { results := [.lit (.bool true)], args := [d] }
  | _ => none }
def fnExactAllPathsRow : OpenClaim := { program := "ytnikcgmbkmbloaa", sum := "74cef99cf2f1803ac2d6ad1d72e94e7b1296496c005bf4a3d20b81361001a9c2", func := "loop.example/g00502/laws.FnExactAllPaths", spec := "fnExactAllPaths", unfollowed := true, recurses := true, loops := true, apart := false }
def FnExactAllPathsSaid : Prop := fnExactAllPathsRow.holds Try.pinned (OpenSpec.ofChange fnExactAllPathsSpec)

/-- ITS FALSE NEIGHBOUR: 'it returns false'. Refute it at one input. -/
def fnExactAllPathsWrong : ChangeSpec := { name := "fnExactAllPaths", fn := fun _ => fun
  | [d] => { results := [.lit (.bool false)], args := [d] }
  | _ => none }
def FnExactAllPathsWrongFalsely : Prop := fnExactAllPathsRow.holds Try.pinned (OpenSpec.ofChange fnExactAllPathsWrong)

/-- 'laws.FnExactFitsText': WHATEVER THE INPUT: true; the input reads as it did. -/
def fnExactFitsTextSpec : ChangeSpec := { name := "fnExactFitsText", fn := fun _ => fun
  | [d] => { results := [.lit (.bool true)], args := [d] }
  | _ => none }
def fnExactFitsTextRow : OpenClaim := { program := "ytnikcgmbkmbloaa", sum := "74cef99cf2f1803ac2d6ad1d72e94e7b1296496c005bf4a3d20b81361001a9c2", func := "loop.example/g00502/laws.FnExactFitsText", spec := "fnExactFitsText", unfollowed := true, recurses := true, loops := true, apart := false }
def FnExactFitsTextSaid : Prop := fnExactFitsTextRow.holds Try.pinned (OpenSpec.ofChange fnExactFitsTextSpec)

/-- ITS FALSE NEIGHBOUR: 'it returns false'. Refute it at one input. -/
def fnExactFitsTextWrong : ChangeSpec := { name := "fnExactFitsText", fn := fun _ => fun
  | [d] => { results := [.lit (.bool false)], args := [d] }
  | _ => none }
def FnExactFitsTextWrongFalsely : Prop := fnExactFitsTextRow.holds Try.pinned (OpenSpec.ofChange fnExactFitsTextWrong)

/-- 'laws.FnExactParseTokens': WHATEVER THE INPUT: true; the input reads as it did. -/
def fnExactParseTokensSpec : ChangeSpec := { name := "fnExactParseTokens", fn := fun _ => fun
  | [d1, d2] => { results := [.lit (.bool true)], args := [d1, d2] }
  | _ => none }
def fnExactParseTokensRow : OpenClaim := { program := "ytnikcgmbkmbloaa", sum := "74cef99cf2f1803ac2d6ad1d72e94e7b1296496c005bf4a3d20b81361001a9c2", func := "loop.example/g00502/laws.FnExactParseTokens", spec := "fnExactParseTokens", unfollowed := true, recurses := true, apart := false }
def FnExactParseTokensSaid : Prop := fnExactParseTokensRow.holds Try.pinned (OpenSpec.ofChange fnExactParseTokensSpec)

/-- ITS FALSE NEIGHBOUR: 'it returns false'. Refute it at one input. -/
def fnExactParseTokensWrong : ChangeSpec := { name := "fnExactParseTokens", fn := fun _ => fun
  | [d1, d2] => { results := [.lit (.bool false)], args := [d1, d2] }
  | _ => none }
def FnExactParseTokensWrongFalsely : Prop := fnExactParseTokensRow.holds Try.pinned (OpenSpec.ofChange fnExactParseTokensWrong)

/- THE SECOND FORM. 'bulk': how many values and letters a reading holds, each counted each time it is reached (what is shared counts as often as it is met; a slice's spare places count too). A statement '..UptoSaid' is the law's where the arguments, and the package variables that the reading takes, are together of bulk at most 1048576: NARROWER than '..Said'. Prove '..Said' where nothing that the law and all that it calls make is longer than what came in: it says more and counts as full. Else prove '..UptoSaid'. A law counts once. -/
mutual
def uptoBulk {H : Type} : DataW H → Nat
  | .lit (.string bytes) => bytes.length + 1
  | .lit _ => 1
  | .nil => 1
  | .ptr d => uptoBulk d + 1
  | .slice elems spare => uptoBulkAll elems + uptoBulkAll spare + 1
  | .agg parts => uptoBulkAll parts + 1
  | .iface _ d => uptoBulk d + 1
  | .map entries => uptoBulkEntries entries + 1
  | .held _ => 1
def uptoBulkAll {H : Type} : List (DataW H) → Nat
  | [] => 0
  | d :: r => uptoBulk d + uptoBulkAll r
def uptoBulkEntries {H : Type} : List (Lit × DataW H) → Nat
  | [] => 0
  | x :: r => uptoBulkEntry x + uptoBulkEntries r
def uptoBulkEntry {H : Type} : Lit × DataW H → Nat
  | (.string bytes, d) => bytes.length + uptoBulk d + 1
  | (_, d) => uptoBulk d + 1
 end
def uptoSmall : (H : Type) → List (DataW H) → Bool := fun _ ds => decide (uptoBulkAll ds ≤ 1048576)
def OpenSpec.upto (s : _root_.Go.ChangeSpec) : _root_.Go.OpenSpec := { _root_.Go.OpenSpec.ofChange s with cond := some uptoSmall }

/-- 'laws.FnMaps', WHERE WHAT IT READS IS OF BULK AT MOST 1048576: true; the input reads as it did. -/
def fnMapsUptoRow : OpenClaim := { program := "ytnikcgmbkmbloaa", sum := "74cef99cf2f1803ac2d6ad1d72e94e7b1296496c005bf4a3d20b81361001a9c2", func := "loop.example/g00502/laws.FnMaps", spec := "fnMaps", unfollowed := true, recurses := true, apart := false, narrowed := true }
def FnMapsUptoSaid : Prop := fnMapsUptoRow.holds Try.pinned (OpenSpec.upto fnMapsSpec)

/-- 'laws.FnExactSortMap', WHERE WHAT IT READS IS OF BULK AT MOST 1048576: true; the input reads as it did. -/
def fnExactSortMapUptoRow : OpenClaim := { program := "ytnikcgmbkmbloaa", sum := "74cef99cf2f1803ac2d6ad1d72e94e7b1296496c005bf4a3d20b81361001a9c2", func := "loop.example/g00502/laws.FnExactSortMap", spec := "fnExactSortMap", unfollowed := true, recurses := true, loops := true, apart := false, narrowed := true }
def FnExactSortMapUptoSaid : Prop := fnExactSortMapUptoRow.holds Try.pinned (OpenSpec.upto fnExactSortMapSpec)

/-- 'laws.FnExactOnceEach', WHERE WHAT IT READS IS OF BULK AT MOST 1048576: true; the input reads as it did. -/
def fnExactOnceEachUptoRow : OpenClaim := { program := "ytnikcgmbkmbloaa", sum := "74cef99cf2f1803ac2d6ad1d72e94e7b1296496c005bf4a3d20b81361001a9c2", func := "loop.example/g00502/laws.FnExactOnceEach", spec := "fnExactOnceEach", unfollowed := true, recurses := true, loops := true, apart := false, narrowed := true }
def FnExactOnceEachUptoSaid : Prop := fnExactOnceEachUptoRow.holds Try.pinned (OpenSpec.upto fnExactOnceEachSpec)

/-- 'laws.FnExactAllPaths', WHERE WHAT IT READS IS OF BULK AT MOST 1048576: true; the input reads as it did. -/
def fnExactAllPathsUptoRow : OpenClaim := { program := "ytnikcgmbkmbloaa", sum := "74cef99cf2f1803ac2d6ad1d72e94e7b1296496c005bf4a3d20b81361001a9c2", func := "loop.example/g00502/laws.FnExactAllPaths", spec := "fnExactAllPaths", unfollowed := true, recurses := true, loops := true, apart := false, narrowed := true }
def FnExactAllPathsUptoSaid : Prop := fnExactAllPathsUptoRow.holds Try.pinned (OpenSpec.upto fnExactAllPathsSpec)

/-- 'laws.FnExactFitsText', WHERE WHAT IT READS IS OF BULK AT MOST 1048576: true; the input reads as it did. -/
def fnExactFitsTextUptoRow : OpenClaim := { program := "ytnikcgmbkmbloaa", sum := "74cef99cf2f1803ac2d6ad1d72e94e7b1296496c005bf4a3d20b81361001a9c2", func := "loop.example/g00502/laws.FnExactFitsText", spec := "fnExactFitsText", unfollowed := true, recurses := true, loops := true, apart := false, narrowed := true }
def FnExactFitsTextUptoSaid : Prop := fnExactFitsTextUptoRow.holds Try.pinned (OpenSpec.upto fnExactFitsTextSpec)

/-- 'laws.FnExactParseTokens', WHERE WHAT IT READS IS OF BULK AT MOST 1048576: true; the input reads as it did. -/
def fnExactParseTokensUptoRow : OpenClaim := { program := "ytnikcgmbkmbloaa", sum := "74cef99cf2f1803ac2d6ad1d72e94e7b1296496c005bf4a3d20b81361001a9c2", func := "loop.example/g00502/laws.FnExactParseTokens", spec := "fnExactParseTokens", unfollowed := true, recurses := true, apart := false, narrowed := true }
def FnExactParseTokensUptoSaid : Prop := fnExactParseTokensUptoRow.holds Try.pinned (OpenSpec.upto fnExactParseTokensSpec)

end Rows
end Go.Proofs.Ytnikcgmbkmbloaa
