/-
  No cell of these rows narrows 'for every input' (looked for: loops, veiled, ifaces, maps, wideKeys, modest, calm, conditions, laid).
  DERIVED. THE GIVEN ROWS OF THIS SEAT. 6 by the template 'for every input the law returns true; each argument reads behind the call as it read before'; 0 by the template 'total and deterministic' (their statements: YtblaaiggmhadfaaTotals.lean).
  GIVEN WITH THE SEED: the statements are not yours to turn. If you find one false, say at which input.
  Laid BY PROGRAM, IN A SANDBOX (cutbox-rows.mjs): the forced cells as the released guide's own fill.sh prints them over the translation 36886826cf75ab4e… (all of the seat's roots in one cut). By AI agents, Wed Nov 11 2026. No macro, syntax, notation, axiom, sorry.
-/
import Derived.Test.YtblaaiggmhadfaaChecked
import GoSem.Claim
import GoSem.ClaimJoined
import GoSem.ClaimMapViews
import Derived.JoinedTies
import Derived.KernelRfl
namespace Go.Proofs.Ytblaaiggmhadfaa
/- THE CELL 'sum', in the pinned program and in every row, IS THE sha256 OF THE DUMP (.gsa) THAT YtblaaiggmhadfaaProg.lean LOADS. Nothing in Lean hashes anything: it is a label: what it is worth is what the hold of that sum in a sandbox is worth. -/
noncomputable def Try.pinned : Pinned := { name := "ytblaaiggmhadfaa", sum := "36886826cf75ab4e1b0e8ed2a77ad2cc5ee57beb1d7be45cb505f7425d0305f2", checked := Try.checked }
namespace Rows
def none {H : Type} : Left H := { results := [], args := [] }

/-- 'laws.FnBits': WHATEVER THE INPUT: true; the input reads as it did. -/
def fnBitsSpec : ChangeSpec := { name := "fnBits", fn := fun _ => fun
  | [d] => { results := [.lit (.bool true)], args := [d] }
  | _ => none }
def fnBitsRow : OpenClaim := { program := "ytblaaiggmhadfaa", sum := "36886826cf75ab4e1b0e8ed2a77ad2cc5ee57beb1d7be45cb505f7425d0305f2", func := "loop.example/g00502/laws.FnBits", spec := "fnBits", recurses := true, apart := false }
def FnBitsSaid : Prop := fnBitsRow.holds Try.pinned (OpenSpec.ofChange fnBitsSpec)

/-- ITS FALSE NEIGHBOUR: 'it returns false'. Refute it at one input. -/
def fnBitsWrong : ChangeSpec := { name := "fnBits", fn := fun _ => fun
  | [d] => { results := [.lit (.bool false)], args := [d] }
  | _ => none }
def FnBitsWrongFalsely : Prop := fnBitsRow.holds Try.pinned (OpenSpec.ofChange fnBitsWrong)

/-- 'laws.FnExactHeadOk': WHATEVER THE INPUT: true; the input reads as it did. -/
def fnExactHeadOkSpec : ChangeSpec := { name := "fnExactHeadOk", fn := fun _ => fun
  | [d] => { results := [.lit (.bool true)], args := [d] }
  | _ => none }
def fnExactHeadOkRow : OpenClaim := { program := "ytblaaiggmhadfaa", sum := "36886826cf75ab4e1b0e8ed2a77ad2cc5ee57beb1d7be45cb505f7425d0305f2", func := "loop.example/g00502/laws.FnExactHeadOk", spec := "fnExactHeadOk", apart := false }
def FnExactHeadOkSaid : Prop := fnExactHeadOkRow.holds Try.pinned (OpenSpec.ofChange fnExactHeadOkSpec)

/-- ITS FALSE NEIGHBOUR: 'it returns false'. Refute it at one input. -/
def fnExactHeadOkWrong : ChangeSpec := { name := "fnExactHeadOk", fn := fun _ => fun
  | [d] => { results := [.lit (.bool false)], args := [d] }
  | _ => none }
def FnExactHeadOkWrongFalsely : Prop := fnExactHeadOkRow.holds Try.pinned (OpenSpec.ofChange fnExactHeadOkWrong)

/-- 'laws.FnExactHeadFor': WHATEVER THE INPUT: true; the input reads as it did. -/
def fnExactHeadForSpec : ChangeSpec := { name := "fnExactHeadFor", fn := fun _ => fun
  | [d1, d2] => { results := [.lit (.bool true)], args := [d1, d2] }
  | _ => none }
def fnExactHeadForRow : OpenClaim := { program := "ytblaaiggmhadfaa", sum := "36886826cf75ab4e1b0e8ed2a77ad2cc5ee57beb1d7be45cb505f7425d0305f2", func := "loop.example/g00502/laws.FnExactHeadFor", spec := "fnExactHeadFor", apart := false }
def FnExactHeadForSaid : Prop := fnExactHeadForRow.holds Try.pinned (OpenSpec.ofChange fnExactHeadForSpec)

/-- ITS FALSE NEIGHBOUR: 'it returns false'. Refute it at one input. -/
def fnExactHeadForWrong : ChangeSpec := { name := "fnExactHeadFor", fn := fun _ => fun
  | [d1, d2] => { results := [.lit (.bool false)], args := [d1, d2] }
  | _ => none }
def FnExactHeadForWrongFalsely : Prop := fnExactHeadForRow.holds Try.pinned (OpenSpec.ofChange fnExactHeadForWrong)

/-- 'laws.FnExactGetHead': WHATEVER THE INPUT: true; the input reads as it did. -/
def fnExactGetHeadSpec : ChangeSpec := { name := "fnExactGetHead", fn := fun _ => fun
  | [d1, d2] => { results := [.lit (.bool true)], args := [d1, d2] }
  | _ => none }
def fnExactGetHeadRow : OpenClaim := { program := "ytblaaiggmhadfaa", sum := "36886826cf75ab4e1b0e8ed2a77ad2cc5ee57beb1d7be45cb505f7425d0305f2", func := "loop.example/g00502/laws.FnExactGetHead", spec := "fnExactGetHead", apart := false }
def FnExactGetHeadSaid : Prop := fnExactGetHeadRow.holds Try.pinned (OpenSpec.ofChange fnExactGetHeadSpec)

/-- ITS FALSE NEIGHBOUR: 'it returns false'. Refute it at one input. -/
def fnExactGetHeadWrong : ChangeSpec := { name := "fnExactGetHead", fn := fun _ => fun
  | [d1, d2] => { results := [.lit (.bool false)], args := [d1, d2] }
  | _ => none }
def FnExactGetHeadWrongFalsely : Prop := fnExactGetHeadRow.holds Try.pinned (OpenSpec.ofChange fnExactGetHeadWrong)

/-- 'laws.FnExactFltBits': WHATEVER THE INPUT: true; the input reads as it did. -/
def fnExactFltBitsSpec : ChangeSpec := { name := "fnExactFltBits", fn := fun _ => fun
  | [d] => { results := [.lit (.bool true)], args := [d] }
  | _ => none }
def fnExactFltBitsRow : OpenClaim := { program := "ytblaaiggmhadfaa", sum := "36886826cf75ab4e1b0e8ed2a77ad2cc5ee57beb1d7be45cb505f7425d0305f2", func := "loop.example/g00502/laws.FnExactFltBits", spec := "fnExactFltBits", recurses := true, apart := false }
def FnExactFltBitsSaid : Prop := fnExactFltBitsRow.holds Try.pinned (OpenSpec.ofChange fnExactFltBitsSpec)

/-- ITS FALSE NEIGHBOUR: 'it returns false'. Refute it at one input. -/
def fnExactFltBitsWrong : ChangeSpec := { name := "fnExactFltBits", fn := fun _ => fun
  | [d] => { results := [.lit (.bool false)], args := [d] }
  | _ => none }
def FnExactFltBitsWrongFalsely : Prop := fnExactFltBitsRow.holds Try.pinned (OpenSpec.ofChange fnExactFltBitsWrong)

/-- 'laws.FnExactBitsFlt': WHATEVER THE INPUT: true; the input reads as it did. -/
def fnExactBitsFltSpec : ChangeSpec := { name := "fnExactBitsFlt", fn := fun _ => fun
  | [d] => { results := [.lit (.bool true)], args := [d] }
  | _ => none }
def fnExactBitsFltRow : OpenClaim := { program := "ytblaaiggmhadfaa", sum := "36886826cf75ab4e1b0e8ed2a77ad2cc5ee57beb1d7be45cb505f7425d0305f2", func := "loop.example/g00502/laws.FnExactBitsFlt", spec := "fnExactBitsFlt", apart := false }
def FnExactBitsFltSaid : Prop := fnExactBitsFltRow.holds Try.pinned (OpenSpec.ofChange fnExactBitsFltSpec)

/-- ITS FALSE NEIGHBOUR: 'it returns false'. Refute it at one input. -/
def fnExactBitsFltWrong : ChangeSpec := { name := "fnExactBitsFlt", fn := fun _ => fun
  | [d] => { results := [.lit (.bool false)], args := [d] }
  | _ => none }
def FnExactBitsFltWrongFalsely : Prop := fnExactBitsFltRow.holds Try.pinned (OpenSpec.ofChange fnExactBitsFltWrong)

/- THE SECOND FORM. 'bulk': how many values and letters a reading holds, each counted each time it is reached (what is shared counts as often as it is met; a slice's spare places count too). A statement '..UptoSaid' is the law's where the arguments, and the package variables that the reading takes, are together of bulk at most 1048576: NARROWER than '..Said'. Prove '..Said' where nothing that the law and all that it calls make is longer than what came in: it says more and counts as full. Else prove '..UptoSaid'. A law counts once. -/
mutual
def uptoBulk {H : Type} : DataW H → Nat
  | .lit (.string bytes) => bytes.length + 1
  | .lit _ => 1
  | .nil => 1
  | .ptr d => uptoBulk d + 1
  | .slice elems spare => uptoBulkAll elems + uptoBulkAll spare + 1
  | .agg parts => uptoBulkAll parts + 1
  | .iface _ d => uptoBulk d + 1
  | .map entries => uptoBulkEntries entries + 1
  | .held _ => 1
def uptoBulkAll {H : Type} : List (DataW H) → Nat
  | [] => 0
  | d :: r => uptoBulk d + uptoBulkAll r
def uptoBulkEntries {H : Type} : List (Lit × DataW H) → Nat
  | [] => 0
  | x :: r => uptoBulkEntry x + uptoBulkEntries r
def uptoBulkEntry {H : Type} : Lit × DataW H → Nat
  | (.string bytes, d) => bytes.length + uptoBulk d + 1
  | (_, d) => uptoBulk d + 1
 end
def uptoSmall : (H : Type) → List (DataW H) → Bool := fun _ ds => decide (uptoBulkAll ds ≤ 1048576)
def OpenSpec.upto (s : _root_.Go.ChangeSpec) : _root_.Go.OpenSpec := { _root_.Go.OpenSpec.ofChange s with cond := some uptoSmall }

/-- 'laws.FnBits', WHERE WHAT IT READS IS OF BULK AT MOST 1048576: true; the input reads as it did. -/
def fnBitsUptoRow : OpenClaim := { program := "ytblaaiggmhadfaa", sum := "36886826cf75ab4e1b0e8ed2a77ad2cc5ee57beb1d7be45cb505f7425d0305f2", func := "loop.example/g00502/laws.FnBits", spec := "fnBits", recurses := true, apart := false, narrowed := true }
def FnBitsUptoSaid : Prop := fnBitsUptoRow.holds Try.pinned (OpenSpec.upto fnBitsSpec)

/-- 'laws.FnExactHeadOk', WHERE WHAT IT READS IS OF BULK AT MOST 1048576: true; the input reads as it did. -/
def fnExactHeadOkUptoRow : OpenClaim := { program := "ytblaaiggmhadfaa", sum := "36886826cf75ab4e1b0e8ed2a77ad2cc5ee57beb1d7be45cb505f7425d0305f2", func := "loop.example/g00502/laws.FnExactHeadOk", spec := "fnExactHeadOk", apart := false, narrowed := true }
def FnExactHeadOkUptoSaid : Prop := fnExactHeadOkUptoRow.holds Try.pinned (OpenSpec.upto fnExactHeadOkSpec)

/-- 'laws.FnExactHeadFor', WHERE WHAT IT READS IS OF BULK AT MOST 1048576: true; the input reads as it did. -/
def fnExactHeadForUptoRow : OpenClaim := { program := "ytblaaiggmhadfaa", sum := "36886826cf75ab4e1b0e8ed2a77ad2cc5ee57beb1d7be45cb505f7425d0305f2", func := "loop.example/g00502/laws.FnExactHeadFor", spec := "fnExactHeadFor", apart := false, narrowed := true }
def FnExactHeadForUptoSaid : Prop := fnExactHeadForUptoRow.holds Try.pinned (OpenSpec.upto fnExactHeadForSpec)

/-- 'laws.FnExactGetHead', WHERE WHAT IT READS IS OF BULK AT MOST 1048576: true; the input reads as it did. -/
def fnExactGetHeadUptoRow : OpenClaim := { program := "ytblaaiggmhadfaa", sum := "36886826cf75ab4e1b0e8ed2a77ad2cc5ee57beb1d7be45cb505f7425d0305f2", func := "loop.example/g00502/laws.FnExactGetHead", spec := "fnExactGetHead", apart := false, narrowed := true }
def FnExactGetHeadUptoSaid : Prop := fnExactGetHeadUptoRow.holds Try.pinned (OpenSpec.upto fnExactGetHeadSpec)

/-- 'laws.FnExactFltBits', WHERE WHAT IT READS IS OF BULK AT MOST 1048576: true; the input reads as it did. -/
def fnExactFltBitsUptoRow : OpenClaim := { program := "ytblaaiggmhadfaa", sum := "36886826cf75ab4e1b0e8ed2a77ad2cc5ee57beb1d7be45cb505f7425d0305f2", func := "loop.example/g00502/laws.FnExactFltBits", spec := "fnExactFltBits", recurses := true, apart := false, narrowed := true }
def FnExactFltBitsUptoSaid : Prop := fnExactFltBitsUptoRow.holds Try.pinned (OpenSpec.upto fnExactFltBitsSpec)

/-- 'laws.FnExactBitsFlt', WHERE WHAT IT READS IS OF BULK AT MOST 1048576: true; the input reads as it did. -/
def fnExactBitsFltUptoRow : OpenClaim := { program := "ytblaaiggmhadfaa", sum := "36886826cf75ab4e1b0e8ed2a77ad2cc5ee57beb1d7be45cb505f7425d0305f2", func := "loop.example/g00502/laws.FnExactBitsFlt", spec := "fnExactBitsFlt", apart := false, narrowed := true }
def FnExactBitsFltUptoSaid : Prop := fnExactBitsFltUptoRow.holds Try.pinned (OpenSpec.upto fnExactBitsFltSpec)

end Rows
end Go.Proofs.Ytblaaiggmhadfaa
