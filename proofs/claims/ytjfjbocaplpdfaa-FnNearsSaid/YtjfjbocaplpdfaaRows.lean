/-
  No cell of these rows narrows 'for every input' (looked for: loops, veiled, ifaces, maps, wideKeys, modest, calm, conditions, laid).
  DERIVED. THE GIVEN ROWS OF THIS SEAT. 7 by the template 'for every input the law returns true; each argument reads behind the call as it read before'; 0 by the template 'total and deterministic' (their statements: YtjfjbocaplpdfaaTotals.lean).
  GIVEN WITH THE SEED: the statements are not yours to turn. If you find one false, say at which input.
  Laid BY PROGRAM, IN A SANDBOX (cutbox-rows.mjs): the forced cells as the released guide's own fill.sh prints them over the translation 77aab21496663f3f… (all of the seat's roots in one cut). By AI agents, Wed Nov 11 2026. No macro, syntax, notation, axiom, sorry.
-/
import Derived.Test.YtjfjbocaplpdfaaChecked
import GoSem.Claim
import GoSem.ClaimJoined
import GoSem.ClaimMapViews
import Derived.JoinedTies
import Derived.KernelRfl
namespace Go.Proofs.Ytjfjbocaplpdfaa
/- THE CELL 'sum', in the pinned program and in every row, IS THE sha256 OF THE DUMP (.gsa) THAT YtjfjbocaplpdfaaProg.lean LOADS. Nothing in Lean hashes anything: it is a label: what it is worth is what the hold of that sum in a sandbox is worth. -/
noncomputable def Try.pinned : Pinned := { name := "ytjfjbocaplpdfaa", sum := "77aab21496663f3f2cdd67e94ae1df041a926068bd0c701162fdbc38bad25f84", checked := Try.checked }
namespace Rows
def none {H : Type} : Left H := { results := [], args := [] }

/-- 'laws.FnNears': WHATEVER THE INPUT: true; the input reads as it did. -/
def fnNearsSpec : ChangeSpec := { name := "fnNears", fn := fun _ => fun
  | [d] => { results := [.lit (.bool true)], args := [d] }
  | _ => none }
def fnNearsRow : OpenClaim := { program := "ytjfjbocaplpdfaa", sum := "77aab21496663f3f2cdd67e94ae1df041a926068bd0c701162fdbc38bad25f84", func := "loop.example/g00502/laws.FnNears", spec := "fnNears", unfollowed := true, recurses := true, apart := false }
def FnNearsSaid : Prop := fnNearsRow.holds Try.pinned (OpenSpec.ofChange fnNearsSpec)

/-- ITS FALSE NEIGHBOUR: 'it returns false'. Refute it at one input. -/
def fnNearsWrong : ChangeSpec := { name := "fnNears", fn := fun _ => fun
  | [d] => { results := [.lit (.bool false)], args := [d] }
  | _ => none }
def FnNearsWrongFalsely : Prop := fnNearsRow.holds Try.pinned (OpenSpec.ofChange fnNearsWrong)

/-- 'laws.FnExactFltOk': WHATEVER THE INPUT: true; the input reads as it did. -/
def fnExactFltOkSpec : ChangeSpec := { name := "fnExactFltOk", fn := fun _ => fun
  | [d] => { results := [.lit (.bool true)], args := [d] }
  | _ => none }
def fnExactFltOkRow : OpenClaim := { program := "ytjfjbocaplpdfaa", sum := "77aab21496663f3f2cdd67e94ae1df041a926068bd0c701162fdbc38bad25f84", func := "loop.example/g00502/laws.FnExactFltOk", spec := "fnExactFltOk", apart := false }
def FnExactFltOkSaid : Prop := fnExactFltOkRow.holds Try.pinned (OpenSpec.ofChange fnExactFltOkSpec)

/-- ITS FALSE NEIGHBOUR: 'it returns false'. Refute it at one input. -/
def fnExactFltOkWrong : ChangeSpec := { name := "fnExactFltOk", fn := fun _ => fun
  | [d] => { results := [.lit (.bool false)], args := [d] }
  | _ => none }
def FnExactFltOkWrongFalsely : Prop := fnExactFltOkRow.holds Try.pinned (OpenSpec.ofChange fnExactFltOkWrong)

/-- 'laws.FnExactFltDec': WHATEVER THE INPUT: true; the input reads as it did. -/
def fnExactFltDecSpec : ChangeSpec := { name := "fnExactFltDec", fn := fun _ => fun
  | [d] => { results := [.lit (.bool true)], args := [d] }
  | _ => none }
def fnExactFltDecRow : OpenClaim := { program := "ytjfjbocaplpdfaa", sum := "77aab21496663f3f2cdd67e94ae1df041a926068bd0c701162fdbc38bad25f84", func := "loop.example/g00502/laws.FnExactFltDec", spec := "fnExactFltDec", unfollowed := true, recurses := true, apart := false }
def FnExactFltDecSaid : Prop := fnExactFltDecRow.holds Try.pinned (OpenSpec.ofChange fnExactFltDecSpec)

/-- ITS FALSE NEIGHBOUR: 'it returns false'. Refute it at one input. -/
def fnExactFltDecWrong : ChangeSpec := { name := "fnExactFltDec", fn := fun _ => fun
  | [d] => { results := [.lit (.bool false)], args := [d] }
  | _ => none }
def FnExactFltDecWrongFalsely : Prop := fnExactFltDecRow.holds Try.pinned (OpenSpec.ofChange fnExactFltDecWrong)

/-- 'laws.FnExactNearFlt': WHATEVER THE INPUT: true; the input reads as it did. -/
def fnExactNearFltSpec : ChangeSpec := { name := "fnExactNearFlt", fn := fun _ => fun
  | [d] => { results := [.lit (.bool true)], args := [d] }
  | _ => none }
def fnExactNearFltRow : OpenClaim := { program := "ytjfjbocaplpdfaa", sum := "77aab21496663f3f2cdd67e94ae1df041a926068bd0c701162fdbc38bad25f84", func := "loop.example/g00502/laws.FnExactNearFlt", spec := "fnExactNearFlt", unfollowed := true, recurses := true, apart := false }
def FnExactNearFltSaid : Prop := fnExactNearFltRow.holds Try.pinned (OpenSpec.ofChange fnExactNearFltSpec)

/-- ITS FALSE NEIGHBOUR: 'it returns false'. Refute it at one input. -/
def fnExactNearFltWrong : ChangeSpec := { name := "fnExactNearFlt", fn := fun _ => fun
  | [d] => { results := [.lit (.bool false)], args := [d] }
  | _ => none }
def FnExactNearFltWrongFalsely : Prop := fnExactNearFltRow.holds Try.pinned (OpenSpec.ofChange fnExactNearFltWrong)

/-- 'laws.FnExactExact': WHATEVER THE INPUT: true; the input reads as it did. -/
def fnExactExactSpec : ChangeSpec := { name := "fnExactExact", fn := fun _ => fun
  | [d] => { results := [.lit (.bool true)], args := [d] }
  | _ => none }
def fnExactExactRow : OpenClaim := { program := "ytjfjbocaplpdfaa", sum := "77aab21496663f3f2cdd67e94ae1df041a926068bd0c701162fdbc38bad25f84", func := "loop.example/g00502/laws.FnExactExact", spec := "fnExactExact", unfollowed := true, recurses := true, apart := false }
def FnExactExactSaid : Prop := fnExactExactRow.holds Try.pinned (OpenSpec.ofChange fnExactExactSpec)

/-- ITS FALSE NEIGHBOUR: 'it returns false'. Refute it at one input. -/
def fnExactExactWrong : ChangeSpec := { name := "fnExactExact", fn := fun _ => fun
  | [d] => { results := [.lit (.bool false)], args := [d] }
  | _ => none }
def FnExactExactWrongFalsely : Prop := fnExactExactRow.holds Try.pinned (OpenSpec.ofChange fnExactExactWrong)

/-- 'laws.FnExactLessFlt': WHATEVER THE INPUT: true; the input reads as it did. -/
def fnExactLessFltSpec : ChangeSpec := { name := "fnExactLessFlt", fn := fun _ => fun
  | [d1, d2] => { results := [.lit (.bool true)], args := [d1, d2] }
  | _ => none }
def fnExactLessFltRow : OpenClaim := { program := "ytjfjbocaplpdfaa", sum := "77aab21496663f3f2cdd67e94ae1df041a926068bd0c701162fdbc38bad25f84", func := "loop.example/g00502/laws.FnExactLessFlt", spec := "fnExactLessFlt", unfollowed := true, recurses := true, apart := false }
def FnExactLessFltSaid : Prop := fnExactLessFltRow.holds Try.pinned (OpenSpec.ofChange fnExactLessFltSpec)

/-- ITS FALSE NEIGHBOUR: 'it returns false'. Refute it at one input. -/
def fnExactLessFltWrong : ChangeSpec := { name := "fnExactLessFlt", fn := fun _ => fun
  | [d1, d2] => { results := [.lit (.bool false)], args := [d1, d2] }
  | _ => none }
def FnExactLessFltWrongFalsely : Prop := fnExactLessFltRow.holds Try.pinned (OpenSpec.ofChange fnExactLessFltWrong)

/-- 'laws.FnExactFltNew': WHATEVER THE INPUT: true; the input reads as it did. -/
def fnExactFltNewSpec : ChangeSpec := { name := "fnExactFltNew", fn := fun _ => fun
  | [d1, d2] => { results := [.lit (.bool true)], args := [d1, d2] }
  | _ => none }
def fnExactFltNewRow : OpenClaim := { program := "ytjfjbocaplpdfaa", sum := "77aab21496663f3f2cdd67e94ae1df041a926068bd0c701162fdbc38bad25f84", func := "loop.example/g00502/laws.FnExactFltNew", spec := "fnExactFltNew", apart := false }
def FnExactFltNewSaid : Prop := fnExactFltNewRow.holds Try.pinned (OpenSpec.ofChange fnExactFltNewSpec)

/-- ITS FALSE NEIGHBOUR: 'it returns false'. Refute it at one input. -/
def fnExactFltNewWrong : ChangeSpec := { name := "fnExactFltNew", fn := fun _ => fun
  | [d1, d2] => { results := [.lit (.bool false)], args := [d1, d2] }
  | _ => none }
def FnExactFltNewWrongFalsely : Prop := fnExactFltNewRow.holds Try.pinned (OpenSpec.ofChange fnExactFltNewWrong)

/- THE SECOND FORM. 'bulk': how many values and letters a reading holds, each counted each time it is reached (what is shared counts as often as it is met; a slice's spare places count too). A statement '..UptoSaid' is the law's where the arguments, and the package variables that the reading takes, are together of bulk at most 1048576: NARROWER than '..Said'. Prove '..Said' where nothing that the law and all that it calls make is longer than what came in: it says more and counts as full. Else prove '..UptoSaid'. A law counts once. -/
mutual
def uptoBulk {H : Type} : DataW H → Nat
  | .lit (.string bytes) => bytes.length + 1
  | .lit _ => 1
  | .nil => 1
  | .ptr d => uptoBulk d + 1
  | .slice elems spare => uptoBulkAll elems + uptoBulkAll spare + 1
  | .agg parts => uptoBulkAll parts + 1
  | .iface _ d => uptoBulk d + 1
  | .map entries => uptoBulkEntries entries + 1
  | .held _ => 1
def uptoBulkAll {H : Type} : List (DataW H) → Nat
  | [] => 0
  | d :: r => uptoBulk d + uptoBulkAll r
def uptoBulkEntries {H : Type} : List (Lit × DataW H) → Nat
  | [] => 0
  | x :: r => uptoBulkEntry x + uptoBulkEntries r
def uptoBulkEntry {H : Type} : Lit × DataW H → Nat
  | (.string bytes, d) => bytes.length + uptoBulk d + 1
  | (_, d) => uptoBulk d + 1
 end
def uptoSmall : (H : Type) → List (DataW H) → Bool := fun _ ds => decide (uptoBulkAll ds ≤ 1048576)
def OpenSpec.upto (s : _root_.Go.ChangeSpec) : _root_.Go.OpenSpec := { _root_.Go.OpenSpec.ofChange s with cond := some uptoSmall }

/-- 'laws.FnNears', WHERE WHAT IT READS IS OF BULK AT MOST 1048576: true; the input reads as it did. -/
def fnNearsUptoRow : OpenClaim := { program := "ytjfjbocaplpdfaa", sum := "77aab21496663f3f2cdd67e94ae1df041a926068bd0c701162fdbc38bad25f84", func := "loop.example/g00502/laws.FnNears", spec := "fnNears", unfollowed := true, recurses := true, apart := false, narrowed := true }
def FnNearsUptoSaid : Prop := fnNearsUptoRow.holds Try.pinned (OpenSpec.upto fnNearsSpec)

/-- 'laws.FnExactFltOk', WHERE WHAT IT READS IS OF BULK AT MOST 1048576: true; the input reads as it did. -/
def fnExactFltOkUptoRow : OpenClaim := { program := "ytjfjbocaplpdfaa", sum := "77aab21496663f3f2cdd67e94ae1df041a926068bd0c701162fdbc38bad25f84", func := "loop.example/g00502/laws.FnExactFltOk", spec := "fnExactFltOk", apart := false, narrowed := true }
def FnExactFltOkUptoSaid : Prop := fnExactFltOkUptoRow.holds Try.pinned (OpenSpec.upto fnExactFltOkSpec)

/-- 'laws.FnExactFltDec', WHERE WHAT IT READS IS OF BULK AT MOST 1048576: true; the input reads as it did. -/
def fnExactFltDecUptoRow : OpenClaim := { program := "ytjfjbocaplpdfaa", sum := "77aab21496663f3f2cdd67e94ae1df041a926068bd0c701162fdbc38bad25f84", func := "loop.example/g00502/laws.FnExactFltDec", spec := "fnExactFltDec", unfollowed := true, recurses := true, apart := false, narrowed := true }
def FnExactFltDecUptoSaid : Prop := fnExactFltDecUptoRow.holds Try.pinned (OpenSpec.upto fnExactFltDecSpec)

/-- 'laws.FnExactNearFlt', WHERE WHAT IT READS IS OF BULK AT MOST 1048576: true; the input reads as it did. -/
def fnExactNearFltUptoRow : OpenClaim := { program := "ytjfjbocaplpdfaa", sum := "77aab21496663f3f2cdd67e94ae1df041a926068bd0c701162fdbc38bad25f84", func := "loop.example/g00502/laws.FnExactNearFlt", spec := "fnExactNearFlt", unfollowed := true, recurses := true, apart := false, narrowed := true }
def FnExactNearFltUptoSaid : Prop := fnExactNearFltUptoRow.holds Try.pinned (OpenSpec.upto fnExactNearFltSpec)

/-- 'laws.FnExactExact', WHERE WHAT IT READS IS OF BULK AT MOST 1048576: true; the input reads as it did. -/
def fnExactExactUptoRow : OpenClaim := { program := "ytjfjbocaplpdfaa", sum := "77aab21496663f3f2cdd67e94ae1df041a926068bd0c701162fdbc38bad25f84", func := "loop.example/g00502/laws.FnExactExact", spec := "fnExactExact", unfollowed := true, recurses := true, apart := false, narrowed := true }
def FnExactExactUptoSaid : Prop := fnExactExactUptoRow.holds Try.pinned (OpenSpec.upto fnExactExactSpec)

/-- 'laws.FnExactLessFlt', WHERE WHAT IT READS IS OF BULK AT MOST 1048576: true; the input reads as it did. -/
def fnExactLessFltUptoRow : OpenClaim := { program := "ytjfjbocaplpdfaa", sum := "77aab21496663f3f2cdd67e94ae1df041a926068bd0c701162fdbc38bad25f84", func := "loop.example/g00502/laws.FnExactLessFlt", spec := "fnExactLessFlt", unfollowed := true, recurses := true, apart := false, narrowed := true }
def FnExactLessFltUptoSaid : Prop := fnExactLessFltUptoRow.holds Try.pinned (OpenSpec.upto fnExactLessFltSpec)

/-- 'laws.FnExactFltNew', WHERE WHAT IT READS IS OF BULK AT MOST 1048576: true; the input reads as it did. -/
def fnExactFltNewUptoRow : OpenClaim := { program := "ytjfjbocaplpdfaa", sum := "77aab21496663f3f2cdd67e94ae1df041a926068bd0c701162fdbc38bad25f84", func := "loop.example/g00502/laws.FnExactFltNew", spec := "fnExactFltNew", apart := false, narrowed := true }
def FnExactFltNewUptoSaid : Prop := fnExactFltNewUptoRow.holds Try.pinned (OpenSpec.upto fnExactFltNewSpec)

end Rows
end Go.Proofs.Ytjfjbocaplpdfaa
