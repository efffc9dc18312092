/-
  DERIVED. GIVEN WITH THE SEED: THE CARDS: each row of YtblaaiggmhadfaaDoorRows.lean that lists a variable, with what it lists TIED to the program's text (the seventh form; the later family's looks); each row that meets fmt, with fmt's text TOLD by the authors' own Lean function (tested against real Go, not proved from fmt's source: count such statements apart). THE CARD IS WHAT COUNTS. Prove the row's statement (the work); the ties are given (YtblaaiggmhadfaaDoorTie.lean); close each card by the builder's one call (the guide's Derived/Test/ToyasCard.lean, 'card_holds'). Laid BY PROGRAM, IN A SANDBOX (cutbox-door.mjs). By AI agents, Wed Nov 11 2026. No macro, syntax, notation, axiom, sorry.
-/
import Derived.Test.YtblaaiggmhadfaaDoorRows
import GoSem.ClaimSeven
namespace Go.Proofs.YtblaaiggmhadfaaDoor
namespace Rows

/-- THE TIED CARD OF 'laws.FnHeads'. -/
def fnHeadsCard : Claim7 := { stood := { row := fnHeadsRow, standIns := [], harness := (true, "3318e0e787b8fb6d5125801d70b31cb1e73c932b2bb3563ad4312ba08995ca0e"), looks := false }, kinds := [], alts := [], laidByText := true, laidKinds := [.data, .data], laidTests := true, laidLooks := .later }
def FnHeadsCardSaid : Prop := Claim7.holds Tryd.pinned (.plain (OpenSpec.ofChange fnHeadsSpec)) fnHeadsCard

/-- THE TIED CARD OF 'laws.FnExactPutHead'. -/
def fnExactPutHeadCard : Claim7 := { stood := { row := fnExactPutHeadRow, standIns := [], harness := (true, "3318e0e787b8fb6d5125801d70b31cb1e73c932b2bb3563ad4312ba08995ca0e"), looks := false }, kinds := [], alts := [], laidByText := true, laidKinds := [.data, .data], laidTests := true, laidLooks := .later }
def FnExactPutHeadCardSaid : Prop := Claim7.holds Tryd.pinned (.plain (OpenSpec.ofChange fnExactPutHeadSpec)) fnExactPutHeadCard

/-- THE SECOND FORM's CARD OF 'laws.FnHeads'. -/
def fnHeadsUptoCard : Claim7 := { stood := { row := fnHeadsUptoRow, standIns := [], harness := (true, "3318e0e787b8fb6d5125801d70b31cb1e73c932b2bb3563ad4312ba08995ca0e"), looks := false }, kinds := [], alts := [], laidByText := true, laidKinds := [.data, .data], laidTests := true, laidLooks := .later }
def FnHeadsUptoCardSaid : Prop := Claim7.holds Tryd.pinned (.plain (OpenSpec.upto fnHeadsSpec)) fnHeadsUptoCard

/-- THE SECOND FORM's CARD OF 'laws.FnExactPutHead'. -/
def fnExactPutHeadUptoCard : Claim7 := { stood := { row := fnExactPutHeadUptoRow, standIns := [], harness := (true, "3318e0e787b8fb6d5125801d70b31cb1e73c932b2bb3563ad4312ba08995ca0e"), looks := false }, kinds := [], alts := [], laidByText := true, laidKinds := [.data, .data], laidTests := true, laidLooks := .later }
def FnExactPutHeadUptoCardSaid : Prop := Claim7.holds Tryd.pinned (.plain (OpenSpec.upto fnExactPutHeadSpec)) fnExactPutHeadUptoCard
end Rows
end Go.Proofs.YtblaaiggmhadfaaDoor
