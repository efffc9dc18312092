/-
  DERIVED. GIVEN WITH THE SEED: THE CARDS: each row of YtilgncebhgplaaaDoorRows.lean that lists a variable, with what it lists TIED to the program's text (the seventh form; the later family's looks); each row that meets fmt, with fmt's text TOLD by the authors' own Lean function (tested against real Go, not proved from fmt's source: count such statements apart). THE CARD IS WHAT COUNTS. Prove the row's statement (the work); the ties are given (YtilgncebhgplaaaDoorTie.lean); close each card by the builder's one call (the guide's Derived/Test/ToyasCard.lean, 'card_holds'). Laid BY PROGRAM, IN A SANDBOX (cutbox-door.mjs). By AI agents, Wed Nov 11 2026. No macro, syntax, notation, axiom, sorry.
-/
import Derived.Test.YtilgncebhgplaaaDoorRows
import GoSem.ClaimSeven
namespace Go.Proofs.YtilgncebhgplaaaDoor
namespace Rows

/-- THE TIED CARD OF 'laws.FnExactFitsTight'. -/
def fnExactFitsTightCard : Claim7 := { stood := { row := fnExactFitsTightRow, standIns := [], harness := (true, "2625b3b7c0cde9c65fb096f1f3c7ba0828b9f121d569ab6bdb16faa1c8d544d6"), looks := true }, kinds := [], alts := [], laidByText := true, laidKinds := [.data, .data], laidTests := true, laidLooks := .later }
def FnExactFitsTightCardSaid : Prop := Claim7.holds Tryd.pinned (.plain (OpenSpec.ofChange fnExactFitsTightSpec)) fnExactFitsTightCard

/-- THE TIED CARD OF 'laws.FnExactPackTight'. -/
def fnExactPackTightCard : Claim7 := { stood := { row := fnExactPackTightRow, standIns := [], harness := (true, "2625b3b7c0cde9c65fb096f1f3c7ba0828b9f121d569ab6bdb16faa1c8d544d6"), looks := true }, kinds := [], alts := [], laidByText := true, laidKinds := [.data, .data], laidTests := true, laidLooks := .later }
def FnExactPackTightCardSaid : Prop := Claim7.holds Tryd.pinned (.plain (OpenSpec.ofChange fnExactPackTightSpec)) fnExactPackTightCard

/-- THE TIED CARD OF 'laws.FnExactWriteTight'. -/
def fnExactWriteTightCard : Claim7 := { stood := { row := fnExactWriteTightRow, standIns := [], harness := (true, "2625b3b7c0cde9c65fb096f1f3c7ba0828b9f121d569ab6bdb16faa1c8d544d6"), looks := true }, kinds := [], alts := [], laidByText := true, laidKinds := [.data, .data], laidTests := true, laidLooks := .later }
def FnExactWriteTightCardSaid : Prop := Claim7.holds Tryd.pinned (.plain (OpenSpec.ofChange fnExactWriteTightSpec)) fnExactWriteTightCard

/-- THE TIED CARD OF 'laws.FnExactLessTight'. -/
def fnExactLessTightCard : Claim7 := { stood := { row := fnExactLessTightRow, standIns := [], harness := (true, "2625b3b7c0cde9c65fb096f1f3c7ba0828b9f121d569ab6bdb16faa1c8d544d6"), looks := true }, kinds := [], alts := [], laidByText := true, laidKinds := [.data, .data], laidTests := true, laidLooks := .later }
def FnExactLessTightCardSaid : Prop := Claim7.holds Tryd.pinned (.plain (OpenSpec.ofChange fnExactLessTightSpec)) fnExactLessTightCard

/-- THE TIED CARD OF 'laws.FnExactSortTight'. -/
def fnExactSortTightCard : Claim7 := { stood := { row := fnExactSortTightRow, standIns := [], harness := (true, "2625b3b7c0cde9c65fb096f1f3c7ba0828b9f121d569ab6bdb16faa1c8d544d6"), looks := true }, kinds := [], alts := [], laidByText := true, laidKinds := [.data, .data], laidTests := true, laidLooks := .later }
def FnExactSortTightCardSaid : Prop := Claim7.holds Tryd.pinned (.plain (OpenSpec.ofChange fnExactSortTightSpec)) fnExactSortTightCard

/-- THE TIED CARD OF 'laws.FnExactSizeTight'. -/
def fnExactSizeTightCard : Claim7 := { stood := { row := fnExactSizeTightRow, standIns := [], harness := (true, "2625b3b7c0cde9c65fb096f1f3c7ba0828b9f121d569ab6bdb16faa1c8d544d6"), looks := true }, kinds := [], alts := [], laidByText := true, laidKinds := [.data, .data], laidTests := true, laidLooks := .later }
def FnExactSizeTightCardSaid : Prop := Claim7.holds Tryd.pinned (.plain (OpenSpec.ofChange fnExactSizeTightSpec)) fnExactSizeTightCard

/-- THE SECOND FORM's CARD OF 'laws.FnExactFitsTight'. -/
def fnExactFitsTightUptoCard : Claim7 := { stood := { row := fnExactFitsTightUptoRow, standIns := [], harness := (true, "2625b3b7c0cde9c65fb096f1f3c7ba0828b9f121d569ab6bdb16faa1c8d544d6"), looks := true }, kinds := [], alts := [], laidByText := true, laidKinds := [.data, .data], laidTests := true, laidLooks := .later }
def FnExactFitsTightUptoCardSaid : Prop := Claim7.holds Tryd.pinned (.plain (OpenSpec.upto fnExactFitsTightSpec)) fnExactFitsTightUptoCard

/-- THE SECOND FORM's CARD OF 'laws.FnExactPackTight'. -/
def fnExactPackTightUptoCard : Claim7 := { stood := { row := fnExactPackTightUptoRow, standIns := [], harness := (true, "2625b3b7c0cde9c65fb096f1f3c7ba0828b9f121d569ab6bdb16faa1c8d544d6"), looks := true }, kinds := [], alts := [], laidByText := true, laidKinds := [.data, .data], laidTests := true, laidLooks := .later }
def FnExactPackTightUptoCardSaid : Prop := Claim7.holds Tryd.pinned (.plain (OpenSpec.upto fnExactPackTightSpec)) fnExactPackTightUptoCard

/-- THE SECOND FORM's CARD OF 'laws.FnExactWriteTight'. -/
def fnExactWriteTightUptoCard : Claim7 := { stood := { row := fnExactWriteTightUptoRow, standIns := [], harness := (true, "2625b3b7c0cde9c65fb096f1f3c7ba0828b9f121d569ab6bdb16faa1c8d544d6"), looks := true }, kinds := [], alts := [], laidByText := true, laidKinds := [.data, .data], laidTests := true, laidLooks := .later }
def FnExactWriteTightUptoCardSaid : Prop := Claim7.holds Tryd.pinned (.plain (OpenSpec.upto fnExactWriteTightSpec)) fnExactWriteTightUptoCard

/-- THE SECOND FORM's CARD OF 'laws.FnExactLessTight'. -/
def fnExactLessTightUptoCard : Claim7 := { stood := { row := fnExactLessTightUptoRow, standIns := [], harness := (true, "2625b3b7c0cde9c65fb096f1f3c7ba0828b9f121d569ab6bdb16faa1c8d544d6"), looks := true }, kinds := [], alts := [], laidByText := true, laidKinds := [.data, .data], laidTests := true, laidLooks := .later }
def FnExactLessTightUptoCardSaid : Prop := Claim7.holds Tryd.pinned (.plain (OpenSpec.upto fnExactLessTightSpec)) fnExactLessTightUptoCard

/-- THE SECOND FORM's CARD OF 'laws.FnExactSortTight'. -/
def fnExactSortTightUptoCard : Claim7 := { stood := { row := fnExactSortTightUptoRow, standIns := [], harness := (true, "2625b3b7c0cde9c65fb096f1f3c7ba0828b9f121d569ab6bdb16faa1c8d544d6"), looks := true }, kinds := [], alts := [], laidByText := true, laidKinds := [.data, .data], laidTests := true, laidLooks := .later }
def FnExactSortTightUptoCardSaid : Prop := Claim7.holds Tryd.pinned (.plain (OpenSpec.upto fnExactSortTightSpec)) fnExactSortTightUptoCard

/-- THE SECOND FORM's CARD OF 'laws.FnExactSizeTight'. -/
def fnExactSizeTightUptoCard : Claim7 := { stood := { row := fnExactSizeTightUptoRow, standIns := [], harness := (true, "2625b3b7c0cde9c65fb096f1f3c7ba0828b9f121d569ab6bdb16faa1c8d544d6"), looks := true }, kinds := [], alts := [], laidByText := true, laidKinds := [.data, .data], laidTests := true, laidLooks := .later }
def FnExactSizeTightUptoCardSaid : Prop := Claim7.holds Tryd.pinned (.plain (OpenSpec.upto fnExactSizeTightSpec)) fnExactSizeTightUptoCard
end Rows
end Go.Proofs.YtilgncebhgplaaaDoor
