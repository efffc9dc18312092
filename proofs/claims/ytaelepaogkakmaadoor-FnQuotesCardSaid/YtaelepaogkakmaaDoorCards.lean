/-
  DERIVED. GIVEN WITH THE SEED: THE CARDS: each row of YtaelepaogkakmaaDoorRows.lean that lists a variable, with what it lists TIED to the program's text (the seventh form; the later family's looks); each row that meets fmt, with fmt's text TOLD by the authors' own Lean function (tested against real Go, not proved from fmt's source: count such statements apart). THE CARD IS WHAT COUNTS. Prove the row's statement (the work); the ties are given (YtaelepaogkakmaaDoorTie.lean); close each card by the builder's one call (the guide's Derived/Test/ToyasCard.lean, 'card_holds'). Laid BY PROGRAM, IN A SANDBOX (cutbox-door.mjs). By AI agents, Wed Nov 11 2026. No macro, syntax, notation, axiom, sorry.
-/
import Derived.Test.YtaelepaogkakmaaDoorRows
import GoSem.ClaimSeven
namespace Go.Proofs.YtaelepaogkakmaaDoor
namespace Rows

/-- THE TIED CARD OF 'laws.FnQuotes'. -/
def fnQuotesCard : Claim7 := { stood := { row := fnQuotesRow, standIns := [], harness := (true, "f91c722f3ee6ca6cc72c12ffdf269c58f9e5aa2df27db9932ed4cc6e91658aa5"), looks := true }, kinds := [], alts := [], laidByText := true, laidKinds := [.data, .data, .data, .data, .sentinel, .sentinel, .pinned], laidTests := true, laidLooks := .later }
def FnQuotesCardSaid : Prop := Claim7.holds Tryd.pinned (.plain (OpenSpec.ofChange fnQuotesSpec)) fnQuotesCard

/-- THE TIED CARD OF 'laws.FnEscapes'. -/
def fnEscapesCard : Claim7 := { stood := { row := fnEscapesRow, standIns := [], harness := (true, "f91c722f3ee6ca6cc72c12ffdf269c58f9e5aa2df27db9932ed4cc6e91658aa5"), looks := true }, kinds := [], alts := [], laidByText := true, laidKinds := [.data, .data, .data, .data, .sentinel, .sentinel, .pinned], laidTests := true, laidLooks := .later }
def FnEscapesCardSaid : Prop := Claim7.holds Tryd.pinned (.plain (OpenSpec.ofChange fnEscapesSpec)) fnEscapesCard

/-- THE TIED CARD OF 'laws.FnExactReadQuoted'. -/
def fnExactReadQuotedCard : Claim7 := { stood := { row := fnExactReadQuotedRow, standIns := [], harness := (true, "f91c722f3ee6ca6cc72c12ffdf269c58f9e5aa2df27db9932ed4cc6e91658aa5"), looks := true }, kinds := [], alts := [], laidByText := true, laidKinds := [.data, .data, .data, .data, .sentinel, .sentinel, .pinned], laidTests := true, laidLooks := .later }
def FnExactReadQuotedCardSaid : Prop := Claim7.holds Tryd.pinned (.plain (OpenSpec.ofChange fnExactReadQuotedSpec)) fnExactReadQuotedCard

/-- THE TIED CARD OF 'laws.FnExactReadFour'. -/
def fnExactReadFourCard : Claim7 := { stood := { row := fnExactReadFourRow, standIns := [], harness := (true, "f91c722f3ee6ca6cc72c12ffdf269c58f9e5aa2df27db9932ed4cc6e91658aa5"), looks := true }, kinds := [], alts := [], laidByText := true, laidKinds := [.data, .data, .data, .sentinel, .sentinel], laidTests := true, laidLooks := .later }
def FnExactReadFourCardSaid : Prop := Claim7.holds Tryd.pinned (.plain (OpenSpec.ofChange fnExactReadFourSpec)) fnExactReadFourCard

/-- THE SECOND FORM's CARD OF 'laws.FnQuotes'. -/
def fnQuotesUptoCard : Claim7 := { stood := { row := fnQuotesUptoRow, standIns := [], harness := (true, "f91c722f3ee6ca6cc72c12ffdf269c58f9e5aa2df27db9932ed4cc6e91658aa5"), looks := true }, kinds := [], alts := [], laidByText := true, laidKinds := [.data, .data, .data, .data, .sentinel, .sentinel, .pinned], laidTests := true, laidLooks := .later }
def FnQuotesUptoCardSaid : Prop := Claim7.holds Tryd.pinned (.plain (OpenSpec.upto fnQuotesSpec)) fnQuotesUptoCard

/-- THE SECOND FORM's CARD OF 'laws.FnEscapes'. -/
def fnEscapesUptoCard : Claim7 := { stood := { row := fnEscapesUptoRow, standIns := [], harness := (true, "f91c722f3ee6ca6cc72c12ffdf269c58f9e5aa2df27db9932ed4cc6e91658aa5"), looks := true }, kinds := [], alts := [], laidByText := true, laidKinds := [.data, .data, .data, .data, .sentinel, .sentinel, .pinned], laidTests := true, laidLooks := .later }
def FnEscapesUptoCardSaid : Prop := Claim7.holds Tryd.pinned (.plain (OpenSpec.upto fnEscapesSpec)) fnEscapesUptoCard

/-- THE SECOND FORM's CARD OF 'laws.FnExactReadQuoted'. -/
def fnExactReadQuotedUptoCard : Claim7 := { stood := { row := fnExactReadQuotedUptoRow, standIns := [], harness := (true, "f91c722f3ee6ca6cc72c12ffdf269c58f9e5aa2df27db9932ed4cc6e91658aa5"), looks := true }, kinds := [], alts := [], laidByText := true, laidKinds := [.data, .data, .data, .data, .sentinel, .sentinel, .pinned], laidTests := true, laidLooks := .later }
def FnExactReadQuotedUptoCardSaid : Prop := Claim7.holds Tryd.pinned (.plain (OpenSpec.upto fnExactReadQuotedSpec)) fnExactReadQuotedUptoCard

/-- THE SECOND FORM's CARD OF 'laws.FnExactReadFour'. -/
def fnExactReadFourUptoCard : Claim7 := { stood := { row := fnExactReadFourUptoRow, standIns := [], harness := (true, "f91c722f3ee6ca6cc72c12ffdf269c58f9e5aa2df27db9932ed4cc6e91658aa5"), looks := true }, kinds := [], alts := [], laidByText := true, laidKinds := [.data, .data, .data, .sentinel, .sentinel], laidTests := true, laidLooks := .later }
def FnExactReadFourUptoCardSaid : Prop := Claim7.holds Tryd.pinned (.plain (OpenSpec.upto fnExactReadFourSpec)) fnExactReadFourUptoCard
end Rows
end Go.Proofs.YtaelepaogkakmaaDoor
