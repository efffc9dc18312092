/-
  DERIVED. GIVEN WITH THE SEED: THE CARDS: each row of YtnikcgmbkmbloaaGreatDoorRows.lean that lists a variable, with what it lists TIED to the program's text (the seventh form; the later family's looks); each row that meets fmt, with fmt's text TOLD by the authors' own Lean function (tested against real Go, not proved from fmt's source: count such statements apart). THE CARD IS WHAT COUNTS. Prove the row's statement (the work); the ties are given (YtnikcgmbkmbloaaGreatDoorTie.lean); close each card by the builder's one call (the guide's Derived/Test/ToyasCard.lean, 'card_holds'). Laid BY PROGRAM, IN A SANDBOX (cutbox-door.mjs). By AI agents, Wed Nov 11 2026. No macro, syntax, notation, axiom, sorry.
-/
import Derived.Test.YtnikcgmbkmbloaaGreatDoorRows
import GoSem.ClaimSeven
namespace Go.Proofs.YtnikcgmbkmbloaaGreatDoor
namespace Rows

/-- THE TIED CARD OF 'laws.FnTextWays'. -/
def fnTextWaysCard : Claim7 := { stood := { row := fnTextWaysRow, standIns := [], harness := (true, "dfaa33a6947277dbd546391067d004ea4478b68bc0259162f26d41e242708549"), looks := true }, kinds := [], alts := [], laidByText := true, laidKinds := [.data, .data, .data, .data, .sentinel, .sentinel, .pinned], laidTests := true, laidLooks := .later }
def FnTextWaysCardSaid : Prop := Claim7.holds Tryz.pinned (.plain (OpenSpec.ofChange fnTextWaysSpec)) fnTextWaysCard

/-- THE TIED CARD OF 'laws.FnTextBent'. -/
def fnTextBentCard : Claim7 := { stood := { row := fnTextBentRow, standIns := [], harness := (true, "dfaa33a6947277dbd546391067d004ea4478b68bc0259162f26d41e242708549"), looks := true }, kinds := [], alts := [], laidByText := true, laidKinds := [.data, .data, .data, .data, .sentinel, .sentinel, .pinned], laidTests := true, laidLooks := .later }
def FnTextBentCardSaid : Prop := Claim7.holds Tryz.pinned (.plain (OpenSpec.ofChange fnTextBentSpec)) fnTextBentCard

/-- THE TIED CARD OF 'laws.FnExactWriteText'. -/
def fnExactWriteTextCard : Claim7 := { stood := { row := fnExactWriteTextRow, standIns := [], harness := (true, "dfaa33a6947277dbd546391067d004ea4478b68bc0259162f26d41e242708549"), looks := true }, kinds := [], alts := [], laidByText := true, laidKinds := [.data, .data, .data], laidTests := true, laidLooks := .later }
def FnExactWriteTextCardSaid : Prop := Claim7.holds Tryz.pinned (.plain (OpenSpec.ofChange fnExactWriteTextSpec)) fnExactWriteTextCard

/-- THE TIED CARD OF 'laws.FnExactReadText'. -/
def fnExactReadTextCard : Claim7 := { stood := { row := fnExactReadTextRow, standIns := [], harness := (true, "dfaa33a6947277dbd546391067d004ea4478b68bc0259162f26d41e242708549"), looks := true }, kinds := [], alts := [], laidByText := true, laidKinds := [.data, .data, .data, .data, .sentinel, .sentinel, .pinned], laidTests := true, laidLooks := .later }
def FnExactReadTextCardSaid : Prop := Claim7.holds Tryz.pinned (.plain (OpenSpec.ofChange fnExactReadTextSpec)) fnExactReadTextCard

/-- THE TIED CARD OF 'laws.FnExactReformat'. -/
def fnExactReformatCard : Claim7 := { stood := { row := fnExactReformatRow, standIns := [], harness := (true, "dfaa33a6947277dbd546391067d004ea4478b68bc0259162f26d41e242708549"), looks := true }, kinds := [], alts := [], laidByText := true, laidKinds := [.data, .data, .data, .data, .sentinel, .sentinel, .pinned], laidTests := true, laidLooks := .later }
def FnExactReformatCardSaid : Prop := Claim7.holds Tryz.pinned (.plain (OpenSpec.ofChange fnExactReformatSpec)) fnExactReformatCard

/-- THE TIED CARD OF 'laws.FnExactTokensOf'. -/
def fnExactTokensOfCard : Claim7 := { stood := { row := fnExactTokensOfRow, standIns := [], harness := (true, "dfaa33a6947277dbd546391067d004ea4478b68bc0259162f26d41e242708549"), looks := true }, kinds := [], alts := [], laidByText := true, laidKinds := [.data, .data, .data, .data, .sentinel, .sentinel, .pinned], laidTests := true, laidLooks := .later }
def FnExactTokensOfCardSaid : Prop := Claim7.holds Tryz.pinned (.plain (OpenSpec.ofChange fnExactTokensOfSpec)) fnExactTokensOfCard

/-- THE SECOND FORM's CARD OF 'laws.FnTextWays'. -/
def fnTextWaysUptoCard : Claim7 := { stood := { row := fnTextWaysUptoRow, standIns := [], harness := (true, "dfaa33a6947277dbd546391067d004ea4478b68bc0259162f26d41e242708549"), looks := true }, kinds := [], alts := [], laidByText := true, laidKinds := [.data, .data, .data, .data, .sentinel, .sentinel, .pinned], laidTests := true, laidLooks := .later }
def FnTextWaysUptoCardSaid : Prop := Claim7.holds Tryz.pinned (.plain (OpenSpec.upto fnTextWaysSpec)) fnTextWaysUptoCard

/-- THE SECOND FORM's CARD OF 'laws.FnTextBent'. -/
def fnTextBentUptoCard : Claim7 := { stood := { row := fnTextBentUptoRow, standIns := [], harness := (true, "dfaa33a6947277dbd546391067d004ea4478b68bc0259162f26d41e242708549"), looks := true }, kinds := [], alts := [], laidByText := true, laidKinds := [.data, .data, .data, .data, .sentinel, .sentinel, .pinned], laidTests := true, laidLooks := .later }
def FnTextBentUptoCardSaid : Prop := Claim7.holds Tryz.pinned (.plain (OpenSpec.upto fnTextBentSpec)) fnTextBentUptoCard

/-- THE SECOND FORM's CARD OF 'laws.FnExactWriteText'. -/
def fnExactWriteTextUptoCard : Claim7 := { stood := { row := fnExactWriteTextUptoRow, standIns := [], harness := (true, "dfaa33a6947277dbd546391067d004ea4478b68bc0259162f26d41e242708549"), looks := true }, kinds := [], alts := [], laidByText := true, laidKinds := [.data, .data, .data], laidTests := true, laidLooks := .later }
def FnExactWriteTextUptoCardSaid : Prop := Claim7.holds Tryz.pinned (.plain (OpenSpec.upto fnExactWriteTextSpec)) fnExactWriteTextUptoCard

/-- THE SECOND FORM's CARD OF 'laws.FnExactReadText'. -/
def fnExactReadTextUptoCard : Claim7 := { stood := { row := fnExactReadTextUptoRow, standIns := [], harness := (true, "dfaa33a6947277dbd546391067d004ea4478b68bc0259162f26d41e242708549"), looks := true }, kinds := [], alts := [], laidByText := true, laidKinds := [.data, .data, .data, .data, .sentinel, .sentinel, .pinned], laidTests := true, laidLooks := .later }
def FnExactReadTextUptoCardSaid : Prop := Claim7.holds Tryz.pinned (.plain (OpenSpec.upto fnExactReadTextSpec)) fnExactReadTextUptoCard

/-- THE SECOND FORM's CARD OF 'laws.FnExactReformat'. -/
def fnExactReformatUptoCard : Claim7 := { stood := { row := fnExactReformatUptoRow, standIns := [], harness := (true, "dfaa33a6947277dbd546391067d004ea4478b68bc0259162f26d41e242708549"), looks := true }, kinds := [], alts := [], laidByText := true, laidKinds := [.data, .data, .data, .data, .sentinel, .sentinel, .pinned], laidTests := true, laidLooks := .later }
def FnExactReformatUptoCardSaid : Prop := Claim7.holds Tryz.pinned (.plain (OpenSpec.upto fnExactReformatSpec)) fnExactReformatUptoCard

/-- THE SECOND FORM's CARD OF 'laws.FnExactTokensOf'. -/
def fnExactTokensOfUptoCard : Claim7 := { stood := { row := fnExactTokensOfUptoRow, standIns := [], harness := (true, "dfaa33a6947277dbd546391067d004ea4478b68bc0259162f26d41e242708549"), looks := true }, kinds := [], alts := [], laidByText := true, laidKinds := [.data, .data, .data, .data, .sentinel, .sentinel, .pinned], laidTests := true, laidLooks := .later }
def FnExactTokensOfUptoCardSaid : Prop := Claim7.holds Tryz.pinned (.plain (OpenSpec.upto fnExactTokensOfSpec)) fnExactTokensOfUptoCard
end Rows
end Go.Proofs.YtnikcgmbkmbloaaGreatDoor
