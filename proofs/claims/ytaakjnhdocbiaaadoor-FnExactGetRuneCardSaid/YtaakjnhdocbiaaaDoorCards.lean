/-
  DERIVED. GIVEN WITH THE SEED: THE CARDS: each row of YtaakjnhdocbiaaaDoorRows.lean that lists a variable, with what it lists TIED to the program's text (the seventh form; the later family's looks); each row that meets fmt, with fmt's text TOLD by the authors' own Lean function (tested against real Go, not proved from fmt's source: count such statements apart). THE CARD IS WHAT COUNTS. Prove the row's statement (the work); the ties are given (YtaakjnhdocbiaaaDoorTie.lean); close each card by the builder's one call (the guide's Derived/Test/ToyasCard.lean, 'card_holds'). Laid BY PROGRAM, IN A SANDBOX (cutbox-door.mjs). By AI agents, Wed Nov 11 2026. No macro, syntax, notation, axiom, sorry.
-/
import Derived.Test.YtaakjnhdocbiaaaDoorRows
import GoSem.ClaimSeven
namespace Go.Proofs.YtaakjnhdocbiaaaDoor
namespace Rows

/-- THE TIED CARD OF 'laws.FnRunes'. -/
def fnRunesCard : Claim7 := { stood := { row := fnRunesRow, standIns := [], harness := (true, "ee966004ca332a72dbca2eb7ad56452ac0bd8b1af9b9d1e022454fd1561a61ab"), looks := false }, kinds := [], alts := [], laidByText := true, laidKinds := [.data, .pinned], laidTests := true, laidLooks := .later }
def FnRunesCardSaid : Prop := Claim7.holds Tryd.pinned (.plain (OpenSpec.ofChange fnRunesSpec)) fnRunesCard

/-- THE TIED CARD OF 'laws.FnExactGetRune'. -/
def fnExactGetRuneCard : Claim7 := { stood := { row := fnExactGetRuneRow, standIns := [], harness := (true, "ee966004ca332a72dbca2eb7ad56452ac0bd8b1af9b9d1e022454fd1561a61ab"), looks := false }, kinds := [], alts := [], laidByText := true, laidKinds := [.data, .pinned], laidTests := true, laidLooks := .later }
def FnExactGetRuneCardSaid : Prop := Claim7.holds Tryd.pinned (.plain (OpenSpec.ofChange fnExactGetRuneSpec)) fnExactGetRuneCard

/-- THE SECOND FORM's CARD OF 'laws.FnRunes'. -/
def fnRunesUptoCard : Claim7 := { stood := { row := fnRunesUptoRow, standIns := [], harness := (true, "ee966004ca332a72dbca2eb7ad56452ac0bd8b1af9b9d1e022454fd1561a61ab"), looks := false }, kinds := [], alts := [], laidByText := true, laidKinds := [.data, .pinned], laidTests := true, laidLooks := .later }
def FnRunesUptoCardSaid : Prop := Claim7.holds Tryd.pinned (.plain (OpenSpec.upto fnRunesSpec)) fnRunesUptoCard

/-- THE SECOND FORM's CARD OF 'laws.FnExactGetRune'. -/
def fnExactGetRuneUptoCard : Claim7 := { stood := { row := fnExactGetRuneUptoRow, standIns := [], harness := (true, "ee966004ca332a72dbca2eb7ad56452ac0bd8b1af9b9d1e022454fd1561a61ab"), looks := false }, kinds := [], alts := [], laidByText := true, laidKinds := [.data, .pinned], laidTests := true, laidLooks := .later }
def FnExactGetRuneUptoCardSaid : Prop := Claim7.holds Tryd.pinned (.plain (OpenSpec.upto fnExactGetRuneSpec)) fnExactGetRuneUptoCard
end Rows
end Go.Proofs.YtaakjnhdocbiaaaDoor
