/-
  DERIVED. GIVEN WITH THE SEED: THE CARDS: each row of YtjfjbocaplpdfaaDoorRows.lean that lists a variable, with what it lists TIED to the program's text (the seventh form; the later family's looks); each row that meets fmt, with fmt's text TOLD by the authors' own Lean function (tested against real Go, not proved from fmt's source: count such statements apart). THE CARD IS WHAT COUNTS. Prove the row's statement (the work); the ties are given (YtjfjbocaplpdfaaDoorTie.lean); close each card by the builder's one call (the guide's Derived/Test/ToyasCard.lean, 'card_holds'). Laid BY PROGRAM, IN A SANDBOX (cutbox-door.mjs). By AI agents, Wed Nov 11 2026. No macro, syntax, notation, axiom, sorry.
-/
import Derived.Test.YtjfjbocaplpdfaaDoorRows
import GoSem.ClaimSeven
namespace Go.Proofs.YtjfjbocaplpdfaaDoor
namespace Rows

/-- THE TIED CARD OF 'laws.FnFlts'. -/
def fnFltsCard : Claim7 := { stood := { row := fnFltsRow, standIns := [], harness := (true, "888a64d38ef36f1ebd7ab17f0c436e6c71e762fd5ec9ca77700a966ad68accf2"), looks := false }, kinds := [], alts := [], laidByText := true, laidKinds := [.data, .data, .data], laidTests := true, laidLooks := .later }
def FnFltsCardSaid : Prop := Claim7.holds Tryd.pinned (.plain (OpenSpec.ofChange fnFltsSpec)) fnFltsCard

/-- THE TIED CARD OF 'laws.FnExactFltText'. -/
def fnExactFltTextCard : Claim7 := { stood := { row := fnExactFltTextRow, standIns := [], harness := (true, "888a64d38ef36f1ebd7ab17f0c436e6c71e762fd5ec9ca77700a966ad68accf2"), looks := false }, kinds := [], alts := [], laidByText := true, laidKinds := [.data, .data, .data], laidTests := true, laidLooks := .later }
def FnExactFltTextCardSaid : Prop := Claim7.holds Tryd.pinned (.plain (OpenSpec.ofChange fnExactFltTextSpec)) fnExactFltTextCard

/-- THE SECOND FORM's CARD OF 'laws.FnFlts'. -/
def fnFltsUptoCard : Claim7 := { stood := { row := fnFltsUptoRow, standIns := [], harness := (true, "888a64d38ef36f1ebd7ab17f0c436e6c71e762fd5ec9ca77700a966ad68accf2"), looks := false }, kinds := [], alts := [], laidByText := true, laidKinds := [.data, .data, .data], laidTests := true, laidLooks := .later }
def FnFltsUptoCardSaid : Prop := Claim7.holds Tryd.pinned (.plain (OpenSpec.upto fnFltsSpec)) fnFltsUptoCard

/-- THE SECOND FORM's CARD OF 'laws.FnExactFltText'. -/
def fnExactFltTextUptoCard : Claim7 := { stood := { row := fnExactFltTextUptoRow, standIns := [], harness := (true, "888a64d38ef36f1ebd7ab17f0c436e6c71e762fd5ec9ca77700a966ad68accf2"), looks := false }, kinds := [], alts := [], laidByText := true, laidKinds := [.data, .data, .data], laidTests := true, laidLooks := .later }
def FnExactFltTextUptoCardSaid : Prop := Claim7.holds Tryd.pinned (.plain (OpenSpec.upto fnExactFltTextSpec)) fnExactFltTextUptoCard
end Rows
end Go.Proofs.YtjfjbocaplpdfaaDoor
