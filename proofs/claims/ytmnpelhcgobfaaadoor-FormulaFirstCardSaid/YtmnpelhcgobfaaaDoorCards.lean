/-
  DERIVED. GIVEN WITH THE SEED: THE CARDS: each row of YtmnpelhcgobfaaaDoorRows.lean that lists a variable, with what it lists TIED to the program's text (the seventh form; the later family's looks); each row that meets fmt, with fmt's text TOLD by the authors' own Lean function (tested against real Go, not proved from fmt's source: count such statements apart). THE CARD IS WHAT COUNTS. Prove the row's statement (the work); the ties are given (YtmnpelhcgobfaaaDoorTie.lean); close each card by the builder's one call (the guide's Derived/Test/ToyasCard.lean, 'card_holds'). Laid BY PROGRAM, IN A SANDBOX (cutbox-door.mjs). By AI agents, Wed Nov 11 2026. No macro, syntax, notation, axiom, sorry.
-/
import Derived.Test.YtmnpelhcgobfaaaDoorRows
import GoSem.ClaimSeven
namespace Go.Proofs.YtmnpelhcgobfaaaDoor
namespace Rows

/-- THE TIED CARD OF 'paraphrastlaw02.FormulaBlanks'. -/
def formulaBlanksCard : Claim7 := { stood := { row := formulaBlanksRow, standIns := [], harness := (true, "1c5b10d3eed3688f3f5b97ad32cdce32f8c0c7bda1e68313c0a340f6c660c54c"), looks := true }, kinds := [], alts := [], laidByText := true, laidKinds := [.data, .data, .data, .sentinel, .sentinel, .data], laidTests := true, laidLooks := .later }
def FormulaBlanksCardSaid : Prop := Claim7.holds Tryd.pinned (.plain (OpenSpec.ofChange formulaBlanksSpec)) formulaBlanksCard

/-- THE TIED CARD OF 'paraphrastlaw02.FormulaFirst'. -/
def formulaFirstCard : Claim7 := { stood := { row := formulaFirstRow, standIns := [], harness := (true, "1c5b10d3eed3688f3f5b97ad32cdce32f8c0c7bda1e68313c0a340f6c660c54c"), looks := true }, kinds := [], alts := [], laidByText := true, laidKinds := [.data, .data, .data, .sentinel, .sentinel, .data], laidTests := true, laidLooks := .later }
def FormulaFirstCardSaid : Prop := Claim7.holds Tryd.pinned (.plain (OpenSpec.ofChange formulaFirstSpec)) formulaFirstCard

/-- THE TIED CARD OF 'paraphrastlaw02.FormulaFree'. -/
def formulaFreeCard : Claim7 := { stood := { row := formulaFreeRow, standIns := [], harness := (true, "1c5b10d3eed3688f3f5b97ad32cdce32f8c0c7bda1e68313c0a340f6c660c54c"), looks := true }, kinds := [], alts := [], laidByText := true, laidKinds := [.data, .data, .data, .sentinel, .sentinel, .data], laidTests := true, laidLooks := .later }
def FormulaFreeCardSaid : Prop := Claim7.holds Tryd.pinned (.plain (OpenSpec.ofChange formulaFreeSpec)) formulaFreeCard

/-- THE TIED CARD OF 'paraphrastlaw02.FormulaPositive'. -/
def formulaPositiveCard : Claim7 := { stood := { row := formulaPositiveRow, standIns := [], harness := (true, "1c5b10d3eed3688f3f5b97ad32cdce32f8c0c7bda1e68313c0a340f6c660c54c"), looks := true }, kinds := [], alts := [], laidByText := true, laidKinds := [.data, .data, .data, .sentinel, .sentinel, .data], laidTests := true, laidLooks := .later }
def FormulaPositiveCardSaid : Prop := Claim7.holds Tryd.pinned (.plain (OpenSpec.ofChange formulaPositiveSpec)) formulaPositiveCard

/-- THE SECOND FORM's CARD OF 'paraphrastlaw02.FormulaBlanks'. -/
def formulaBlanksUptoCard : Claim7 := { stood := { row := formulaBlanksUptoRow, standIns := [], harness := (true, "1c5b10d3eed3688f3f5b97ad32cdce32f8c0c7bda1e68313c0a340f6c660c54c"), looks := true }, kinds := [], alts := [], laidByText := true, laidKinds := [.data, .data, .data, .sentinel, .sentinel, .data], laidTests := true, laidLooks := .later }
def FormulaBlanksUptoCardSaid : Prop := Claim7.holds Tryd.pinned (.plain (OpenSpec.upto formulaBlanksSpec)) formulaBlanksUptoCard

/-- THE SECOND FORM's CARD OF 'paraphrastlaw02.FormulaFirst'. -/
def formulaFirstUptoCard : Claim7 := { stood := { row := formulaFirstUptoRow, standIns := [], harness := (true, "1c5b10d3eed3688f3f5b97ad32cdce32f8c0c7bda1e68313c0a340f6c660c54c"), looks := true }, kinds := [], alts := [], laidByText := true, laidKinds := [.data, .data, .data, .sentinel, .sentinel, .data], laidTests := true, laidLooks := .later }
def FormulaFirstUptoCardSaid : Prop := Claim7.holds Tryd.pinned (.plain (OpenSpec.upto formulaFirstSpec)) formulaFirstUptoCard

/-- THE SECOND FORM's CARD OF 'paraphrastlaw02.FormulaFree'. -/
def formulaFreeUptoCard : Claim7 := { stood := { row := formulaFreeUptoRow, standIns := [], harness := (true, "1c5b10d3eed3688f3f5b97ad32cdce32f8c0c7bda1e68313c0a340f6c660c54c"), looks := true }, kinds := [], alts := [], laidByText := true, laidKinds := [.data, .data, .data, .sentinel, .sentinel, .data], laidTests := true, laidLooks := .later }
def FormulaFreeUptoCardSaid : Prop := Claim7.holds Tryd.pinned (.plain (OpenSpec.upto formulaFreeSpec)) formulaFreeUptoCard

/-- THE SECOND FORM's CARD OF 'paraphrastlaw02.FormulaPositive'. -/
def formulaPositiveUptoCard : Claim7 := { stood := { row := formulaPositiveUptoRow, standIns := [], harness := (true, "1c5b10d3eed3688f3f5b97ad32cdce32f8c0c7bda1e68313c0a340f6c660c54c"), looks := true }, kinds := [], alts := [], laidByText := true, laidKinds := [.data, .data, .data, .sentinel, .sentinel, .data], laidTests := true, laidLooks := .later }
def FormulaPositiveUptoCardSaid : Prop := Claim7.holds Tryd.pinned (.plain (OpenSpec.upto formulaPositiveSpec)) formulaPositiveUptoCard
end Rows
end Go.Proofs.YtmnpelhcgobfaaaDoor
