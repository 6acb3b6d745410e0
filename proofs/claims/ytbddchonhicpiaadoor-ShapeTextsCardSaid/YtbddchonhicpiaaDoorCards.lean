/-
  DERIVED. GIVEN WITH THE SEED: THE CARDS: each row of YtbddchonhicpiaaDoorRows.lean that lists a variable, with what it lists TIED to the program's text (the seventh form; the later family's looks); each row that meets fmt, with fmt's text TOLD by the authors' own Lean function (tested against real Go, not proved from fmt's source: count such statements apart). THE CARD IS WHAT COUNTS. Prove the row's statement (the work); the ties are given (YtbddchonhicpiaaDoorTie.lean); close each card by the builder's one call (the guide's Derived/Test/ToyasCard.lean, 'card_holds'). Laid BY PROGRAM, IN A SANDBOX (cutbox-door.mjs). By AI agents, Wed Nov 11 2026. No macro, syntax, notation, axiom, sorry.
-/
import Derived.Test.YtbddchonhicpiaaDoorRows
import GoSem.ClaimSeven
namespace Go.Proofs.YtbddchonhicpiaaDoor
namespace Rows

/-- THE TIED CARD OF 'paraphrastlaw01.ShapeValid'. -/
def shapeValidCard : Claim7 := { stood := { row := shapeValidRow, standIns := [], harness := (true, "864b47ab6ccb42a8fa268b65796350140b8f17625106af9768e3dacb23d545ed"), looks := true }, kinds := [], alts := [], laidByText := true, laidKinds := [.data, .data, .data, .sentinel, .sentinel], laidTests := true, laidLooks := .later }
def ShapeValidCardSaid : Prop := Claim7.holds Tryd.pinned (.plain (OpenSpec.ofChange shapeValidSpec)) shapeValidCard

/-- THE TIED CARD OF 'paraphrastlaw01.ShapeRanks'. -/
def shapeRanksCard : Claim7 := { stood := { row := shapeRanksRow, standIns := [], harness := (true, "864b47ab6ccb42a8fa268b65796350140b8f17625106af9768e3dacb23d545ed"), looks := true }, kinds := [], alts := [], laidByText := true, laidKinds := [.data, .data, .data, .sentinel, .sentinel], laidTests := true, laidLooks := .later }
def ShapeRanksCardSaid : Prop := Claim7.holds Tryd.pinned (.plain (OpenSpec.ofChange shapeRanksSpec)) shapeRanksCard

/-- THE TIED CARD OF 'paraphrastlaw01.ShapeOrder'. -/
def shapeOrderCard : Claim7 := { stood := { row := shapeOrderRow, standIns := [], harness := (true, "864b47ab6ccb42a8fa268b65796350140b8f17625106af9768e3dacb23d545ed"), looks := true }, kinds := [], alts := [], laidByText := true, laidKinds := [.data, .data, .data, .sentinel, .sentinel], laidTests := true, laidLooks := .later }
def ShapeOrderCardSaid : Prop := Claim7.holds Tryd.pinned (.plain (OpenSpec.ofChange shapeOrderSpec)) shapeOrderCard

/-- THE TIED CARD OF 'paraphrastlaw01.ShapePuts'. -/
def shapePutsCard : Claim7 := { stood := { row := shapePutsRow, standIns := [], harness := (true, "864b47ab6ccb42a8fa268b65796350140b8f17625106af9768e3dacb23d545ed"), looks := true }, kinds := [], alts := [], laidByText := true, laidKinds := [.data, .data, .data, .sentinel, .sentinel], laidTests := true, laidLooks := .later }
def ShapePutsCardSaid : Prop := Claim7.holds Tryd.pinned (.plain (OpenSpec.ofChange shapePutsSpec)) shapePutsCard

/-- THE TIED CARD OF 'paraphrastlaw01.ShapePut'. -/
def shapePutCard : Claim7 := { stood := { row := shapePutRow, standIns := [], harness := (true, "864b47ab6ccb42a8fa268b65796350140b8f17625106af9768e3dacb23d545ed"), looks := true }, kinds := [], alts := [], laidByText := true, laidKinds := [.data, .data, .data, .sentinel, .sentinel], laidTests := true, laidLooks := .later }
def ShapePutCardSaid : Prop := Claim7.holds Tryd.pinned (.plain (OpenSpec.ofChange shapePutSpec)) shapePutCard

/-- THE TIED CARD OF 'paraphrastlaw01.ShapeMakes'. -/
def shapeMakesCard : Claim7 := { stood := { row := shapeMakesRow, standIns := [], harness := (true, "864b47ab6ccb42a8fa268b65796350140b8f17625106af9768e3dacb23d545ed"), looks := true }, kinds := [], alts := [], laidByText := true, laidKinds := [.data, .data, .data, .sentinel, .sentinel], laidTests := true, laidLooks := .later }
def ShapeMakesCardSaid : Prop := Claim7.holds Tryd.pinned (.plain (OpenSpec.ofChange shapeMakesSpec)) shapeMakesCard

/-- THE TIED CARD OF 'paraphrastlaw01.ShapeNames'. -/
def shapeNamesCard : Claim7 := { stood := { row := shapeNamesRow, standIns := [], harness := (true, "864b47ab6ccb42a8fa268b65796350140b8f17625106af9768e3dacb23d545ed"), looks := true }, kinds := [], alts := [], laidByText := true, laidKinds := [.data, .data, .data, .sentinel, .sentinel], laidTests := true, laidLooks := .later }
def ShapeNamesCardSaid : Prop := Claim7.holds Tryd.pinned (.plain (OpenSpec.ofChange shapeNamesSpec)) shapeNamesCard

/-- THE TIED CARD OF 'paraphrastlaw01.ShapeTexts'. -/
def shapeTextsCard : Claim7 := { stood := { row := shapeTextsRow, standIns := [], harness := (true, "864b47ab6ccb42a8fa268b65796350140b8f17625106af9768e3dacb23d545ed"), looks := true }, kinds := [], alts := [], laidByText := true, laidKinds := [.data, .data, .data, .sentinel, .sentinel], laidTests := true, laidLooks := .later }
def ShapeTextsCardSaid : Prop := Claim7.holds Tryd.pinned (.plain (OpenSpec.ofChange shapeTextsSpec)) shapeTextsCard

/-- THE TIED CARD OF 'paraphrastlaw01.ShapeBack'. -/
def shapeBackCard : Claim7 := { stood := { row := shapeBackRow, standIns := [], harness := (true, "864b47ab6ccb42a8fa268b65796350140b8f17625106af9768e3dacb23d545ed"), looks := true }, kinds := [], alts := [], laidByText := true, laidKinds := [.data, .data, .data, .sentinel, .sentinel], laidTests := true, laidLooks := .later }
def ShapeBackCardSaid : Prop := Claim7.holds Tryd.pinned (.plain (OpenSpec.ofChange shapeBackSpec)) shapeBackCard

/-- THE SECOND FORM's CARD OF 'paraphrastlaw01.ShapeValid'. -/
def shapeValidUptoCard : Claim7 := { stood := { row := shapeValidUptoRow, standIns := [], harness := (true, "864b47ab6ccb42a8fa268b65796350140b8f17625106af9768e3dacb23d545ed"), looks := true }, kinds := [], alts := [], laidByText := true, laidKinds := [.data, .data, .data, .sentinel, .sentinel], laidTests := true, laidLooks := .later }
def ShapeValidUptoCardSaid : Prop := Claim7.holds Tryd.pinned (.plain (OpenSpec.upto shapeValidSpec)) shapeValidUptoCard

/-- THE SECOND FORM's CARD OF 'paraphrastlaw01.ShapeRanks'. -/
def shapeRanksUptoCard : Claim7 := { stood := { row := shapeRanksUptoRow, standIns := [], harness := (true, "864b47ab6ccb42a8fa268b65796350140b8f17625106af9768e3dacb23d545ed"), looks := true }, kinds := [], alts := [], laidByText := true, laidKinds := [.data, .data, .data, .sentinel, .sentinel], laidTests := true, laidLooks := .later }
def ShapeRanksUptoCardSaid : Prop := Claim7.holds Tryd.pinned (.plain (OpenSpec.upto shapeRanksSpec)) shapeRanksUptoCard

/-- THE SECOND FORM's CARD OF 'paraphrastlaw01.ShapeOrder'. -/
def shapeOrderUptoCard : Claim7 := { stood := { row := shapeOrderUptoRow, standIns := [], harness := (true, "864b47ab6ccb42a8fa268b65796350140b8f17625106af9768e3dacb23d545ed"), looks := true }, kinds := [], alts := [], laidByText := true, laidKinds := [.data, .data, .data, .sentinel, .sentinel], laidTests := true, laidLooks := .later }
def ShapeOrderUptoCardSaid : Prop := Claim7.holds Tryd.pinned (.plain (OpenSpec.upto shapeOrderSpec)) shapeOrderUptoCard

/-- THE SECOND FORM's CARD OF 'paraphrastlaw01.ShapePuts'. -/
def shapePutsUptoCard : Claim7 := { stood := { row := shapePutsUptoRow, standIns := [], harness := (true, "864b47ab6ccb42a8fa268b65796350140b8f17625106af9768e3dacb23d545ed"), looks := true }, kinds := [], alts := [], laidByText := true, laidKinds := [.data, .data, .data, .sentinel, .sentinel], laidTests := true, laidLooks := .later }
def ShapePutsUptoCardSaid : Prop := Claim7.holds Tryd.pinned (.plain (OpenSpec.upto shapePutsSpec)) shapePutsUptoCard

/-- THE SECOND FORM's CARD OF 'paraphrastlaw01.ShapePut'. -/
def shapePutUptoCard : Claim7 := { stood := { row := shapePutUptoRow, standIns := [], harness := (true, "864b47ab6ccb42a8fa268b65796350140b8f17625106af9768e3dacb23d545ed"), looks := true }, kinds := [], alts := [], laidByText := true, laidKinds := [.data, .data, .data, .sentinel, .sentinel], laidTests := true, laidLooks := .later }
def ShapePutUptoCardSaid : Prop := Claim7.holds Tryd.pinned (.plain (OpenSpec.upto shapePutSpec)) shapePutUptoCard

/-- THE SECOND FORM's CARD OF 'paraphrastlaw01.ShapeMakes'. -/
def shapeMakesUptoCard : Claim7 := { stood := { row := shapeMakesUptoRow, standIns := [], harness := (true, "864b47ab6ccb42a8fa268b65796350140b8f17625106af9768e3dacb23d545ed"), looks := true }, kinds := [], alts := [], laidByText := true, laidKinds := [.data, .data, .data, .sentinel, .sentinel], laidTests := true, laidLooks := .later }
def ShapeMakesUptoCardSaid : Prop := Claim7.holds Tryd.pinned (.plain (OpenSpec.upto shapeMakesSpec)) shapeMakesUptoCard

/-- THE SECOND FORM's CARD OF 'paraphrastlaw01.ShapeNames'. -/
def shapeNamesUptoCard : Claim7 := { stood := { row := shapeNamesUptoRow, standIns := [], harness := (true, "864b47ab6ccb42a8fa268b65796350140b8f17625106af9768e3dacb23d545ed"), looks := true }, kinds := [], alts := [], laidByText := true, laidKinds := [.data, .data, .data, .sentinel, .sentinel], laidTests := true, laidLooks := .later }
def ShapeNamesUptoCardSaid : Prop := Claim7.holds Tryd.pinned (.plain (OpenSpec.upto shapeNamesSpec)) shapeNamesUptoCard

/-- THE SECOND FORM's CARD OF 'paraphrastlaw01.ShapeTexts'. -/
def shapeTextsUptoCard : Claim7 := { stood := { row := shapeTextsUptoRow, standIns := [], harness := (true, "864b47ab6ccb42a8fa268b65796350140b8f17625106af9768e3dacb23d545ed"), looks := true }, kinds := [], alts := [], laidByText := true, laidKinds := [.data, .data, .data, .sentinel, .sentinel], laidTests := true, laidLooks := .later }
def ShapeTextsUptoCardSaid : Prop := Claim7.holds Tryd.pinned (.plain (OpenSpec.upto shapeTextsSpec)) shapeTextsUptoCard

/-- THE SECOND FORM's CARD OF 'paraphrastlaw01.ShapeBack'. -/
def shapeBackUptoCard : Claim7 := { stood := { row := shapeBackUptoRow, standIns := [], harness := (true, "864b47ab6ccb42a8fa268b65796350140b8f17625106af9768e3dacb23d545ed"), looks := true }, kinds := [], alts := [], laidByText := true, laidKinds := [.data, .data, .data, .sentinel, .sentinel], laidTests := true, laidLooks := .later }
def ShapeBackUptoCardSaid : Prop := Claim7.holds Tryd.pinned (.plain (OpenSpec.upto shapeBackSpec)) shapeBackUptoCard
end Rows
end Go.Proofs.YtbddchonhicpiaaDoor
