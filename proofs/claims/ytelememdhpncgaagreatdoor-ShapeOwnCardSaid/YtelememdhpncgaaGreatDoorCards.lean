/-
  DERIVED. GIVEN WITH THE SEED: THE CARDS: each row of YtelememdhpncgaaGreatDoorRows.lean that lists a variable, with what it lists TIED to the program's text (the seventh form; the later family's looks); each row that meets fmt, with fmt's text TOLD by the authors' own Lean function (tested against real Go, not proved from fmt's source: count such statements apart). THE CARD IS WHAT COUNTS. Prove the row's statement (the work); the ties are given (YtelememdhpncgaaGreatDoorTie.lean); close each card by the builder's one call (the guide's Derived/Test/ToyasCard.lean, 'card_holds'). Laid BY PROGRAM, IN A SANDBOX (cutbox-door.mjs). By AI agents, Wed Nov 11 2026. No macro, syntax, notation, axiom, sorry.
-/
import Derived.Test.YtelememdhpncgaaGreatDoorRows
import GoSem.ClaimSeven
namespace Go.Proofs.YtelememdhpncgaaGreatDoor
namespace Rows

/-- THE TIED CARD OF 'paraphrastlaw01.ShapePermutes'. -/
def shapePermutesCard : Claim7 := { stood := { row := shapePermutesRow, standIns := [], harness := (true, "7e14db127b11582d92497479e32146222e6ee224b7d4af46e11727007c06220e"), looks := true }, kinds := [], alts := [], laidByText := true, laidKinds := [.data, .data, .data, .sentinel, .sentinel], laidTests := true, laidLooks := .later }
def ShapePermutesCardSaid : Prop := Claim7.holds Tryz.pinned (.plain (OpenSpec.ofChange shapePermutesSpec)) shapePermutesCard

/-- THE TIED CARD OF 'paraphrastlaw01.ShapeOwn'. -/
def shapeOwnCard : Claim7 := { stood := { row := shapeOwnRow, standIns := [], harness := (true, "7e14db127b11582d92497479e32146222e6ee224b7d4af46e11727007c06220e"), looks := true }, kinds := [], alts := [], laidByText := true, laidKinds := [.data, .data, .data, .sentinel, .sentinel], laidTests := true, laidLooks := .later }
def ShapeOwnCardSaid : Prop := Claim7.holds Tryz.pinned (.plain (OpenSpec.ofChange shapeOwnSpec)) shapeOwnCard

/-- THE SECOND FORM's CARD OF 'paraphrastlaw01.ShapePermutes'. -/
def shapePermutesUptoCard : Claim7 := { stood := { row := shapePermutesUptoRow, standIns := [], harness := (true, "7e14db127b11582d92497479e32146222e6ee224b7d4af46e11727007c06220e"), looks := true }, kinds := [], alts := [], laidByText := true, laidKinds := [.data, .data, .data, .sentinel, .sentinel], laidTests := true, laidLooks := .later }
def ShapePermutesUptoCardSaid : Prop := Claim7.holds Tryz.pinned (.plain (OpenSpec.upto shapePermutesSpec)) shapePermutesUptoCard

/-- THE SECOND FORM's CARD OF 'paraphrastlaw01.ShapeOwn'. -/
def shapeOwnUptoCard : Claim7 := { stood := { row := shapeOwnUptoRow, standIns := [], harness := (true, "7e14db127b11582d92497479e32146222e6ee224b7d4af46e11727007c06220e"), looks := true }, kinds := [], alts := [], laidByText := true, laidKinds := [.data, .data, .data, .sentinel, .sentinel], laidTests := true, laidLooks := .later }
def ShapeOwnUptoCardSaid : Prop := Claim7.holds Tryz.pinned (.plain (OpenSpec.upto shapeOwnSpec)) shapeOwnUptoCard
end Rows
end Go.Proofs.YtelememdhpncgaaGreatDoor
