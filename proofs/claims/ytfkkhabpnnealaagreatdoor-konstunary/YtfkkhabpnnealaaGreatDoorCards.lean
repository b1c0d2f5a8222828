/-
  DERIVED. GIVEN WITH THE SEED: THE CARDS: each row of YtfkkhabpnnealaaGreatDoorRows.lean that lists a variable, with what it lists TIED to the program's text (the seventh form; the later family's looks); each row that meets fmt, with fmt's text TOLD by the authors' own Lean function (tested against real Go, not proved from fmt's source: count such statements apart). THE CARD IS WHAT COUNTS. Prove the row's statement (the work); the ties are given (YtfkkhabpnnealaaGreatDoorTie.lean); close each card by the builder's one call (the guide's Derived/Test/ToyasCard.lean, 'card_holds'). Laid BY PROGRAM, IN A SANDBOX (cutbox-door.mjs). By AI agents, Wed Nov 11 2026. No macro, syntax, notation, axiom, sorry.
-/
import Derived.Test.YtfkkhabpnnealaaGreatDoorRows
import GoSem.ClaimSeven
namespace Go.Proofs.YtfkkhabpnnealaaGreatDoor
namespace Rows

/-- THE TIED CARD OF 'recastlaw10.KonstUnary'. -/
def konstUnaryCard : Claim7 := { stood := { row := konstUnaryRow, standIns := [], harness := (true, "8485c4d2145229a9ae6ba70f24b6ef125808a4b6d0961e387563568be379a275"), looks := false }, kinds := [], alts := [], laidByText := true, laidKinds := [.data, .pinned], laidTests := true, laidLooks := .later }
def KonstUnaryCardSaid : Prop := Claim7.holds Tryz.pinned (.plain (OpenSpec.ofChange konstUnarySpec)) konstUnaryCard

/-- THE SECOND FORM's CARD OF 'recastlaw10.KonstUnary'. -/
def konstUnaryUptoCard : Claim7 := { stood := { row := konstUnaryUptoRow, standIns := [], harness := (true, "8485c4d2145229a9ae6ba70f24b6ef125808a4b6d0961e387563568be379a275"), looks := false }, kinds := [], alts := [], laidByText := true, laidKinds := [.data, .pinned], laidTests := true, laidLooks := .later }
def KonstUnaryUptoCardSaid : Prop := Claim7.holds Tryz.pinned (.plain (OpenSpec.upto konstUnarySpec)) konstUnaryUptoCard
end Rows
end Go.Proofs.YtfkkhabpnnealaaGreatDoor
