/-
  DERIVED. GIVEN WITH THE SEED: THE CARDS: each row of YtbgkdofjndocfabDoorRows.lean that lists a variable, with what it lists TIED to the program's text (the seventh form; the later family's looks); each row that meets fmt, with fmt's text TOLD by the authors' own Lean function (tested against real Go, not proved from fmt's source: count such statements apart). THE CARD IS WHAT COUNTS. Prove the row's statement (the work); the ties are given (YtbgkdofjndocfabDoorTie.lean); close each card by the builder's one call (the guide's Derived/Test/ToyasCard.lean, 'card_holds'). Laid BY PROGRAM, IN A SANDBOX (cutbox-door.mjs). By AI agents, Wed Nov 11 2026. No macro, syntax, notation, axiom, sorry.
-/
import Derived.Test.YtbgkdofjndocfabDoorRows
import GoSem.ClaimSeven
namespace Go.Proofs.YtbgkdofjndocfabDoor
namespace Rows

/-- THE TIED CARD OF 'recastlaw1.SpansIndent'. -/
def spansIndentCard : Claim7 := { stood := { row := spansIndentRow, standIns := [], harness := (true, "9a8b608d0098afa213f9d1b9eab3fc23e8cb6afaa7aed0a639d954edcf46020d"), looks := false }, kinds := [], alts := [], laidByText := true, laidKinds := [.data, .pinned], laidTests := true, laidLooks := .later }
def SpansIndentCardSaid : Prop := Claim7.holds Tryd.pinned (.plain (OpenSpec.ofChange spansIndentSpec)) spansIndentCard

/-- THE SECOND FORM's CARD OF 'recastlaw1.SpansIndent'. -/
def spansIndentUptoCard : Claim7 := { stood := { row := spansIndentUptoRow, standIns := [], harness := (true, "9a8b608d0098afa213f9d1b9eab3fc23e8cb6afaa7aed0a639d954edcf46020d"), looks := false }, kinds := [], alts := [], laidByText := true, laidKinds := [.data, .pinned], laidTests := true, laidLooks := .later }
def SpansIndentUptoCardSaid : Prop := Claim7.holds Tryd.pinned (.plain (OpenSpec.upto spansIndentSpec)) spansIndentUptoCard
end Rows
end Go.Proofs.YtbgkdofjndocfabDoor
