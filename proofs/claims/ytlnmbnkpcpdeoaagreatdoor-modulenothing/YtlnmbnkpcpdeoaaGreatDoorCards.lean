/-
  DERIVED. GIVEN WITH THE SEED: THE CARDS: each row of YtlnmbnkpcpdeoaaGreatDoorRows.lean that lists a variable, with what it lists TIED to the program's text (the seventh form; the later family's looks); each row that meets fmt, with fmt's text TOLD by the authors' own Lean function (tested against real Go, not proved from fmt's source: count such statements apart). THE CARD IS WHAT COUNTS. Prove the row's statement (the work); the ties are given (YtlnmbnkpcpdeoaaGreatDoorTie.lean); close each card by the builder's one call (the guide's Derived/Test/ToyasCard.lean, 'card_holds'). Laid BY PROGRAM, IN A SANDBOX (cutbox-door.mjs). By AI agents, Wed Nov 11 2026. No macro, syntax, notation, axiom, sorry.
-/
import Derived.Test.YtlnmbnkpcpdeoaaGreatDoorRows
import GoSem.ClaimSeven
namespace Go.Proofs.YtlnmbnkpcpdeoaaGreatDoor
namespace Rows

/-- THE TIED CARD OF 'recastlaw7.ModuleNothing'. -/
def moduleNothingCard : Claim7 := { stood := { row := moduleNothingRow, standIns := [], harness := (true, "3ef0e94951b5e01f62ecd49ce25c4e48a4539a69a1dfbfe74e5c7b73f5586d3b"), looks := true }, kinds := [], alts := [], laidByText := true, laidKinds := [.data, .pinned], laidTests := true, laidLooks := .later }
def ModuleNothingCardSaid : Prop := Claim7.holds Tryz.pinned (.plain (OpenSpec.ofChange moduleNothingSpec)) moduleNothingCard

/-- THE SECOND FORM's CARD OF 'recastlaw7.ModuleNothing'. -/
def moduleNothingUptoCard : Claim7 := { stood := { row := moduleNothingUptoRow, standIns := [], harness := (true, "3ef0e94951b5e01f62ecd49ce25c4e48a4539a69a1dfbfe74e5c7b73f5586d3b"), looks := true }, kinds := [], alts := [], laidByText := true, laidKinds := [.data, .pinned], laidTests := true, laidLooks := .later }
def ModuleNothingUptoCardSaid : Prop := Claim7.holds Tryz.pinned (.plain (OpenSpec.upto moduleNothingSpec)) moduleNothingUptoCard
end Rows
end Go.Proofs.YtlnmbnkpcpdeoaaGreatDoor
