/-
  DERIVED. GIVEN WITH THE SEED: THE CARDS: each row of YtbgkdofjndocfaaDoorRows.lean that lists a variable, with what it lists TIED to the program's text (the seventh form; the later family's looks); each row that meets fmt, with fmt's text TOLD by the authors' own Lean function (tested against real Go, not proved from fmt's source: count such statements apart). THE CARD IS WHAT COUNTS. Prove the row's statement (the work); the ties are given (YtbgkdofjndocfaaDoorTie.lean); close each card by the builder's one call (the guide's Derived/Test/ToyasCard.lean, 'card_holds'). Laid BY PROGRAM, IN A SANDBOX (cutbox-door.mjs). By AI agents, Wed Nov 11 2026. No macro, syntax, notation, axiom, sorry.
-/
import Derived.Test.YtbgkdofjndocfaaDoorRows
import GoSem.ClaimSeven
namespace Go.Proofs.YtbgkdofjndocfaaDoor
namespace Rows

/-- THE TIED CARD OF 'recastlaw1.SpansValid'. -/
def spansValidCard : Claim7 := { stood := { row := spansValidRow, standIns := [], harness := (true, "edfd2c94dad98df82aab82ed352afd97f9c9b730128c11e6a950b73a5072115a"), looks := false }, kinds := [], alts := [], laidByText := true, laidKinds := [.data, .pinned], laidTests := true, laidLooks := .later }
def SpansValidCardSaid : Prop := Claim7.holds Tryd.pinned (.plain (OpenSpec.ofChange spansValidSpec)) spansValidCard

/-- THE TIED CARD OF 'recastlaw1.SpansPlaces'. -/
def spansPlacesCard : Claim7 := { stood := { row := spansPlacesRow, standIns := [], harness := (true, "edfd2c94dad98df82aab82ed352afd97f9c9b730128c11e6a950b73a5072115a"), looks := false }, kinds := [], alts := [], laidByText := true, laidKinds := [.data, .pinned], laidTests := true, laidLooks := .later }
def SpansPlacesCardSaid : Prop := Claim7.holds Tryd.pinned (.plain (OpenSpec.ofChange spansPlacesSpec)) spansPlacesCard

/-- THE SECOND FORM's CARD OF 'recastlaw1.SpansValid'. -/
def spansValidUptoCard : Claim7 := { stood := { row := spansValidUptoRow, standIns := [], harness := (true, "edfd2c94dad98df82aab82ed352afd97f9c9b730128c11e6a950b73a5072115a"), looks := false }, kinds := [], alts := [], laidByText := true, laidKinds := [.data, .pinned], laidTests := true, laidLooks := .later }
def SpansValidUptoCardSaid : Prop := Claim7.holds Tryd.pinned (.plain (OpenSpec.upto spansValidSpec)) spansValidUptoCard

/-- THE SECOND FORM's CARD OF 'recastlaw1.SpansPlaces'. -/
def spansPlacesUptoCard : Claim7 := { stood := { row := spansPlacesUptoRow, standIns := [], harness := (true, "edfd2c94dad98df82aab82ed352afd97f9c9b730128c11e6a950b73a5072115a"), looks := false }, kinds := [], alts := [], laidByText := true, laidKinds := [.data, .pinned], laidTests := true, laidLooks := .later }
def SpansPlacesUptoCardSaid : Prop := Claim7.holds Tryd.pinned (.plain (OpenSpec.upto spansPlacesSpec)) spansPlacesUptoCard
end Rows
end Go.Proofs.YtbgkdofjndocfaaDoor
