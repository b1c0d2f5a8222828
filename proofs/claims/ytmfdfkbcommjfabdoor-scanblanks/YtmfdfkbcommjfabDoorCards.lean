/-
  DERIVED. GIVEN WITH THE SEED: THE CARDS: each row of YtmfdfkbcommjfabDoorRows.lean that lists a variable, with what it lists TIED to the program's text (the seventh form; the later family's looks); each row that meets fmt, with fmt's text TOLD by the authors' own Lean function (tested against real Go, not proved from fmt's source: count such statements apart). THE CARD IS WHAT COUNTS. Prove the row's statement (the work); the ties are given (YtmfdfkbcommjfabDoorTie.lean); close each card by the builder's one call (the guide's Derived/Test/ToyasCard.lean, 'card_holds'). Laid BY PROGRAM, IN A SANDBOX (cutbox-door.mjs). By AI agents, Wed Nov 11 2026. No macro, syntax, notation, axiom, sorry.
-/
import Derived.Test.YtmfdfkbcommjfabDoorRows
import GoSem.ClaimSeven
namespace Go.Proofs.YtmfdfkbcommjfabDoor
namespace Rows

/-- THE TIED CARD OF 'recastlaw3.ScanBlanks'. -/
def scanBlanksCard : Claim7 := { stood := { row := scanBlanksRow, standIns := [], harness := (true, "7cd97bcb356386be3b01456a5c3026cf62657443d0c1466e755fc798d175b485"), looks := true }, kinds := [], alts := [], laidByText := true, laidKinds := [.data, .pinned], laidTests := true, laidLooks := .later }
def ScanBlanksCardSaid : Prop := Claim7.holds Tryd.pinned (.plain (OpenSpec.ofChange scanBlanksSpec)) scanBlanksCard

/-- THE TIED CARD OF 'recastlaw3.ScanSemis'. -/
def scanSemisCard : Claim7 := { stood := { row := scanSemisRow, standIns := [], harness := (true, "7cd97bcb356386be3b01456a5c3026cf62657443d0c1466e755fc798d175b485"), looks := true }, kinds := [], alts := [], laidByText := true, laidKinds := [.data, .pinned], laidTests := true, laidLooks := .later }
def ScanSemisCardSaid : Prop := Claim7.holds Tryd.pinned (.plain (OpenSpec.ofChange scanSemisSpec)) scanSemisCard

/-- THE TIED CARD OF 'recastlaw3.ScanJoins'. -/
def scanJoinsCard : Claim7 := { stood := { row := scanJoinsRow, standIns := [], harness := (true, "7cd97bcb356386be3b01456a5c3026cf62657443d0c1466e755fc798d175b485"), looks := true }, kinds := [], alts := [], laidByText := true, laidKinds := [.data, .pinned], laidTests := true, laidLooks := .later }
def ScanJoinsCardSaid : Prop := Claim7.holds Tryd.pinned (.plain (OpenSpec.ofChange scanJoinsSpec)) scanJoinsCard

/-- THE SECOND FORM's CARD OF 'recastlaw3.ScanBlanks'. -/
def scanBlanksUptoCard : Claim7 := { stood := { row := scanBlanksUptoRow, standIns := [], harness := (true, "7cd97bcb356386be3b01456a5c3026cf62657443d0c1466e755fc798d175b485"), looks := true }, kinds := [], alts := [], laidByText := true, laidKinds := [.data, .pinned], laidTests := true, laidLooks := .later }
def ScanBlanksUptoCardSaid : Prop := Claim7.holds Tryd.pinned (.plain (OpenSpec.upto scanBlanksSpec)) scanBlanksUptoCard

/-- THE SECOND FORM's CARD OF 'recastlaw3.ScanSemis'. -/
def scanSemisUptoCard : Claim7 := { stood := { row := scanSemisUptoRow, standIns := [], harness := (true, "7cd97bcb356386be3b01456a5c3026cf62657443d0c1466e755fc798d175b485"), looks := true }, kinds := [], alts := [], laidByText := true, laidKinds := [.data, .pinned], laidTests := true, laidLooks := .later }
def ScanSemisUptoCardSaid : Prop := Claim7.holds Tryd.pinned (.plain (OpenSpec.upto scanSemisSpec)) scanSemisUptoCard

/-- THE SECOND FORM's CARD OF 'recastlaw3.ScanJoins'. -/
def scanJoinsUptoCard : Claim7 := { stood := { row := scanJoinsUptoRow, standIns := [], harness := (true, "7cd97bcb356386be3b01456a5c3026cf62657443d0c1466e755fc798d175b485"), looks := true }, kinds := [], alts := [], laidByText := true, laidKinds := [.data, .pinned], laidTests := true, laidLooks := .later }
def ScanJoinsUptoCardSaid : Prop := Claim7.holds Tryd.pinned (.plain (OpenSpec.upto scanJoinsSpec)) scanJoinsUptoCard
end Rows
end Go.Proofs.YtmfdfkbcommjfabDoor
