/-
  DERIVED. GIVEN WITH THE SEED: THE CARDS: each row of YtimjafgaadafdabDoorRows.lean that lists a variable, with what it lists TIED to the program's text (the seventh form; the later family's looks); each row that meets fmt, with fmt's text TOLD by the authors' own Lean function (tested against real Go, not proved from fmt's source: count such statements apart). THE CARD IS WHAT COUNTS. Prove the row's statement (the work); the ties are given (YtimjafgaadafdabDoorTie.lean); close each card by the builder's one call (the guide's Derived/Test/ToyasCard.lean, 'card_holds'). Laid BY PROGRAM, IN A SANDBOX (cutbox-door.mjs). By AI agents, Wed Nov 11 2026. No macro, syntax, notation, axiom, sorry.
-/
import Derived.Test.YtimjafgaadafdabDoorRows
import GoSem.ClaimSeven
namespace Go.Proofs.YtimjafgaadafdabDoor
namespace Rows

/-- THE TIED CARD OF 'recastlaw2.ExactLaws'. -/
def exactLawsCard : Claim7 := { stood := { row := exactLawsRow, standIns := [], harness := (true, "1ada4fa08828d474e75f38312b5db93099fc810aea551ee597804107f1a4f3f4"), looks := false }, kinds := [], alts := [], laidByText := true, laidKinds := [.data, .pinned], laidTests := true, laidLooks := .later }
def ExactLawsCardSaid : Prop := Claim7.holds Tryd.pinned (.plain (OpenSpec.ofChange exactLawsSpec)) exactLawsCard

/-- THE TIED CARD OF 'recastlaw2.ExactSpread'. -/
def exactSpreadCard : Claim7 := { stood := { row := exactSpreadRow, standIns := [], harness := (true, "1ada4fa08828d474e75f38312b5db93099fc810aea551ee597804107f1a4f3f4"), looks := false }, kinds := [], alts := [], laidByText := true, laidKinds := [.data, .pinned], laidTests := true, laidLooks := .later }
def ExactSpreadCardSaid : Prop := Claim7.holds Tryd.pinned (.plain (OpenSpec.ofChange exactSpreadSpec)) exactSpreadCard

/-- THE TIED CARD OF 'recastlaw2.ExactOrder'. -/
def exactOrderCard : Claim7 := { stood := { row := exactOrderRow, standIns := [], harness := (true, "1ada4fa08828d474e75f38312b5db93099fc810aea551ee597804107f1a4f3f4"), looks := false }, kinds := [], alts := [], laidByText := true, laidKinds := [.data, .pinned], laidTests := true, laidLooks := .later }
def ExactOrderCardSaid : Prop := Claim7.holds Tryd.pinned (.plain (OpenSpec.ofChange exactOrderSpec)) exactOrderCard

/-- THE SECOND FORM's CARD OF 'recastlaw2.ExactLaws'. -/
def exactLawsUptoCard : Claim7 := { stood := { row := exactLawsUptoRow, standIns := [], harness := (true, "1ada4fa08828d474e75f38312b5db93099fc810aea551ee597804107f1a4f3f4"), looks := false }, kinds := [], alts := [], laidByText := true, laidKinds := [.data, .pinned], laidTests := true, laidLooks := .later }
def ExactLawsUptoCardSaid : Prop := Claim7.holds Tryd.pinned (.plain (OpenSpec.upto exactLawsSpec)) exactLawsUptoCard

/-- THE SECOND FORM's CARD OF 'recastlaw2.ExactSpread'. -/
def exactSpreadUptoCard : Claim7 := { stood := { row := exactSpreadUptoRow, standIns := [], harness := (true, "1ada4fa08828d474e75f38312b5db93099fc810aea551ee597804107f1a4f3f4"), looks := false }, kinds := [], alts := [], laidByText := true, laidKinds := [.data, .pinned], laidTests := true, laidLooks := .later }
def ExactSpreadUptoCardSaid : Prop := Claim7.holds Tryd.pinned (.plain (OpenSpec.upto exactSpreadSpec)) exactSpreadUptoCard

/-- THE SECOND FORM's CARD OF 'recastlaw2.ExactOrder'. -/
def exactOrderUptoCard : Claim7 := { stood := { row := exactOrderUptoRow, standIns := [], harness := (true, "1ada4fa08828d474e75f38312b5db93099fc810aea551ee597804107f1a4f3f4"), looks := false }, kinds := [], alts := [], laidByText := true, laidKinds := [.data, .pinned], laidTests := true, laidLooks := .later }
def ExactOrderUptoCardSaid : Prop := Claim7.holds Tryd.pinned (.plain (OpenSpec.upto exactOrderSpec)) exactOrderUptoCard
end Rows
end Go.Proofs.YtimjafgaadafdabDoor
