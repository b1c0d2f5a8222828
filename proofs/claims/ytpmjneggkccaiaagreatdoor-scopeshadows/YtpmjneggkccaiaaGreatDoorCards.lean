/-
  DERIVED. GIVEN WITH THE SEED: THE CARDS: each row of YtpmjneggkccaiaaGreatDoorRows.lean that lists a variable, with what it lists TIED to the program's text (the seventh form; the later family's looks); each row that meets fmt, with fmt's text TOLD by the authors' own Lean function (tested against real Go, not proved from fmt's source: count such statements apart). THE CARD IS WHAT COUNTS. Prove the row's statement (the work); the ties are given (YtpmjneggkccaiaaGreatDoorTie.lean); close each card by the builder's one call (the guide's Derived/Test/ToyasCard.lean, 'card_holds'). Laid BY PROGRAM, IN A SANDBOX (cutbox-door.mjs). By AI agents, Wed Nov 11 2026. No macro, syntax, notation, axiom, sorry.
-/
import Derived.Test.YtpmjneggkccaiaaGreatDoorRows
import GoSem.ClaimSeven
namespace Go.Proofs.YtpmjneggkccaiaaGreatDoor
namespace Rows

/-- THE TIED CARD OF 'recastlaw12.ScopeShadows'. -/
def scopeShadowsCard : Claim7 := { stood := { row := scopeShadowsRow, standIns := [], harness := (true, "b5d16897ce39b5b70cbacfc9192653027fd584f2af283d63f94da9b833b5a2e2"), looks := true }, kinds := [], alts := [], laidByText := true, laidKinds := [.data, .pinned], laidTests := true, laidLooks := .later }
def ScopeShadowsCardSaid : Prop := Claim7.holds Tryz.pinned (.plain (OpenSpec.ofChange scopeShadowsSpec)) scopeShadowsCard

/-- THE SECOND FORM's CARD OF 'recastlaw12.ScopeShadows'. -/
def scopeShadowsUptoCard : Claim7 := { stood := { row := scopeShadowsUptoRow, standIns := [], harness := (true, "b5d16897ce39b5b70cbacfc9192653027fd584f2af283d63f94da9b833b5a2e2"), looks := true }, kinds := [], alts := [], laidByText := true, laidKinds := [.data, .pinned], laidTests := true, laidLooks := .later }
def ScopeShadowsUptoCardSaid : Prop := Claim7.holds Tryz.pinned (.plain (OpenSpec.upto scopeShadowsSpec)) scopeShadowsUptoCard
end Rows
end Go.Proofs.YtpmjneggkccaiaaGreatDoor
