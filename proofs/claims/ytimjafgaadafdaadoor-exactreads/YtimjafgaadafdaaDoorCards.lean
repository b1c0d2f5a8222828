/-
  DERIVED. GIVEN WITH THE SEED: THE CARDS: each row of YtimjafgaadafdaaDoorRows.lean that lists a variable, with what it lists TIED to the program's text (the seventh form; the later family's looks); each row that meets fmt, with fmt's text TOLD by the authors' own Lean function (tested against real Go, not proved from fmt's source: count such statements apart). THE CARD IS WHAT COUNTS. Prove the row's statement (the work); the ties are given (YtimjafgaadafdaaDoorTie.lean); close each card by the builder's one call (the guide's Derived/Test/ToyasCard.lean, 'card_holds'). Laid BY PROGRAM, IN A SANDBOX (cutbox-door.mjs). By AI agents, Wed Nov 11 2026. No macro, syntax, notation, axiom, sorry.
-/
import Derived.Test.YtimjafgaadafdaaDoorRows
import GoSem.ClaimSeven
namespace Go.Proofs.YtimjafgaadafdaaDoor
namespace Rows

/-- THE TIED CARD OF 'recastlaw2.ExactSums'. -/
def exactSumsCard : Claim7 := { stood := { row := exactSumsRow, standIns := [], harness := (true, "7a22c18fc334d8ed97d0d2b399f1160bcb30b0b38c2a6acf392aa2c7f848d2a3"), looks := false }, kinds := [], alts := [], laidByText := true, laidKinds := [.data, .pinned], laidTests := true, laidLooks := .later }
def ExactSumsCardSaid : Prop := Claim7.holds Tryd.pinned (.plain (OpenSpec.ofChange exactSumsSpec)) exactSumsCard

/-- THE TIED CARD OF 'recastlaw2.ExactProducts'. -/
def exactProductsCard : Claim7 := { stood := { row := exactProductsRow, standIns := [], harness := (true, "7a22c18fc334d8ed97d0d2b399f1160bcb30b0b38c2a6acf392aa2c7f848d2a3"), looks := false }, kinds := [], alts := [], laidByText := true, laidKinds := [.data, .pinned], laidTests := true, laidLooks := .later }
def ExactProductsCardSaid : Prop := Claim7.holds Tryd.pinned (.plain (OpenSpec.ofChange exactProductsSpec)) exactProductsCard

/-- THE TIED CARD OF 'recastlaw2.ExactDivides'. -/
def exactDividesCard : Claim7 := { stood := { row := exactDividesRow, standIns := [], harness := (true, "7a22c18fc334d8ed97d0d2b399f1160bcb30b0b38c2a6acf392aa2c7f848d2a3"), looks := false }, kinds := [], alts := [], laidByText := true, laidKinds := [.data, .pinned], laidTests := true, laidLooks := .later }
def ExactDividesCardSaid : Prop := Claim7.holds Tryd.pinned (.plain (OpenSpec.ofChange exactDividesSpec)) exactDividesCard

/-- THE TIED CARD OF 'recastlaw2.ExactReads'. -/
def exactReadsCard : Claim7 := { stood := { row := exactReadsRow, standIns := [], harness := (true, "7a22c18fc334d8ed97d0d2b399f1160bcb30b0b38c2a6acf392aa2c7f848d2a3"), looks := false }, kinds := [], alts := [], laidByText := true, laidKinds := [.data, .pinned], laidTests := true, laidLooks := .later }
def ExactReadsCardSaid : Prop := Claim7.holds Tryd.pinned (.plain (OpenSpec.ofChange exactReadsSpec)) exactReadsCard

/-- THE TIED CARD OF 'recastlaw2.ExactSmall'. -/
def exactSmallCard : Claim7 := { stood := { row := exactSmallRow, standIns := [], harness := (true, "7a22c18fc334d8ed97d0d2b399f1160bcb30b0b38c2a6acf392aa2c7f848d2a3"), looks := false }, kinds := [], alts := [], laidByText := true, laidKinds := [.data, .pinned], laidTests := true, laidLooks := .later }
def ExactSmallCardSaid : Prop := Claim7.holds Tryd.pinned (.plain (OpenSpec.ofChange exactSmallSpec)) exactSmallCard

/-- THE TIED CARD OF 'recastlaw2.ExactBack'. -/
def exactBackCard : Claim7 := { stood := { row := exactBackRow, standIns := [], harness := (true, "7a22c18fc334d8ed97d0d2b399f1160bcb30b0b38c2a6acf392aa2c7f848d2a3"), looks := false }, kinds := [], alts := [], laidByText := true, laidKinds := [.data, .pinned], laidTests := true, laidLooks := .later }
def ExactBackCardSaid : Prop := Claim7.holds Tryd.pinned (.plain (OpenSpec.ofChange exactBackSpec)) exactBackCard

/-- THE SECOND FORM's CARD OF 'recastlaw2.ExactSums'. -/
def exactSumsUptoCard : Claim7 := { stood := { row := exactSumsUptoRow, standIns := [], harness := (true, "7a22c18fc334d8ed97d0d2b399f1160bcb30b0b38c2a6acf392aa2c7f848d2a3"), looks := false }, kinds := [], alts := [], laidByText := true, laidKinds := [.data, .pinned], laidTests := true, laidLooks := .later }
def ExactSumsUptoCardSaid : Prop := Claim7.holds Tryd.pinned (.plain (OpenSpec.upto exactSumsSpec)) exactSumsUptoCard

/-- THE SECOND FORM's CARD OF 'recastlaw2.ExactProducts'. -/
def exactProductsUptoCard : Claim7 := { stood := { row := exactProductsUptoRow, standIns := [], harness := (true, "7a22c18fc334d8ed97d0d2b399f1160bcb30b0b38c2a6acf392aa2c7f848d2a3"), looks := false }, kinds := [], alts := [], laidByText := true, laidKinds := [.data, .pinned], laidTests := true, laidLooks := .later }
def ExactProductsUptoCardSaid : Prop := Claim7.holds Tryd.pinned (.plain (OpenSpec.upto exactProductsSpec)) exactProductsUptoCard

/-- THE SECOND FORM's CARD OF 'recastlaw2.ExactDivides'. -/
def exactDividesUptoCard : Claim7 := { stood := { row := exactDividesUptoRow, standIns := [], harness := (true, "7a22c18fc334d8ed97d0d2b399f1160bcb30b0b38c2a6acf392aa2c7f848d2a3"), looks := false }, kinds := [], alts := [], laidByText := true, laidKinds := [.data, .pinned], laidTests := true, laidLooks := .later }
def ExactDividesUptoCardSaid : Prop := Claim7.holds Tryd.pinned (.plain (OpenSpec.upto exactDividesSpec)) exactDividesUptoCard

/-- THE SECOND FORM's CARD OF 'recastlaw2.ExactReads'. -/
def exactReadsUptoCard : Claim7 := { stood := { row := exactReadsUptoRow, standIns := [], harness := (true, "7a22c18fc334d8ed97d0d2b399f1160bcb30b0b38c2a6acf392aa2c7f848d2a3"), looks := false }, kinds := [], alts := [], laidByText := true, laidKinds := [.data, .pinned], laidTests := true, laidLooks := .later }
def ExactReadsUptoCardSaid : Prop := Claim7.holds Tryd.pinned (.plain (OpenSpec.upto exactReadsSpec)) exactReadsUptoCard

/-- THE SECOND FORM's CARD OF 'recastlaw2.ExactSmall'. -/
def exactSmallUptoCard : Claim7 := { stood := { row := exactSmallUptoRow, standIns := [], harness := (true, "7a22c18fc334d8ed97d0d2b399f1160bcb30b0b38c2a6acf392aa2c7f848d2a3"), looks := false }, kinds := [], alts := [], laidByText := true, laidKinds := [.data, .pinned], laidTests := true, laidLooks := .later }
def ExactSmallUptoCardSaid : Prop := Claim7.holds Tryd.pinned (.plain (OpenSpec.upto exactSmallSpec)) exactSmallUptoCard

/-- THE SECOND FORM's CARD OF 'recastlaw2.ExactBack'. -/
def exactBackUptoCard : Claim7 := { stood := { row := exactBackUptoRow, standIns := [], harness := (true, "7a22c18fc334d8ed97d0d2b399f1160bcb30b0b38c2a6acf392aa2c7f848d2a3"), looks := false }, kinds := [], alts := [], laidByText := true, laidKinds := [.data, .pinned], laidTests := true, laidLooks := .later }
def ExactBackUptoCardSaid : Prop := Claim7.holds Tryd.pinned (.plain (OpenSpec.upto exactBackSpec)) exactBackUptoCard
end Rows
end Go.Proofs.YtimjafgaadafdaaDoor
