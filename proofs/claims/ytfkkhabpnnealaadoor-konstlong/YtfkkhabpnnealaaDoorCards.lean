/-
  DERIVED. GIVEN WITH THE SEED: THE CARDS: each row of YtfkkhabpnnealaaDoorRows.lean that lists a variable, with what it lists TIED to the program's text (the seventh form; the later family's looks); each row that meets fmt, with fmt's text TOLD by the authors' own Lean function (tested against real Go, not proved from fmt's source: count such statements apart). THE CARD IS WHAT COUNTS. Prove the row's statement (the work); the ties are given (YtfkkhabpnnealaaDoorTie.lean); close each card by the builder's one call (the guide's Derived/Test/ToyasCard.lean, 'card_holds'). Laid BY PROGRAM, IN A SANDBOX (cutbox-door.mjs). By AI agents, Wed Nov 11 2026. No macro, syntax, notation, axiom, sorry.
-/
import Derived.Test.YtfkkhabpnnealaaDoorRows
import GoSem.ClaimSeven
namespace Go.Proofs.YtfkkhabpnnealaaDoor
namespace Rows

/-- THE TIED CARD OF 'recastlaw10.KonstBinary'. -/
def konstBinaryCard : Claim7 := { stood := { row := konstBinaryRow, standIns := [], harness := (true, "b94ef8df72fe4f557b6bbb7d1f1c01b6f66b075bd2de4711b28bd1272e4e6c51"), looks := false }, kinds := [], alts := [], laidByText := true, laidKinds := [.data, .pinned], laidTests := true, laidLooks := .later }
def KonstBinaryCardSaid : Prop := Claim7.holds Tryd.pinned (.plain (OpenSpec.ofChange konstBinarySpec)) konstBinaryCard

/-- THE TIED CARD OF 'recastlaw10.KonstLong'. -/
def konstLongCard : Claim7 := { stood := { row := konstLongRow, standIns := [], harness := (true, "b94ef8df72fe4f557b6bbb7d1f1c01b6f66b075bd2de4711b28bd1272e4e6c51"), looks := false }, kinds := [], alts := [], laidByText := true, laidKinds := [.data, .pinned], laidTests := true, laidLooks := .later }
def KonstLongCardSaid : Prop := Claim7.holds Tryd.pinned (.plain (OpenSpec.ofChange konstLongSpec)) konstLongCard

/-- THE TIED CARD OF 'recastlaw10.KonstLaws'. -/
def konstLawsCard : Claim7 := { stood := { row := konstLawsRow, standIns := [], harness := (true, "b94ef8df72fe4f557b6bbb7d1f1c01b6f66b075bd2de4711b28bd1272e4e6c51"), looks := false }, kinds := [], alts := [], laidByText := true, laidKinds := [.data, .pinned], laidTests := true, laidLooks := .later }
def KonstLawsCardSaid : Prop := Claim7.holds Tryd.pinned (.plain (OpenSpec.ofChange konstLawsSpec)) konstLawsCard

/-- THE TIED CARD OF 'recastlaw10.KonstArith'. -/
def konstArithCard : Claim7 := { stood := { row := konstArithRow, standIns := [], harness := (true, "b94ef8df72fe4f557b6bbb7d1f1c01b6f66b075bd2de4711b28bd1272e4e6c51"), looks := false }, kinds := [], alts := [], laidByText := true, laidKinds := [.data, .pinned], laidTests := true, laidLooks := .later }
def KonstArithCardSaid : Prop := Claim7.holds Tryd.pinned (.plain (OpenSpec.ofChange konstArithSpec)) konstArithCard

/-- THE SECOND FORM's CARD OF 'recastlaw10.KonstBinary'. -/
def konstBinaryUptoCard : Claim7 := { stood := { row := konstBinaryUptoRow, standIns := [], harness := (true, "b94ef8df72fe4f557b6bbb7d1f1c01b6f66b075bd2de4711b28bd1272e4e6c51"), looks := false }, kinds := [], alts := [], laidByText := true, laidKinds := [.data, .pinned], laidTests := true, laidLooks := .later }
def KonstBinaryUptoCardSaid : Prop := Claim7.holds Tryd.pinned (.plain (OpenSpec.upto konstBinarySpec)) konstBinaryUptoCard

/-- THE SECOND FORM's CARD OF 'recastlaw10.KonstLong'. -/
def konstLongUptoCard : Claim7 := { stood := { row := konstLongUptoRow, standIns := [], harness := (true, "b94ef8df72fe4f557b6bbb7d1f1c01b6f66b075bd2de4711b28bd1272e4e6c51"), looks := false }, kinds := [], alts := [], laidByText := true, laidKinds := [.data, .pinned], laidTests := true, laidLooks := .later }
def KonstLongUptoCardSaid : Prop := Claim7.holds Tryd.pinned (.plain (OpenSpec.upto konstLongSpec)) konstLongUptoCard

/-- THE SECOND FORM's CARD OF 'recastlaw10.KonstLaws'. -/
def konstLawsUptoCard : Claim7 := { stood := { row := konstLawsUptoRow, standIns := [], harness := (true, "b94ef8df72fe4f557b6bbb7d1f1c01b6f66b075bd2de4711b28bd1272e4e6c51"), looks := false }, kinds := [], alts := [], laidByText := true, laidKinds := [.data, .pinned], laidTests := true, laidLooks := .later }
def KonstLawsUptoCardSaid : Prop := Claim7.holds Tryd.pinned (.plain (OpenSpec.upto konstLawsSpec)) konstLawsUptoCard

/-- THE SECOND FORM's CARD OF 'recastlaw10.KonstArith'. -/
def konstArithUptoCard : Claim7 := { stood := { row := konstArithUptoRow, standIns := [], harness := (true, "b94ef8df72fe4f557b6bbb7d1f1c01b6f66b075bd2de4711b28bd1272e4e6c51"), looks := false }, kinds := [], alts := [], laidByText := true, laidKinds := [.data, .pinned], laidTests := true, laidLooks := .later }
def KonstArithUptoCardSaid : Prop := Claim7.holds Tryd.pinned (.plain (OpenSpec.upto konstArithSpec)) konstArithUptoCard
end Rows
end Go.Proofs.YtfkkhabpnnealaaDoor
