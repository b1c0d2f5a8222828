/-
  NARROWER THAN 'FOR EVERY INPUT', by the rows' own cells (each row's printed sentence says how): KonstBinary: laid · KonstLong: laid · KonstLaws: laid · KonstArith: laid.
  DERIVED. THE GIVEN ROWS OF THIS SEAT. 4 by the template 'for every input the law returns true; each argument reads behind the call as it read before'; 0 by the template 'total and deterministic' (their statements: YtfkkhabpnnealaaDoorTotals.lean).
  GIVEN WITH THE SEED: the statements are not yours to turn. If you find one false, say at which input.
  Laid BY PROGRAM, IN A SANDBOX (cutbox-rows.mjs): the forced cells as the released guide's own fill.sh prints them over the translation 4bac783ed11e66f4… (all of the seat's roots in one cut). By AI agents, Wed Nov 11 2026. No macro, syntax, notation, axiom, sorry.
-/
import Derived.Test.YtfkkhabpnnealaaDoorChecked
import GoSem.PinnedTables
import GoSem.Claim
import GoSem.ClaimJoined
import GoSem.ClaimMapViews
import Derived.JoinedTies
import Derived.KernelRfl
namespace Go.Proofs.YtfkkhabpnnealaaDoor
/- THE CELL 'sum', in the pinned program and in every row, IS THE sha256 OF THE DUMP (.gsa) THAT YtfkkhabpnnealaaDoorProg.lean LOADS. Nothing in Lean hashes anything: it is a label: what it is worth is what the hold of that sum in a sandbox is worth. -/
noncomputable def Tryd.pinned : Pinned := { name := "ytfkkhabpnnealaadoor", sum := "4bac783ed11e66f4e754c9d92a3762f1a39be64bdceee0c64c2eea56da05e5f7", checked := Tryd.checked }
namespace Rows
def none {H : Type} : Left H := { results := [], args := [] }

/- WHAT THE LISTED PACKAGE-LEVEL VARIABLES READ AS WHEN THE CALL BEGINS. Each datum BY PROGRAM (the guide's laid-datum.mjs) off the statement by which the dump's own 'gosem.cut.vars' lays the variable. In a bare row this is a premise. The card (YtfkkhabpnnealaaDoorCards.lean) ties it to the program's text. -/
def laid_unicode_utf8_acceptRanges {H : Type} : DataW H := .agg [.agg [.lit (.int .u8 128), .lit (.int .u8 191)], .agg [.lit (.int .u8 160), .lit (.int .u8 191)], .agg [.lit (.int .u8 128), .lit (.int .u8 159)], .agg [.lit (.int .u8 144), .lit (.int .u8 191)], .agg [.lit (.int .u8 128), .lit (.int .u8 143)], .agg [.lit (.int .u8 0), .lit (.int .u8 0)], .agg [.lit (.int .u8 0), .lit (.int .u8 0)], .agg [.lit (.int .u8 0), .lit (.int .u8 0)], .agg [.lit (.int .u8 0), .lit (.int .u8 0)], .agg [.lit (.int .u8 0), .lit (.int .u8 0)], .agg [.lit (.int .u8 0), .lit (.int .u8 0)], .agg [.lit (.int .u8 0), .lit (.int .u8 0)], .agg [.lit (.int .u8 0), .lit (.int .u8 0)], .agg [.lit (.int .u8 0), .lit (.int .u8 0)], .agg [.lit (.int .u8 0), .lit (.int .u8 0)], .agg [.lit (.int .u8 0), .lit (.int .u8 0)]]
/-- One of Go's own tables, pinned by name: the form's constant. -/
def laid_unicode_utf8_first : DataW Unit := Go.Pinned.utf8First

/-- 'recastlaw10.KonstBinary': WHATEVER THE INPUT: true; the input reads as it did. -/
def konstBinarySpec : ChangeSpec := { name := "konstBinary", fn := fun _ => fun
  | [d1, d2, d3] => { results := [.lit (.bool true)], args := [d1, d2, d3] }
  | _ => none }
def konstBinaryRow : OpenClaim := { program := "ytfkkhabpnnealaadoor", sum := "4bac783ed11e66f4e754c9d92a3762f1a39be64bdceee0c64c2eea56da05e5f7", func := "recast/recastlaw10.KonstBinary", spec := "konstBinary", inPlace := ["internal/bytealg.abigen_runtime_cmpstring", "internal/bytealg.IndexByteString", "internal/bytealg.IndexString", "internal/abi.NoEscape"], named := ["unicode/utf8.first", "unicode/utf8.acceptRanges", "internal/bytealg.MaxLen"], apart := false, laid := [("unicode/utf8.acceptRanges", laid_unicode_utf8_acceptRanges), ("unicode/utf8.first", laid_unicode_utf8_first)] }
def KonstBinarySaid : Prop := konstBinaryRow.holds Tryd.pinned (OpenSpec.ofChange konstBinarySpec)

/-- ITS FALSE NEIGHBOUR: 'it returns false'. Refute it at one input. -/
def konstBinaryWrong : ChangeSpec := { name := "konstBinary", fn := fun _ => fun
  | [d1, d2, d3] => { results := [.lit (.bool false)], args := [d1, d2, d3] }
  | _ => none }
def KonstBinaryWrongFalsely : Prop := konstBinaryRow.holds Tryd.pinned (OpenSpec.ofChange konstBinaryWrong)

/-- 'recastlaw10.KonstLong': WHATEVER THE INPUT: true; the input reads as it did. -/
def konstLongSpec : ChangeSpec := { name := "konstLong", fn := fun _ => fun
  | [d1, d2] => { results := [.lit (.bool true)], args := [d1, d2] }
  | _ => none }
def konstLongRow : OpenClaim := { program := "ytfkkhabpnnealaadoor", sum := "4bac783ed11e66f4e754c9d92a3762f1a39be64bdceee0c64c2eea56da05e5f7", func := "recast/recastlaw10.KonstLong", spec := "konstLong", inPlace := ["internal/bytealg.abigen_runtime_cmpstring", "internal/bytealg.IndexByteString", "internal/bytealg.IndexString", "internal/abi.NoEscape"], named := ["unicode/utf8.first", "unicode/utf8.acceptRanges", "internal/bytealg.MaxLen"], apart := false, laid := [("unicode/utf8.acceptRanges", laid_unicode_utf8_acceptRanges), ("unicode/utf8.first", laid_unicode_utf8_first)] }
def KonstLongSaid : Prop := konstLongRow.holds Tryd.pinned (OpenSpec.ofChange konstLongSpec)

/-- ITS FALSE NEIGHBOUR: 'it returns false'. Refute it at one input. -/
def konstLongWrong : ChangeSpec := { name := "konstLong", fn := fun _ => fun
  | [d1, d2] => { results := [.lit (.bool false)], args := [d1, d2] }
  | _ => none }
def KonstLongWrongFalsely : Prop := konstLongRow.holds Tryd.pinned (OpenSpec.ofChange konstLongWrong)

/-- 'recastlaw10.KonstLaws': WHATEVER THE INPUT: true; the input reads as it did. -/
def konstLawsSpec : ChangeSpec := { name := "konstLaws", fn := fun _ => fun
  | [d1, d2] => { results := [.lit (.bool true)], args := [d1, d2] }
  | _ => none }
def konstLawsRow : OpenClaim := { program := "ytfkkhabpnnealaadoor", sum := "4bac783ed11e66f4e754c9d92a3762f1a39be64bdceee0c64c2eea56da05e5f7", func := "recast/recastlaw10.KonstLaws", spec := "konstLaws", inPlace := ["internal/bytealg.abigen_runtime_cmpstring", "internal/bytealg.IndexByteString", "internal/bytealg.IndexString", "internal/abi.NoEscape"], named := ["unicode/utf8.first", "unicode/utf8.acceptRanges", "internal/bytealg.MaxLen"], apart := false, laid := [("unicode/utf8.acceptRanges", laid_unicode_utf8_acceptRanges), ("unicode/utf8.first", laid_unicode_utf8_first)] }
def KonstLawsSaid : Prop := konstLawsRow.holds Tryd.pinned (OpenSpec.ofChange konstLawsSpec)

/-- ITS FALSE NEIGHBOUR: 'it returns false'. Refute it at one input. -/
def konstLawsWrong : ChangeSpec := { name := "konstLaws", fn := fun _ => fun
  | [d1, d2] => { results := [.lit (.bool false)], args := [d1, d2] }
  | _ => none }
def KonstLawsWrongFalsely : Prop := konstLawsRow.holds Tryd.pinned (OpenSpec.ofChange konstLawsWrong)

/-- 'recastlaw10.KonstArith': WHATEVER THE INPUT: true; the input reads as it did. -/
def konstArithSpec : ChangeSpec := { name := "konstArith", fn := fun _ => fun
  | [d1, d2] => { results := [.lit (.bool true)], args := [d1, d2] }
  | _ => none }
def konstArithRow : OpenClaim := { program := "ytfkkhabpnnealaadoor", sum := "4bac783ed11e66f4e754c9d92a3762f1a39be64bdceee0c64c2eea56da05e5f7", func := "recast/recastlaw10.KonstArith", spec := "konstArith", inPlace := ["internal/bytealg.abigen_runtime_cmpstring", "internal/bytealg.IndexByteString", "internal/bytealg.IndexString", "internal/abi.NoEscape"], named := ["unicode/utf8.first", "unicode/utf8.acceptRanges", "internal/bytealg.MaxLen"], apart := false, laid := [("unicode/utf8.acceptRanges", laid_unicode_utf8_acceptRanges), ("unicode/utf8.first", laid_unicode_utf8_first)] }
def KonstArithSaid : Prop := konstArithRow.holds Tryd.pinned (OpenSpec.ofChange konstArithSpec)

/-- ITS FALSE NEIGHBOUR: 'it returns false'. Refute it at one input. -/
def konstArithWrong : ChangeSpec := { name := "konstArith", fn := fun _ => fun
  | [d1, d2] => { results := [.lit (.bool false)], args := [d1, d2] }
  | _ => none }
def KonstArithWrongFalsely : Prop := konstArithRow.holds Tryd.pinned (OpenSpec.ofChange konstArithWrong)

/- THE SECOND FORM. 'bulk': how many values and letters a reading holds, each counted each time it is reached (what is shared counts as often as it is met; a slice's spare places count too). A statement '..UptoSaid' is the law's where the arguments, and the package variables that the reading takes, are together of bulk at most 1048576: NARROWER than '..Said'. Prove '..Said' where nothing that the law and all that it calls make is longer than what came in: it says more and counts as full. Else prove '..UptoSaid'. A law counts once. -/
mutual
def uptoBulk {H : Type} : DataW H → Nat
  | .lit (.string bytes) => bytes.length + 1
  | .lit _ => 1
  | .nil => 1
  | .ptr d => uptoBulk d + 1
  | .slice elems spare => uptoBulkAll elems + uptoBulkAll spare + 1
  | .agg parts => uptoBulkAll parts + 1
  | .iface _ d => uptoBulk d + 1
  | .map entries => uptoBulkEntries entries + 1
  | .held _ => 1
def uptoBulkAll {H : Type} : List (DataW H) → Nat
  | [] => 0
  | d :: r => uptoBulk d + uptoBulkAll r
def uptoBulkEntries {H : Type} : List (Lit × DataW H) → Nat
  | [] => 0
  | x :: r => uptoBulkEntry x + uptoBulkEntries r
def uptoBulkEntry {H : Type} : Lit × DataW H → Nat
  | (.string bytes, d) => bytes.length + uptoBulk d + 1
  | (_, d) => uptoBulk d + 1
 end
def uptoSmall : (H : Type) → List (DataW H) → Bool := fun _ ds => decide (uptoBulkAll ds ≤ 1048576)
def OpenSpec.upto (s : _root_.Go.ChangeSpec) : _root_.Go.OpenSpec := { _root_.Go.OpenSpec.ofChange s with cond := some uptoSmall }

/-- 'recastlaw10.KonstBinary', WHERE WHAT IT READS IS OF BULK AT MOST 1048576: true; the input reads as it did. -/
def konstBinaryUptoRow : OpenClaim := { program := "ytfkkhabpnnealaadoor", sum := "4bac783ed11e66f4e754c9d92a3762f1a39be64bdceee0c64c2eea56da05e5f7", func := "recast/recastlaw10.KonstBinary", spec := "konstBinary", inPlace := ["internal/bytealg.abigen_runtime_cmpstring", "internal/bytealg.IndexByteString", "internal/bytealg.IndexString", "internal/abi.NoEscape"], named := ["unicode/utf8.first", "unicode/utf8.acceptRanges", "internal/bytealg.MaxLen"], apart := false, laid := [("unicode/utf8.acceptRanges", laid_unicode_utf8_acceptRanges), ("unicode/utf8.first", laid_unicode_utf8_first)], narrowed := true }
def KonstBinaryUptoSaid : Prop := konstBinaryUptoRow.holds Tryd.pinned (OpenSpec.upto konstBinarySpec)

/-- 'recastlaw10.KonstLong', WHERE WHAT IT READS IS OF BULK AT MOST 1048576: true; the input reads as it did. -/
def konstLongUptoRow : OpenClaim := { program := "ytfkkhabpnnealaadoor", sum := "4bac783ed11e66f4e754c9d92a3762f1a39be64bdceee0c64c2eea56da05e5f7", func := "recast/recastlaw10.KonstLong", spec := "konstLong", inPlace := ["internal/bytealg.abigen_runtime_cmpstring", "internal/bytealg.IndexByteString", "internal/bytealg.IndexString", "internal/abi.NoEscape"], named := ["unicode/utf8.first", "unicode/utf8.acceptRanges", "internal/bytealg.MaxLen"], apart := false, laid := [("unicode/utf8.acceptRanges", laid_unicode_utf8_acceptRanges), ("unicode/utf8.first", laid_unicode_utf8_first)], narrowed := true }
def KonstLongUptoSaid : Prop := konstLongUptoRow.holds Tryd.pinned (OpenSpec.upto konstLongSpec)

/-- 'recastlaw10.KonstLaws', WHERE WHAT IT READS IS OF BULK AT MOST 1048576: true; the input reads as it did. -/
def konstLawsUptoRow : OpenClaim := { program := "ytfkkhabpnnealaadoor", sum := "4bac783ed11e66f4e754c9d92a3762f1a39be64bdceee0c64c2eea56da05e5f7", func := "recast/recastlaw10.KonstLaws", spec := "konstLaws", inPlace := ["internal/bytealg.abigen_runtime_cmpstring", "internal/bytealg.IndexByteString", "internal/bytealg.IndexString", "internal/abi.NoEscape"], named := ["unicode/utf8.first", "unicode/utf8.acceptRanges", "internal/bytealg.MaxLen"], apart := false, laid := [("unicode/utf8.acceptRanges", laid_unicode_utf8_acceptRanges), ("unicode/utf8.first", laid_unicode_utf8_first)], narrowed := true }
def KonstLawsUptoSaid : Prop := konstLawsUptoRow.holds Tryd.pinned (OpenSpec.upto konstLawsSpec)

/-- 'recastlaw10.KonstArith', WHERE WHAT IT READS IS OF BULK AT MOST 1048576: true; the input reads as it did. -/
def konstArithUptoRow : OpenClaim := { program := "ytfkkhabpnnealaadoor", sum := "4bac783ed11e66f4e754c9d92a3762f1a39be64bdceee0c64c2eea56da05e5f7", func := "recast/recastlaw10.KonstArith", spec := "konstArith", inPlace := ["internal/bytealg.abigen_runtime_cmpstring", "internal/bytealg.IndexByteString", "internal/bytealg.IndexString", "internal/abi.NoEscape"], named := ["unicode/utf8.first", "unicode/utf8.acceptRanges", "internal/bytealg.MaxLen"], apart := false, laid := [("unicode/utf8.acceptRanges", laid_unicode_utf8_acceptRanges), ("unicode/utf8.first", laid_unicode_utf8_first)], narrowed := true }
def KonstArithUptoSaid : Prop := konstArithUptoRow.holds Tryd.pinned (OpenSpec.upto konstArithSpec)

end Rows
end Go.Proofs.YtfkkhabpnnealaaDoor
