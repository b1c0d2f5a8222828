/-
  NARROWER THAN 'FOR EVERY INPUT', by the rows' own cells (each row's printed sentence says how): TypesText: loops · TypesSubst: loops · TypesMake: loops · TypesWorld: loops · TypesAsk: loops · TypesNothing: loops.
  DERIVED. THE GIVEN ROWS OF THIS SEAT. 6 by the template 'for every input the law returns true; each argument reads behind the call as it read before'; 0 by the template 'total and deterministic' (their statements: YtifcikhgbafegaaTotals.lean).
  GIVEN WITH THE SEED: the statements are not yours to turn. If you find one false, say at which input.
  Laid BY PROGRAM, IN A SANDBOX (cutbox-rows.mjs): the forced cells as the released guide's own fill.sh prints them over the translation 815e6f3a9a7fadf0… (all of the seat's roots in one cut). By AI agents, Wed Nov 11 2026. No macro, syntax, notation, axiom, sorry.
-/
import Derived.Test.YtifcikhgbafegaaChecked
import GoSem.Claim
import GoSem.ClaimJoined
import GoSem.ClaimMapViews
import Derived.JoinedTies
import Derived.KernelRfl
namespace Go.Proofs.Ytifcikhgbafegaa
/- THE CELL 'sum', in the pinned program and in every row, IS THE sha256 OF THE DUMP (.gsa) THAT YtifcikhgbafegaaProg.lean LOADS. Nothing in Lean hashes anything: it is a label: what it is worth is what the hold of that sum in a sandbox is worth. -/
noncomputable def Try.pinned : Pinned := { name := "ytifcikhgbafegaa", sum := "815e6f3a9a7fadf05b93df84c9a890a65a691f1f23ec0790edfc015ec44cfcd4", checked := Try.checked }
namespace Rows
def none {H : Type} : Left H := { results := [], args := [] }

/-- 'recastlaw8.TypesText': WHATEVER THE INPUT: true; the input reads as it did. -/
def typesTextSpec : ChangeSpec := { name := "typesText", fn := fun _ => fun
  | [d1, d2] => { results := [.lit (.bool true)], args := [d1, d2] }
  | _ => none }
def typesTextRow : OpenClaim := { program := "ytifcikhgbafegaa", sum := "815e6f3a9a7fadf05b93df84c9a890a65a691f1f23ec0790edfc015ec44cfcd4", func := "recast/recastlaw8.TypesText", spec := "typesText", inPlace := ["internal/abi.NoEscape"], unfollowed := true, recurses := true, loops := true, apart := false }
def TypesTextSaid : Prop := typesTextRow.holds Try.pinned (OpenSpec.ofChange typesTextSpec)

/-- ITS FALSE NEIGHBOUR: 'it returns false'. Refute it at one input. -/
def typesTextWrong : ChangeSpec := { name := "typesText", fn := fun _ => fun
  | [d1, d2] => { results := [.lit (.bool false)], args := [d1, d2] }
  | _ => none }
def TypesTextWrongFalsely : Prop := typesTextRow.holds Try.pinned (OpenSpec.ofChange typesTextWrong)

/-- 'recastlaw8.TypesSubst': WHATEVER THE INPUT: true; the input reads as it did. -/
def typesSubstSpec : ChangeSpec := { name := "typesSubst", fn := fun _ => fun
  | [d1, d2] => { results := [.lit (.bool true)], args := [d1, d2] }
  | _ => none }
def typesSubstRow : OpenClaim := { program := "ytifcikhgbafegaa", sum := "815e6f3a9a7fadf05b93df84c9a890a65a691f1f23ec0790edfc015ec44cfcd4", func := "recast/recastlaw8.TypesSubst", spec := "typesSubst", inPlace := ["internal/abi.NoEscape"], unfollowed := true, recurses := true, loops := true, apart := false }
def TypesSubstSaid : Prop := typesSubstRow.holds Try.pinned (OpenSpec.ofChange typesSubstSpec)

/-- ITS FALSE NEIGHBOUR: 'it returns false'. Refute it at one input. -/
def typesSubstWrong : ChangeSpec := { name := "typesSubst", fn := fun _ => fun
  | [d1, d2] => { results := [.lit (.bool false)], args := [d1, d2] }
  | _ => none }
def TypesSubstWrongFalsely : Prop := typesSubstRow.holds Try.pinned (OpenSpec.ofChange typesSubstWrong)

/-- 'recastlaw8.TypesMake': WHATEVER THE INPUT: true; the input reads as it did. -/
def typesMakeSpec : ChangeSpec := { name := "typesMake", fn := fun _ => fun
  | [d1, d2, d3] => { results := [.lit (.bool true)], args := [d1, d2, d3] }
  | _ => none }
def typesMakeRow : OpenClaim := { program := "ytifcikhgbafegaa", sum := "815e6f3a9a7fadf05b93df84c9a890a65a691f1f23ec0790edfc015ec44cfcd4", func := "recast/recastlaw8.TypesMake", spec := "typesMake", inPlace := ["internal/abi.NoEscape"], unfollowed := true, recurses := true, loops := true, apart := false }
def TypesMakeSaid : Prop := typesMakeRow.holds Try.pinned (OpenSpec.ofChange typesMakeSpec)

/-- ITS FALSE NEIGHBOUR: 'it returns false'. Refute it at one input. -/
def typesMakeWrong : ChangeSpec := { name := "typesMake", fn := fun _ => fun
  | [d1, d2, d3] => { results := [.lit (.bool false)], args := [d1, d2, d3] }
  | _ => none }
def TypesMakeWrongFalsely : Prop := typesMakeRow.holds Try.pinned (OpenSpec.ofChange typesMakeWrong)

/-- 'recastlaw8.TypesWorld': WHATEVER THE INPUT: true; the input reads as it did. -/
def typesWorldSpec : ChangeSpec := { name := "typesWorld", fn := fun _ => fun
  | [d1, d2] => { results := [.lit (.bool true)], args := [d1, d2] }
  | _ => none }
def typesWorldRow : OpenClaim := { program := "ytifcikhgbafegaa", sum := "815e6f3a9a7fadf05b93df84c9a890a65a691f1f23ec0790edfc015ec44cfcd4", func := "recast/recastlaw8.TypesWorld", spec := "typesWorld", inPlace := ["internal/abi.NoEscape"], unfollowed := true, recurses := true, loops := true, apart := false }
def TypesWorldSaid : Prop := typesWorldRow.holds Try.pinned (OpenSpec.ofChange typesWorldSpec)

/-- ITS FALSE NEIGHBOUR: 'it returns false'. Refute it at one input. -/
def typesWorldWrong : ChangeSpec := { name := "typesWorld", fn := fun _ => fun
  | [d1, d2] => { results := [.lit (.bool false)], args := [d1, d2] }
  | _ => none }
def TypesWorldWrongFalsely : Prop := typesWorldRow.holds Try.pinned (OpenSpec.ofChange typesWorldWrong)

/-- 'recastlaw8.TypesAsk': WHATEVER THE INPUT: true; the input reads as it did. -/
def typesAskSpec : ChangeSpec := { name := "typesAsk", fn := fun _ => fun
  | [d1, d2, d3] => { results := [.lit (.bool true)], args := [d1, d2, d3] }
  | _ => none }
def typesAskRow : OpenClaim := { program := "ytifcikhgbafegaa", sum := "815e6f3a9a7fadf05b93df84c9a890a65a691f1f23ec0790edfc015ec44cfcd4", func := "recast/recastlaw8.TypesAsk", spec := "typesAsk", inPlace := ["internal/abi.NoEscape"], unfollowed := true, recurses := true, loops := true, apart := false }
def TypesAskSaid : Prop := typesAskRow.holds Try.pinned (OpenSpec.ofChange typesAskSpec)

/-- ITS FALSE NEIGHBOUR: 'it returns false'. Refute it at one input. -/
def typesAskWrong : ChangeSpec := { name := "typesAsk", fn := fun _ => fun
  | [d1, d2, d3] => { results := [.lit (.bool false)], args := [d1, d2, d3] }
  | _ => none }
def TypesAskWrongFalsely : Prop := typesAskRow.holds Try.pinned (OpenSpec.ofChange typesAskWrong)

/-- 'recastlaw8.TypesNothing': WHATEVER THE INPUT: true; the input reads as it did. -/
def typesNothingSpec : ChangeSpec := { name := "typesNothing", fn := fun _ => fun
  | [d1, d2] => { results := [.lit (.bool true)], args := [d1, d2] }
  | _ => none }
def typesNothingRow : OpenClaim := { program := "ytifcikhgbafegaa", sum := "815e6f3a9a7fadf05b93df84c9a890a65a691f1f23ec0790edfc015ec44cfcd4", func := "recast/recastlaw8.TypesNothing", spec := "typesNothing", inPlace := ["internal/abi.NoEscape"], unfollowed := true, recurses := true, loops := true, apart := false }
def TypesNothingSaid : Prop := typesNothingRow.holds Try.pinned (OpenSpec.ofChange typesNothingSpec)

/-- ITS FALSE NEIGHBOUR: 'it returns false'. Refute it at one input. -/
def typesNothingWrong : ChangeSpec := { name := "typesNothing", fn := fun _ => fun
  | [d1, d2] => { results := [.lit (.bool false)], args := [d1, d2] }
  | _ => none }
def TypesNothingWrongFalsely : Prop := typesNothingRow.holds Try.pinned (OpenSpec.ofChange typesNothingWrong)

/- THE SECOND FORM. 'bulk': how many values and letters a reading holds, each counted each time it is reached (what is shared counts as often as it is met; a slice's spare places count too). A statement '..UptoSaid' is the law's where the arguments, and the package variables that the reading takes, are together of bulk at most 1048576: NARROWER than '..Said'. Prove '..Said' where nothing that the law and all that it calls make is longer than what came in: it says more and counts as full. Else prove '..UptoSaid'. A law counts once. -/
mutual
def uptoBulk {H : Type} : DataW H → Nat
  | .lit (.string bytes) => bytes.length + 1
  | .lit _ => 1
  | .nil => 1
  | .ptr d => uptoBulk d + 1
  | .slice elems spare => uptoBulkAll elems + uptoBulkAll spare + 1
  | .agg parts => uptoBulkAll parts + 1
  | .iface _ d => uptoBulk d + 1
  | .map entries => uptoBulkEntries entries + 1
  | .held _ => 1
def uptoBulkAll {H : Type} : List (DataW H) → Nat
  | [] => 0
  | d :: r => uptoBulk d + uptoBulkAll r
def uptoBulkEntries {H : Type} : List (Lit × DataW H) → Nat
  | [] => 0
  | x :: r => uptoBulkEntry x + uptoBulkEntries r
def uptoBulkEntry {H : Type} : Lit × DataW H → Nat
  | (.string bytes, d) => bytes.length + uptoBulk d + 1
  | (_, d) => uptoBulk d + 1
 end
def uptoSmall : (H : Type) → List (DataW H) → Bool := fun _ ds => decide (uptoBulkAll ds ≤ 1048576)
def OpenSpec.upto (s : _root_.Go.ChangeSpec) : _root_.Go.OpenSpec := { _root_.Go.OpenSpec.ofChange s with cond := some uptoSmall }

/-- 'recastlaw8.TypesText', WHERE WHAT IT READS IS OF BULK AT MOST 1048576: true; the input reads as it did. -/
def typesTextUptoRow : OpenClaim := { program := "ytifcikhgbafegaa", sum := "815e6f3a9a7fadf05b93df84c9a890a65a691f1f23ec0790edfc015ec44cfcd4", func := "recast/recastlaw8.TypesText", spec := "typesText", inPlace := ["internal/abi.NoEscape"], unfollowed := true, recurses := true, loops := true, apart := false, narrowed := true }
def TypesTextUptoSaid : Prop := typesTextUptoRow.holds Try.pinned (OpenSpec.upto typesTextSpec)

/-- 'recastlaw8.TypesSubst', WHERE WHAT IT READS IS OF BULK AT MOST 1048576: true; the input reads as it did. -/
def typesSubstUptoRow : OpenClaim := { program := "ytifcikhgbafegaa", sum := "815e6f3a9a7fadf05b93df84c9a890a65a691f1f23ec0790edfc015ec44cfcd4", func := "recast/recastlaw8.TypesSubst", spec := "typesSubst", inPlace := ["internal/abi.NoEscape"], unfollowed := true, recurses := true, loops := true, apart := false, narrowed := true }
def TypesSubstUptoSaid : Prop := typesSubstUptoRow.holds Try.pinned (OpenSpec.upto typesSubstSpec)

/-- 'recastlaw8.TypesMake', WHERE WHAT IT READS IS OF BULK AT MOST 1048576: true; the input reads as it did. -/
def typesMakeUptoRow : OpenClaim := { program := "ytifcikhgbafegaa", sum := "815e6f3a9a7fadf05b93df84c9a890a65a691f1f23ec0790edfc015ec44cfcd4", func := "recast/recastlaw8.TypesMake", spec := "typesMake", inPlace := ["internal/abi.NoEscape"], unfollowed := true, recurses := true, loops := true, apart := false, narrowed := true }
def TypesMakeUptoSaid : Prop := typesMakeUptoRow.holds Try.pinned (OpenSpec.upto typesMakeSpec)

/-- 'recastlaw8.TypesWorld', WHERE WHAT IT READS IS OF BULK AT MOST 1048576: true; the input reads as it did. -/
def typesWorldUptoRow : OpenClaim := { program := "ytifcikhgbafegaa", sum := "815e6f3a9a7fadf05b93df84c9a890a65a691f1f23ec0790edfc015ec44cfcd4", func := "recast/recastlaw8.TypesWorld", spec := "typesWorld", inPlace := ["internal/abi.NoEscape"], unfollowed := true, recurses := true, loops := true, apart := false, narrowed := true }
def TypesWorldUptoSaid : Prop := typesWorldUptoRow.holds Try.pinned (OpenSpec.upto typesWorldSpec)

/-- 'recastlaw8.TypesAsk', WHERE WHAT IT READS IS OF BULK AT MOST 1048576: true; the input reads as it did. -/
def typesAskUptoRow : OpenClaim := { program := "ytifcikhgbafegaa", sum := "815e6f3a9a7fadf05b93df84c9a890a65a691f1f23ec0790edfc015ec44cfcd4", func := "recast/recastlaw8.TypesAsk", spec := "typesAsk", inPlace := ["internal/abi.NoEscape"], unfollowed := true, recurses := true, loops := true, apart := false, narrowed := true }
def TypesAskUptoSaid : Prop := typesAskUptoRow.holds Try.pinned (OpenSpec.upto typesAskSpec)

/-- 'recastlaw8.TypesNothing', WHERE WHAT IT READS IS OF BULK AT MOST 1048576: true; the input reads as it did. -/
def typesNothingUptoRow : OpenClaim := { program := "ytifcikhgbafegaa", sum := "815e6f3a9a7fadf05b93df84c9a890a65a691f1f23ec0790edfc015ec44cfcd4", func := "recast/recastlaw8.TypesNothing", spec := "typesNothing", inPlace := ["internal/abi.NoEscape"], unfollowed := true, recurses := true, loops := true, apart := false, narrowed := true }
def TypesNothingUptoSaid : Prop := typesNothingUptoRow.holds Try.pinned (OpenSpec.upto typesNothingSpec)

end Rows
end Go.Proofs.Ytifcikhgbafegaa
