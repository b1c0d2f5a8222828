/-
  No cell of these rows narrows 'for every input' (looked for: loops, veiled, ifaces, maps, wideKeys, modest, calm, conditions, laid).
  DERIVED. THE GIVEN ROWS OF THIS SEAT. 5 by the template 'for every input the law returns true; each argument reads behind the call as it read before'; 0 by the template 'total and deterministic' (their statements: YtleiohccaagalaaTotals.lean).
  GIVEN WITH THE SEED: the statements are not yours to turn. If you find one false, say at which input.
  Laid BY PROGRAM, IN A SANDBOX (cutbox-rows.mjs): the forced cells as the released guide's own fill.sh prints them over the translation 257150d74705c337… (all of the seat's roots in one cut). By AI agents, Wed Nov 11 2026. No macro, syntax, notation, axiom, sorry.
-/
import Derived.Test.YtleiohccaagalaaChecked
import GoSem.Claim
import GoSem.ClaimJoined
import GoSem.ClaimMapViews
import Derived.JoinedTies
import Derived.KernelRfl
namespace Go.Proofs.Ytleiohccaagalaa
/- THE CELL 'sum', in the pinned program and in every row, IS THE sha256 OF THE DUMP (.gsa) THAT YtleiohccaagalaaProg.lean LOADS. Nothing in Lean hashes anything: it is a label: what it is worth is what the hold of that sum in a sandbox is worth. -/
noncomputable def Try.pinned : Pinned := { name := "ytleiohccaagalaa", sum := "257150d74705c33767a9e8f5783a646fe4c49f8fad32d96cd407214daa04c5a5", checked := Try.checked }
namespace Rows
def none {H : Type} : Left H := { results := [], args := [] }

/-- 'recastlaw6.TagsRead': WHATEVER THE INPUT: true; the input reads as it did. -/
def tagsReadSpec : ChangeSpec := { name := "tagsRead", fn := fun _ => fun
  | [d] => { results := [.lit (.bool true)], args := [d] }
  | _ => none }
def tagsReadRow : OpenClaim := { program := "ytleiohccaagalaa", sum := "257150d74705c33767a9e8f5783a646fe4c49f8fad32d96cd407214daa04c5a5", func := "recast/recastlaw6.TagsRead", spec := "tagsRead", inPlace := ["internal/bytealg.IndexByteString", "internal/bytealg.IndexString"], unfollowed := true, recurses := true, named := ["internal/bytealg.MaxLen"], apart := false }
def TagsReadSaid : Prop := tagsReadRow.holds Try.pinned (OpenSpec.ofChange tagsReadSpec)

/-- ITS FALSE NEIGHBOUR: 'it returns false'. Refute it at one input. -/
def tagsReadWrong : ChangeSpec := { name := "tagsRead", fn := fun _ => fun
  | [d] => { results := [.lit (.bool false)], args := [d] }
  | _ => none }
def TagsReadWrongFalsely : Prop := tagsReadRow.holds Try.pinned (OpenSpec.ofChange tagsReadWrong)

/-- 'recastlaw6.TagsHold': WHATEVER THE INPUT: true; the input reads as it did. -/
def tagsHoldSpec : ChangeSpec := { name := "tagsHold", fn := fun _ => fun
  | [d1, d2] => { results := [.lit (.bool true)], args := [d1, d2] }
  | _ => none }
def tagsHoldRow : OpenClaim := { program := "ytleiohccaagalaa", sum := "257150d74705c33767a9e8f5783a646fe4c49f8fad32d96cd407214daa04c5a5", func := "recast/recastlaw6.TagsHold", spec := "tagsHold", inPlace := ["internal/bytealg.IndexByteString", "internal/bytealg.IndexString"], unfollowed := true, recurses := true, named := ["internal/bytealg.MaxLen"], apart := false }
def TagsHoldSaid : Prop := tagsHoldRow.holds Try.pinned (OpenSpec.ofChange tagsHoldSpec)

/-- ITS FALSE NEIGHBOUR: 'it returns false'. Refute it at one input. -/
def tagsHoldWrong : ChangeSpec := { name := "tagsHold", fn := fun _ => fun
  | [d1, d2] => { results := [.lit (.bool false)], args := [d1, d2] }
  | _ => none }
def TagsHoldWrongFalsely : Prop := tagsHoldRow.holds Try.pinned (OpenSpec.ofChange tagsHoldWrong)

/-- 'recastlaw6.TagsSets': WHATEVER THE INPUT: true; the input reads as it did. -/
def tagsSetsSpec : ChangeSpec := { name := "tagsSets", fn := fun _ => fun
  | [d] => { results := [.lit (.bool true)], args := [d] }
  | _ => none }
def tagsSetsRow : OpenClaim := { program := "ytleiohccaagalaa", sum := "257150d74705c33767a9e8f5783a646fe4c49f8fad32d96cd407214daa04c5a5", func := "recast/recastlaw6.TagsSets", spec := "tagsSets", inPlace := ["internal/bytealg.IndexByteString", "internal/bytealg.IndexString"], unfollowed := true, recurses := true, named := ["internal/bytealg.MaxLen"], apart := false }
def TagsSetsSaid : Prop := tagsSetsRow.holds Try.pinned (OpenSpec.ofChange tagsSetsSpec)

/-- ITS FALSE NEIGHBOUR: 'it returns false'. Refute it at one input. -/
def tagsSetsWrong : ChangeSpec := { name := "tagsSets", fn := fun _ => fun
  | [d] => { results := [.lit (.bool false)], args := [d] }
  | _ => none }
def TagsSetsWrongFalsely : Prop := tagsSetsRow.holds Try.pinned (OpenSpec.ofChange tagsSetsWrong)

/-- 'recastlaw6.TagsNothing': WHATEVER THE INPUT: true; the input reads as it did. -/
def tagsNothingSpec : ChangeSpec := { name := "tagsNothing", fn := fun _ => fun
  | [d1, d2] => { results := [.lit (.bool true)], args := [d1, d2] }
  | _ => none }
def tagsNothingRow : OpenClaim := { program := "ytleiohccaagalaa", sum := "257150d74705c33767a9e8f5783a646fe4c49f8fad32d96cd407214daa04c5a5", func := "recast/recastlaw6.TagsNothing", spec := "tagsNothing", inPlace := ["internal/bytealg.IndexByteString", "internal/bytealg.IndexString"], unfollowed := true, recurses := true, named := ["internal/bytealg.MaxLen"], apart := false }
def TagsNothingSaid : Prop := tagsNothingRow.holds Try.pinned (OpenSpec.ofChange tagsNothingSpec)

/-- ITS FALSE NEIGHBOUR: 'it returns false'. Refute it at one input. -/
def tagsNothingWrong : ChangeSpec := { name := "tagsNothing", fn := fun _ => fun
  | [d1, d2] => { results := [.lit (.bool false)], args := [d1, d2] }
  | _ => none }
def TagsNothingWrongFalsely : Prop := tagsNothingRow.holds Try.pinned (OpenSpec.ofChange tagsNothingWrong)

/-- 'recastlaw6.TagsBack': WHATEVER THE INPUT: true; the input reads as it did. -/
def tagsBackSpec : ChangeSpec := { name := "tagsBack", fn := fun _ => fun
  | [d] => { results := [.lit (.bool true)], args := [d] }
  | _ => none }
def tagsBackRow : OpenClaim := { program := "ytleiohccaagalaa", sum := "257150d74705c33767a9e8f5783a646fe4c49f8fad32d96cd407214daa04c5a5", func := "recast/recastlaw6.TagsBack", spec := "tagsBack", inPlace := ["internal/bytealg.IndexByteString", "internal/bytealg.IndexString"], unfollowed := true, recurses := true, named := ["internal/bytealg.MaxLen"], apart := false }
def TagsBackSaid : Prop := tagsBackRow.holds Try.pinned (OpenSpec.ofChange tagsBackSpec)

/-- ITS FALSE NEIGHBOUR: 'it returns false'. Refute it at one input. -/
def tagsBackWrong : ChangeSpec := { name := "tagsBack", fn := fun _ => fun
  | [d] => { results := [.lit (.bool false)], args := [d] }
  | _ => none }
def TagsBackWrongFalsely : Prop := tagsBackRow.holds Try.pinned (OpenSpec.ofChange tagsBackWrong)

/- THE SECOND FORM. 'bulk': how many values and letters a reading holds, each counted each time it is reached (what is shared counts as often as it is met; a slice's spare places count too). A statement '..UptoSaid' is the law's where the arguments, and the package variables that the reading takes, are together of bulk at most 1048576: NARROWER than '..Said'. Prove '..Said' where nothing that the law and all that it calls make is longer than what came in: it says more and counts as full. Else prove '..UptoSaid'. A law counts once. -/
mutual
def uptoBulk {H : Type} : DataW H → Nat
  | .lit (.string bytes) => bytes.length + 1
  | .lit _ => 1
  | .nil => 1
  | .ptr d => uptoBulk d + 1
  | .slice elems spare => uptoBulkAll elems + uptoBulkAll spare + 1
  | .agg parts => uptoBulkAll parts + 1
  | .iface _ d => uptoBulk d + 1
  | .map entries => uptoBulkEntries entries + 1
  | .held _ => 1
def uptoBulkAll {H : Type} : List (DataW H) → Nat
  | [] => 0
  | d :: r => uptoBulk d + uptoBulkAll r
def uptoBulkEntries {H : Type} : List (Lit × DataW H) → Nat
  | [] => 0
  | x :: r => uptoBulkEntry x + uptoBulkEntries r
def uptoBulkEntry {H : Type} : Lit × DataW H → Nat
  | (.string bytes, d) => bytes.length + uptoBulk d + 1
  | (_, d) => uptoBulk d + 1
 end
def uptoSmall : (H : Type) → List (DataW H) → Bool := fun _ ds => decide (uptoBulkAll ds ≤ 1048576)
def OpenSpec.upto (s : _root_.Go.ChangeSpec) : _root_.Go.OpenSpec := { _root_.Go.OpenSpec.ofChange s with cond := some uptoSmall }

/-- 'recastlaw6.TagsRead', WHERE WHAT IT READS IS OF BULK AT MOST 1048576: true; the input reads as it did. -/
def tagsReadUptoRow : OpenClaim := { program := "ytleiohccaagalaa", sum := "257150d74705c33767a9e8f5783a646fe4c49f8fad32d96cd407214daa04c5a5", func := "recast/recastlaw6.TagsRead", spec := "tagsRead", inPlace := ["internal/bytealg.IndexByteString", "internal/bytealg.IndexString"], unfollowed := true, recurses := true, named := ["internal/bytealg.MaxLen"], apart := false, narrowed := true }
def TagsReadUptoSaid : Prop := tagsReadUptoRow.holds Try.pinned (OpenSpec.upto tagsReadSpec)

/-- 'recastlaw6.TagsHold', WHERE WHAT IT READS IS OF BULK AT MOST 1048576: true; the input reads as it did. -/
def tagsHoldUptoRow : OpenClaim := { program := "ytleiohccaagalaa", sum := "257150d74705c33767a9e8f5783a646fe4c49f8fad32d96cd407214daa04c5a5", func := "recast/recastlaw6.TagsHold", spec := "tagsHold", inPlace := ["internal/bytealg.IndexByteString", "internal/bytealg.IndexString"], unfollowed := true, recurses := true, named := ["internal/bytealg.MaxLen"], apart := false, narrowed := true }
def TagsHoldUptoSaid : Prop := tagsHoldUptoRow.holds Try.pinned (OpenSpec.upto tagsHoldSpec)

/-- 'recastlaw6.TagsSets', WHERE WHAT IT READS IS OF BULK AT MOST 1048576: true; the input reads as it did. -/
def tagsSetsUptoRow : OpenClaim := { program := "ytleiohccaagalaa", sum := "257150d74705c33767a9e8f5783a646fe4c49f8fad32d96cd407214daa04c5a5", func := "recast/recastlaw6.TagsSets", spec := "tagsSets", inPlace := ["internal/bytealg.IndexByteString", "internal/bytealg.IndexString"], unfollowed := true, recurses := true, named := ["internal/bytealg.MaxLen"], apart := false, narrowed := true }
def TagsSetsUptoSaid : Prop := tagsSetsUptoRow.holds Try.pinned (OpenSpec.upto tagsSetsSpec)

/-- 'recastlaw6.TagsNothing', WHERE WHAT IT READS IS OF BULK AT MOST 1048576: true; the input reads as it did. -/
def tagsNothingUptoRow : OpenClaim := { program := "ytleiohccaagalaa", sum := "257150d74705c33767a9e8f5783a646fe4c49f8fad32d96cd407214daa04c5a5", func := "recast/recastlaw6.TagsNothing", spec := "tagsNothing", inPlace := ["internal/bytealg.IndexByteString", "internal/bytealg.IndexString"], unfollowed := true, recurses := true, named := ["internal/bytealg.MaxLen"], apart := false, narrowed := true }
def TagsNothingUptoSaid : Prop := tagsNothingUptoRow.holds Try.pinned (OpenSpec.upto tagsNothingSpec)

/-- 'recastlaw6.TagsBack', WHERE WHAT IT READS IS OF BULK AT MOST 1048576: true; the input reads as it did. -/
def tagsBackUptoRow : OpenClaim := { program := "ytleiohccaagalaa", sum := "257150d74705c33767a9e8f5783a646fe4c49f8fad32d96cd407214daa04c5a5", func := "recast/recastlaw6.TagsBack", spec := "tagsBack", inPlace := ["internal/bytealg.IndexByteString", "internal/bytealg.IndexString"], unfollowed := true, recurses := true, named := ["internal/bytealg.MaxLen"], apart := false, narrowed := true }
def TagsBackUptoSaid : Prop := tagsBackUptoRow.holds Try.pinned (OpenSpec.upto tagsBackSpec)

end Rows
end Go.Proofs.Ytleiohccaagalaa
