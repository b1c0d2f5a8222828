/-
  ScopeShadows, called in any memory: it returns true and leaves all that lay there as it was: from 1 to 10 by its runs, else by awake alone.
-/
import Derived.Test.YtpmjneggkccaiaaGreatDoorEls
import Derived.Test.YtpmjneggkccaiaaGreatDoorRua
import Derived.Test.YtpmjneggkccaiaaGreatDoorRub
import Derived.Test.YtpmjneggkccaiaaGreatDoorRuc
set_option linter.unusedVariables false
set_option linter.unusedSimpArgs false
namespace Go.Proofs.YtpmjneggkccaiaaGreatDoor
open Go.RowKit
theorem shadows_any (i : Int) (w : World) : Calls Tryz.prog 3 #[.int .i64 i] w fun e w' => e = .returned (.bool true) ∧ Below w.heap.size w w' := by
  by_cases h0 : i < 1
  · exact else_low i h0 w
  · by_cases h1 : 10 < i
    · exact else_high i h0 h1 w
    · have h : i = 1 ∨ i = 2 ∨ i = 3 ∨ i = 4 ∨ i = 5 ∨ i = 6 ∨ i = 7 ∨ i = 8 ∨ i = 9 ∨ i = 10 := by omega
      rcases h with rfl | rfl | rfl | rfl | rfl | rfl | rfl | rfl | rfl | rfl
      · exact law1 w
      · exact law2 w
      · exact law3 w
      · exact law4 w
      · exact law5 w
      · exact law6 w
      · exact law7 w
      · exact law8 w
      · exact law9 w
      · exact law10 w
end Go.Proofs.YtpmjneggkccaiaaGreatDoor
