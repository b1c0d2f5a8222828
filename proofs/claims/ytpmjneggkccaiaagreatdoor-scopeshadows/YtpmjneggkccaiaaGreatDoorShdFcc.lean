/-
  The closed facts of the row of ScopeShadows, together.
-/
import Derived.Test.YtpmjneggkccaiaaGreatDoorShdFct
namespace Go.Proofs.YtpmjneggkccaiaaGreatDoor.scopeShadows
set_option maxRecDepth 100000 in
theorem closed : joinedFacts Tryz.prog 3 Tryz.f3 Rows.scopeShadowsSpec Rows.scopeShadowsRow = true := by
  unfold joinedFacts
  exact (andI (andI (andI (andI (andI (andI (andI (andI (andI (andI (andI (andI (andI (andI (andI (andI (andI (andI (andI (andI (andI (andI (andI (andI (andI (andI (andI (andI (andI (andI (andI jf0 jf1) jf2) jf3) jf4) jf5) jf6) jf7) jf8) jf9) jf10) jf11) jf12) jf13) jf14) jf15) jf16) jf17) jf18) jf19) jf20) jf21) jf22) jf23) jf24) jf25) jf26) jf27) jf28) jf29) jf30) jf31)
end Go.Proofs.YtpmjneggkccaiaaGreatDoor.scopeShadows
