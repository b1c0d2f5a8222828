/-
  awake, called in any memory: it returns true and leaves all that lay there as it was. It is a closed call: the evaluator runs it in the kernel.
-/
import Derived.Test.YtfhccfebjdiceaaGreatDoorEvTop
import Derived.Test.YtfhccfebjdiceaaGreatDoorProg
import Derived.WalkKit
import Derived.KernelRfl
import Derived.Deep.DrawnRows
set_option linter.unusedVariables false
set_option linter.unusedSimpArgs false
namespace Go.Proofs.YtfhccfebjdiceaaGreatDoor
open Go.RowKit
theorem awake_runs : Ev.runE (Ev.tabOf Tryz.prog) 8 [] = .ok := by kernel_rfl
theorem mixed : Tryz.prog.follows .mixedOrders = true := by kernel_rfl
theorem awake_any (w : World) : Calls Tryz.prog 8 #[] w fun e w' => e = .returned (.bool true) ∧ Below w.heap.size w w' :=
  (Ev.run_sound mixed awake_runs .nil w).mono fun _ _ ⟨e, a, b, c, d, f⟩ => ⟨e, ⟨a, b, c, d, f⟩⟩
end Go.Proofs.YtfhccfebjdiceaaGreatDoor
