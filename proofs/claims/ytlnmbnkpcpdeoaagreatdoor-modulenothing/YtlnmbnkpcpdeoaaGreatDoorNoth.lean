/-
  ModuleNothing, called in any memory with any path and any set of tags: it returns true and leaves all that lay there as it was. What is handed in is handed about alone; the rest is a closed call: the evaluator runs it in the kernel.
-/
import Derived.Test.YtlnmbnkpcpdeoaaGreatDoorEvTop
import Derived.Test.YtlnmbnkpcpdeoaaGreatDoorProg
import Derived.WalkKit
import Derived.KernelRfl
import Derived.Deep.DrawnRows
set_option linter.unusedVariables false
set_option linter.unusedSimpArgs false
namespace Go.Proofs.YtlnmbnkpcpdeoaaGreatDoor
open Go.RowKit
theorem nothing_runs : Ev.runE (Ev.tabOf Tryz.prog) 3 [.any, .any] = .ok := by kernel_rfl
theorem mixed : Tryz.prog.follows .mixedOrders = true := by kernel_rfl
theorem nothing_any (s : ByteArray) (a : Option Addr) (n c : Nat) (w : World) : Calls Tryz.prog 3 #[.string s, .slice a n c] w fun e w' => e = .returned (.bool true) ∧ Below w.heap.size w w' :=
  (Ev.run_sound mixed nothing_runs (.cons (.any rfl) (.cons (.any rfl) .nil)) w).mono fun _ _ ⟨e, a, b, c, d, f⟩ => ⟨e, ⟨a, b, c, d, f⟩⟩
end Go.Proofs.YtlnmbnkpcpdeoaaGreatDoor
