/-
  awake, called in any memory: it returns true and leaves all that lay there as it was. It is a closed call: the evaluator runs it in the kernel.
-/
import Derived.Test.YtpcpncgigdebiaaEvTop
import Derived.Test.YtpcpncgigdebiaaProg
import Derived.WalkKit
import Derived.KernelRfl
import Derived.Deep.DrawnRows
set_option linter.unusedVariables false
set_option linter.unusedSimpArgs false
namespace Go.Proofs.Ytpcpncgigdebiaa
open Go.RowKit
theorem awake_runs : Ev.runEF (Ev.tabOf Try.prog) 6 [] = .ok := by kernel_rfl
theorem mixed : Try.prog.follows .mixedOrders = true := by kernel_rfl
theorem awake_any (w : World) : Calls Try.prog 6 #[] w fun e w' => e = .returned (.bool true) ∧ Below w.heap.size w w' :=
  (Ev.runF_tab (Ev.tabOf_ok mixed) awake_runs .nil w).mono fun _ _ ⟨e, a, b, c, d, f⟩ => ⟨e, ⟨a, b, c, d, f⟩⟩
end Go.Proofs.Ytpcpncgigdebiaa

