/- Runs of MethodsDeep. -/
import Derived.Test.YtdofhlmffponoaaDmk
import Derived.WalkKit
import Derived.KernelRfl
import Derived.Deep.DrawnRows
set_option linter.unusedVariables false
set_option linter.unusedSimpArgs false
namespace Go.Proofs.Ytdofhlmffponoaa
open Go.RowKit
theorem run7t : Ev.runEF (Ev.tabM Try.prog [4] [Ev.mC7t, Ev.mD7t]) 3 [.int .i64 (.ofNat 7), .bool true] = .ok := by kernel_rfl
theorem deep7t (w : World) : Calls Try.prog 3 #[.int .i64 7, .bool true] w fun e w' => e = .returned (.bool true) ∧ Below w.heap.size w w' :=
  (Ev.runF_tab (Ev.tabM_ok mixed awake_kn Ev.ok7t) run7t (.cons .int (.cons .bool .nil)) w).mono fun _ _ ⟨e, a, b, c, d, f⟩ => ⟨e, ⟨a, b, c, d, f⟩⟩
theorem run8t : Ev.runEF (Ev.tabM Try.prog [4] [Ev.mC8t, Ev.mD8t]) 3 [.int .i64 (.ofNat 8), .bool true] = .ok := by kernel_rfl
theorem deep8t (w : World) : Calls Try.prog 3 #[.int .i64 8, .bool true] w fun e w' => e = .returned (.bool true) ∧ Below w.heap.size w w' :=
  (Ev.runF_tab (Ev.tabM_ok mixed awake_kn Ev.ok8t) run8t (.cons .int (.cons .bool .nil)) w).mono fun _ _ ⟨e, a, b, c, d, f⟩ => ⟨e, ⟨a, b, c, d, f⟩⟩
theorem run9t : Ev.runEF (Ev.tabM Try.prog [4] [Ev.mC9t, Ev.mD9t]) 3 [.int .i64 (.ofNat 9), .bool true] = .ok := by kernel_rfl
theorem deep9t (w : World) : Calls Try.prog 3 #[.int .i64 9, .bool true] w fun e w' => e = .returned (.bool true) ∧ Below w.heap.size w w' :=
  (Ev.runF_tab (Ev.tabM_ok mixed awake_kn Ev.ok9t) run9t (.cons .int (.cons .bool .nil)) w).mono fun _ _ ⟨e, a, b, c, d, f⟩ => ⟨e, ⟨a, b, c, d, f⟩⟩
theorem run10t : Ev.runEF (Ev.tabM Try.prog [4] [Ev.mC10t, Ev.mD10t]) 3 [.int .i64 (.ofNat 10), .bool true] = .ok := by kernel_rfl
theorem deep10t (w : World) : Calls Try.prog 3 #[.int .i64 10, .bool true] w fun e w' => e = .returned (.bool true) ∧ Below w.heap.size w w' :=
  (Ev.runF_tab (Ev.tabM_ok mixed awake_kn Ev.ok10t) run10t (.cons .int (.cons .bool .nil)) w).mono fun _ _ ⟨e, a, b, c, d, f⟩ => ⟨e, ⟨a, b, c, d, f⟩⟩
end Go.Proofs.Ytdofhlmffponoaa
