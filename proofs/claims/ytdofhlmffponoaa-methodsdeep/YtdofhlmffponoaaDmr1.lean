/- Runs of MethodsDeep. -/
import Derived.Test.YtdofhlmffponoaaDmk
import Derived.WalkKit
import Derived.KernelRfl
import Derived.Deep.DrawnRows
set_option linter.unusedVariables false
set_option linter.unusedSimpArgs false
namespace Go.Proofs.Ytdofhlmffponoaa
open Go.RowKit
theorem run7f : Ev.runEF (Ev.tabM Try.prog [4] [Ev.mC7f, Ev.mD7f]) 3 [.int .i64 (.ofNat 7), .bool false] = .ok := by kernel_rfl
theorem deep7f (w : World) : Calls Try.prog 3 #[.int .i64 7, .bool false] w fun e w' => e = .returned (.bool true) ∧ Below w.heap.size w w' :=
  (Ev.runF_tab (Ev.tabM_ok mixed awake_kn Ev.ok7f) run7f (.cons .int (.cons .bool .nil)) w).mono fun _ _ ⟨e, a, b, c, d, f⟩ => ⟨e, ⟨a, b, c, d, f⟩⟩
theorem run8f : Ev.runEF (Ev.tabM Try.prog [4] [Ev.mC8f, Ev.mD8f]) 3 [.int .i64 (.ofNat 8), .bool false] = .ok := by kernel_rfl
theorem deep8f (w : World) : Calls Try.prog 3 #[.int .i64 8, .bool false] w fun e w' => e = .returned (.bool true) ∧ Below w.heap.size w w' :=
  (Ev.runF_tab (Ev.tabM_ok mixed awake_kn Ev.ok8f) run8f (.cons .int (.cons .bool .nil)) w).mono fun _ _ ⟨e, a, b, c, d, f⟩ => ⟨e, ⟨a, b, c, d, f⟩⟩
theorem run9f : Ev.runEF (Ev.tabM Try.prog [4] [Ev.mC9f, Ev.mD9f]) 3 [.int .i64 (.ofNat 9), .bool false] = .ok := by kernel_rfl
theorem deep9f (w : World) : Calls Try.prog 3 #[.int .i64 9, .bool false] w fun e w' => e = .returned (.bool true) ∧ Below w.heap.size w w' :=
  (Ev.runF_tab (Ev.tabM_ok mixed awake_kn Ev.ok9f) run9f (.cons .int (.cons .bool .nil)) w).mono fun _ _ ⟨e, a, b, c, d, f⟩ => ⟨e, ⟨a, b, c, d, f⟩⟩
theorem run10f : Ev.runEF (Ev.tabM Try.prog [4] [Ev.mC10f, Ev.mD10f]) 3 [.int .i64 (.ofNat 10), .bool false] = .ok := by kernel_rfl
theorem deep10f (w : World) : Calls Try.prog 3 #[.int .i64 10, .bool false] w fun e w' => e = .returned (.bool true) ∧ Below w.heap.size w w' :=
  (Ev.runF_tab (Ev.tabM_ok mixed awake_kn Ev.ok10f) run10f (.cons .int (.cons .bool .nil)) w).mono fun _ _ ⟨e, a, b, c, d, f⟩ => ⟨e, ⟨a, b, c, d, f⟩⟩
end Go.Proofs.Ytdofhlmffponoaa
