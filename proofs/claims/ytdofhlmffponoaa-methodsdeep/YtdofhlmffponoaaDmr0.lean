/- Runs of MethodsDeep. -/
import Derived.Test.YtdofhlmffponoaaDmk
import Derived.WalkKit
import Derived.KernelRfl
import Derived.Deep.DrawnRows
set_option linter.unusedVariables false
set_option linter.unusedSimpArgs false
namespace Go.Proofs.Ytdofhlmffponoaa
open Go.RowKit
theorem run1f : Ev.runEF (Ev.tabM Try.prog [4] [Ev.mC1f, Ev.mD1f]) 3 [.int .i64 (.ofNat 1), .bool false] = .ok := by kernel_rfl
theorem deep1f (w : World) : Calls Try.prog 3 #[.int .i64 1, .bool false] w fun e w' => e = .returned (.bool true) ∧ Below w.heap.size w w' :=
  (Ev.runF_tab (Ev.tabM_ok mixed awake_kn Ev.ok1f) run1f (.cons .int (.cons .bool .nil)) w).mono fun _ _ ⟨e, a, b, c, d, f⟩ => ⟨e, ⟨a, b, c, d, f⟩⟩
theorem run2f : Ev.runEF (Ev.tabM Try.prog [4] [Ev.mC2f, Ev.mD2f]) 3 [.int .i64 (.ofNat 2), .bool false] = .ok := by kernel_rfl
theorem deep2f (w : World) : Calls Try.prog 3 #[.int .i64 2, .bool false] w fun e w' => e = .returned (.bool true) ∧ Below w.heap.size w w' :=
  (Ev.runF_tab (Ev.tabM_ok mixed awake_kn Ev.ok2f) run2f (.cons .int (.cons .bool .nil)) w).mono fun _ _ ⟨e, a, b, c, d, f⟩ => ⟨e, ⟨a, b, c, d, f⟩⟩
theorem run3f : Ev.runEF (Ev.tabM Try.prog [4] [Ev.mC3f, Ev.mD3f]) 3 [.int .i64 (.ofNat 3), .bool false] = .ok := by kernel_rfl
theorem deep3f (w : World) : Calls Try.prog 3 #[.int .i64 3, .bool false] w fun e w' => e = .returned (.bool true) ∧ Below w.heap.size w w' :=
  (Ev.runF_tab (Ev.tabM_ok mixed awake_kn Ev.ok3f) run3f (.cons .int (.cons .bool .nil)) w).mono fun _ _ ⟨e, a, b, c, d, f⟩ => ⟨e, ⟨a, b, c, d, f⟩⟩
theorem run4f : Ev.runEF (Ev.tabM Try.prog [4] [Ev.mC4f, Ev.mD4f]) 3 [.int .i64 (.ofNat 4), .bool false] = .ok := by kernel_rfl
theorem deep4f (w : World) : Calls Try.prog 3 #[.int .i64 4, .bool false] w fun e w' => e = .returned (.bool true) ∧ Below w.heap.size w w' :=
  (Ev.runF_tab (Ev.tabM_ok mixed awake_kn Ev.ok4f) run4f (.cons .int (.cons .bool .nil)) w).mono fun _ _ ⟨e, a, b, c, d, f⟩ => ⟨e, ⟨a, b, c, d, f⟩⟩
theorem run5f : Ev.runEF (Ev.tabM Try.prog [4] [Ev.mC5f, Ev.mD5f]) 3 [.int .i64 (.ofNat 5), .bool false] = .ok := by kernel_rfl
theorem deep5f (w : World) : Calls Try.prog 3 #[.int .i64 5, .bool false] w fun e w' => e = .returned (.bool true) ∧ Below w.heap.size w w' :=
  (Ev.runF_tab (Ev.tabM_ok mixed awake_kn Ev.ok5f) run5f (.cons .int (.cons .bool .nil)) w).mono fun _ _ ⟨e, a, b, c, d, f⟩ => ⟨e, ⟨a, b, c, d, f⟩⟩
theorem run6f : Ev.runEF (Ev.tabM Try.prog [4] [Ev.mC6f, Ev.mD6f]) 3 [.int .i64 (.ofNat 6), .bool false] = .ok := by kernel_rfl
theorem deep6f (w : World) : Calls Try.prog 3 #[.int .i64 6, .bool false] w fun e w' => e = .returned (.bool true) ∧ Below w.heap.size w w' :=
  (Ev.runF_tab (Ev.tabM_ok mixed awake_kn Ev.ok6f) run6f (.cons .int (.cons .bool .nil)) w).mono fun _ _ ⟨e, a, b, c, d, f⟩ => ⟨e, ⟨a, b, c, d, f⟩⟩
end Go.Proofs.Ytdofhlmffponoaa
