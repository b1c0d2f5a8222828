/- Runs of MethodsDeep. -/
import Derived.Test.YtdofhlmffponoaaDmk
import Derived.WalkKit
import Derived.KernelRfl
import Derived.Deep.DrawnRows
set_option linter.unusedVariables false
set_option linter.unusedSimpArgs false
namespace Go.Proofs.Ytdofhlmffponoaa
open Go.RowKit
theorem run1t : Ev.runEF (Ev.tabM Try.prog [4] [Ev.mC1t, Ev.mD1t]) 3 [.int .i64 (.ofNat 1), .bool true] = .ok := by kernel_rfl
theorem deep1t (w : World) : Calls Try.prog 3 #[.int .i64 1, .bool true] w fun e w' => e = .returned (.bool true) ∧ Below w.heap.size w w' :=
  (Ev.runF_tab (Ev.tabM_ok mixed awake_kn Ev.ok1t) run1t (.cons .int (.cons .bool .nil)) w).mono fun _ _ ⟨e, a, b, c, d, f⟩ => ⟨e, ⟨a, b, c, d, f⟩⟩
theorem run2t : Ev.runEF (Ev.tabM Try.prog [4] [Ev.mC2t, Ev.mD2t]) 3 [.int .i64 (.ofNat 2), .bool true] = .ok := by kernel_rfl
theorem deep2t (w : World) : Calls Try.prog 3 #[.int .i64 2, .bool true] w fun e w' => e = .returned (.bool true) ∧ Below w.heap.size w w' :=
  (Ev.runF_tab (Ev.tabM_ok mixed awake_kn Ev.ok2t) run2t (.cons .int (.cons .bool .nil)) w).mono fun _ _ ⟨e, a, b, c, d, f⟩ => ⟨e, ⟨a, b, c, d, f⟩⟩
theorem run3t : Ev.runEF (Ev.tabM Try.prog [4] [Ev.mC3t, Ev.mD3t]) 3 [.int .i64 (.ofNat 3), .bool true] = .ok := by kernel_rfl
theorem deep3t (w : World) : Calls Try.prog 3 #[.int .i64 3, .bool true] w fun e w' => e = .returned (.bool true) ∧ Below w.heap.size w w' :=
  (Ev.runF_tab (Ev.tabM_ok mixed awake_kn Ev.ok3t) run3t (.cons .int (.cons .bool .nil)) w).mono fun _ _ ⟨e, a, b, c, d, f⟩ => ⟨e, ⟨a, b, c, d, f⟩⟩
theorem run4t : Ev.runEF (Ev.tabM Try.prog [4] [Ev.mC4t, Ev.mD4t]) 3 [.int .i64 (.ofNat 4), .bool true] = .ok := by kernel_rfl
theorem deep4t (w : World) : Calls Try.prog 3 #[.int .i64 4, .bool true] w fun e w' => e = .returned (.bool true) ∧ Below w.heap.size w w' :=
  (Ev.runF_tab (Ev.tabM_ok mixed awake_kn Ev.ok4t) run4t (.cons .int (.cons .bool .nil)) w).mono fun _ _ ⟨e, a, b, c, d, f⟩ => ⟨e, ⟨a, b, c, d, f⟩⟩
theorem run5t : Ev.runEF (Ev.tabM Try.prog [4] [Ev.mC5t, Ev.mD5t]) 3 [.int .i64 (.ofNat 5), .bool true] = .ok := by kernel_rfl
theorem deep5t (w : World) : Calls Try.prog 3 #[.int .i64 5, .bool true] w fun e w' => e = .returned (.bool true) ∧ Below w.heap.size w w' :=
  (Ev.runF_tab (Ev.tabM_ok mixed awake_kn Ev.ok5t) run5t (.cons .int (.cons .bool .nil)) w).mono fun _ _ ⟨e, a, b, c, d, f⟩ => ⟨e, ⟨a, b, c, d, f⟩⟩
theorem run6t : Ev.runEF (Ev.tabM Try.prog [4] [Ev.mC6t, Ev.mD6t]) 3 [.int .i64 (.ofNat 6), .bool true] = .ok := by kernel_rfl
theorem deep6t (w : World) : Calls Try.prog 3 #[.int .i64 6, .bool true] w fun e w' => e = .returned (.bool true) ∧ Below w.heap.size w w' :=
  (Ev.runF_tab (Ev.tabM_ok mixed awake_kn Ev.ok6t) run6t (.cons .int (.cons .bool .nil)) w).mono fun _ _ ⟨e, a, b, c, d, f⟩ => ⟨e, ⟨a, b, c, d, f⟩⟩
end Go.Proofs.Ytdofhlmffponoaa
