/- awake, called in any memory: it returns true and leaves all that lay there as it was. It is a closed call: the evaluator runs it in the kernel. -/
import Derived.Test.YtdofhlmffponoaaDma
import Derived.Test.YtdofhlmffponoaaProg
import Derived.WalkKit
import Derived.KernelRfl
import Derived.Deep.DrawnRows
set_option linter.unusedVariables false
set_option linter.unusedSimpArgs false
namespace Go.Proofs.Ytdofhlmffponoaa
open Go.RowKit
theorem awake_runs : Ev.runEF (Ev.tabM Try.prog [] [Ev.mC0a, Ev.mD0a]) 4 [] = .ok := by kernel_rfl
theorem mixed : Try.prog.follows .mixedOrders = true := by kernel_rfl
theorem awake_any (w : World) : Calls Try.prog 4 #[] w fun e w' => e = .returned (.bool true) ∧ Below w.heap.size w w' :=
  (Ev.runF_tab (Ev.tabM_ok mixed (fun f hf => by cases hf) Ev.ok0a) awake_runs .nil w).mono fun _ _ ⟨e, a, b, c, d, f⟩ => ⟨e, ⟨a, b, c, d, f⟩⟩
theorem awake_kn : ∀ f, f ∈ [4] → ∀ w, Calls Try.prog f #[] w (fun e w' => e = .returned (.bool true) ∧ w'.os = w.os ∧ w'.tape = w.tape ∧ w'.output = w.output ∧ w.heap.size ≤ w'.heap.size ∧ ∀ i, i < w.heap.size → w'.heap[i]? = w.heap[i]?) := by
  intro f hf w
  have e : f = 4 := by simpa using hf
  subst e
  exact Ev.runF_tab (Ev.tabM_ok mixed (fun f hf => by cases hf) Ev.ok0a) awake_runs .nil w
end Go.Proofs.Ytdofhlmffponoaa
