/-
  The law at 8, 9, 10: its runs in the kernel, cut at the reading of the tokens and at the parse of the file.
-/
import Derived.Test.YtpmjneggkccaiaaGreatDoorMta
import Derived.Test.YtpmjneggkccaiaaGreatDoorAwk
set_option linter.unusedVariables false
set_option linter.unusedSimpArgs false
namespace Go.Proofs.YtpmjneggkccaiaaGreatDoor
open Go.RowKit
theorem tok_runs8 : Ev.runM (Ev.tabM Tryz.prog [] []) Ev.mTok8 = .ok := by kernel_rfl
theorem file_runs8 : Ev.runM (Ev.tabM Tryz.prog [] [Ev.mTok8]) Ev.mFile8 = .ok := by kernel_rfl
theorem law_runs8 : Ev.runEF (Ev.tabM Tryz.prog [4] [Ev.mFile8]) 3 [.int .i64 (.ofNat 8)] = .ok := by kernel_rfl
theorem tok_ok8 : Ev.MetOk Tryz.prog Ev.mTok8 := Ev.met_ok (Ev.tabM_ok mixed (fun _ h => by cases h) (fun _ h => by cases h)) tok_runs8
theorem file_ok8 : Ev.MetOk Tryz.prog Ev.mFile8 := Ev.met_ok (Ev.tabM_ok mixed (fun _ h => by cases h) (fun m h => by rw [List.mem_singleton.1 h]; exact tok_ok8)) file_runs8
theorem law8 (w : World) : Calls Tryz.prog 3 #[.int .i64 (.ofNat 8)] w fun e w' => e = .returned (.bool true) ∧ Below w.heap.size w w' :=
  (Ev.runF_tab (Ev.tabM_ok mixed awake_kn (fun m h => by rw [List.mem_singleton.1 h]; exact file_ok8)) law_runs8 (.cons .int .nil) w).mono fun _ _ ⟨e, a, b, c, d, f⟩ => ⟨e, ⟨a, b, c, d, f⟩⟩
theorem tok_runs9 : Ev.runM (Ev.tabM Tryz.prog [] []) Ev.mTok9 = .ok := by kernel_rfl
theorem file_runs9 : Ev.runM (Ev.tabM Tryz.prog [] [Ev.mTok9]) Ev.mFile9 = .ok := by kernel_rfl
theorem law_runs9 : Ev.runEF (Ev.tabM Tryz.prog [4] [Ev.mFile9]) 3 [.int .i64 (.ofNat 9)] = .ok := by kernel_rfl
theorem tok_ok9 : Ev.MetOk Tryz.prog Ev.mTok9 := Ev.met_ok (Ev.tabM_ok mixed (fun _ h => by cases h) (fun _ h => by cases h)) tok_runs9
theorem file_ok9 : Ev.MetOk Tryz.prog Ev.mFile9 := Ev.met_ok (Ev.tabM_ok mixed (fun _ h => by cases h) (fun m h => by rw [List.mem_singleton.1 h]; exact tok_ok9)) file_runs9
theorem law9 (w : World) : Calls Tryz.prog 3 #[.int .i64 (.ofNat 9)] w fun e w' => e = .returned (.bool true) ∧ Below w.heap.size w w' :=
  (Ev.runF_tab (Ev.tabM_ok mixed awake_kn (fun m h => by rw [List.mem_singleton.1 h]; exact file_ok9)) law_runs9 (.cons .int .nil) w).mono fun _ _ ⟨e, a, b, c, d, f⟩ => ⟨e, ⟨a, b, c, d, f⟩⟩
theorem tok_runs10 : Ev.runM (Ev.tabM Tryz.prog [] []) Ev.mTok10 = .ok := by kernel_rfl
theorem file_runs10 : Ev.runM (Ev.tabM Tryz.prog [] [Ev.mTok10]) Ev.mFile10 = .ok := by kernel_rfl
theorem law_runs10 : Ev.runEF (Ev.tabM Tryz.prog [4] [Ev.mFile10]) 3 [.int .i64 (.ofNat 10)] = .ok := by kernel_rfl
theorem tok_ok10 : Ev.MetOk Tryz.prog Ev.mTok10 := Ev.met_ok (Ev.tabM_ok mixed (fun _ h => by cases h) (fun _ h => by cases h)) tok_runs10
theorem file_ok10 : Ev.MetOk Tryz.prog Ev.mFile10 := Ev.met_ok (Ev.tabM_ok mixed (fun _ h => by cases h) (fun m h => by rw [List.mem_singleton.1 h]; exact tok_ok10)) file_runs10
theorem law10 (w : World) : Calls Tryz.prog 3 #[.int .i64 (.ofNat 10)] w fun e w' => e = .returned (.bool true) ∧ Below w.heap.size w w' :=
  (Ev.runF_tab (Ev.tabM_ok mixed awake_kn (fun m h => by rw [List.mem_singleton.1 h]; exact file_ok10)) law_runs10 (.cons .int .nil) w).mono fun _ _ ⟨e, a, b, c, d, f⟩ => ⟨e, ⟨a, b, c, d, f⟩⟩
end Go.Proofs.YtpmjneggkccaiaaGreatDoor
