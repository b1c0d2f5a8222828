/-
  The law at 5, 6, 7: its runs in the kernel, cut at the reading of the tokens and at the parse of the file.
-/
import Derived.Test.YtpmjneggkccaiaaGreatDoorMta
import Derived.Test.YtpmjneggkccaiaaGreatDoorAwk
set_option linter.unusedVariables false
set_option linter.unusedSimpArgs false
namespace Go.Proofs.YtpmjneggkccaiaaGreatDoor
open Go.RowKit
theorem tok_runs5 : Ev.runM (Ev.tabM Tryz.prog [] []) Ev.mTok5 = .ok := by kernel_rfl
theorem file_runs5 : Ev.runM (Ev.tabM Tryz.prog [] [Ev.mTok5]) Ev.mFile5 = .ok := by kernel_rfl
theorem law_runs5 : Ev.runEF (Ev.tabM Tryz.prog [4] [Ev.mFile5]) 3 [.int .i64 (.ofNat 5)] = .ok := by kernel_rfl
theorem tok_ok5 : Ev.MetOk Tryz.prog Ev.mTok5 := Ev.met_ok (Ev.tabM_ok mixed (fun _ h => by cases h) (fun _ h => by cases h)) tok_runs5
theorem file_ok5 : Ev.MetOk Tryz.prog Ev.mFile5 := Ev.met_ok (Ev.tabM_ok mixed (fun _ h => by cases h) (fun m h => by rw [List.mem_singleton.1 h]; exact tok_ok5)) file_runs5
theorem law5 (w : World) : Calls Tryz.prog 3 #[.int .i64 (.ofNat 5)] w fun e w' => e = .returned (.bool true) ∧ Below w.heap.size w w' :=
  (Ev.runF_tab (Ev.tabM_ok mixed awake_kn (fun m h => by rw [List.mem_singleton.1 h]; exact file_ok5)) law_runs5 (.cons .int .nil) w).mono fun _ _ ⟨e, a, b, c, d, f⟩ => ⟨e, ⟨a, b, c, d, f⟩⟩
theorem tok_runs6 : Ev.runM (Ev.tabM Tryz.prog [] []) Ev.mTok6 = .ok := by kernel_rfl
theorem file_runs6 : Ev.runM (Ev.tabM Tryz.prog [] [Ev.mTok6]) Ev.mFile6 = .ok := by kernel_rfl
theorem law_runs6 : Ev.runEF (Ev.tabM Tryz.prog [4] [Ev.mFile6]) 3 [.int .i64 (.ofNat 6)] = .ok := by kernel_rfl
theorem tok_ok6 : Ev.MetOk Tryz.prog Ev.mTok6 := Ev.met_ok (Ev.tabM_ok mixed (fun _ h => by cases h) (fun _ h => by cases h)) tok_runs6
theorem file_ok6 : Ev.MetOk Tryz.prog Ev.mFile6 := Ev.met_ok (Ev.tabM_ok mixed (fun _ h => by cases h) (fun m h => by rw [List.mem_singleton.1 h]; exact tok_ok6)) file_runs6
theorem law6 (w : World) : Calls Tryz.prog 3 #[.int .i64 (.ofNat 6)] w fun e w' => e = .returned (.bool true) ∧ Below w.heap.size w w' :=
  (Ev.runF_tab (Ev.tabM_ok mixed awake_kn (fun m h => by rw [List.mem_singleton.1 h]; exact file_ok6)) law_runs6 (.cons .int .nil) w).mono fun _ _ ⟨e, a, b, c, d, f⟩ => ⟨e, ⟨a, b, c, d, f⟩⟩
theorem tok_runs7 : Ev.runM (Ev.tabM Tryz.prog [] []) Ev.mTok7 = .ok := by kernel_rfl
theorem file_runs7 : Ev.runM (Ev.tabM Tryz.prog [] [Ev.mTok7]) Ev.mFile7 = .ok := by kernel_rfl
theorem law_runs7 : Ev.runEF (Ev.tabM Tryz.prog [4] [Ev.mFile7]) 3 [.int .i64 (.ofNat 7)] = .ok := by kernel_rfl
theorem tok_ok7 : Ev.MetOk Tryz.prog Ev.mTok7 := Ev.met_ok (Ev.tabM_ok mixed (fun _ h => by cases h) (fun _ h => by cases h)) tok_runs7
theorem file_ok7 : Ev.MetOk Tryz.prog Ev.mFile7 := Ev.met_ok (Ev.tabM_ok mixed (fun _ h => by cases h) (fun m h => by rw [List.mem_singleton.1 h]; exact tok_ok7)) file_runs7
theorem law7 (w : World) : Calls Tryz.prog 3 #[.int .i64 (.ofNat 7)] w fun e w' => e = .returned (.bool true) ∧ Below w.heap.size w w' :=
  (Ev.runF_tab (Ev.tabM_ok mixed awake_kn (fun m h => by rw [List.mem_singleton.1 h]; exact file_ok7)) law_runs7 (.cons .int .nil) w).mono fun _ _ ⟨e, a, b, c, d, f⟩ => ⟨e, ⟨a, b, c, d, f⟩⟩
end Go.Proofs.YtpmjneggkccaiaaGreatDoor
