/-
  The law at 1, 2, 3, 4: its runs in the kernel, cut at the reading of the tokens and at the parse of the file.
-/
import Derived.Test.YtpmjneggkccaiaaGreatDoorMta
import Derived.Test.YtpmjneggkccaiaaGreatDoorAwk
set_option linter.unusedVariables false
set_option linter.unusedSimpArgs false
namespace Go.Proofs.YtpmjneggkccaiaaGreatDoor
open Go.RowKit
theorem tok_runs1 : Ev.runM (Ev.tabM Tryz.prog [] []) Ev.mTok1 = .ok := by kernel_rfl
theorem file_runs1 : Ev.runM (Ev.tabM Tryz.prog [] [Ev.mTok1]) Ev.mFile1 = .ok := by kernel_rfl
theorem law_runs1 : Ev.runEF (Ev.tabM Tryz.prog [4] [Ev.mFile1]) 3 [.int .i64 (.ofNat 1)] = .ok := by kernel_rfl
theorem tok_ok1 : Ev.MetOk Tryz.prog Ev.mTok1 := Ev.met_ok (Ev.tabM_ok mixed (fun _ h => by cases h) (fun _ h => by cases h)) tok_runs1
theorem file_ok1 : Ev.MetOk Tryz.prog Ev.mFile1 := Ev.met_ok (Ev.tabM_ok mixed (fun _ h => by cases h) (fun m h => by rw [List.mem_singleton.1 h]; exact tok_ok1)) file_runs1
theorem law1 (w : World) : Calls Tryz.prog 3 #[.int .i64 (.ofNat 1)] w fun e w' => e = .returned (.bool true) ∧ Below w.heap.size w w' :=
  (Ev.runF_tab (Ev.tabM_ok mixed awake_kn (fun m h => by rw [List.mem_singleton.1 h]; exact file_ok1)) law_runs1 (.cons .int .nil) w).mono fun _ _ ⟨e, a, b, c, d, f⟩ => ⟨e, ⟨a, b, c, d, f⟩⟩
theorem tok_runs2 : Ev.runM (Ev.tabM Tryz.prog [] []) Ev.mTok2 = .ok := by kernel_rfl
theorem file_runs2 : Ev.runM (Ev.tabM Tryz.prog [] [Ev.mTok2]) Ev.mFile2 = .ok := by kernel_rfl
theorem law_runs2 : Ev.runEF (Ev.tabM Tryz.prog [4] [Ev.mFile2]) 3 [.int .i64 (.ofNat 2)] = .ok := by kernel_rfl
theorem tok_ok2 : Ev.MetOk Tryz.prog Ev.mTok2 := Ev.met_ok (Ev.tabM_ok mixed (fun _ h => by cases h) (fun _ h => by cases h)) tok_runs2
theorem file_ok2 : Ev.MetOk Tryz.prog Ev.mFile2 := Ev.met_ok (Ev.tabM_ok mixed (fun _ h => by cases h) (fun m h => by rw [List.mem_singleton.1 h]; exact tok_ok2)) file_runs2
theorem law2 (w : World) : Calls Tryz.prog 3 #[.int .i64 (.ofNat 2)] w fun e w' => e = .returned (.bool true) ∧ Below w.heap.size w w' :=
  (Ev.runF_tab (Ev.tabM_ok mixed awake_kn (fun m h => by rw [List.mem_singleton.1 h]; exact file_ok2)) law_runs2 (.cons .int .nil) w).mono fun _ _ ⟨e, a, b, c, d, f⟩ => ⟨e, ⟨a, b, c, d, f⟩⟩
theorem tok_runs3 : Ev.runM (Ev.tabM Tryz.prog [] []) Ev.mTok3 = .ok := by kernel_rfl
theorem file_runs3 : Ev.runM (Ev.tabM Tryz.prog [] [Ev.mTok3]) Ev.mFile3 = .ok := by kernel_rfl
theorem law_runs3 : Ev.runEF (Ev.tabM Tryz.prog [4] [Ev.mFile3]) 3 [.int .i64 (.ofNat 3)] = .ok := by kernel_rfl
theorem tok_ok3 : Ev.MetOk Tryz.prog Ev.mTok3 := Ev.met_ok (Ev.tabM_ok mixed (fun _ h => by cases h) (fun _ h => by cases h)) tok_runs3
theorem file_ok3 : Ev.MetOk Tryz.prog Ev.mFile3 := Ev.met_ok (Ev.tabM_ok mixed (fun _ h => by cases h) (fun m h => by rw [List.mem_singleton.1 h]; exact tok_ok3)) file_runs3
theorem law3 (w : World) : Calls Tryz.prog 3 #[.int .i64 (.ofNat 3)] w fun e w' => e = .returned (.bool true) ∧ Below w.heap.size w w' :=
  (Ev.runF_tab (Ev.tabM_ok mixed awake_kn (fun m h => by rw [List.mem_singleton.1 h]; exact file_ok3)) law_runs3 (.cons .int .nil) w).mono fun _ _ ⟨e, a, b, c, d, f⟩ => ⟨e, ⟨a, b, c, d, f⟩⟩
theorem tok_runs4 : Ev.runM (Ev.tabM Tryz.prog [] []) Ev.mTok4 = .ok := by kernel_rfl
theorem file_runs4 : Ev.runM (Ev.tabM Tryz.prog [] [Ev.mTok4]) Ev.mFile4 = .ok := by kernel_rfl
theorem law_runs4 : Ev.runEF (Ev.tabM Tryz.prog [4] [Ev.mFile4]) 3 [.int .i64 (.ofNat 4)] = .ok := by kernel_rfl
theorem tok_ok4 : Ev.MetOk Tryz.prog Ev.mTok4 := Ev.met_ok (Ev.tabM_ok mixed (fun _ h => by cases h) (fun _ h => by cases h)) tok_runs4
theorem file_ok4 : Ev.MetOk Tryz.prog Ev.mFile4 := Ev.met_ok (Ev.tabM_ok mixed (fun _ h => by cases h) (fun m h => by rw [List.mem_singleton.1 h]; exact tok_ok4)) file_runs4
theorem law4 (w : World) : Calls Tryz.prog 3 #[.int .i64 (.ofNat 4)] w fun e w' => e = .returned (.bool true) ∧ Below w.heap.size w w' :=
  (Ev.runF_tab (Ev.tabM_ok mixed awake_kn (fun m h => by rw [List.mem_singleton.1 h]; exact file_ok4)) law_runs4 (.cons .int .nil) w).mono fun _ _ ⟨e, a, b, c, d, f⟩ => ⟨e, ⟨a, b, c, d, f⟩⟩
end Go.Proofs.YtpmjneggkccaiaaGreatDoor
