/- MethodsDeep for any int and any truth value. -/
import Derived.Test.YtdofhlmffponoaaDmr0
import Derived.Test.YtdofhlmffponoaaDmr1
import Derived.Test.YtdofhlmffponoaaDmr2
import Derived.Test.YtdofhlmffponoaaDmr3
import Derived.WalkKit
import Derived.KernelRfl
import Derived.Deep.DrawnRows
set_option linter.unusedVariables false
set_option linter.unusedSimpArgs false
namespace Go.Proofs.Ytdofhlmffponoaa
open Go.RowKit
attribute [local go_sem ↓] Go.wp_at_zero Go.wp_at_succ
set_option maxRecDepth 100000 in
set_option maxHeartbeats 4000000 in
theorem else_low (i : Int) (q : Bool) (h : i < 1) (w : World) : Calls Try.prog 3 #[.int .i64 i, .bool q] w fun e w' => e = .returned (.bool true) ∧ Below w.heap.size w w' := by
  have H10 : Hid (∀ W, Calls Try.prog 4 #[] W fun e w' => e = .returned (.bool true) ∧ Below W.heap.size W w') := awake_any
  have h1 : decide (i < 1) = true := by simpa using h
  go_enter Try.func3, Try.ntmps3
  go_wp2_with (first
    | (go_at_call 4; refine (H10.out _).mono ?_; rintro e w4 ⟨rfl, hb4⟩; have HB4 : Hid (Below w.heap.size w w4) := hb4; clear hb4))
  go_ret
  exact ⟨rfl, HB4.out⟩
set_option maxRecDepth 100000 in
set_option maxHeartbeats 4000000 in
theorem else_high (i : Int) (q : Bool) (h0 : ¬ i < 1) (h : 10 < i) (w : World) : Calls Try.prog 3 #[.int .i64 i, .bool q] w fun e w' => e = .returned (.bool true) ∧ Below w.heap.size w w' := by
  have H10 : Hid (∀ W, Calls Try.prog 4 #[] W fun e w' => e = .returned (.bool true) ∧ Below W.heap.size W w') := awake_any
  have h1 : decide (i < 1) = false := by simpa using h0
  have h2 : decide (10 < i) = true := by simpa using h
  go_enter Try.func3, Try.ntmps3
  go_wp2_with (first
    | (go_at_call 4; refine (H10.out _).mono ?_; rintro e w4 ⟨rfl, hb4⟩; have HB4 : Hid (Below w.heap.size w w4) := hb4; clear hb4))
  go_ret
  exact ⟨rfl, HB4.out⟩
theorem deep_any (i : Int) (q : Bool) (w : World) : Calls Try.prog 3 #[.int .i64 i, .bool q] w fun e w' => e = .returned (.bool true) ∧ Below w.heap.size w w' := by
  by_cases h0 : i < 1
  · exact else_low i q h0 w
  by_cases h1 : 10 < i
  · exact else_high i q h0 h1 w
  have h2 : i = 1 ∨ i = 2 ∨ i = 3 ∨ i = 4 ∨ i = 5 ∨ i = 6 ∨ i = 7 ∨ i = 8 ∨ i = 9 ∨ i = 10 := by omega
  rcases h2 with rfl | rfl | rfl | rfl | rfl | rfl | rfl | rfl | rfl | rfl
  · cases q
    · exact deep1f w
    · exact deep1t w
  · cases q
    · exact deep2f w
    · exact deep2t w
  · cases q
    · exact deep3f w
    · exact deep3t w
  · cases q
    · exact deep4f w
    · exact deep4t w
  · cases q
    · exact deep5f w
    · exact deep5t w
  · cases q
    · exact deep6f w
    · exact deep6t w
  · cases q
    · exact deep7f w
    · exact deep7t w
  · cases q
    · exact deep8f w
    · exact deep8t w
  · cases q
    · exact deep9f w
    · exact deep9t w
  · cases q
    · exact deep10f w
    · exact deep10t w
end Go.Proofs.Ytdofhlmffponoaa
