/-
  ExactSpread's law, walked: any three numbers.
-/
import Derived.Test.YtimjafgaadafdabDoorWalkP
import Derived.Test.YtimjafgaadafdabDoorMath
namespace Go.Proofs.YtimjafgaadafdabDoor
open Go.RowKit
attribute [local go_sem ↓] Go.wp_at_zero Go.wp_at_succ
theorem boxes1 (w : World) (c0 c1 : Value) (t : TypeId) {W : World} (hW : w.alloc (.cells #[c0, c1] t) = W) : Box W w.heap.size c0 c1 ∧ Below w.heap.size w W ∧ W.heap.size = w.heap.size + 1 := by
  subst hW
  exact ⟨Box.new w c0 c1 t, (Below.refl _ _).alloc (Nat.le_refl _) _, by simp⟩
theorem val_lt {w : World} {ao : Option Addr} {n cap : Nat} {l : List Nat} (h : Sl w ao n cap l) (hn : n ≤ 4) : vl 4294967296 l < 4294967296 ^ 4 := by
  have h1 := vl_lt 4294967296 l h.wd
  have h2 := Nat.pow_le_pow_right (n := 4294967296) (by omega) (show l.length ≤ 4 by have := h.len; omega)
  omega
theorem big_false {N : Nat} (h : N < 4294967296 ^ 16) : bigN N = false := by
  unfold bigN
  exact decide_eq_false (by omega)
theorem addR_le (s : Bool) (N : Nat) (t : Bool) (M : Nat) : (addR s N t M).2 ≤ N + M := by
  unfold addR
  split
  · exact Nat.le_refl _
  · split <;> simp <;> omega
theorem addE_small {s : Bool} {N : Nat} {t : Bool} {M : Nat} (h : N + M < 4294967296 ^ 16) : addE s N t M = 0 ∧ addV s N t M ≤ N + M := by
  have h1 := addR_le s N t M
  have b1 := big_false (show N < 4294967296 ^ 16 by omega)
  have b2 := big_false (show M < 4294967296 ^ 16 by omega)
  have b3 := big_false (show (addR s N t M).2 < 4294967296 ^ 16 by omega)
  constructor
  · simp [addE, eBig, b1, b2, b3]
  · simp [addV, cutN, b1, b2, b3]; exact h1
theorem mulE_small {N M : Nat} (h1 : N < 4294967296 ^ 16) (h2 : M < 4294967296 ^ 16) (h : N * M < 4294967296 ^ 16) : mulE N M = 0 ∧ mulV N M = N * M := by
  have b1 := big_false h1
  have b2 := big_false h2
  have b3 := big_false h
  constructor
  · simp [mulE, eBig, b1, b2, b3]
  · simp [mulV, cutN, b1, b2, b3]
theorem form_zi {s : Bool} {N : Nat} {t : Bool} {M : Nat} (h : zi (sgB s N) N = zi (sgB t M) M) : N = M ∧ sgB s N = sgB t M := by
  unfold zi sgB at *
  cases s <;> cases t <;> by_cases h1 : N = 0 <;> by_cases h2 : M = 0 <;> simp [h1, h2] at h ⊢ <;> omega
theorem p4_5 : 4294967296 ^ 4 + 4294967296 ^ 4 ≤ 4294967296 ^ 5 := by
  rw [show (5 : Nat) = 4 + 1 from rfl, Nat.pow_succ]
  have : 0 < 4294967296 ^ 4 := Nat.pow_pos (by omega)
  omega
theorem p_up {a : Nat} (N k : Nat) (h : N < 4294967296 ^ k) (hk : k ≤ a) : N < 4294967296 ^ a := Nat.lt_of_lt_of_le h (Nat.pow_le_pow_right (by omega) hk)
theorem p_mul {N M a b : Nat} (h1 : N < 4294967296 ^ a) (h2 : M < 4294967296 ^ b) : N * M < 4294967296 ^ (a + b) := by
  rw [Nat.pow_add]
  exact Nat.mul_lt_mul'' h1 h2
end Go.Proofs.YtimjafgaadafdabDoor
