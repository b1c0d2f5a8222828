/-
  What the answers of Add, Mul, Quo and Compare are as whole numbers.
-/
import Derived.Test.YtfkkhabpnnealaaGreatDoorWlkP
namespace Go.Proofs.YtfkkhabpnnealaaGreatDoor
def zi (s : Bool) (N : Nat) : Int := if s then -(N : Int) else N
theorem zi_sg (s : Bool) (N : Nat) : zi (sgB s N) N = zi s N := by
  unfold zi sgB
  cases s <;> by_cases h : N = 0 <;> simp [h]
theorem cmpI_neg (a b : Int) : cmpI (-a) (-b) = cmpI b a := by unfold cmpI; (repeat' split) <;> omega
theorem cmpV_eq (s : Bool) (N : Nat) (t : Bool) (M : Nat) : cmpV s N t M = cmpI (zi s N) (zi t M) := by
  unfold cmpV sgI sgB zi cmpI
  cases s <;> cases t <;> by_cases h1 : N = 0 <;> by_cases h2 : M = 0 <;> simp [h1, h2] <;> (repeat' split) <;> omega
theorem eBig_zero {N : Nat} (h : eBig N = 0) : cutN N = N := by
  unfold eBig at h
  unfold cutN
  split at h
  · omega
  · rename_i hn; simp [hn]
theorem addE_zero {s : Bool} {N : Nat} {t : Bool} {M : Nat} (h : addE s N t M = 0) : zi (addS s N t M) (addV s N t M) = zi s N + zi t M := by
  unfold addE at h
  split at h
  · omega
  · rename_i hb
    have hv : addV s N t M = (addR s N t M).2 := by unfold addV; rw [if_neg hb]; exact eBig_zero h
    rw [addS, hv, zi_sg]
    unfold addR zi
    by_cases hc : N < M <;> cases s <;> cases t <;> simp [hc] <;> omega
theorem addE_or (s : Bool) (N : Nat) (t : Bool) (M : Nat) : addE s N t M = 0 ∨ addE s N t M = 2 := by
  unfold addE eBig; (repeat' split) <;> simp
theorem cutN_lt (N : Nat) : cutN N < 4294967296 ^ 16 := by
  unfold cutN bigN
  by_cases h : 4294967296 ^ 16 ≤ N
  · rw [if_pos (by simpa using h)]; exact Nat.pow_pos (by omega)
  · rw [if_neg (by simpa using h)]; omega
theorem lim40 {N : Nat} (h : N < 4294967296 ^ 16) : N < 4294967296 ^ 40 := Nat.lt_of_lt_of_le h (Nat.pow_le_pow_right (by omega) (by omega))
theorem addV_lt (s : Bool) (N : Nat) (t : Bool) (M : Nat) : addV s N t M < 4294967296 ^ 40 := by
  unfold addV
  split
  · exact Nat.pow_pos (by omega)
  · exact lim40 (cutN_lt _)
theorem mulV_lt (N M : Nat) : mulV N M < 4294967296 ^ 40 := by
  unfold mulV
  split
  · exact Nat.pow_pos (by omega)
  · exact lim40 (cutN_lt _)
theorem mulE_zero {s : Bool} {N : Nat} {t : Bool} {M : Nat} (h : mulE N M = 0) : zi (mulS s N t M) (mulV N M) = zi s N * zi t M := by
  unfold mulE at h
  split at h
  · omega
  · rename_i hb
    have hv : mulV N M = N * M := by unfold mulV; rw [if_neg hb]; exact eBig_zero h
    rw [mulS, hv, zi_sg]
    unfold zi
    cases s <;> cases t <;> simp [Int.neg_mul, Int.mul_neg]
theorem addR_comm (s : Bool) (N : Nat) (t : Bool) (M : Nat) : (addR s N t M).2 = (addR t M s N).2 ∧ ((addR s N t M).2 ≠ 0 → (addR s N t M).1 = (addR t M s N).1) := by
  unfold addR
  rcases Nat.lt_trichotomy N M with h | h | h
  · have h2 : ¬ M < N := by omega
    cases s <;> cases t <;> simp [h, h2] <;> omega
  · subst h
    cases s <;> cases t <;> simp
  · have h2 : ¬ N < M := by omega
    cases s <;> cases t <;> simp [h, h2] <;> omega
theorem add_comm3 (s : Bool) (N : Nat) (t : Bool) (M : Nat) : addE s N t M = addE t M s N ∧ addV s N t M = addV t M s N ∧ addS s N t M = addS t M s N := by
  obtain ⟨h1, h2⟩ := addR_comm s N t M
  have e1 : addE s N t M = addE t M s N := by unfold addE; rw [h1, Bool.or_comm]
  have e2 : addV s N t M = addV t M s N := by unfold addV; rw [h1, Bool.or_comm]
  refine ⟨e1, e2, ?_⟩
  unfold addS
  rw [← e2]
  by_cases h0 : addV s N t M = 0
  · rw [h0, sgB_zero, sgB_zero]
  · have : (addR s N t M).2 ≠ 0 := by
      intro h3
      apply h0
      unfold addV
      rw [h3]; simp [cutN]
    rw [h2 this]
theorem mul_comm3 (s : Bool) (N : Nat) (t : Bool) (M : Nat) : mulE N M = mulE M N ∧ mulV N M = mulV M N ∧ mulS s N t M = mulS t M s N := by
  have e1 : mulE N M = mulE M N := by unfold mulE; rw [Nat.mul_comm, Bool.or_comm]
  have e2 : mulV N M = mulV M N := by unfold mulV; rw [Nat.mul_comm, Bool.or_comm]
  refine ⟨e1, e2, ?_⟩
  unfold mulS
  rw [e2]
  congr 1
  cases s <;> cases t <;> rfl
end Go.Proofs.YtfkkhabpnnealaaGreatDoor

