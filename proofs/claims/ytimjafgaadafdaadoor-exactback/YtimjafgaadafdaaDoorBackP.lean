/-
  ExactBack, plain: a quotient times its divisor and the rest give the dividend back.
-/
import Derived.Test.YtimjafgaadafdaaDoorMath
import Derived.Test.YtimjafgaadafdaaDoorWalkP
namespace Go.Proofs.YtimjafgaadafdaaDoor
theorem bigN_le {N M : Nat} (h : bigN M = false) (hle : N ≤ M) : bigN N = false := by
  simp only [bigN, decide_eq_false_iff_not] at *
  omega
theorem bigN_lt {N : Nat} (h : bigN N = false) : N < 4294967296 ^ 16 := by
  simp only [bigN, decide_eq_false_iff_not] at h
  omega
theorem back_open {N M : Nat} (h : quoE N M = 0) : bigN N = false ∧ bigN M = false ∧ M ≠ 0 ∧ quoQ N M = N / M ∧ quoR N M = N % M := by
  unfold quoE at h
  by_cases hb : (bigN N || bigN M) = true
  · rw [if_pos hb] at h; omega
  · by_cases h0 : M = 0
    · rw [if_neg hb, if_pos h0] at h; omega
    · refine ⟨by cases h1 : bigN N <;> simp_all, by cases h1 : bigN M <;> simp_all, h0, ?_, ?_⟩
      · unfold quoQ; rw [if_neg hb, if_neg h0]
      · unfold quoR; rw [if_neg hb, if_neg h0]
theorem cutN_small {N : Nat} (h : bigN N = false) : cutN N = N := by simp [cutN, h]
theorem eBig_small {N : Nat} (h : bigN N = false) : eBig N = 0 := by simp [eBig, h]
theorem back_mul {N M : Nat} (h : quoE N M = 0) : mulE (quoQ N M) M = 0 ∧ mulV (quoQ N M) M = N / M * M := by
  obtain ⟨hN, hM, h0, hq, hr⟩ := back_open h
  have h1 : bigN (N / M) = false := bigN_le hN (Nat.div_le_self _ _)
  have h2 : bigN (N / M * M) = false := bigN_le hN (Nat.div_mul_le_self _ _)
  rw [hq]
  exact ⟨by simp [mulE, h1, hM, eBig_small h2], by simp [mulV, h1, hM, cutN_small h2]⟩
theorem sgB_prod (s t : Bool) (q M : Nat) : sgB (sgB (s != t) q != t) (q * M) = sgB s (q * M) := by
  by_cases h : q = 0
  · subst h; simp [sgB]
  · rw [sgB_pos h]; cases s <;> cases t <;> rfl
theorem addR_parts (s : Bool) (P R : Nat) : (addR (sgB s P) P (sgB s R) R).2 = P + R ∧ (P + R ≠ 0 → (addR (sgB s P) P (sgB s R) R).1 = s) := by
  by_cases hP : P = 0
  · by_cases hR : R = 0
    · subst hP hR; cases s <;> simp [addR, sgB]
    · have h1 : 0 < R := by omega
      subst hP; cases s <;> simp [addR, sgB, hR, h1]
  · by_cases hR : R = 0
    · subst hR; cases s <;> simp [addR, sgB, hP]
    · cases s <;> simp [addR, sgB, hP, hR]
theorem back_sum {N M : Nat} (h : quoE N M = 0) (s1 s2 : Bool) :
    addE (mulS (sgB (s1 != s2) (quoQ N M)) (quoQ N M) s2 M) (mulV (quoQ N M) M) (sgB s1 (quoR N M)) (quoR N M) = 0 ∧
    addV (mulS (sgB (s1 != s2) (quoQ N M)) (quoQ N M) s2 M) (mulV (quoQ N M) M) (sgB s1 (quoR N M)) (quoR N M) = N ∧
    addS (mulS (sgB (s1 != s2) (quoQ N M)) (quoQ N M) s2 M) (mulV (quoQ N M) M) (sgB s1 (quoR N M)) (quoR N M) = sgB s1 N := by
  have hm := (back_mul h).2
  obtain ⟨hN, hM, h0, hq, hr⟩ := back_open h
  rw [hq] at hm
  rw [hr, hq]
  have e1 : mulS (sgB (s1 != s2) (N / M)) (N / M) s2 M = sgB s1 (N / M * M) := by unfold mulS; rw [hm]; exact sgB_prod _ _ _ _
  rw [e1, hm]
  have hs : N / M * M + N % M = N := by rw [Nat.mul_comm]; exact Nat.div_add_mod N M
  obtain ⟨k1, k2⟩ := addR_parts s1 (N / M * M) (N % M)
  rw [hs] at k1 k2
  have b1 : bigN (N / M * M) = false := bigN_le hN (by omega)
  have b2 : bigN (N % M) = false := bigN_le hN (Nat.mod_le _ _)
  have hv : addV (sgB s1 (N / M * M)) (N / M * M) (sgB s1 (N % M)) (N % M) = N := by unfold addV; rw [b1, b2, k1]; simp [cutN_small hN]
  refine ⟨by unfold addE; rw [b1, b2, k1]; simp [eBig_small hN], hv, ?_⟩
  unfold addS
  rw [hv]
  by_cases hz : N = 0
  · subst hz; simp [sgB]
  · rw [k2 hz]
theorem zi_zero (s : Bool) : zi s 0 = 0 := by unfold zi; split <;> rfl
theorem zi_lt {s : Bool} {N : Nat} : zi s N < 0 ↔ s = true ∧ N ≠ 0 := by unfold zi; cases s <;> simp <;> omega
theorem cmpI_self (a : Int) : cmpI a a = 0 := by unfold cmpI; simp
end Go.Proofs.YtimjafgaadafdaaDoor
