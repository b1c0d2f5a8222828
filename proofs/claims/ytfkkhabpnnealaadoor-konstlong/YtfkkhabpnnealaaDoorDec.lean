/-
  Plain facts on decimal digits: no program is named here.
-/
import Derived.Test.YtfkkhabpnnealaaDoorPlain
namespace Go.Proofs.YtfkkhabpnnealaaDoor
/-- k decimal digits of n, the lowest first -/
def dg : Nat → Nat → List Nat
  | 0, _ => []
  | k + 1, n => n % 10 :: dg k (n / 10)
theorem dg_len : ∀ k n, (dg k n).length = k
  | 0, _ => rfl
  | k + 1, n => by simp [dg, dg_len k]
theorem dg_wd : ∀ k n, Wd 10 (dg k n)
  | 0, _ => by simp [dg, Wd]
  | k + 1, n => Wd.cons.2 ⟨Nat.mod_lt _ (by omega), dg_wd k _⟩
theorem dg_val : ∀ k n, n < 10 ^ k → vl 10 (dg k n) = n
  | 0, n, h => by simp at h; simp [dg, vl, h]
  | k + 1, n, h => by
    rw [Nat.pow_succ] at h
    simp only [dg, vl, dg_val k (n / 10) (by omega)]
    omega
theorem dg_app : ∀ a b n, dg (a + b) n = dg a n ++ dg b (n / 10 ^ a)
  | 0, b, n => by simp [dg]
  | a + 1, b, n => by
    rw [Nat.add_right_comm]
    simp only [dg, List.cons_append, dg_app a b (n / 10)]
    rw [Nat.div_div_eq_div_mul, Nat.pow_succ, Nat.mul_comm 10]
theorem dg_mod : ∀ k n, dg k (n % 10 ^ k) = dg k n
  | 0, n => rfl
  | k + 1, n => by
    simp only [dg]
    have h1 : n % 10 ^ (k + 1) % 10 = n % 10 := by
      rw [Nat.pow_succ, Nat.mod_mul_left_mod]
    have h2 : n % 10 ^ (k + 1) / 10 = (n / 10) % 10 ^ k := by
      rw [Nat.pow_succ, Nat.mul_comm, Nat.mod_mul_right_div_self]
    rw [h1, h2, dg_mod k]
end Go.Proofs.YtfkkhabpnnealaaDoor

