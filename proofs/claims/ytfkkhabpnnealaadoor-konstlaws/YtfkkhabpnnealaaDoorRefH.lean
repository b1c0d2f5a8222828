/-
  The contracts of the document's own Of and Small, and of exact.Small, at every argument.
-/
import Derived.Test.YtfkkhabpnnealaaDoorRefF
namespace Go.Proofs.YtfkkhabpnnealaaDoor
open Go.RowKit
attribute [local go_sem ↓] Go.wp_at_zero Go.wp_at_succ
theorem or_put (sz x k : Nat) (hk : k ≤ 1) (hs : sz < 4294967296 ^ k) (hx : x ≤ 4294967295) : bits BinOp.or IntKind.u64 (sz : Int) (IntKind.u64.wrap ((x : Int) * 2 ^ (k * 32))) = ((sz + 4294967296 ^ k * x : Nat) : Int) ∧ sz + 4294967296 ^ k * x < 4294967296 ^ (k + 1) := by
  have hb : x * 2 ^ (k * 32) < 18446744073709551616 ∧ sz + 4294967296 ^ k * x < 4294967296 ^ (k + 1) := by
    rcases (show k = 0 ∨ k = 1 by omega) with h | h <;> subst h
    · simp at *; omega
    · simp at *; omega
  refine ⟨?_, hb.2⟩
  have e : IntKind.u64.wrap ((x : Int) * 2 ^ (k * 32)) = ((x * 2 ^ (k * 32) : Nat) : Int) := by
    rw [wrap64]
    have : ((x * 2 ^ (k * 32) % 18446744073709551616 : Nat) : Int) = (x : Int) * 2 ^ (k * 32) % 18446744073709551616 := by rw [Int.natCast_emod]; simp
    rw [← this, Nat.mod_eq_of_lt hb.1]
  have hp := pow_word k
  rw [hp] at hs
  have hj := nat_join (k * 32) (x * 2 ^ (k * 32)) sz (by simp) hs
  have h := u64_or_nat sz (x * 2 ^ (k * 32)) (by
    have : 2 ^ (k * 32) ≤ 2 ^ 32 := Nat.pow_le_pow_right (by omega) (by omega)
    have : (2 : Nat) ^ 32 = 4294967296 := by decide
    omega) hb.1
  rw [Nat.or_comm, hj] at h
  rw [e, h, hp, Nat.mul_comm x, Nat.add_comm]
/-- what Small answers -/
def smB (s : Bool) (N : Nat) : Bool := decide (N ≤ if s then 9223372036854775808 else 9223372036854775807)
def smV (s : Bool) (N : Nat) : Int := if smB s N then (if s then -(N : Int) else N) else 0
theorem smB_sg (s : Bool) (N : Nat) : smB (sgB s N) N = smB s N := by
  unfold smB sgB
  cases s <;> by_cases h : N = 0 <;> simp [h]
theorem smV_sg (s : Bool) (N : Nat) : smV (sgB s N) N = smV s N := by
  unfold smV
  rw [smB_sg]
  unfold sgB
  cases s <;> by_cases h : N = 0 <;> simp [h]
theorem tk_big {l : List Nat} (hw : Wd 4294967296 l) (h : 2 < tk l) : 18446744073709551616 ≤ vl 4294967296 l := by
  have hf := trim_form hw
  have hlen : (l.take (tk l)).length = tk l := by have := (tk_trim l).le; simp; omega
  have h1 := hf.low (by intro h0; rw [h0] at hlen; simp at hlen; omega)
  rw [hlen, trim_val] at h1
  have h3 := Nat.pow_le_pow_right (n := 4294967296) (by omega) (show 2 ≤ tk l - 1 by omega)
  have h4 : 4294967296 ^ 2 = 18446744073709551616 := by decide
  omega
end Go.Proofs.YtfkkhabpnnealaaDoor

