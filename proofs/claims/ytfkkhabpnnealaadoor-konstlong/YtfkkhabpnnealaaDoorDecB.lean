/-
  Plain facts on the decimal digits that long division by 10^9 tells: no program is named here.
-/
import Derived.Test.YtfkkhabpnnealaaDoorWalkM
namespace Go.Proofs.YtfkkhabpnnealaaDoor
/-- pieces found so far: their digits and what is left make the whole -/
structure PcR (V : Nat) (i : Nat) (pl : List Nat) (rl : List Nat) : Prop where
  len : pl.length = 18
  le : ∀ x ∈ pl, x ≤ 4294967295
  form : Form 4294967296 rl
  eq : vl 10 (dsOf pl i) + 10 ^ (9 * i) * vl 4294967296 rl = V
theorem dsOf_set (pl : List Nat) (c : Nat) : ∀ i k, k ≤ i → dsOf (pl.set i c) k = dsOf pl k
  | _, 0, _ => rfl
  | i, k + 1, h => by
    simp only [dsOf, dsOf_set pl c i k (by omega)]
    rw [List.getD_eq_getElem?_getD, List.getElem?_set_ne (by omega), ← List.getD_eq_getElem?_getD]
theorem PcR.step {V i : Nat} {pl rl r : List Nat} {c : Nat} (h : PcR V i pl rl) (hi : i < 18) (he : vl 4294967296 r * 1000000000 + c = vl 4294967296 rl) (hc : c < 1000000000) (fr : Form 4294967296 (r.take (tk r))) : PcR V (i + 1) (pl.set i c) (r.take (tk r)) := by
  have hl := h.len
  refine ⟨by simpa using hl, ?_, fr, ?_⟩
  · intro x hx
    rcases List.mem_or_eq_of_mem_set hx with h1 | h1
    · exact h.le x h1
    · omega
  · have e1 : dsOf (pl.set i c) (i + 1) = dsOf pl i ++ dg 9 c := by
      simp only [dsOf, dsOf_set pl c i i (Nat.le_refl _)]
      rw [List.getD_eq_getElem?_getD, List.getElem?_set_self (by omega)]; rfl
    have h2 := h.eq
    rw [e1, vl_append, dsOf_len, dg_val 9 c (by simpa using hc), trim_val, ← h2, ← he]
    rw [show 9 * (i + 1) = 9 * i + 9 from by omega, Nat.pow_add]
    generalize 10 ^ (9 * i) = T
    have : (10 : Nat) ^ 9 = 1000000000 := by simp
    rw [this]
    generalize vl 4294967296 r = R
    grind
/-- texts found so far -/
structure TtR (V n k : Nat) (D rl : List Nat) : Prop where
  wd : Wd 10 D
  form : Form 4294967296 rl
  len : rl.length = k
  bound : D.length + 162 * k ≤ 162 * n
  eq : vl 10 D + 10 ^ D.length * vl 4294967296 rl = V
theorem big_pow : 4294967296 ≤ 10 ^ (9 * 18) := by
  have h1 : (10 : Nat) ^ (9 * 18) = 10 ^ 10 * 10 ^ 152 := by rw [← Nat.pow_add]
  have h2 : 0 < (10 : Nat) ^ 152 := Nat.pow_pos (by omega)
  have h3 := Nat.mul_le_mul_left (10 ^ 10) h2
  rw [h1]
  omega
theorem TtR.step {V n k : Nat} {D rl pl rl' : List Nat} (h : TtR V n k D rl) (hk : 0 < k) (hp : PcR (vl 4294967296 rl) 18 pl rl') : TtR V n rl'.length (D ++ dsOf pl 18) rl' ∧ rl'.length < k := by
  have hpe := hp.eq
  have hlt : rl'.length < k := by
    rcases Nat.lt_or_ge rl'.length k with h1 | h1
    · exact h1
    · have h2 := vl_lt 4294967296 rl h.form.wd
      have h3 := hp.form.low (by intro h0; rw [h0] at h1; simp at h1; omega)
      have h4 : 4294967296 ^ (k - 1) ≤ 4294967296 ^ (rl'.length - 1) := Nat.pow_le_pow_right (by omega) (by omega)
      have h5 := Nat.mul_le_mul big_pow (Nat.le_trans h4 h3)
      rw [h.len, show k = (k - 1) + 1 from by omega, Nat.pow_succ] at h2
      rw [Nat.mul_comm] at h5
      omega
  refine ⟨⟨Wd.append.2 ⟨h.wd, dsOf_wd pl 18⟩, hp.form, rfl, ?_, ?_⟩, hlt⟩
  · have := h.bound
    rw [List.length_append, dsOf_len]
    omega
  · rw [vl_append, List.length_append, dsOf_len, Nat.pow_add, ← h.eq, ← hpe]
    generalize 10 ^ D.length = T
    generalize 10 ^ (9 * 18) = U
    grind
theorem TtR.done {V n : Nat} {D rl : List Nat} (h : TtR V n 0 D rl) : vl 10 D = V ∧ Form 10 (D.take (tk D)) ∧ vl 10 (D.take (tk D)) = V := by
  have h0 : rl = [] := List.eq_nil_of_length_eq_zero h.len
  have h1 := h.eq
  rw [h0] at h1
  have h2 : vl 10 D = V := by simpa [vl] using h1
  have t := tk_trim D
  exact ⟨h2, Form.of_take h.wd _ t.le t.top, by rw [vl_take_zeros 10 D _ t.zero]; exact h2⟩
end Go.Proofs.YtfkkhabpnnealaaDoor

