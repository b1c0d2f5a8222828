/-
  Plain facts for a division bit by bit: the words' bits, and the quotient and the rest of the first bits.
-/
import Derived.Test.YtfkkhabpnnealaaDoorPlain
namespace Go.Proofs.YtfkkhabpnnealaaDoor
theorem getD_vl : ∀ (l : List Nat) (k : Nat), Wd 4294967296 l → l.getD k 0 = vl 4294967296 l / 4294967296 ^ k % 4294967296
  | [], k, _ => by simp [vl]
  | x :: l, 0, h => by
    have hx := (Wd.cons.1 h).1
    simp only [vl, Nat.pow_zero, Nat.div_one, List.getD_cons_zero]
    omega
  | x :: l, k + 1, h => by
    have hx := (Wd.cons.1 h).1
    have ih := getD_vl l k (Wd.cons.1 h).2
    rw [List.getD_cons_succ, ih]
    congr 1
    rw [Nat.pow_succ, Nat.mul_comm (4294967296 ^ k), ← Nat.div_div_eq_div_mul]
    congr 1
    simp only [vl]
    omega
theorem word_pow (k : Nat) : 4294967296 ^ k = 2 ^ (32 * k) := by
  rw [Nat.pow_mul]
theorem word_bit (N k t x : Nat) (ht : t < 32) (hx : x = N / 4294967296 ^ k % 4294967296) : x / 2 ^ t % 2 = N / 2 ^ (32 * k + t) % 2 := by
  subst hx
  rw [word_pow, Nat.pow_add, ← Nat.div_div_eq_div_mul]
  generalize N / 2 ^ (32 * k) = Y
  have h := Nat.testBit_mod_two_pow Y 32 t
  rw [Nat.testBit_eq_decide_div_mod_eq, Nat.testBit_eq_decide_div_mod_eq] at h
  simp only [ht, decide_true, Bool.true_and, Nat.reducePow] at h
  have h2 := decide_eq_decide.1 h
  omega
theorem vl_set (l : List Nat) (k y : Nat) (hk : k < l.length) : vl 4294967296 (l.set k y) + 4294967296 ^ k * l.getD k 0 = vl 4294967296 l + 4294967296 ^ k * y := by
  induction l generalizing k with
  | nil => simp at hk
  | cons x l ih =>
    cases k with
    | zero => simp only [List.set_cons_zero, vl, Nat.pow_zero, List.getD_cons_zero]; omega
    | succ k =>
      have := ih k (by simpa using hk)
      simp only [List.set_cons_succ, vl, List.getD_cons_succ, Nat.pow_succ]
      grind
/-- the quotient and the rest of the bits of N from the j-th on, by M -/
structure BitR (N M j q r : Nat) : Prop where
  q : q = N / 2 ^ j / M * 2 ^ j
  r : r = N / 2 ^ j % M
theorem BitR.low {N M i q r : Nat} (h : BitR N M (i + 1) q r) {b : Nat} (hb : b = N / 2 ^ i % 2) (hlt : r * 2 + b < M) : BitR N M i q (r * 2 + b) := by
  have h1 : N / 2 ^ i = N / 2 ^ (i + 1) * 2 + b := by
    rw [Nat.pow_succ, ← Nat.div_div_eq_div_mul, hb]; omega
  have h2 := h.r
  have h3 := h.q
  generalize N / 2 ^ (i + 1) = H at *
  have h4 := Nat.div_add_mod H M
  rw [← h2] at h4
  have h5 : N / 2 ^ i = M * (H / M * 2) + (r * 2 + b) := by rw [h1, ← h4]; grind
  have hM : 0 < M := by omega
  refine ⟨?_, ?_⟩
  · rw [h5, Nat.mul_add_div hM, Nat.div_eq_of_lt hlt, h3, Nat.pow_succ]; grind
  · rw [h5, Nat.mul_add_mod, Nat.mod_eq_of_lt hlt]
theorem BitR.high {N M i q r : Nat} (h : BitR N M (i + 1) q r) {b : Nat} (hb : b = N / 2 ^ i % 2) (hM : 0 < M) (hge : M ≤ r * 2 + b) : BitR N M i (q + 2 ^ i) (r * 2 + b - M) := by
  have h1 : N / 2 ^ i = N / 2 ^ (i + 1) * 2 + b := by
    rw [Nat.pow_succ, ← Nat.div_div_eq_div_mul, hb]; omega
  have h2 := h.r
  have h3 := h.q
  generalize N / 2 ^ (i + 1) = H at *
  have h4 := Nat.div_add_mod H M
  rw [← h2] at h4
  have hrM : r < M := by rw [h2]; exact Nat.mod_lt _ hM
  have h5 : N / 2 ^ i = M * (H / M * 2 + 1) + (r * 2 + b - M) := by
    have h6 : M * (H / M * 2 + 1) = (M * (H / M)) * 2 + M := by grind
    rw [h1, h6]
    omega
  have hlt : r * 2 + b - M < M := by omega
  refine ⟨?_, ?_⟩
  · rw [h5, Nat.mul_add_div hM, Nat.div_eq_of_lt hlt, h3, Nat.pow_succ]; grind
  · rw [h5, Nat.mul_add_mod, Nat.mod_eq_of_lt hlt]
theorem BitR.start {N M n : Nat} (hN : N < 4294967296 ^ n) : BitR N M (32 * n) 0 0 := by
  rw [word_pow] at hN
  refine ⟨?_, ?_⟩ <;> rw [Nat.div_eq_of_lt hN] <;> simp
theorem BitR.done {N M q r : Nat} (h : BitR N M 0 q r) : q = N / M ∧ r = N % M := by
  have h1 := h.q
  have h2 := h.r
  simp at h1 h2
  exact ⟨h1, h2⟩
/-- the word of the quotient at which a bit is laid has none from there down -/
theorem BitR.word {N M i r : Nat} {d : List Nat} (h : BitR N M (i + 1) (vl 4294967296 d) r) (hw : Wd 4294967296 d) : d.getD (i / 32) 0 % 2 ^ (i % 32 + 1) = 0 := by
  have ht : i % 32 < 32 := Nat.mod_lt _ (by omega)
  rw [getD_vl d (i / 32) hw, h.q, word_pow]
  generalize N / 2 ^ (i + 1) / M = K
  have e : i + 1 = 32 * (i / 32) + (i % 32 + 1) := by omega
  rw [e, Nat.pow_add, Nat.mul_comm (2 ^ (32 * (i / 32))), ← Nat.mul_assoc, Nat.mul_div_cancel _ (Nat.two_pow_pos _)]
  clear e
  have hd : 2 ^ (i % 32 + 1) ∣ 2 ^ 32 := Nat.pow_dvd_pow 2 (by omega)
  rw [show (4294967296 : Nat) = 2 ^ 32 from by simp, Nat.mod_mod_of_dvd _ hd, Nat.mul_mod_left]
end Go.Proofs.YtfkkhabpnnealaaDoor

