/-
  Plain facts on long division of rows of words: no program is named here.
-/
import Derived.Test.YtfkkhabpnnealaaDoorDiv
namespace Go.Proofs.YtfkkhabpnnealaaDoor
/-- a division under way: the words of the quotient from j on are found -/
structure DvR (A P k j : Nat) (rl ql : List Nat) : Prop where
  wr : Wd 4294967296 rl
  wq : Wd 4294967296 ql
  le : j ≤ ql.length
  len : 0 < ql.length → ql.length + k < rl.length
  eq : vl 4294967296 rl + 4294967296 ^ j * vl 4294967296 (ql.drop j) * P = A
  lt : vl 4294967296 (rl.drop j) < P
theorem vl_take_le (l : List Nat) (m : Nat) : vl 4294967296 (l.take m) ≤ vl 4294967296 l := by
  have h := vl_append 4294967296 (l.take m) (l.drop m)
  rw [List.take_append_drop] at h
  omega
theorem zeros_above (l : List Nat) (m P : Nat) (h : vl 4294967296 l < P) (hP : P < 4294967296 ^ m) : vl 4294967296 (l.drop m) = 0 := by
  rcases Nat.lt_or_ge l.length m with h0 | h0
  · rw [List.drop_of_length_le (by omega)]; rfl
  · have h1 := vl_append 4294967296 (l.take m) (l.drop m)
    rw [List.take_append_drop, show (l.take m).length = m from by simp; omega] at h1
    rcases Nat.eq_zero_or_pos (vl 4294967296 (l.drop m)) with h2 | h2
    · exact h2
    · have := Nat.mul_le_mul_left (4294967296 ^ m) h2
      omega
theorem vl_set_drop (ql : List Nat) (i t : Nat) (h : i < ql.length) : vl 4294967296 ((ql.set i t).drop i) = t + 4294967296 * vl 4294967296 (ql.drop (i + 1)) := by
  have e : (ql.set i t).drop i = t :: ql.drop (i + 1) := by
    rw [List.drop_eq_getElem_cons (by simpa using h)]
    simp [List.drop_set]
  rw [e]; rfl
theorem dv_arith (E v W r P A L t : Nat) (h1 : L + E * W + E * 4294967296 * v * P = A) (h2 : W = r + t * P) : L + E * r + E * (t + 4294967296 * v) * P = A := by
  subst h2; subst h1; grind
theorem DvR.step {A P k i : Nat} {rl ql r : List Nat} {t : Nat} (h : DvR A P k (i + 1) rl ql) (hP : P < 4294967296 ^ (k + 1)) (hr : r.length = k + 1 + 1) (wr : Wd 4294967296 r) (ht : t < 4294967296)
    (he : vl 4294967296 r + t * P = vl 4294967296 ((rl.drop i).take (k + 1 + 1))) (hlt : vl 4294967296 r < P) : DvR A P k i (rl.take i ++ (r ++ rl.drop (i + (k + 1 + 1)))) (ql.set i t) := by
  have hle := h.le
  have hlen := h.len (by omega)
  have hz : vl 4294967296 (rl.drop (i + (k + 1 + 1))) = 0 := by
    have := zeros_above _ (k + 1) P h.lt hP
    rw [List.drop_drop] at this
    rw [show i + (k + 1 + 1) = i + 1 + (k + 1) from by omega]
    exact this
  have hd := win_split rl i (k + 1 + 1) (by omega)
  rw [hz, Nat.mul_zero, Nat.add_zero] at hd
  refine ⟨Wd.append.2 ⟨h.wr.take i, Wd.append.2 ⟨wr, h.wr.drop _⟩⟩, ?_, by simp; omega, fun _ => by simp; omega, ?_, ?_⟩
  · intro x hx
    rcases List.mem_or_eq_of_mem_set hx with h1 | h1
    · exact h.wq x h1
    · rw [h1]; exact ht
  · rw [vl_three _ _ _ i (k + 1 + 1) (by simp; omega) hr, hz, Nat.mul_zero, Nat.add_zero, vl_set_drop ql i t (by omega)]
    have he2 := h.eq
    rw [hd, Nat.pow_succ] at he2
    exact dv_arith _ _ _ _ _ _ _ _ he2 he.symm
  · rw [List.drop_append_of_le_length (by simp; omega), List.drop_of_length_le (by simp; omega), List.nil_append, vl_append, hz, Nat.mul_zero, Nat.add_zero]
    exact hlt
theorem win_drop_one (rl : List Nat) (i k P : Nat) (h : vl 4294967296 (rl.drop (i + 1)) < P) : vl 4294967296 (((rl.drop i).take (k + 1 + 1)).drop 1) < P := by
  have e : ((rl.drop i).take (k + 1 + 1)).drop 1 = (rl.drop (i + 1)).take (k + 1) := by
    rw [List.drop_take, List.drop_drop]; rfl
  rw [e]
  have := vl_take_le (rl.drop (i + 1)) (k + 1)
  omega
/-- at the beginning of a division -/
theorem DvR.start {l p rl : List Nat} {f k n : Nat} (hl : l.length = n) (wl : Wd 4294967296 l) (fp : Form 4294967296 p) (hp : p.length = k + 1) (hf : 0 < f) (hr : rl.length = n + 1) (wr : Wd 4294967296 rl) (hv : vl 4294967296 rl = vl 4294967296 l * f) :
    DvR (vl 4294967296 l * f) (vl 4294967296 p * f) k (n - k) rl (List.replicate (n - k) 0) := by
  have h1 := fp.low (by intro h; rw [h] at hp; simp at hp)
  rw [show p.length - 1 = k from by omega] at h1
  have h2 := vl_lt 4294967296 l wl
  rw [hl] at h2
  have h3 : vl 4294967296 l * f < 4294967296 ^ n * f := Nat.mul_lt_mul_of_pos_right h2 hf
  by_cases hkn : k ≤ n
  · have h4 : n = (n - k) + k := by omega
    refine ⟨wr, fun x hx => by rw [(List.mem_replicate.1 hx).2]; omega, by simp, by simp; omega, ?_, ?_⟩
    · rw [List.drop_of_length_le (by simp), hv]; simp [vl]
    · have h5 := vl_append 4294967296 (rl.take (n - k)) (rl.drop (n - k))
      rw [List.take_append_drop, show (rl.take (n - k)).length = n - k from by simp; omega, hv] at h5
      have h6 : 4294967296 ^ n = 4294967296 ^ (n - k) * 4294967296 ^ k := by rw [← Nat.pow_add]; congr 1
      rw [h6, Nat.mul_assoc] at h3
      have h7 : 4294967296 ^ (n - k) * vl 4294967296 (rl.drop (n - k)) < 4294967296 ^ (n - k) * (4294967296 ^ k * f) := by omega
      have h8 := Nat.lt_of_mul_lt_mul_left h7
      have h9 := Nat.mul_le_mul_right f h1
      omega
  · have h0 : n - k = 0 := by omega
    rw [h0]
    refine ⟨wr, by simp [Wd], by simp, fun h => by simp at h, by simp [hv, vl], ?_⟩
    rw [List.drop_zero, hv]
    have h4 : 4294967296 ^ n ≤ 4294967296 ^ k := Nat.pow_le_pow_right (by omega) (by omega)
    have h9 := Nat.mul_le_mul_right f (Nat.le_trans h4 h1)
    omega
end Go.Proofs.YtfkkhabpnnealaaDoor

