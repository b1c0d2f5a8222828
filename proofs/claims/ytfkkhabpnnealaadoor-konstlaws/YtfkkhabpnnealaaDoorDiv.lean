/-
  Plain facts on quotients of rows of words: no program is named here.
-/
import Derived.Test.YtfkkhabpnnealaaDoorMul
namespace Go.Proofs.YtfkkhabpnnealaaDoor
/-- the state of a search for a quotient's word: b tells whether it is still too great -/
structure TmR (d p : List Nat) (t : Nat) (b : Bool) (r : List Nat) : Prop where
  len : r.length = d.length
  wd : Wd 4294967296 r
  small : t ≤ 4294967295
  yes : b = true → vl 4294967296 r + t * vl 4294967296 p = vl 4294967296 d + 4294967296 ^ d.length
  no : b = false → vl 4294967296 r + t * vl 4294967296 p = vl 4294967296 d ∧ vl 4294967296 r < vl 4294967296 p
theorem TmR.done {d p : List Nat} {t : Nat} {r : List Nat} (h : TmR d p t false r) : t = vl 4294967296 d / vl 4294967296 p ∧ vl 4294967296 r = vl 4294967296 d % vl 4294967296 p := by
  obtain ⟨h1, h2⟩ := h.no rfl
  rw [← h1, Nat.add_mul_div_right _ _ (by omega), Nat.div_eq_of_lt h2, Nat.add_mul_mod_self_right, Nat.mod_eq_of_lt h2]
  simp
theorem TmR.pos {d p : List Nat} {t : Nat} {r : List Nat} (h : TmR d p t true r) : 1 ≤ t := by
  have h1 := h.yes rfl
  have h2 := vl_lt 4294967296 r h.wd
  rw [h.len] at h2
  rcases Nat.eq_zero_or_pos t with h0 | h0
  · subst h0
    rw [Nat.zero_mul] at h1
    omega
  · exact h0
theorem TmR.step {d p : List Nat} {t : Nat} {r r' : List Nat} {c : Nat} (h : TmR d p t true r) (hl : r'.length = d.length) (hw : Wd 4294967296 r') (he : vl 4294967296 r' + 4294967296 ^ d.length * c = vl 4294967296 r + 1 * vl 4294967296 p) (hp : vl 4294967296 p < 4294967296 ^ d.length) :
    TmR d p (t - 1) (decide (c = 0)) r' := by
  have h0 := h.pos
  have h1 := h.yes rfl
  have h2 := vl_lt 4294967296 r h.wd
  rw [h.len] at h2
  have hs := h.small
  obtain ⟨u, rfl⟩ : ∃ u, t = u + 1 := ⟨t - 1, by omega⟩
  have h3 : (u + 1) * vl 4294967296 p = u * vl 4294967296 p + vl 4294967296 p := by rw [Nat.add_mul, Nat.one_mul]
  rw [Nat.add_sub_cancel]
  refine ⟨hl, hw, by omega, fun hb => ?_, fun hb => ?_⟩
  · have hc : c = 0 := by simpa using hb
    subst hc
    rw [Nat.mul_zero] at he
    omega
  · have hc : c ≠ 0 := by simpa using hb
    have h5 : c = 1 := by
      rcases Nat.lt_or_ge c 2 with h6 | h6
      · omega
      · have := Nat.mul_le_mul_left (4294967296 ^ d.length) h6
        omega
    subst h5
    rw [Nat.mul_one] at he
    exact ⟨by omega, by omega⟩
theorem TmR.first {d p : List Nat} {k t : Nat} {r : List Nat} {c : Nat} (hd : d.length = k + 1 + 1) (wd : Wd 4294967296 d) (hp : p.length = k + 1) (wp : Wd 4294967296 p) (htop : p.getD k 0 ≠ 0) (hlt : vl 4294967296 (d.drop 1) < vl 4294967296 p)
    (ht : t = Nat.min ((d.getD (k + 1) 0 * 4294967296 + d.getD k 0) / p.getD k 0) 4294967295) (hl : r.length = d.length) (hw : Wd 4294967296 r)
    (he : vl 4294967296 r + t * vl 4294967296 p = vl 4294967296 d + 4294967296 ^ d.length * c) : TmR d p t (decide (0 < c)) r := by
  have htl : t ≤ 4294967295 := by rw [ht]; exact Nat.min_le_right _ _
  have hpl := vl_lt 4294967296 p wp
  have hrl := vl_lt 4294967296 r hw
  rw [hl] at hrl
  have hP : vl 4294967296 p = vl 4294967296 (p.take k) + 4294967296 ^ k * p.getD k 0 := by
    have := vl_take_succ 4294967296 p k (by omega)
    rwa [List.take_of_length_le (by omega)] at this
  have hD : vl 4294967296 d = vl 4294967296 (d.take k) + 4294967296 ^ k * d.getD k 0 + 4294967296 ^ (k + 1) * d.getD (k + 1) 0 := by
    have h1 := vl_take_succ 4294967296 d (k + 1) (by omega)
    have h2 := vl_take_succ 4294967296 d k (by omega)
    rw [List.take_of_length_le (by omega), h2] at h1
    exact h1
  have hdt := vl_lt 4294967296 (d.take k) (wd.take k)
  rw [show (d.take k).length = k from by simp; omega] at hdt
  have hd1 : vl 4294967296 d = d.getD 0 0 + 4294967296 * vl 4294967296 (d.drop 1) := by
    cases d with
    | nil => simp at hd
    | cons x d => rfl
  have hd0 := wd.at (by omega) 0
  have hquo : vl 4294967296 d / vl 4294967296 p ≤ t := by
    rw [ht]
    refine Nat.le_min.2 ⟨?_, ?_⟩
    · refine guess_ge _ (vl 4294967296 p) (p.getD k 0) _ (4294967296 ^ k) (vl 4294967296 d) (by omega) (by rw [hP, Nat.mul_comm]; omega) ?_ (Nat.div_mul_le_self _ _)
      rw [hD, Nat.pow_succ]
      have : (d.getD (k + 1) 0 * 4294967296 + d.getD k 0 + 1) * 4294967296 ^ k = 4294967296 ^ k * d.getD k 0 + 4294967296 ^ k * 4294967296 * d.getD (k + 1) 0 + 4294967296 ^ k := by grind
      omega
    · have : vl 4294967296 d / vl 4294967296 p < 4294967296 := by
        rw [Nat.div_lt_iff_lt_mul (by omega)]
        omega
      omega
  have htp : t * vl 4294967296 p < 4294967296 ^ d.length := by
    have h1 := Nat.mul_le_mul htl (show vl 4294967296 p ≤ 4294967296 ^ (k + 1) by rw [hp] at hpl; omega)
    rw [hd, Nat.pow_succ]
    have : 0 < 4294967296 ^ (k + 1) := Nat.pow_pos (by omega)
    omega
  refine ⟨hl, hw, htl, fun hb => ?_, fun hb => ?_⟩
  · have h0 : 0 < c := by simpa using hb
    have h1 : c = 1 := by
      rcases Nat.lt_or_ge c 2 with h6 | h6
      · omega
      · have := Nat.mul_le_mul_left (4294967296 ^ d.length) h6
        omega
    rw [h1, Nat.mul_one] at he
    exact he
  · have h0 : c = 0 := by simpa using hb
    subst h0
    rw [Nat.mul_zero, Nat.add_zero] at he
    refine ⟨he, ?_⟩
    have h1 := Nat.div_add_mod (vl 4294967296 d) (vl 4294967296 p)
    have h2 := Nat.mod_lt (vl 4294967296 d) (show 0 < vl 4294967296 p by omega)
    have h3 := Nat.mul_le_mul_right (vl 4294967296 p) hquo
    rw [Nat.mul_comm] at h1
    omega
end Go.Proofs.YtfkkhabpnnealaaDoor

