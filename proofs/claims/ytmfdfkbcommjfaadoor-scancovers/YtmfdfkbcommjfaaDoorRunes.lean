/-
  Plain facts on runes: a source that is valid, rune by rune; strings in it.
-/
import Derived.Test.YtmfdfkbcommjfaaDoorWalkF
import Derived.Lib.MapLaws
import Derived.Lib.TrimUEq
import Derived.Lib.ValidLaws
namespace Go.Proofs.YtmfdfkbcommjfaaDoor
open Go.RowKit
theorem get!_of (s : ByteArray) (k : Nat) (h : k < s.size) : s.data.toList[k]? = some (s.get! k) := by
  have : s.get! k = s[k]'h := by have := Go.get_at s k h; simpa using this
  rw [this]
  simp [ByteArray.getElem_eq_getElem_data]
theorem dec_span (s : ByteArray) (pos : Nat) (h : pos < s.size) (ha : 128 ≤ (s[pos]'h).toNat) :
    pos + (Utf8.decode s pos).2 ≤ s.size ∧ ∀ j, j < (Utf8.decode s pos).2 → 128 ≤ (s.get! (pos + j)).toNat := by
  have hn : ¬ (s[pos]'h).toNat < 128 := by omega
  have h0 : 128 ≤ (s.get! (pos + 0)).toNat := by rw [Go.get_at s pos h]; exact ha
  simp only [Utf8.decode, Go.get_at s pos h, hn, if_false]
  have one : pos + 1 ≤ s.size ∧ ∀ j, j < 1 → 128 ≤ (s.get! (pos + j)).toNat := ⟨h, fun j hj => by
    obtain rfl : j = 0 := by omega
    exact h0⟩
  split
  · rename_i hc
    simp only [Bool.and_eq_true, decide_eq_true_eq, beq_iff_eq] at hc
    split
    · refine ⟨by omega, fun j hj => ?_⟩
      match j, hj with
      | 0, _ => exact h0
      | 1, _ => omega
    · exact one
  · split
    · rename_i hc
      simp only [Bool.and_eq_true, decide_eq_true_eq, beq_iff_eq] at hc
      split
      · refine ⟨by omega, fun j hj => ?_⟩
        match j, hj with
        | 0, _ => exact h0
        | 1, _ => omega
        | 2, _ => omega
      · exact one
    · split
      · rename_i hc
        simp only [Bool.and_eq_true, decide_eq_true_eq, beq_iff_eq] at hc
        split
        · refine ⟨by omega, fun j hj => ?_⟩
          match j, hj with
          | 0, _ => exact h0
          | 1, _ => omega
          | 2, _ => omega
          | 3, _ => omega
        · exact one
      · exact one
/-- valid from a place on -/
def Vs (S : ByteArray) (pos : Nat) : Prop := Lib.validD (S.data.toList.drop pos) = true
theorem drop_ne {S : ByteArray} {pos : Nat} (h : pos < S.size) : S.data.toList.drop pos ≠ [] := fun e => by
  have : (S.data.toList.drop pos).length = 0 := by rw [e]; rfl
  rw [List.length_drop, bal] at this
  omega
theorem Vs.good {S : ByteArray} {pos : Nat} (h : Vs S pos) (hp : pos < S.size) : ¬ ((Utf8.decode S pos).1 = 65533 ∧ (Utf8.decode S pos).2 = 1) := fun e => by
  unfold Vs at h
  rw [Lib.validD_step _ (drop_ne hp), Lib.decodeL_drop, if_pos e] at h
  cases h
theorem Vs.step {S : ByteArray} {pos : Nat} (h : Vs S pos) (hp : pos < S.size) : Vs S (pos + (Utf8.decode S pos).2) := by
  have hg := h.good hp
  unfold Vs at h ⊢
  rw [Lib.validD_step _ (drop_ne hp), Lib.decodeL_drop, if_neg hg, List.drop_drop] at h
  exact h
theorem Vs.ascii {S : ByteArray} {pos : Nat} (h : Vs S pos) (hp : pos < S.size) (ha : (S[pos]'hp).toNat < 128) : Vs S (pos + 1) := by
  have := h.step hp
  rw [decode_ascii S pos hp ha] at this
  exact this
theorem Vs.enc {S : ByteArray} {pos : Nat} (h : Vs S pos) (hp : pos < S.size) : Lib.encodeRune ((Utf8.decode S pos).1 : Int) = (S.data.toList.drop pos).take (Utf8.decode S pos).2 := by
  have := Lib.encode_decode (S.data.toList.drop pos) (drop_ne hp) (by rw [Lib.decodeL_drop]; exact h.good hp)
  rw [Lib.decodeL_drop] at this
  exact this
theorem get_of (S : ByteArray) (k : Nat) (h : k < S.size) : S.get! k = S[k]'h := by have := Go.get_at S k h; simpa using this
theorem high_bytes {S : ByteArray} {pos : Nat} (hp : pos < S.size) (ha : 128 ≤ (S[pos]'hp).toNat) : ∀ x ∈ (S.data.toList.drop pos).take (Utf8.decode S pos).2, 128 ≤ x.toNat := by
  have hd := dec_span S pos hp ha
  intro x hx
  obtain ⟨i, hi, hxi⟩ := List.getElem_of_mem hx
  have hi2 : i < (Utf8.decode S pos).2 := by simp at hi; omega
  have h3 := hd.2 i hi2
  have h4 : pos + i < S.size := by omega
  rw [get_of S _ h4] at h3
  have : S[pos + i]'h4 = x := by
    rw [← hxi, List.getElem_take, List.getElem_drop]
    rfl
  rw [← this]; exact h3
theorem strL_high (l : List UInt8) : ∀ (n k : Nat) (acc : List UInt8), (∀ x ∈ l.take n, 128 ≤ x.toNat) → n ≤ l.length → strL l false k acc = strL (l.drop n) false (k + n) (acc ++ l.take n) := by
  induction l with
  | nil => intro n k acc _ hn; have : n = 0 := by simpa using hn
           subst this; simp
  | cons b t ih =>
    intro n k acc h hn
    cases n with
    | zero => simp
    | succ n =>
      have hb := h b (by simp)
      have h1 : b ≠ 92 := fun e => by rw [e] at hb; exact absurd hb (by decide)
      have h2 : b ≠ 34 := fun e => by rw [e] at hb; exact absurd hb (by decide)
      have h3 : b ≠ 10 := fun e => by rw [e] at hb; exact absurd hb (by decide)
      rw [strL, if_neg h1, if_neg h2, if_neg h3, ih n (k + 1) (acc ++ [b]) (fun x hx => h x (by simp [hx])) (by simpa using hn)]
      simp [Nat.add_assoc, Nat.add_comm 1 n]
end Go.Proofs.YtmfdfkbcommjfaaDoor
