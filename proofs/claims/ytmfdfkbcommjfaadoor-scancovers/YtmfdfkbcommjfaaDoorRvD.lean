/-
  Plain facts: a text is valid, rune by rune, and holds no byte 0.
-/
import Derived.Test.YtmfdfkbcommjfaaDoorRvB
import Derived.Test.YtmfdfkbcommjfaaDoorWalkQ
import Derived.Lib.ValidU
namespace Go.Proofs.YtmfdfkbcommjfaaDoor
open Go.RowKit
/-- valid UTF-8 without a byte 0, as the document's own function goes through it -/
def vld : Nat → List UInt8 → Bool
  | 0, _ => true
  | n + 1, l => if l = [] then true else if rs ⟨l.toArray⟩ = 0 ∨ l.head? = some 0 then false else vld n (l.drop (rs ⟨l.toArray⟩))
theorem rs_le (s : ByteArray) (h : 0 < s.size) : rs s ≤ s.size := by
  unfold rs
  split
  · omega
  · by_cases ha : (s[0]'h).toNat < 128
    · rw [decode_ascii s 0 h ha]; show 1 ≤ s.size; omega
    · have := (dec_span s 0 h (by omega)).1
      omega
theorem rs_L (l : List UInt8) : rs ⟨l.toArray⟩ = if (Lib.decodeL l).1 = 65533 ∧ (Lib.decodeL l).2 = 1 then 0 else (Lib.decodeL l).2 := rfl
/-- none of a rune's bytes is 0, but the rune 0's own -/
theorem no_zero (s : ByteArray) (h : 0 < s.size) (h0 : s.data.toList.head? ≠ some 0) : ∀ x ∈ s.data.toList.take (Utf8.decode s 0).2, x ≠ 0 := by
  intro x hx e
  by_cases ha : (s[0]'h).toNat < 128
  · rw [decode_ascii s 0 h ha] at hx
    obtain ⟨i, hi, hxi⟩ := List.getElem_of_mem hx
    have hi0 : i = 0 := by simp at hi; omega
    subst hi0
    refine h0 ?_
    rw [List.head?_eq_getElem?, ← e, ← hxi]
    simp
  · have hd := dec_span s 0 h (by omega)
    obtain ⟨i, hi, hxi⟩ := List.getElem_of_mem hx
    have hi2 : i < (Utf8.decode s 0).2 := by simp at hi; omega
    have h3 := hd.2 i hi2
    rw [Nat.zero_add] at h3
    have hg := get!_of s i (by omega)
    have : s.get! i = x := by
      rw [← hxi, List.getElem_take]
      have := List.getElem?_eq_some_iff.1 hg
      obtain ⟨_, hh⟩ := this
      exact hh.symm
    rw [this, e] at h3
    exact absurd h3 (by decide)
theorem dec_pos (s : ByteArray) (h : 0 < s.size) : 1 ≤ (Utf8.decode s 0).2 := by
  by_cases ha : (s[0]'h).toNat < 128
  · rw [decode_ascii s 0 h ha]; exact Nat.le_refl _
  · exact (decode_high s 0 h (by omega)).2
theorem idx0 (l : List UInt8) : (decide (Lib.indexByte l 0 < 0)) = decide (∀ x ∈ l, x ≠ 0) := by
  have hge := Lib.indexByte_ge l 0
  by_cases h : Lib.indexByte l 0 = -1
  · rw [h, decide_eq_true (by omega)]
    have := Lib.indexByte_none h
    refine (decide_eq_true ?_).symm
    intro x hx e
    obtain ⟨i, hi, hxi⟩ := List.getElem_of_mem hx
    exact this i (by rw [List.getElem?_eq_getElem hi, hxi, e])
  · obtain ⟨o, ho⟩ : ∃ o : Nat, Lib.indexByte l 0 = o := ⟨(Lib.indexByte l 0).toNat, by omega⟩
    have hs := (Lib.indexByte_some ho).1
    rw [decide_eq_false (by omega)]
    refine (decide_eq_false ?_).symm
    intro hall
    exact hall 0 (List.mem_of_getElem? hs) rfl
theorem vld_eq : ∀ (n : Nat) (l : List UInt8), l.length ≤ n → vld n l = (Lib.validGoD n l && decide (∀ x ∈ l, x ≠ 0))
  | 0, l, h => by
    have : l = [] := List.eq_nil_of_length_eq_zero (by omega)
    subst this
    rfl
  | n + 1, l, h => by
    by_cases hl : l = []
    · subst hl; rfl
    · have hsz : 0 < (⟨l.toArray⟩ : ByteArray).size := by
        have : 0 < l.length := List.length_pos_iff.2 hl
        simpa [ByteArray.size] using this
      simp only [vld, Lib.validGoD, hl, if_false]
      rw [rs_L]
      by_cases hb : (Lib.decodeL l).1 = 65533 ∧ (Lib.decodeL l).2 = 1
      · simp [hb]
      · rw [if_neg hb, if_neg hb]
        have hp := dec_pos ⟨l.toArray⟩ hsz
        have hd0 : ¬ (Lib.decodeL l).2 = 0 := by show ¬ (Utf8.decode ⟨l.toArray⟩ 0).2 = 0; omega
        have hle : (l.drop (Lib.decodeL l).2).length ≤ n := by rw [List.length_drop]; omega
        by_cases h0 : l.head? = some 0
        · rw [if_pos (.inr h0)]
          have hm : ¬ ∀ x ∈ l, x ≠ 0 := fun hall => hall 0 (List.mem_of_mem_head? h0) rfl
          rw [decide_eq_false hm, Bool.and_false]
        · rw [if_neg (by intro hh; rcases hh with hh | hh; exact hd0 hh; exact h0 hh), vld_eq n _ hle]
          have hz := no_zero ⟨l.toArray⟩ hsz (by simpa using h0)
          have he : (∀ x ∈ l.drop (Lib.decodeL l).2, x ≠ 0) ↔ (∀ x ∈ l, x ≠ 0) := by
            constructor
            · intro hall x hx
              rw [← List.take_append_drop (Lib.decodeL l).2 l] at hx
              rcases List.mem_append.1 hx with hx | hx
              · exact hz x hx
              · exact hall x hx
            · intro hall x hx
              exact hall x (List.mem_of_mem_drop hx)
          rw [decide_eq_decide.2 he]
end Go.Proofs.YtmfdfkbcommjfaaDoor
