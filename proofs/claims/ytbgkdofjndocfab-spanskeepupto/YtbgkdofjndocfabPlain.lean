/-
  Plain facts on lines and columns of a list of bytes, and on what a range over a string meets: no program is named here.
-/
import GoSem.Core.Utf8
import Derived.Laws.RangeAny
import Derived.Lib.IndexLaws
import Derived.Lib.IndexBytes
import Derived.Lib.Strings
namespace Go.Proofs.Ytbgkdofjndocfab
/-- how many bytes 10 stand ahead of the byte k -/
def nlT (l : List UInt8) : Nat → Nat
  | 0 => 0
  | k + 1 => nlT l k + if l[k]? = some 10 then 1 else 0
/-- where the line of the byte k begins -/
def bgT (l : List UInt8) : Nat → Nat
  | 0 => 0
  | k + 1 => if l[k]? = some 10 then k + 1 else bgT l k
theorem nlT_le (l : List UInt8) : ∀ k, nlT l k ≤ k
  | 0 => Nat.le_refl _
  | k + 1 => by have := nlT_le l k; simp only [nlT]; split <;> omega
theorem bgT_le (l : List UInt8) : ∀ k, bgT l k ≤ k
  | 0 => Nat.le_refl _
  | k + 1 => by have := bgT_le l k; simp only [bgT]; split <;> omega
theorem nlT_mono (l : List UInt8) (a : Nat) : ∀ d, nlT l a ≤ nlT l (a + d)
  | 0 => Nat.le_refl _
  | d + 1 => by have := nlT_mono l a d; rw [← Nat.add_assoc]; simp only [nlT]; omega
theorem nlT_clear (l : List UInt8) (a : Nat) : ∀ d, (∀ j, j < d → l[a + j]? ≠ some 10) → nlT l (a + d) = nlT l a ∧ bgT l (a + d) = bgT l a
  | 0, _ => ⟨rfl, rfl⟩
  | d + 1, h => by
    have := nlT_clear l a d fun j hj => h j (by omega)
    have h2 := h d (by omega)
    rw [← Nat.add_assoc]
    simp only [nlT, bgT, h2, if_false]
    exact this
theorem nlT_strict (l : List UInt8) (a b k : Nat) (h1 : a ≤ k) (h2 : k < b) (h : l[k]? = some 10) : nlT l a < nlT l b := by
  obtain ⟨d, rfl⟩ := Nat.exists_eq_add_of_le h1
  obtain ⟨e, rfl⟩ := Nat.exists_eq_add_of_le h2
  have m1 := nlT_mono l a d
  have m2 := nlT_mono l (a + d + 1) e
  have : nlT l (a + d + 1) = nlT l (a + d) + 1 := by simp [nlT, h]
  simp only [Nat.succ_eq_add_one] at *
  omega
theorem clear_of_same (l : List UInt8) (a d : Nat) (h : nlT l (a + d) = nlT l a) : ∀ j, j < d → l[a + j]? ≠ some 10 := fun j hj hk => by
  have := nlT_strict l a (a + d) (a + j) (by omega) (by omega) hk
  omega
theorem place_inj (l : List UInt8) (i j : Nat) (h1 : nlT l i = nlT l j) (h2 : i - bgT l i = j - bgT l j) : i = j := by
  have bi := bgT_le l i
  have bj := bgT_le l j
  rcases Nat.le_total i j with h | h
  · obtain ⟨d, rfl⟩ := Nat.exists_eq_add_of_le h
    have := (nlT_clear l i d (clear_of_same l i d h1.symm)).2
    omega
  · obtain ⟨d, rfl⟩ := Nat.exists_eq_add_of_le h
    have := (nlT_clear l j d (clear_of_same l j d h1)).2
    omega
theorem nlT_take (l : List UInt8) (n : Nat) : ∀ k, k ≤ n → nlT (l.take n) k = nlT l k ∧ bgT (l.take n) k = bgT l k
  | 0, _ => ⟨rfl, rfl⟩
  | k + 1, h => by
    have := nlT_take l n k (by omega)
    have e : (l.take n)[k]? = l[k]? := by rw [List.getElem?_take, if_pos (by omega)]
    simp only [nlT, bgT, e, this]
    exact ⟨trivial, trivial⟩
theorem get!_of (s : ByteArray) (k : Nat) (h : k < s.size) : s.data.toList[k]? = some (s.get! k) := by
  have : s.get! k = s[k]'h := by have := Go.get_at s k h; simpa using this
  rw [this]
  simp [ByteArray.getElem_eq_getElem_data]
theorem dec_span (s : ByteArray) (pos : Nat) (h : pos < s.size) (ha : 128 ≤ (s[pos]'h).toNat) :
    pos + (Utf8.decode s pos).2 ≤ s.size ∧ ∀ j, j < (Utf8.decode s pos).2 → 128 ≤ (s.get! (pos + j)).toNat := by
  have hn : ¬ (s[pos]'h).toNat < 128 := by omega
  have h0 : 128 ≤ (s.get! (pos + 0)).toNat := by rw [Go.get_at s pos h]; exact ha
  simp only [Utf8.decode, Go.get_at s pos h, hn, if_false]
  have one : pos + 1 ≤ s.size ∧ ∀ j, j < 1 → 128 ≤ (s.get! (pos + j)).toNat := ⟨h, fun j hj => by
    obtain rfl : j = 0 := by omega
    exact h0⟩
  split
  · rename_i hc
    simp only [Bool.and_eq_true, decide_eq_true_eq, beq_iff_eq] at hc
    split
    · refine ⟨by omega, fun j hj => ?_⟩
      match j, hj with
      | 0, _ => exact h0
      | 1, _ => omega
    · exact one
  · split
    · rename_i hc
      simp only [Bool.and_eq_true, decide_eq_true_eq, beq_iff_eq] at hc
      split
      · refine ⟨by omega, fun j hj => ?_⟩
        match j, hj with
        | 0, _ => exact h0
        | 1, _ => omega
        | 2, _ => omega
      · exact one
    · split
      · rename_i hc
        simp only [Bool.and_eq_true, decide_eq_true_eq, beq_iff_eq] at hc
        split
        · refine ⟨by omega, fun j hj => ?_⟩
          match j, hj with
          | 0, _ => exact h0
          | 1, _ => omega
          | 2, _ => omega
          | 3, _ => omega
        · exact one
      · exact one
/-- one step of a range over a string: where the rune is 10 the line ends there; else none of its bytes is 10 -/
theorem dec_step (s : ByteArray) (pos : Nat) (h : pos < s.size) :
    1 ≤ (Utf8.decode s pos).2 ∧ pos + (Utf8.decode s pos).2 ≤ s.size ∧
    (((Utf8.decode s pos).1 = 10 ∧ nlT s.data.toList (pos + (Utf8.decode s pos).2) = nlT s.data.toList pos + 1 ∧ bgT s.data.toList (pos + (Utf8.decode s pos).2) = pos + 1) ∨
     ((Utf8.decode s pos).1 ≠ 10 ∧ nlT s.data.toList (pos + (Utf8.decode s pos).2) = nlT s.data.toList pos ∧ bgT s.data.toList (pos + (Utf8.decode s pos).2) = bgT s.data.toList pos)) := by
  have hg : s.data.toList[pos]? = some (s[pos]'h) := by simp [ByteArray.getElem_eq_getElem_data]
  by_cases ha : (s[pos]'h).toNat < 128
  · rw [decode_ascii s pos h ha]
    refine ⟨Nat.le_refl _, h, ?_⟩
    by_cases h10 : (s[pos]'h).toNat = 10
    · have e : s[pos]'h = 10 := UInt8.toNat_inj.1 h10
      exact .inl ⟨h10, by simp [nlT, hg, e], by simp [bgT, hg, e]⟩
    · have e : s[pos]'h ≠ 10 := fun e => h10 (by rw [e]; rfl)
      exact .inr ⟨h10, by simp [nlT, hg, e], by simp [bgT, hg, e]⟩
  · have h1 := decode_high s pos h (by omega)
    have h2 := dec_span s pos h (by omega)
    refine ⟨h1.2, h2.1, .inr ⟨by omega, ?_⟩⟩
    refine nlT_clear _ _ _ fun j hj e => ?_
    have h3 := h2.2 j hj
    rw [get!_of s (pos + j) (by omega)] at e
    simp only [Option.some.injEq] at e
    rw [e] at h3
    exact absurd h3 (by decide)
/-- the place of a line and column, as the document words it -/
def placeAt (l : List UInt8) (line col : Int) (i : Nat) : Prop := (1 : Int) + nlT l i = line ∧ ((i - bgT l i + 1 : Nat) : Int) = col
theorem placeAt_inj {l : List UInt8} {line col : Int} {i j : Nat} (h1 : placeAt l line col i) (h2 : placeAt l line col j) : i = j :=
  place_inj l i j (by have := h1.1; have := h2.1; omega) (by have := h1.2; have := h2.2; omega)
theorem off_none (l : List UInt8) (p : Nat) (h : Lib.indexByte (l.drop p) 10 = -1) (line col : Int) (hl : (1 : Int) + nlT l p < line) : ∀ i, i ≤ l.length → ¬ placeAt l line col i := by
  intro i hi hp
  have hn := Lib.indexByte_none h
  have := hp.1
  rcases Nat.le_total i p with hip | hip
  · obtain ⟨d, rfl⟩ := Nat.exists_eq_add_of_le hip
    have := nlT_mono l i d
    omega
  · obtain ⟨d, rfl⟩ := Nat.exists_eq_add_of_le hip
    have := (nlT_clear l p d fun j _ e => hn j (by rw [List.getElem?_drop]; exact e)).1
    omega
theorem off_some (l : List UInt8) (p e : Nat) (h : Lib.indexByte (l.drop p) 10 = e) : p + e < l.length ∧ nlT l (p + e) = nlT l p ∧ bgT l (p + e) = bgT l p ∧ nlT l (p + e + 1) = nlT l p + 1 ∧ bgT l (p + e + 1) = p + e + 1 ∧ l[p + e]? = some 10 := by
  have hs := Lib.indexByte_some h
  rw [List.getElem?_drop] at hs
  have hc := nlT_clear l p e fun j hj e => hs.2 j hj (by rw [List.getElem?_drop]; exact e)
  refine ⟨(List.getElem?_eq_some_iff.1 hs.1).1, hc.1, hc.2, ?_, ?_, hs.1⟩
  · simp [nlT, hs.1, hc.1]
  · simp [bgT, hs.1]
theorem off_last_none (l : List UInt8) (p : Nat) (hb : bgT l p = p) (h : Lib.indexByte (l.drop p) 10 = -1) (k : Nat) : nlT l (p + k) = nlT l p ∧ bgT l (p + k) = p := by
  have hn := Lib.indexByte_none h
  have := nlT_clear l p k fun j _ e => hn j (by rw [List.getElem?_drop]; exact e)
  exact ⟨this.1, this.2.trans hb⟩
theorem off_last_some (l : List UInt8) (p e : Nat) (hb : bgT l p = p) (h : Lib.indexByte (l.drop p) 10 = e) (k : Nat) (hk : k ≤ e) : nlT l (p + k) = nlT l p ∧ bgT l (p + k) = p := by
  have hs := Lib.indexByte_some h
  have := nlT_clear l p k fun j hj e' => hs.2 j (by omega) (by rw [List.getElem?_drop]; exact e')
  exact ⟨this.1, this.2.trans hb⟩
theorem before_line (l : List UInt8) (p i : Nat) (hb : bgT l p = p) (hi : i < p) : nlT l i < nlT l p := by
  match p, hi with
  | p + 1, hi =>
    have e : l[p]? = some 10 := by
      by_cases e : l[p]? = some 10
      · exact e
      · simp only [bgT, e, if_false] at hb
        have := bgT_le l p
        omega
    exact nlT_strict l i (p + 1) p (by omega) (by omega) e
/-- the byte at a column within a line that begins at p and holds m bytes -/
theorem off_in (l : List UInt8) (p m : Nat) (line col : Int) (hline : (1 : Int) + nlT l p = line) (hc1 : 1 ≤ col) (hc2 : col - 1 ≤ m) (h : ∀ k, k ≤ m → nlT l (p + k) = nlT l p ∧ bgT l (p + k) = p) : placeAt l line col (p + (col - 1).toNat) := by
  have := h (col - 1).toNat (by omega)
  refine ⟨by rw [this.1]; exact hline, ?_⟩
  rw [this.2]
  omega
theorem off_out (l : List UInt8) (p m : Nat) (line col : Int) (hline : (1 : Int) + nlT l p = line) (hb : bgT l p = p) (hc2 : (m : Int) < col - 1) (h : ∀ k, k ≤ m → nlT l (p + k) = nlT l p ∧ bgT l (p + k) = p) (hend : p + m = l.length ∨ l[p + m]? = some 10) : ∀ i, i ≤ l.length → ¬ placeAt l line col i := by
  intro i hi ⟨h1, h2⟩
  rcases Nat.lt_or_ge i p with hip | hip
  · have := before_line l p i hb hip
    omega
  · obtain ⟨d, rfl⟩ := Nat.exists_eq_add_of_le hip
    rcases Nat.lt_or_ge m d with hd | hd
    · rcases hend with he | he
      · omega
      · have := nlT_strict l p (p + d) (p + m) (by omega) (by omega) he
        omega
    · have := h d hd
      rw [this.2] at h2
      omega
end Go.Proofs.Ytbgkdofjndocfab
