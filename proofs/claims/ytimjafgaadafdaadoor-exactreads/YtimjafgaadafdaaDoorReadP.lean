/-
  Plain facts on texts of digits: their digits, their value, and the pieces of nine digits.
-/
import Derived.Test.YtimjafgaadafdaaDoorRefT
namespace Go.Proofs.YtimjafgaadafdaaDoor
/-- a byte of a text as a number -/
def bt (S : ByteArray) (i : Nat) : Nat := (S.data.toList.getD i 0).toNat
/-- the digits of a text, the lowest first -/
def dl (S : ByteArray) : List Nat := (S.data.toList.map fun b => b.toNat - 48).reverse
/-- a number's text: 0 alone, or a digit 1 to 9 and digits -/
structure NumP (S : ByteArray) : Prop where
  pos : 0 < S.size
  lead : bt S 0 = 48 → S.size = 1
  dig : ∀ i, i < S.size → 48 ≤ bt S i ∧ bt S i ≤ 57
theorem bs_len (S : ByteArray) : S.data.toList.length = S.size := by rw [Array.length_toList]; rfl
theorem bt_at (S : ByteArray) (i : Nat) (h : i < S.size) : (S[i]'h).toNat = bt S i := by
  have h2 : i < S.data.toList.length := by rw [bs_len]; exact h
  unfold bt
  rw [List.getD_eq_getElem?_getD, List.getElem?_eq_getElem h2]
  rfl
theorem dl_len (S : ByteArray) : (dl S).length = S.size := by unfold dl; rw [List.length_reverse, List.length_map, bs_len]
theorem dl_at (S : ByteArray) (p : Nat) (h : p < S.size) : (dl S).getD p 0 = bt S (S.size - 1 - p) - 48 := by
  have h2 : S.size - 1 - p < S.data.toList.length := by rw [bs_len]; omega
  have h3 : p < (dl S).length := by rw [dl_len]; exact h
  unfold bt
  rw [List.getD_eq_getElem?_getD, List.getElem?_eq_getElem h3, List.getD_eq_getElem?_getD, List.getElem?_eq_getElem h2]
  simp only [dl, List.getElem_reverse, List.getElem_map, Option.getD_some, List.length_map, bs_len]
theorem dl_drop (S : ByteArray) (i : Nat) (h : i < S.size) : vl 10 ((dl S).drop (S.size - (i + 1))) = bt S i - 48 + 10 * vl 10 ((dl S).drop (S.size - i)) := by
  have h3 : S.size - (i + 1) < (dl S).length := by rw [dl_len]; omega
  have h4 := dl_at S (S.size - (i + 1)) (by omega)
  rw [show S.size - 1 - (S.size - (i + 1)) = i from by omega, List.getD_eq_getElem?_getD, List.getElem?_eq_getElem h3, Option.getD_some] at h4
  rw [List.drop_eq_getElem_cons h3, vl, h4, show S.size - (i + 1) + 1 = S.size - i from by omega]
theorem NumP.wd {S : ByteArray} (h : NumP S) : Wd 10 (dl S) := fun x hx => by
  obtain ⟨p, hp, rfl⟩ := List.mem_iff_getElem.1 hx
  have hp2 : p < S.size := by rw [dl_len] at hp; exact hp
  have h4 := dl_at S p hp2
  rw [List.getD_eq_getElem?_getD, List.getElem?_eq_getElem hp, Option.getD_some] at h4
  have := h.dig (S.size - 1 - p) (by omega)
  omega
theorem NumP.form {S : ByteArray} (h : NumP S) (h0 : bt S 0 ≠ 48) : Form 10 (dl S) := by
  have hw := h.wd
  have hl := bs_len S
  have hp := h.pos
  unfold bt at h0
  have hd := (h.dig 0 hp)
  unfold bt at hd
  unfold dl at *
  cases hb : S.data.toList with
  | nil => rw [hb] at hl; simp at hl; omega
  | cons b bs =>
    rw [hb] at hw h0 hd
    simp only [List.getD_cons_zero] at h0 hd
    rw [List.map_cons, List.reverse_cons] at hw ⊢
    exact Form.snoc (Wd.append.1 hw).1 (by omega) (by omega)
theorem NumP.zero {S : ByteArray} (h : NumP S) (h0 : bt S 0 = 48) : S = ⟨#[48]⟩ := by
  have hs := h.lead h0
  have hl := bs_len S
  unfold bt at h0
  apply ByteArray.ext
  apply Array.toList_inj.1
  cases hb : S.data.toList with
  | nil => rw [hb] at hl; simp at hl; omega
  | cons b bs =>
    rw [hb] at hl h0
    simp only [List.getD_cons_zero, List.length_cons] at h0 hl
    have e1 : bs = [] := List.eq_nil_of_length_eq_zero (by omega)
    have e2 : b = 48 := by apply UInt8.toNat_inj.1; rw [h0]; rfl
    rw [e1, e2]
theorem dl_txt {S : ByteArray} (h : NumP S) : txt (dl S) = S := by
  unfold txt dl
  rw [List.reverse_reverse, List.map_map]
  apply ByteArray.ext
  apply Array.toList_inj.1
  simp only
  apply List.ext_getElem
  · simp
  · intro i h1 h2
    rw [List.getElem_map]
    have hi : i < S.size := by rw [← bs_len]; exact h2
    have hd := h.dig i hi
    unfold bt at hd
    rw [List.getD_eq_getElem?_getD, List.getElem?_eq_getElem h2, Option.getD_some] at hd
    apply UInt8.toNat_inj.1
    simp only [Function.comp, dch, UInt8.toNat_ofNat']
    omega
theorem NumP.text {S t : ByteArray} (h : NumP S) (ht : decT false (vl 10 (dl S)) t) : t = S := by
  by_cases h0 : bt S 0 = 48
  · have hS := h.zero h0
    have hv : vl 10 (dl S) = 0 := by rw [hS]; rfl
    obtain ⟨D, _, _, e⟩ := ht
    rw [hv] at e
    rw [e, hS]
    rfl
  · have hf := h.form h0
    have hne : dl S ≠ [] := fun e => by have := dl_len S; rw [e] at this; simp at this; have := h.pos; omega
    have hv : vl 10 (dl S) ≠ 0 := by
      have h1 := hf.low hne
      have h2 : 0 < 10 ^ ((dl S).length - 1) := Nat.pow_pos (by omega)
      omega
    rw [decT_uniq ht hf rfl, if_neg hv, dl_txt h]
    rfl
theorem NumP.big {S : ByteArray} (h : NumP S) (hs : 155 < S.size) : bigN (vl 10 (dl S)) = true := by
  have h0 : bt S 0 ≠ 48 := fun e => by have := h.lead e; omega
  have hf := h.form h0
  have hne : dl S ≠ [] := fun e => by have := dl_len S; rw [e] at this; simp at this; omega
  have h1 := hf.low hne
  rw [dl_len] at h1
  have h2 : 10 ^ 155 ≤ 10 ^ (S.size - 1) := Nat.pow_le_pow_right (by omega) (by omega)
  have h3 : 4294967296 ^ 16 ≤ 10 ^ 155 := by decide
  unfold bigN
  rw [decide_eq_true_iff]
  exact Nat.le_trans h3 (Nat.le_trans h2 h1)
/-- the pieces of nine digits, those of the places below r left out -/
def pc (D : List Nat) (r g : Nat) : Nat := vl 10 ((D.take (9 * g + 9)).drop (max r (9 * g)))
theorem pc_start (D : List Nat) (g : Nat) : pc D D.length g = 0 := by
  unfold pc
  rw [List.drop_of_length_le (by simp; omega)]
  rfl
theorem pc_same (D : List Nat) (p : Nat) (hp : p < D.length) : pc D p (p / 9) = D.getD p 0 + 10 * pc D (p + 1) (p / 9) := by
  unfold pc
  rw [show max p (9 * (p / 9)) = p from by omega, show max (p + 1) (9 * (p / 9)) = p + 1 from by omega]
  have h : p < (D.take (9 * (p / 9) + 9)).length := by simp; omega
  rw [List.drop_eq_getElem_cons h, vl, List.getElem_take, List.getD_eq_getElem?_getD, List.getElem?_eq_getElem hp]
  rfl
theorem pc_other (D : List Nat) (p g : Nat) (hg : g ≠ p / 9) : pc D p g = pc D (p + 1) g := by
  unfold pc
  rcases Nat.lt_or_gt_of_ne hg with h | h
  · rw [List.drop_of_length_le (by simp; omega), List.drop_of_length_le (by simp; omega)]
  · rw [show max p (9 * g) = 9 * g from by omega, show max (p + 1) (9 * g) = 9 * g from by omega]
theorem pc_lt (D : List Nat) (hw : Wd 10 D) (r g : Nat) : pc D r g < 1000000000 := by
  have h1 := vl_lt 10 _ ((hw.take (9 * g + 9)).drop (max r (9 * g)))
  have h2 := Nat.pow_le_pow_right (n := 10) (by omega) (show ((D.take (9 * g + 9)).drop (max r (9 * g))).length ≤ 9 by simp; omega)
  have h3 : (10 : Nat) ^ 9 = 1000000000 := by decide
  unfold pc
  omega
theorem pc_next (D : List Nat) (hw : Wd 10 D) (p : Nat) (hp : p < D.length) : pc D (p + 1) (p / 9) * 10 + D.getD p 0 < 1000000000 := by
  have h1 := pc_same D p hp
  have h2 := pc_lt D hw p (p / 9)
  omega
theorem pc_vl : ∀ (n : Nat) (D : List Nat), D.length ≤ 9 * n → vl 1000000000 ((List.range n).map (pc D 0)) = vl 10 D
  | 0, D, h => by
    have : D = [] := List.eq_nil_of_length_eq_zero (by omega)
    subst this
    rfl
  | n + 1, D, h => by
    have ih := pc_vl n (D.drop 9) (by simp; omega)
    rw [List.range_succ_eq_map, List.map_cons, List.map_map, vl]
    have e : (pc D 0 ∘ Nat.succ) = pc (D.drop 9) 0 := by
      funext g
      simp only [Function.comp, pc, Nat.zero_max, Nat.succ_eq_add_one]
      rw [List.take_drop, List.drop_drop, show 9 * (g + 1) = 9 + 9 * g from by omega, show 9 + 9 * g + 9 = 9 + (9 * g + 9) from by omega]
    rw [e, ih]
    have e0 : pc D 0 0 = vl 10 (D.take 9) := by simp [pc]
    rw [e0]
    have h1 := vl_append 10 (D.take 9) (D.drop 9)
    rw [List.take_append_drop] at h1
    rw [h1]
    by_cases h9 : 9 ≤ D.length
    · rw [show (D.take 9).length = 9 from by simp; omega]
    · rw [List.drop_of_length_le (by omega)]
      simp [vl]
end Go.Proofs.YtimjafgaadafdaaDoor
