/-
  recastref1.size: how many bytes the rune at the beginning of a text has; 0: there is none.
-/
import Derived.Test.YtmfdfkbcommjfaaDoorRvA
import Derived.Test.YtmfdfkbcommjfaaDoorRvB
namespace Go.Proofs.YtmfdfkbcommjfaaDoor
open Go.RowKit
theorem cont_yes (b : Nat) (hb : b < 256) (h : b / 64 = 2) : (bits .and .u8 (b : Int) 192 != 128) = false := by rw [and192 b hb, h]; rfl
theorem cont_no (b : Nat) (hb : b < 256) (h : ¬ b / 64 = 2) : (bits .and .u8 (b : Int) 192 != 128) = true := by
  rw [and192 b hb]
  have : ¬ ((b / 64 * 64 : Nat) : Int) = 128 := by omega
  simpa using this
theorem vld_no {c : Nat} (h : c < 2048 ∨ (55296 ≤ c ∧ c ≤ 57343)) : ¬ (decide (c ≥ 2048) && Utf8.valid c) = true := by
  simp only [Utf8.valid, Bool.and_eq_true, Bool.or_eq_true, decide_eq_true_eq]; omega
theorem vld_yes {c : Nat} (h : 2048 ≤ c) (h1 : c < 55296 ∨ 57343 < c) (h2 : c ≤ 1114111) : (decide (c ≥ 2048) && Utf8.valid c) = true := by
  simp only [Utf8.valid, Bool.and_eq_true, Bool.or_eq_true, decide_eq_true_eq]; omega
theorem vld4_no {c : Nat} (h : c < 65536 ∨ 1114111 < c) : ¬ (decide (c ≥ 65536) && Utf8.valid c) = true := by
  simp only [Utf8.valid, Bool.and_eq_true, Bool.or_eq_true, decide_eq_true_eq]; omega
theorem vld4_yes {c : Nat} (h : 65536 ≤ c) (h2 : c ≤ 1114111) : (decide (c ≥ 65536) && Utf8.valid c) = true := by
  simp only [Utf8.valid, Bool.and_eq_true, Bool.or_eq_true, decide_eq_true_eq]; omega
abbrev szPost (w : World) (n : Nat) : Ending → World → Prop := fun e w' => e = .returned (.int .i64 n) ∧ w' = w
theorem size_any (s : ByteArray) (w : World) (hs : s.size ≤ 65536) (h0 : 0 < s.size) :
    Calls Tryd.prog 29 #[.string s] w fun e w' => e = .returned (.int .i64 (rs s)) ∧ w' = w := by
  have g0 := byteAt s 0 h0
  have l0 := (s[0]'h0).toNat_lt
  by_cases a1 : (s[0]'h0).toNat < 128
  · rw [rs_ok (decode_ascii s 0 h0 a1) (.inr (by omega))]
    exact sz_ascii s w hs h0 (by omega)
  by_cases a2 : (s[0]'h0).toNat < 194
  · have : rs s = 0 := by
      by_cases b1 : (s[0]'h0).toNat < 192
      · exact rs_bad (dec_low s (by simp only [Nat.zero_add]; omega) (.inl (by simp only [Nat.zero_add]; omega)))
      · by_cases c : 1 < s.size ∧ (s.get! (0 + 1)).toNat / 64 = 2
        · have := dec_yes2 s (by simp only [Nat.zero_add]; omega) (by simp only [Nat.zero_add]; omega) c
          rw [if_neg (by simp only [Nat.zero_add]; omega)] at this
          exact rs_bad this
        · exact rs_bad (dec_no2 s (by simp only [Nat.zero_add]; omega) (by simp only [Nat.zero_add]; omega) c)
    rw [this]
    exact sz_low s w hs h0 (by omega) (by omega)
  by_cases a3 : (s[0]'h0).toNat < 224
  · by_cases h1 : 1 < s.size
    · have g1 := byteAt s 1 h1
      have l1 := (s[1]'h1).toNat_lt
      by_cases c1 : (s[1]'h1).toNat / 64 = 2
      · have hd := dec_yes2 s (by simp only [Nat.zero_add]; omega) (by simp only [Nat.zero_add]; omega) ⟨h1, by simp only [Nat.zero_add]; omega⟩
        rw [if_pos (by simp only [Nat.zero_add]; omega)] at hd
        rw [rs_ok hd (.inl (by omega))]
        exact sz2_ok s w hs h0 h1 (by omega) (by omega) (by omega) _ (and31 _ (by omega)) (by omega) (cont_yes _ (by omega) c1) _ (and63 _ (by omega)) (by omega) _ (or64 _ _ (by omega) (by omega)) (by omega) (by omega)
      · rw [rs_bad (dec_no2 s (by simp only [Nat.zero_add]; omega) (by simp only [Nat.zero_add]; omega) (fun h => c1 (by have := h.2; simp only [Nat.zero_add] at this; omega)))]
        exact sz2_bad1 s w hs h0 h1 (by omega) (by omega) (by omega) _ (and31 _ (by omega)) (by omega) (cont_no _ (by omega) c1)
    · rw [rs_bad (dec_no2 s (by simp only [Nat.zero_add]; omega) (by simp only [Nat.zero_add]; omega) (fun h => h1 h.1))]
      exact sz2_short s w hs h0 (by omega) (by omega) (by omega) _ (and31 _ (by omega)) (by omega)
  by_cases a4 : (s[0]'h0).toNat < 240
  · by_cases h2 : 2 < s.size
    · have h1 : 1 < s.size := by omega
      have g1 := byteAt s 1 h1
      have l1 := (s[1]'h1).toNat_lt
      have g2 := byteAt s 2 h2
      have l2 := (s[2]'h2).toNat_lt
      have no3 := dec_no3 s (by simp only [Nat.zero_add]; omega) (by simp only [Nat.zero_add]; omega)
      simp only [Nat.zero_add, g1, g2] at no3
      by_cases c1 : (s[1]'h1).toNat / 64 = 2
      · by_cases c2 : (s[2]'h2).toNat / 64 = 2
        · have hd := dec_yes3 s (by simp only [Nat.zero_add]; omega) (by simp only [Nat.zero_add]; omega) ⟨⟨h1, by simp only [Nat.zero_add]; omega⟩, ⟨h2, by simp only [Nat.zero_add]; omega⟩⟩ (((s[0]'h0).toNat % 16 * 64 + (s[1]'h1).toNat % 64) * 64 + (s[2]'h2).toNat % 64) (by simp only [Nat.zero_add, g0, g1, g2])
          clear no3
          by_cases t1 : ((s[0]'h0).toNat % 16 * 64 + (s[1]'h1).toNat % 64) * 64 + (s[2]'h2).toNat % 64 < 2048
          · rw [if_neg (vld_no (.inl t1))] at hd
            rw [rs_bad hd]
            exact sz3_small s w hs h0 h1 h2 (by omega) (by omega) (by omega) _ (and15 _ (by omega)) (by omega) (cont_yes _ (by omega) c1) _ (and63 _ (by omega)) (by omega) _ (or64 _ _ (by omega) (by omega)) (by omega) (cont_yes _ (by omega) c2) _ (and63 _ (by omega)) (by omega) _ (or64 _ _ (by omega) (by omega)) (by omega) (by omega)
          by_cases t2 : ((s[0]'h0).toNat % 16 * 64 + (s[1]'h1).toNat % 64) * 64 + (s[2]'h2).toNat % 64 < 55296
          · rw [if_pos (vld_yes (by omega) (.inl t2) (by omega))] at hd
            rw [rs_ok hd (.inl (by omega))]
            exact sz3_ok1 s w hs h0 h1 h2 (by omega) (by omega) (by omega) _ (and15 _ (by omega)) (by omega) (cont_yes _ (by omega) c1) _ (and63 _ (by omega)) (by omega) _ (or64 _ _ (by omega) (by omega)) (by omega) (cont_yes _ (by omega) c2) _ (and63 _ (by omega)) (by omega) _ (or64 _ _ (by omega) (by omega)) (by omega) (by omega) (decide_eq_false (by omega))
          by_cases t3 : ((s[0]'h0).toNat % 16 * 64 + (s[1]'h1).toNat % 64) * 64 + (s[2]'h2).toNat % 64 ≤ 57343
          · rw [if_neg (vld_no (.inr ⟨by omega, t3⟩))] at hd
            rw [rs_bad hd]
            exact sz3_sur s w hs h0 h1 h2 (by omega) (by omega) (by omega) _ (and15 _ (by omega)) (by omega) (cont_yes _ (by omega) c1) _ (and63 _ (by omega)) (by omega) _ (or64 _ _ (by omega) (by omega)) (by omega) (cont_yes _ (by omega) c2) _ (and63 _ (by omega)) (by omega) _ (or64 _ _ (by omega) (by omega)) (by omega) (by omega) (by omega)
          · rw [if_pos (vld_yes (by omega) (.inr (by omega)) (by omega))] at hd
            rw [rs_ok hd (.inl (by omega))]
            exact sz3_ok2 s w hs h0 h1 h2 (by omega) (by omega) (by omega) _ (and15 _ (by omega)) (by omega) (cont_yes _ (by omega) c1) _ (and63 _ (by omega)) (by omega) _ (or64 _ _ (by omega) (by omega)) (by omega) (cont_yes _ (by omega) c2) _ (and63 _ (by omega)) (by omega) _ (or64 _ _ (by omega) (by omega)) (by omega) (by omega)
        · rw [rs_bad (no3 (fun h => c2 h.2.2))]
          exact sz3_bad2 s w hs h0 h1 h2 (by omega) (by omega) (by omega) _ (and15 _ (by omega)) (by omega) (cont_yes _ (by omega) c1) _ (and63 _ (by omega)) (by omega) _ (or64 _ _ (by omega) (by omega)) (by omega) (cont_no _ (by omega) c2)
      · rw [rs_bad (no3 (fun h => c1 h.1.2))]
        exact sz3_bad1 s w hs h0 h1 h2 (by omega) (by omega) (by omega) _ (and15 _ (by omega)) (by omega) (cont_no _ (by omega) c1)
    · rw [rs_bad (dec_no3 s (by simp only [Nat.zero_add]; omega) (by simp only [Nat.zero_add]; omega) (fun h => h2 h.2.1))]
      exact sz3_short s w hs h0 (by omega) (by omega) (by omega) _ (and15 _ (by omega)) (by omega)
  by_cases a5 : (s[0]'h0).toNat < 245
  · by_cases h3 : 3 < s.size
    · have h1 : 1 < s.size := by omega
      have h2 : 2 < s.size := by omega
      have g1 := byteAt s 1 h1
      have l1 := (s[1]'h1).toNat_lt
      have g2 := byteAt s 2 h2
      have l2 := (s[2]'h2).toNat_lt
      have g3 := byteAt s 3 h3
      have l3 := (s[3]'h3).toNat_lt
      have no4 := dec_no4 s (by simp only [Nat.zero_add]; omega) (by simp only [Nat.zero_add]; omega)
      simp only [Nat.zero_add, g1, g2, g3] at no4
      by_cases c1 : (s[1]'h1).toNat / 64 = 2
      · by_cases c2 : (s[2]'h2).toNat / 64 = 2
        · by_cases c3 : (s[3]'h3).toNat / 64 = 2
          · have hd := dec_yes4 s (by simp only [Nat.zero_add]; omega) (by simp only [Nat.zero_add]; omega) ⟨⟨⟨h1, by simp only [Nat.zero_add]; omega⟩, ⟨h2, by simp only [Nat.zero_add]; omega⟩⟩, ⟨h3, by simp only [Nat.zero_add]; omega⟩⟩ ((((s[0]'h0).toNat % 8 * 64 + (s[1]'h1).toNat % 64) * 64 + (s[2]'h2).toNat % 64) * 64 + (s[3]'h3).toNat % 64) (by simp only [Nat.zero_add, g0, g1, g2, g3])
            clear no4
            by_cases t1 : (((s[0]'h0).toNat % 8 * 64 + (s[1]'h1).toNat % 64) * 64 + (s[2]'h2).toNat % 64) * 64 + (s[3]'h3).toNat % 64 < 65536
            · rw [if_neg (vld4_no (.inl t1))] at hd
              rw [rs_bad hd]
              exact sz4_small s w hs h0 h1 h2 h3 (by omega) (by omega) (by omega) _ (and7 _ (by omega)) (by omega) (cont_yes _ (by omega) c1) _ (and63 _ (by omega)) (by omega) _ (or64 _ _ (by omega) (by omega)) (by omega) (cont_yes _ (by omega) c2) _ (and63 _ (by omega)) (by omega) _ (or64 _ _ (by omega) (by omega)) (by omega) (cont_yes _ (by omega) c3) _ (and63 _ (by omega)) (by omega) _ (or64 _ _ (by omega) (by omega)) (by omega) (by omega)
            by_cases t2 : (((s[0]'h0).toNat % 8 * 64 + (s[1]'h1).toNat % 64) * 64 + (s[2]'h2).toNat % 64) * 64 + (s[3]'h3).toNat % 64 ≤ 1114111
            · rw [if_pos (vld4_yes (by omega) t2)] at hd
              rw [rs_ok hd (.inl (by omega))]
              exact sz4_ok s w hs h0 h1 h2 h3 (by omega) (by omega) (by omega) _ (and7 _ (by omega)) (by omega) (cont_yes _ (by omega) c1) _ (and63 _ (by omega)) (by omega) _ (or64 _ _ (by omega) (by omega)) (by omega) (cont_yes _ (by omega) c2) _ (and63 _ (by omega)) (by omega) _ (or64 _ _ (by omega) (by omega)) (by omega) (cont_yes _ (by omega) c3) _ (and63 _ (by omega)) (by omega) _ (or64 _ _ (by omega) (by omega)) (by omega) (by omega) (by omega)
            · rw [if_neg (vld4_no (.inr (by omega)))] at hd
              rw [rs_bad hd]
              exact sz4_big s w hs h0 h1 h2 h3 (by omega) (by omega) (by omega) _ (and7 _ (by omega)) (by omega) (cont_yes _ (by omega) c1) _ (and63 _ (by omega)) (by omega) _ (or64 _ _ (by omega) (by omega)) (by omega) (cont_yes _ (by omega) c2) _ (and63 _ (by omega)) (by omega) _ (or64 _ _ (by omega) (by omega)) (by omega) (cont_yes _ (by omega) c3) _ (and63 _ (by omega)) (by omega) _ (or64 _ _ (by omega) (by omega)) (by omega) (by omega)
          · rw [rs_bad (no4 (fun h => c3 h.2.2))]
            exact sz4_bad3 s w hs h0 h1 h2 h3 (by omega) (by omega) (by omega) _ (and7 _ (by omega)) (by omega) (cont_yes _ (by omega) c1) _ (and63 _ (by omega)) (by omega) _ (or64 _ _ (by omega) (by omega)) (by omega) (cont_yes _ (by omega) c2) _ (and63 _ (by omega)) (by omega) _ (or64 _ _ (by omega) (by omega)) (by omega) (cont_no _ (by omega) c3)
        · rw [rs_bad (no4 (fun h => c2 h.1.2.2))]
          exact sz4_bad2 s w hs h0 h1 h2 h3 (by omega) (by omega) (by omega) _ (and7 _ (by omega)) (by omega) (cont_yes _ (by omega) c1) _ (and63 _ (by omega)) (by omega) _ (or64 _ _ (by omega) (by omega)) (by omega) (cont_no _ (by omega) c2)
      · rw [rs_bad (no4 (fun h => c1 h.1.1.2))]
        exact sz4_bad1 s w hs h0 h1 h2 h3 (by omega) (by omega) (by omega) _ (and7 _ (by omega)) (by omega) (cont_no _ (by omega) c1)
    · rw [rs_bad (dec_no4 s (by simp only [Nat.zero_add]; omega) (by simp only [Nat.zero_add]; omega) (fun h => h3 h.2.1))]
      exact sz4_short s w hs h0 (by omega) (by omega) (by omega) _ (and7 _ (by omega)) (by omega)
  · have : rs s = 0 := by
      by_cases b1 : 248 ≤ (s[0]'h0).toNat
      · exact rs_bad (dec_low s (by simp only [Nat.zero_add]; omega) (.inr (by simp only [Nat.zero_add]; omega)))
      · by_cases c : ((1 < s.size ∧ (s.get! (0 + 1)).toNat / 64 = 2) ∧ (2 < s.size ∧ (s.get! (0 + 2)).toNat / 64 = 2)) ∧ (3 < s.size ∧ (s.get! (0 + 3)).toNat / 64 = 2)
        · have hd := dec_yes4 s (by simp only [Nat.zero_add]; omega) (by simp only [Nat.zero_add]; omega) c _ rfl
          rw [if_neg (vld4_no (.inr (by simp only [Nat.zero_add]; omega)))] at hd
          exact rs_bad hd
        · exact rs_bad (dec_no4 s (by simp only [Nat.zero_add]; omega) (by simp only [Nat.zero_add]; omega) c)
    rw [this]
    exact sz_high s w hs h0 (by omega)
end Go.Proofs.YtmfdfkbcommjfaaDoor
