/-
  Plain facts: texts of UTF-8, one behind another.
-/
import Derived.Lib.ValidLaws
import Derived.Lib.TrimUEq
import Derived.Test.YtmfdfkbcommjfaaDoorIns
namespace Go.Proofs.YtmfdfkbcommjfaaDoor
open Go
set_option maxRecDepth 100000 in
set_option maxHeartbeats 2000000 in
theorem decN_more (n n' b0 b1 b2 b3 c1 c2 c3 : Nat) (hg : ¬ ((Lib.decodeN n b0 b1 b2 b3).1 = 65533 ∧ (Lib.decodeN n b0 b1 b2 b3).2 = 1)) (hnn : n ≤ n')
    (e1 : 1 < n → c1 = b1) (e2 : 2 < n → c2 = b2) (e3 : 3 < n → c3 = b3) : Lib.decodeN n' b0 c1 c2 c3 = Lib.decodeN n b0 b1 b2 b3 := by
  unfold Lib.decodeN at hg ⊢
  by_cases h0 : b0 < 128
  · simp [h0]
  simp only [h0, if_false] at hg ⊢
  by_cases q1 : b0 / 32 = 6 ∧ (1 < n ∧ b1 / 64 = 2)
  · have E1 := e1 (by omega); subst E1
    rw [if_pos q1, if_pos ⟨q1.1, by omega, q1.2.2⟩]
  rw [if_neg q1] at hg
  by_cases q2 : b0 / 16 = 14 ∧ (1 < n ∧ b1 / 64 = 2) ∧ (2 < n ∧ b2 / 64 = 2)
  · have E1 := e1 (by omega); subst E1
    have E2 := e2 (by omega); subst E2
    rw [if_neg (by omega), if_pos ⟨q2.1, ⟨by omega, q2.2.1.2⟩, ⟨by omega, q2.2.2.2⟩⟩, if_neg q1, if_pos q2]
  rw [if_neg q2] at hg
  by_cases q3 : b0 / 8 = 30 ∧ (1 < n ∧ b1 / 64 = 2) ∧ (2 < n ∧ b2 / 64 = 2) ∧ (3 < n ∧ b3 / 64 = 2)
  · have E1 := e1 (by omega); subst E1
    have E2 := e2 (by omega); subst E2
    have E3 := e3 (by omega); subst E3
    rw [if_neg (by omega), if_neg (by omega), if_pos ⟨q3.1, ⟨by omega, q3.2.1.2⟩, ⟨by omega, q3.2.2.1.2⟩, ⟨by omega, q3.2.2.2.2⟩⟩, if_neg q1, if_neg q2, if_pos q3]
  rw [if_neg q3] at hg
  exact absurd ⟨rfl, rfl⟩ hg
theorem getD_app (a b : List UInt8) (i : Nat) (h : i < a.length) : (a ++ b).getD i 0 = a.getD i 0 := by simp [List.getD, List.getElem?_append_left h]
theorem decL_app (a b : List UInt8) (ha : a ≠ []) (hg : ¬ ((Lib.decodeL a).1 = 65533 ∧ (Lib.decodeL a).2 = 1)) : Lib.decodeL (a ++ b) = Lib.decodeL a := by
  have hl : 0 < a.length := List.length_pos_iff.2 ha
  rw [Lib.decodeL_N] at hg ⊢
  rw [Lib.decodeL_N a]
  rw [getD_app a b 0 hl]
  exact decN_more _ _ _ _ _ _ _ _ _ hg (by simp) (fun h => by rw [getD_app a b 1 h]) (fun h => by rw [getD_app a b 2 h]) (fun h => by rw [getD_app a b 3 h])
theorem valid_app (b : List UInt8) : ∀ (n : Nat) (a : List UInt8), a.length ≤ n → Lib.validD a = true → Lib.validD (a ++ b) = Lib.validD b := by
  intro n
  induction n with
  | zero => intro a h _; have : a = [] := List.eq_nil_of_length_eq_zero (by omega)
            subst this; rfl
  | succ n ih =>
    intro a h hv
    by_cases ha : a = []
    · subst ha; rfl
    rw [Lib.validD_step a ha] at hv
    split at hv
    · cases hv
    rename_i hg
    have hw := Lib.decodeL_width a
    have hle : (Lib.decodeL a).2 ≤ a.length := by
      rw [Lib.decodeL_N]
      have hl : 0 < a.length := List.length_pos_iff.2 ha
      unfold Lib.decodeN
      repeat' split
      all_goals (simp only; omega)
    rw [Lib.validD_step (a ++ b) (by simp [ha]), decL_app a b ha hg, if_neg hg, List.drop_append_of_le_length hle]
    exact ih _ (by rw [List.length_drop]; have hl : 0 < a.length := List.length_pos_iff.2 ha; omega) hv
theorem valid_append {a b : List UInt8} (ha : Lib.validD a = true) (hb : Lib.validD b = true) : Lib.validD (a ++ b) = true := by rw [valid_app b _ a (Nat.le_refl _) ha]; exact hb
end Go.Proofs.YtmfdfkbcommjfaaDoor
/-
  Plain facts: texts of UTF-8 parted and put together; strings within quotes.
-/
namespace Go.Proofs.YtmfdfkbcommjfaaDoor
open Go
set_option maxRecDepth 100000 in
theorem decN_good (n b0 b1 b2 b3 : Nat) (h0 : 128 ≤ b0) (hg : ¬ ((Lib.decodeN n b0 b1 b2 b3).1 = 65533 ∧ (Lib.decodeN n b0 b1 b2 b3).2 = 1)) :
    ((Lib.decodeN n b0 b1 b2 b3).2 = 2 ∧ 2 ≤ n ∧ 128 ≤ b1) ∨ ((Lib.decodeN n b0 b1 b2 b3).2 = 3 ∧ 3 ≤ n ∧ 128 ≤ b1 ∧ 128 ≤ b2) ∨ ((Lib.decodeN n b0 b1 b2 b3).2 = 4 ∧ 4 ≤ n ∧ 128 ≤ b1 ∧ 128 ≤ b2 ∧ 128 ≤ b3) := by
  have one : ∀ x : Nat × Nat, x = (65533, 1) → ¬ ¬ (x.1 = 65533 ∧ x.2 = 1) := fun x e h => h (by rw [e]; exact ⟨rfl, rfl⟩)
  unfold Lib.decodeN at hg ⊢
  rw [if_neg (by omega)] at hg ⊢
  split at hg
  · rename_i q; rw [if_pos q]
    split at hg
    · rename_i q2; rw [if_pos q2]; exact .inl ⟨rfl, by omega, by omega⟩
    · exact absurd hg (one _ rfl)
  · rename_i q; rw [if_neg q]
    split at hg
    · rename_i q; rw [if_pos q]
      split at hg
      · rename_i q2; rw [if_pos q2]; exact .inr (.inl ⟨rfl, by omega, by omega, by omega⟩)
      · exact absurd hg (one _ rfl)
    · rename_i q; rw [if_neg q]
      split at hg
      · rename_i q; rw [if_pos q]
        split at hg
        · rename_i q2; rw [if_pos q2]; exact .inr (.inr ⟨rfl, by omega, by omega, by omega, by omega⟩)
        · exact absurd hg (one _ rfl)
      · exact absurd hg (one _ rfl)
set_option maxRecDepth 100000 in
theorem decN_less (n m b0 b1 b2 b3 c1 c2 c3 : Nat) (hg : ¬ ((Lib.decodeN n b0 b1 b2 b3).1 = 65533 ∧ (Lib.decodeN n b0 b1 b2 b3).2 = 1)) (hm : (Lib.decodeN n b0 b1 b2 b3).2 ≤ m)
    (e1 : 1 < m → c1 = b1) (e2 : 2 < m → c2 = b2) (e3 : 3 < m → c3 = b3) : Lib.decodeN m b0 c1 c2 c3 = Lib.decodeN n b0 b1 b2 b3 := by
  by_cases h0 : b0 < 128
  · unfold Lib.decodeN; rw [if_pos h0, if_pos h0]
  have one : ∀ x : Nat × Nat, x = (65533, 1) → ¬ ¬ (x.1 = 65533 ∧ x.2 = 1) := fun x e h => h (by rw [e]; exact ⟨rfl, rfl⟩)
  unfold Lib.decodeN at hg hm ⊢
  rw [if_neg h0] at hg hm ⊢
  rw [if_neg h0]
  by_cases q1 : b0 / 32 = 6 ∧ (1 < n ∧ b1 / 64 = 2)
  · rw [if_pos q1] at hg hm ⊢
    split at hg
    · rename_i q
      rw [if_pos q] at hm
      simp only at hm
      have E1 := e1 (by omega); subst E1
      rw [if_pos ⟨q1.1, by omega, q1.2.2⟩]
    · exact absurd hg (one _ rfl)
  rw [if_neg q1] at hg hm ⊢
  by_cases q2 : b0 / 16 = 14 ∧ (1 < n ∧ b1 / 64 = 2) ∧ (2 < n ∧ b2 / 64 = 2)
  · rw [if_pos q2] at hg hm ⊢
    split at hg
    · rename_i q
      rw [if_pos q] at hm
      simp only at hm
      have E1 := e1 (by omega); subst E1
      have E2 := e2 (by omega); subst E2
      rw [if_neg (by omega), if_pos ⟨q2.1, ⟨by omega, q2.2.1.2⟩, ⟨by omega, q2.2.2.2⟩⟩]
    · exact absurd hg (one _ rfl)
  rw [if_neg q2] at hg hm ⊢
  by_cases q3 : b0 / 8 = 30 ∧ (1 < n ∧ b1 / 64 = 2) ∧ (2 < n ∧ b2 / 64 = 2) ∧ (3 < n ∧ b3 / 64 = 2)
  · rw [if_pos q3] at hg hm ⊢
    split at hg
    · rename_i q
      rw [if_pos q] at hm
      simp only at hm
      have E1 := e1 (by omega); subst E1
      have E2 := e2 (by omega); subst E2
      have E3 := e3 (by omega); subst E3
      rw [if_neg (by omega), if_neg (by omega), if_pos ⟨q3.1, ⟨by omega, q3.2.1.2⟩, ⟨by omega, q3.2.2.1.2⟩, ⟨by omega, q3.2.2.2.2⟩⟩]
    · exact absurd hg (one _ rfl)
  rw [if_neg q3] at hg
  exact absurd hg (one _ rfl)
theorem decL_take (l : List UInt8) (d : Nat) (hg : ¬ ((Lib.decodeL l).1 = 65533 ∧ (Lib.decodeL l).2 = 1)) (hd : (Lib.decodeL l).2 ≤ d) (hl : d ≤ l.length) (h1 : 1 ≤ d) : Lib.decodeL (l.take d) = Lib.decodeL l := by
  rw [Lib.decodeL_N l] at hg hd ⊢
  rw [Lib.decodeL_N, Lib.getD_takeU l d 0 h1]
  have hz : (l.take d).length = d := by rw [List.length_take]; omega
  rw [hz]
  exact decN_less _ _ _ _ _ _ _ _ _ hg hd (fun h => by rw [Lib.getD_takeU l d 1 h]) (fun h => by rw [Lib.getD_takeU l d 2 h]) (fun h => by rw [Lib.getD_takeU l d 3 h])
/-- a rune of more bytes than one -/
theorem decL_high {l : List UInt8} (h0 : 128 ≤ (l.getD 0 0).toNat) (hg : ¬ ((Lib.decodeL l).1 = 65533 ∧ (Lib.decodeL l).2 = 1)) : (Lib.decodeL l).2 ≤ l.length ∧ ∀ i b, i < (Lib.decodeL l).2 → l[i]? = some b → 128 ≤ b.toNat := by
  have gd : ∀ (i : Nat) (b : UInt8), l[i]? = some b → l.getD i 0 = b := fun i b h => by simp [List.getD, h]
  have := decN_good l.length (l.getD 0 0).toNat (l.getD 1 0).toNat (l.getD 2 0).toNat (l.getD 3 0).toNat h0 (by rw [← Lib.decodeL_N]; exact hg)
  rw [← Lib.decodeL_N] at this
  rcases this with ⟨q1, q2, q3⟩ | ⟨q1, q2, q3, q4⟩ | ⟨q1, q2, q3, q4, q5⟩
  · rw [q1]
    refine ⟨q2, fun i b hi hb => ?_⟩
    match i, hi with
    | 0, _ => rw [gd 0 b hb] at h0; exact h0
    | 1, _ => rw [gd 1 b hb] at q3; exact q3
  · rw [q1]
    refine ⟨q2, fun i b hi hb => ?_⟩
    match i, hi with
    | 0, _ => rw [gd 0 b hb] at h0; exact h0
    | 1, _ => rw [gd 1 b hb] at q3; exact q3
    | 2, _ => rw [gd 2 b hb] at q4; exact q4
  · rw [q1]
    refine ⟨q2, fun i b hi hb => ?_⟩
    match i, hi with
    | 0, _ => rw [gd 0 b hb] at h0; exact h0
    | 1, _ => rw [gd 1 b hb] at q3; exact q3
    | 2, _ => rw [gd 2 b hb] at q4; exact q4
    | 3, _ => rw [gd 3 b hb] at q5; exact q5
/-- a valid text of bytes begins with a rune's bytes -/
theorem valid_parts {l : List UInt8} (hne : l ≠ []) (hv : Lib.validD l = true) : ∃ n, 1 ≤ n ∧ n ≤ l.length ∧ Lib.validD (l.take n) = true ∧ Lib.validD (l.drop n) = true ∧ ((n = 1 ∧ (l.getD 0 0).toNat < 128) ∨ ∀ b ∈ l.take n, 128 ≤ b.toNat) := by
  by_cases h0 : (l.getD 0 0).toNat < 128
  · cases l with
    | nil => exact absurd rfl hne
    | cons b t =>
      have hb : b.toNat < 128 := h0
      rw [Lib.validD_cons b t hb] at hv
      exact ⟨1, Nat.le_refl _, by simp, by show Lib.validD [b] = true; rw [Lib.validD_cons b [] hb]; rfl, hv, .inl ⟨rfl, h0⟩⟩
  · rw [Lib.validD_step l hne] at hv
    split at hv
    · cases hv
    rename_i hg
    obtain ⟨h1, h2⟩ := decL_high (by omega) hg
    have hw : 1 ≤ (Lib.decodeL l).2 := by
      have := decN_good l.length (l.getD 0 0).toNat (l.getD 1 0).toNat (l.getD 2 0).toNat (l.getD 3 0).toNat (by omega) (by rw [← Lib.decodeL_N]; exact hg)
      rw [← Lib.decodeL_N] at this
      omega
    refine ⟨_, hw, h1, ?_, hv, .inr ?_⟩
    · have hne2 : l.take (Lib.decodeL l).2 ≠ [] := fun e => by
        have : (l.take (Lib.decodeL l).2).length = 0 := by rw [e]; rfl
        rw [List.length_take] at this; omega
      rw [Lib.validD_step _ hne2, decL_take l _ hg (Nat.le_refl _) h1 hw, if_neg hg, List.drop_of_length_le (by rw [List.length_take]; omega)]
      rfl
    · intro b hb
      obtain ⟨i, hi, hbi⟩ := List.getElem_of_mem hb
      have hi2 : i < (Lib.decodeL l).2 := by rw [List.length_take] at hi; omega
      exact h2 i b hi2 (by rw [← hbi, List.getElem_take]; exact List.getElem?_eq_getElem _)
/-- a valid text parted where no rune is parted -/
theorem valid_split : ∀ (n : Nat) (l : List UInt8) (d : Nat), l.length ≤ n → Lib.validD l = true → (d = 0 ∨ Bd l d) → Lib.validD (l.take d) = true ∧ Lib.validD (l.drop d) = true := by
  intro n
  induction n with
  | zero =>
    intro l d hn hv _
    have : l = [] := List.eq_nil_of_length_eq_zero (by omega)
    subst this
    simp; exact hv
  | succ n ih =>
    intro l d hn hv hd
    by_cases h0 : d = 0
    · subst h0; exact ⟨rfl, hv⟩
    have hB : Bd l d := hd.resolve_left h0
    have hdl := hB.1
    have hne : l ≠ [] := fun e => by subst e; simp at hdl; omega
    obtain ⟨m, m1, m2, v1, v2, hm⟩ := valid_parts hne hv
    have hmd : m ≤ d := by
      rcases hm with ⟨rfl, _⟩ | hm
      · omega
      · apply Classical.byContradiction
        intro hc
        have hall : ∀ i b, i < m → l[i]? = some b → 128 ≤ b.toNat := fun i b hi hb => hm b (by
          rw [List.mem_iff_getElem?]; exact ⟨i, by rw [List.getElem?_take_of_lt hi]; exact hb⟩)
        have hlt : d < l.length := by omega
        rcases hB.2 _ (List.getElem?_eq_getElem hlt) with q | ⟨k, rfl, b, hb, q⟩
        · have := hall d _ (by omega) (List.getElem?_eq_getElem hlt); omega
        · have := hall k b (by omega) hb; omega
    have hB2 : d - m = 0 ∨ Bd (l.drop m) (d - m) := by
      by_cases q : d = m
      · exact .inl (by omega)
      · refine .inr ⟨by rw [List.length_drop]; omega, fun c hc => ?_⟩
        rw [List.getElem?_drop, show m + (d - m) = d by omega] at hc
        rcases hB.2 c hc with q2 | ⟨k, hk, b, hb, q2⟩
        · exact .inl q2
        · refine .inr ⟨k - m, by omega, b, ?_, q2⟩
          rw [List.getElem?_drop, show m + (k - m) = k by omega]; exact hb
    obtain ⟨i1, i2⟩ := ih (l.drop m) (d - m) (by rw [List.length_drop]; omega) v2 hB2
    constructor
    · have : l.take d = l.take m ++ (l.drop m).take (d - m) := by
        rw [← List.take_add]; congr 1; omega
      rw [this]; exact valid_append v1 i1
    · rw [List.drop_drop, show m + (d - m) = d by omega] at i2; exact i2
theorem Rch.bd {r : List UInt8} {p : Nat} {s : St} {r' : List UInt8} {q : Nat} {s' : St} (h : Rch r p s r' q s') : q - p = 0 ∨ Bd r (q - p) := by
  induction h with
  | here => exact .inl (by omega)
  | step hr hb h ih =>
    rename_i r p s r' q s'
    obtain ⟨l1, l2⟩ := pc_len hr hb
    obtain ⟨u, _, hq⟩ := h.suffix
    rcases ih with ih | ih
    · have : q - p = (pcOf r).len := by omega
      rw [this]; exact .inr (pc_end r hr hb).2
    · have := bd_drop ih l2
      rw [show (pcOf r).len + (q - (p + (pcOf r).len)) = q - p by omega] at this
      exact .inr this
/-- the text with blanks and a remark put in is valid -/
theorem valid_ins {l : List UInt8} {st : St} (h : scn l 0 0 ⟨[], []⟩ = .ok st) {t : Tk} (ht : t ∈ st.toks) (hv : Lib.validD l = true) : Lib.validD (l.take t.lo ++ (insL ++ l.drop t.lo)) = true := by
  rcases tok_rch l.length l 0 ⟨[], []⟩ st (Nat.le_refl _) h t ht with h1 | ⟨r', s', h1⟩
  · cases h1
  have hb := h1.bd
  rw [Nat.sub_zero] at hb
  obtain ⟨v1, v2⟩ := valid_split l.length l t.lo (Nat.le_refl _) hv hb
  exact valid_append v1 (valid_append (by decide +kernel) v2)
/-- a string within quotes, byte by byte -/
def qb (b : UInt8) : List UInt8 := if b = 92 then [92, 92] else if b = 34 then [92, 34] else if b = 10 then [92, 110] else if b = 9 then [92, 116] else [b]
def quo (l : List UInt8) : List UInt8 := 34 :: (l.flatMap qb ++ [34])
theorem qb_high {b : UInt8} (h : 128 ≤ b.toNat) : qb b = [b] := by
  have q : ∀ x : UInt8, x.toNat < 128 → b ≠ x := fun x hx e => by rw [e] at h; omega
  unfold qb
  rw [if_neg (q 92 (by decide)), if_neg (q 34 (by decide)), if_neg (q 10 (by decide)), if_neg (q 9 (by decide))]
theorem flat_high (l : List UInt8) (h : ∀ b ∈ l, 128 ≤ b.toNat) : l.flatMap qb = l := by
  induction l with
  | nil => rfl
  | cons b t ih => rw [List.flatMap_cons, qb_high (h b (by simp)), ih (fun c hc => h c (by simp [hc]))]; rfl
theorem qb_mem {b c : UInt8} (h : c ∈ qb b) : c = b ∨ c = 92 ∨ c = 34 ∨ c = 110 ∨ c = 116 := by
  have two : ∀ x : UInt8, c ∈ [92, x] → c = 92 ∨ c = x := fun x hx => by simpa using hx
  unfold qb at h
  by_cases h1 : b = 92
  · rw [if_pos h1] at h; rcases two _ h with h | h <;> exact .inr (.inl h)
  rw [if_neg h1] at h
  by_cases h2 : b = 34
  · rw [if_pos h2] at h; rcases two _ h with h | h
    · exact .inr (.inl h)
    · exact .inr (.inr (.inl h))
  rw [if_neg h2] at h
  by_cases h3 : b = 10
  · rw [if_pos h3] at h; rcases two _ h with h | h
    · exact .inr (.inl h)
    · exact .inr (.inr (.inr (.inl h)))
  rw [if_neg h3] at h
  by_cases h4 : b = 9
  · rw [if_pos h4] at h; rcases two _ h with h | h
    · exact .inr (.inl h)
    · exact .inr (.inr (.inr (.inr h)))
  rw [if_neg h4] at h
  exact .inl (by simpa using h)
theorem qb_ascii {b : UInt8} (h : b.toNat < 128) : ∀ c ∈ qb b, c.toNat < 128 := by
  intro c hc
  rcases qb_mem hc with rfl | rfl | rfl | rfl | rfl
  · exact h
  all_goals decide
theorem valid_quoL : ∀ (n : Nat) (l : List UInt8), l.length ≤ n → Lib.validD l = true → Lib.validD (l.flatMap qb) = true := by
  intro n
  induction n with
  | zero => intro l hn _; have : l = [] := List.eq_nil_of_length_eq_zero (by omega)
            subst this; rfl
  | succ n ih =>
    intro l hn hv
    by_cases hne : l = []
    · subst hne; rfl
    obtain ⟨m, m1, m2, v1, v2, hm⟩ := valid_parts hne hv
    have hi := ih (l.drop m) (by rw [List.length_drop]; omega) v2
    rw [← List.take_append_drop m l, List.flatMap_append]
    refine valid_append ?_ hi
    rcases hm with ⟨rfl, h0⟩ | hm
    · cases l with
      | nil => exact absurd rfl hne
      | cons b t =>
        show Lib.validD ([b].flatMap qb) = true
        rw [List.flatMap_cons, List.flatMap_nil, List.append_nil, Lib.validD_ascii (qb b).length (qb b) (fun c hc => qb_ascii h0 c (List.mem_of_mem_take hc)), List.drop_length]
        rfl
    · rw [flat_high _ hm]; exact v1
theorem valid_quo {l : List UInt8} (h : Lib.validD l = true) : Lib.validD (quo l) = true := by
  unfold quo
  rw [Lib.validD_cons 34 _ (by decide)]
  exact valid_append (valid_quoL l.length l (Nat.le_refl _) h) (by decide +kernel)
theorem strL_quo (l : List UInt8) : ∀ (k : Nat) (acc : List UInt8), strL (l.flatMap qb ++ [34]) false k acc = .ok (k + (l.flatMap qb).length + 1, acc ++ l) := by
  induction l with
  | nil => intro k acc; simp [strL]
  | cons b t ih =>
    intro k acc
    rw [List.flatMap_cons, List.append_assoc]
    have esc : ∀ (x e : UInt8), qb b = [92, x] → escOf x = some e → e = b → strL (qb b ++ (t.flatMap qb ++ [34])) false k acc = .ok (k + (qb b ++ t.flatMap qb).length + 1, acc ++ b :: t) := by
      intro x e h1 h2 h3
      subst h3
      rw [h1]
      simp only [List.cons_append, List.nil_append, strL, if_true, List.head?_cons, Option.bind_some, h2]
      rw [ih]
      simp only [List.length_cons, List.append_assoc, List.cons_append, List.nil_append, Except.ok.injEq, Prod.mk.injEq, and_true]
      omega
    by_cases h1 : b = 92
    · exact esc 92 92 (by rw [h1]; rfl) rfl h1.symm
    by_cases h2 : b = 34
    · exact esc 34 34 (by rw [h2]; rfl) rfl h2.symm
    by_cases h3 : b = 10
    · exact esc 110 10 (by rw [h3]; rfl) rfl h3.symm
    by_cases h4 : b = 9
    · exact esc 116 9 (by rw [h4]; rfl) rfl h4.symm
    have e : qb b = [b] := by unfold qb; rw [if_neg h1, if_neg h2, if_neg h3, if_neg h4]
    rw [e]
    simp only [List.cons_append, List.nil_append, strL, h1, h2, h3, if_false]
    rw [ih]
    simp only [List.length_cons, List.append_assoc, List.cons_append, List.nil_append, Except.ok.injEq, Prod.mk.injEq, and_true]
    omega
theorem scn_quo (l : List UInt8) : scn (quo l) 0 0 ⟨[], []⟩ = .ok ⟨[⟨3, 0, (quo l).length, l⟩, ⟨6, (quo l).length, (quo l).length, [10]⟩, ⟨7, (quo l).length, (quo l).length, []⟩], []⟩ := by
  have e : pcOf (quo l) = .tok 3 (quo l).length l := by
    unfold quo
    rw [pcOf_str, strL_quo]
    show Pc.tok 3 (1 + (l.flatMap qb).length + 1) ([] ++ l) = _
    rw [List.nil_append]
    congr 1
    simp
    omega
  rw [scn_piece (by simp [quo]) (by rw [e]; intro o h; cases h), e]
  show scn ((quo l).drop (quo l).length) 0 (0 + (quo l).length) ⟨[] ++ [⟨3, 0, 0 + (quo l).length, l⟩], []⟩ = _
  rw [List.drop_length, Nat.zero_add]
  rfl
theorem quo_len (l : List UInt8) : (quo l).length ≤ 2 * l.length + 2 := by
  have : (l.flatMap qb).length ≤ 2 * l.length := by
    induction l with
    | nil => simp
    | cons b t ih =>
      rw [List.flatMap_cons, List.length_append, List.length_cons]
      have : (qb b).length ≤ 2 := by unfold qb; repeat' split
                                     all_goals simp
      omega
  unfold quo; rw [List.length_cons, List.length_append]; simp only [List.length_cons, List.length_nil]; omega
theorem qb_zero {l : List UInt8} (h : ∀ x ∈ l, x ≠ 0) : ∀ x ∈ quo l, x ≠ 0 := by
  intro x hx
  unfold quo at hx
  rcases List.mem_cons.1 hx with rfl | hx
  · decide
  rcases List.mem_append.1 hx with hx | hx
  · obtain ⟨b, hb, hx⟩ := List.mem_flatMap.1 hx
    have h0 := h b hb
    rcases qb_mem hx with rfl | rfl | rfl | rfl | rfl
    · exact h0
    all_goals decide
  · rw [List.mem_singleton] at hx; subst hx; decide
end Go.Proofs.YtmfdfkbcommjfaaDoor
