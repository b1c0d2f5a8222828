/-
  Plain facts on rows of words (digits at a base, the lowest first), their values, sums, products and quotients: no program is named here.
-/
namespace Go.Proofs.YtfkkhabpnnealaaDoor
/-- the value of a row of digits at base e, the lowest first -/
def vl (e : Nat) : List Nat → Nat
  | [] => 0
  | x :: l => x + e * vl e l
def Wd (e : Nat) (l : List Nat) : Prop := ∀ x ∈ l, x < e
/-- in form: digits, the last one not 0 -/
def Form (e : Nat) : List Nat → Prop
  | [] => True
  | x :: l => x < e ∧ Form e l ∧ (l = [] → x ≠ 0)
theorem Wd.cons {e x : Nat} {l : List Nat} : Wd e (x :: l) ↔ x < e ∧ Wd e l := by simp [Wd]
theorem Wd.append {e : Nat} {a b : List Nat} : Wd e (a ++ b) ↔ Wd e a ∧ Wd e b := by
  constructor
  · intro h; exact ⟨fun x hx => h x (by simp [hx]), fun x hx => h x (by simp [hx])⟩
  · intro h x hx
    rcases List.mem_append.1 hx with h1 | h1
    · exact h.1 x h1
    · exact h.2 x h1
theorem Wd.take {e : Nat} {l : List Nat} (h : Wd e l) (k : Nat) : Wd e (l.take k) := fun x hx => h x (List.mem_of_mem_take hx)
theorem Wd.drop {e : Nat} {l : List Nat} (h : Wd e l) (k : Nat) : Wd e (l.drop k) := fun x hx => h x (List.mem_of_mem_drop hx)
theorem Wd.at {e : Nat} {l : List Nat} (h : Wd e l) (he : 0 < e) (k : Nat) : l.getD k 0 < e := by
  by_cases hk : k < l.length
  · rw [List.getD_eq_getElem?_getD, List.getElem?_eq_getElem hk]
    exact h _ (List.getElem_mem hk)
  · rw [List.getD_eq_getElem?_getD, List.getElem?_eq_none (by omega)]
    exact he
theorem vl_append (e : Nat) : ∀ a b : List Nat, vl e (a ++ b) = vl e a + e ^ a.length * vl e b
  | [], b => by simp [vl]
  | x :: a, b => by
    have := vl_append e a b
    simp only [List.cons_append, vl, List.length_cons, this, Nat.pow_succ]
    grind
theorem vl_lt (e : Nat) : ∀ l : List Nat, Wd e l → vl e l < e ^ l.length
  | [], _ => by simp [vl]
  | x :: l, h => by
    have h1 := vl_lt e l (Wd.cons.1 h).2
    have h2 := (Wd.cons.1 h).1
    simp only [vl, List.length_cons, Nat.pow_succ]
    have h3 : vl e l + 1 ≤ e ^ l.length := h1
    have h4 := Nat.mul_le_mul_left e h3
    rw [Nat.mul_comm (e ^ l.length) e]
    have h5 : e * (vl e l + 1) = e * vl e l + e := by grind
    omega
theorem vl_zeros (e : Nat) : ∀ l : List Nat, (∀ x ∈ l, x = 0) → vl e l = 0
  | [], _ => rfl
  | x :: l, h => by
    have h1 := vl_zeros e l fun y hy => h y (by simp [hy])
    have h2 := h x (by simp)
    simp [vl, h1, h2]
theorem vl_replicate (e n : Nat) : vl e (List.replicate n 0) = 0 := vl_zeros e _ fun _ hx => (List.mem_replicate.1 hx).2
theorem zeros_of_vl (e : Nat) (he : 0 < e) : ∀ l : List Nat, vl e l = 0 → ∀ x ∈ l, x = 0
  | [], _, x, hx => by simp at hx
  | y :: l, h, x, hx => by
    simp only [vl] at h
    have h1 : y = 0 := by omega
    have h2 : e * vl e l = 0 := by omega
    have h3 : vl e l = 0 := by
      rcases Nat.mul_eq_zero.1 h2 with h | h
      · omega
      · exact h
    rcases List.mem_cons.1 hx with rfl | hx
    · exact h1
    · exact zeros_of_vl e he l h3 x hx
theorem Form.wd {e : Nat} : ∀ {l : List Nat}, Form e l → Wd e l
  | [], _ => by simp [Wd]
  | _ :: _, h => Wd.cons.2 ⟨h.1, Form.wd h.2.1⟩
theorem Form.low {e : Nat} : ∀ {l : List Nat}, Form e l → l ≠ [] → e ^ (l.length - 1) ≤ vl e l
  | [], _, h => absurd rfl h
  | [x], h, _ => by have := h.2.2 rfl; simp [vl]; omega
  | x :: y :: l, h, _ => by
    have h1 := Form.low h.2.1 (by simp)
    simp only [List.length_cons, Nat.add_sub_cancel] at h1 ⊢
    rw [Nat.pow_succ, Nat.mul_comm]
    have h2 := Nat.mul_le_mul_left e h1
    have h3 : vl e (x :: y :: l) = x + e * vl e (y :: l) := rfl
    omega
theorem Form.uniq {e : Nat} : ∀ {a b : List Nat}, Form e a → Form e b → vl e a = vl e b → a = b
  | [], [], _, _, _ => rfl
  | [], y :: b, _, hb, h => by
    have h1 := Form.low hb (by simp)
    have h0 : y < e := hb.1
    have h2 : 0 < e ^ ((y :: b).length - 1) := Nat.pow_pos (by omega)
    have h3 : vl e [] = 0 := rfl
    omega
  | x :: a, [], ha, _, h => by
    have h1 := Form.low ha (by simp)
    have h0 : x < e := ha.1
    have h2 : 0 < e ^ ((x :: a).length - 1) := Nat.pow_pos (by omega)
    have h3 : vl e [] = 0 := rfl
    omega
  | x :: a, y :: b, ha, hb, h => by
    have h1 : x + e * vl e a = y + e * vl e b := h
    have hx := ha.1
    have hy := hb.1
    have e1 : (x + e * vl e a) % e = x := by rw [Nat.add_mul_mod_self_left, Nat.mod_eq_of_lt hx]
    have e2 : (y + e * vl e b) % e = y := by rw [Nat.add_mul_mod_self_left, Nat.mod_eq_of_lt hy]
    have hxy : x = y := by rw [← e1, ← e2, h1]
    subst hxy
    have h2 : e * vl e a = e * vl e b := by omega
    have h3 := Nat.eq_of_mul_eq_mul_left (by omega) h2
    rw [Form.uniq ha.2.1 hb.2.1 h3]
theorem Form.snoc {e : Nat} : ∀ {l : List Nat} {x : Nat}, Wd e l → x < e → x ≠ 0 → Form e (l ++ [x])
  | [], x, _, h, h0 => ⟨h, trivial, fun _ => h0⟩
  | y :: l, x, hl, h, h0 => ⟨(Wd.cons.1 hl).1, Form.snoc (Wd.cons.1 hl).2 h h0, fun hn => by simp at hn⟩
/-- the first k words, where the k-th from below is the last that is not 0 -/
theorem Form.of_take {e : Nat} {l : List Nat} (h : Wd e l) (k : Nat) (hk : k ≤ l.length) (h0 : 0 < k → l.getD (k - 1) 0 ≠ 0) : Form e (l.take k) := by
  match k, hk, h0 with
  | 0, _, _ => simp [Form]
  | k + 1, hk, h0 =>
    have h1 := h0 (by omega)
    simp only [Nat.add_sub_cancel, List.getD_eq_getElem?_getD, List.getElem?_eq_getElem (show k < l.length by omega), Option.getD_some] at h1
    rw [List.take_succ_eq_append_getElem (by omega)]
    exact Form.snoc (h.take k) (h _ (List.getElem_mem _)) h1
theorem vl_take_zeros (e : Nat) (l : List Nat) (k : Nat) (hz : ∀ j, k ≤ j → j < l.length → l.getD j 0 = 0) : vl e (l.take k) = vl e l := by
  have h1 := vl_append e (l.take k) (l.drop k)
  rw [List.take_append_drop] at h1
  have h2 : vl e (l.drop k) = 0 := vl_zeros e _ fun x hx => by
    obtain ⟨i, hi, rfl⟩ := List.mem_iff_getElem.1 hx
    have hi' : k + i < l.length := by simp at hi; omega
    have := hz (k + i) (by omega) hi'
    rw [List.getElem_drop]
    simpa [List.getD_eq_getElem?_getD, List.getElem?_eq_getElem hi'] using this
  rw [h1, h2]; simp
theorem vl_take_succ (e : Nat) (l : List Nat) (k : Nat) (hk : k < l.length) : vl e (l.take (k + 1)) = vl e (l.take k) + e ^ k * l.getD k 0 := by
  rw [List.take_succ_eq_append_getElem hk, vl_append]
  simp only [vl, List.getD_eq_getElem?_getD, List.getElem?_eq_getElem hk, Option.getD_some, Nat.mul_zero, Nat.add_zero]
  rw [show (l.take k).length = k from by simp; omega]
theorem vl_take_over (e : Nat) (l : List Nat) (k : Nat) (hk : l.length ≤ k) : vl e (l.take (k + 1)) = vl e (l.take k) + e ^ k * 0 := by
  rw [List.take_of_length_le (by omega), List.take_of_length_le (by omega)]; simp
theorem Form.len_lt {e : Nat} (he : 0 < e) {a b : List Nat} (ha : Wd e a) (hb : Form e b) (h : a.length < b.length) : vl e a < vl e b := by
  have h1 := vl_lt e a ha
  have h2 := hb.low (by intro h0; subst h0; simp at h)
  have h3 : e ^ a.length ≤ e ^ (b.length - 1) := Nat.pow_le_pow_right he (by omega)
  omega
/-- held against each other from above: the first words that differ -/
theorem vl_lt_of_top {e : Nat} (a b : List Nat) (hl : a.length = b.length) (ha : Wd e a) (i : Nat) (hi : i < a.length) (ht : a.drop (i + 1) = b.drop (i + 1)) (h : a.getD i 0 < b.getD i 0) : vl e a < vl e b := by
  have h1 := vl_append e (a.take (i + 1)) (a.drop (i + 1))
  have h2 := vl_append e (b.take (i + 1)) (b.drop (i + 1))
  rw [List.take_append_drop] at h1 h2
  rw [h1, h2, ht]
  have l1 : (a.take (i + 1)).length = i + 1 := by simp; omega
  have l2 : (b.take (i + 1)).length = i + 1 := by simp; omega
  rw [l1, l2, vl_take_succ e a i hi, vl_take_succ e b i (by omega)]
  have h3 := vl_lt e (a.take i) (ha.take i)
  rw [show (a.take i).length = i from by simp; omega] at h3
  have h4 := Nat.mul_le_mul_left (e ^ i) (show a.getD i 0 + 1 ≤ b.getD i 0 from h)
  rw [Nat.mul_add] at h4
  omega
theorem drop_eq_step {a b : List Nat} (hl : a.length = b.length) (i : Nat) (hi : i < a.length) (ht : a.drop (i + 1) = b.drop (i + 1)) (h : a.getD i 0 = b.getD i 0) : a.drop i = b.drop i := by
  rw [List.drop_eq_getElem_cons hi, List.drop_eq_getElem_cons (show i < b.length by omega), ht]
  simp only [List.getD_eq_getElem?_getD, List.getElem?_eq_getElem hi, List.getElem?_eq_getElem (show i < b.length by omega), Option.getD_some] at h
  rw [h]
/-- one round of adding b times word to a row of words -/
theorem add_step (P s t m c c' v1 v2 w v3 b : Nat) (h2 : v1 + P * c = v2 + w * v3) (hm : m = w * b) (h : t + 4294967296 * c' = s + m + c) :
    v1 + P * t + (P * 4294967296) * c' = v2 + P * s + w * (v3 + P * b) := by subst hm; grind
theorem add_word (s low p c' : Nat) (hs : s < 4294967296) (hp : p ≤ 18446744069414584320) (hl : low = p % 4294967296) (hc : c' = p / 4294967296 + (if 4294967296 ≤ s + low then 1 else 0)) :
    (s + low) % 4294967296 + 4294967296 * c' = s + p ∧ c' < 4294967296 := by
  subst hl; subst hc; split <;> omega
/-- one round of taking b times word from a row of words -/
theorem take_step (P s t m c c' v1 v2 w v3 b : Nat) (h2 : v1 + w * v3 = v2 + P * c) (hm : m = w * b) (h : t + m + c = s + 4294967296 * c') :
    v1 + P * t + w * (v3 + P * b) = v2 + P * s + (P * 4294967296) * c' := by subst hm; grind
theorem take_word (s low p c' : Nat) (hs : s < 4294967296) (hp : p ≤ 18446744069414584320) (hl : low = p % 4294967296) (hc : c' = p / 4294967296 + (if s < low then 1 else 0)) :
    (if s < low then s + 4294967296 - low else s - low) + p = s + 4294967296 * c' ∧ c' < 4294967296 := by
  subst hl; subst hc; split <;> omega
theorem prod_le (c b w : Nat) (hc : c < 4294967296) (hb : b < 4294967296) (hw : w < 4294967296) : c + w * b ≤ 18446744069414584320 := by
  have h := Nat.mul_le_mul (show w ≤ 4294967295 by omega) (show b ≤ 4294967295 by omega)
  omega
/-- a row of n + 1 words whose highest is 0 takes b times a word without a carry -/
theorem no_carry (E m v w b c : Nat) (hm : m < E) (hb : b < E) (hw : w < 4294967296) (h : v + (E * 4294967296) * c = m + w * b) : c = 0 ∧ v = m + w * b := by
  have h1 : w * b ≤ 4294967295 * (E - 1) := Nat.mul_le_mul (by omega) (by omega)
  generalize w * b = wb at *
  have h4 : c = 0 := by
    rcases Nat.eq_zero_or_pos c with h0 | h0
    · exact h0
    · have h5 : (E * 4294967296) * 1 ≤ (E * 4294967296) * c := Nat.mul_le_mul_left _ h0
      generalize (E * 4294967296) * c = X at *
      omega
  subst h4
  exact ⟨rfl, by rw [Nat.mul_zero] at h; exact h⟩
/-- the quotient, guessed from the highest words, is not too small -/
theorem guess_ge (Q b top hi E v : Nat) (h0 : 0 < top) (hb : top * E ≤ b) (hv : v < (hi + 1) * E) (hq : Q * b ≤ v) : Q ≤ hi / top := by
  have h1 : Q * (top * E) ≤ v := Nat.le_trans (Nat.mul_le_mul_left Q hb) hq
  have h2 : Q * top * E < (hi + 1) * E := by rw [Nat.mul_assoc]; omega
  have h3 : Q * top < hi + 1 := Nat.lt_of_mul_lt_mul_right h2
  exact (Nat.le_div_iff_mul_le h0).2 (by omega)
theorem div_step (T r m d q vq : Nat) (h : vq * d + r = T) (hq : q = (r * 4294967296 + m) / d) :
    (q + 4294967296 * vq) * d + (r * 4294967296 + m) % d = m + 4294967296 * T := by
  have h1 := Nat.div_add_mod (r * 4294967296 + m) d
  rw [← hq] at h1
  generalize (r * 4294967296 + m) % d = x at *
  subst h
  grind
theorem div_word (r m d : Nat) (hr : r < d) (hm : m < 4294967296) : (r * 4294967296 + m) / d < 4294967296 := by
  rw [Nat.div_lt_iff_lt_mul (by omega)]
  have h1 := Nat.mul_le_mul_left 4294967296 (show r + 1 ≤ d from hr)
  omega
end Go.Proofs.YtfkkhabpnnealaaDoor

