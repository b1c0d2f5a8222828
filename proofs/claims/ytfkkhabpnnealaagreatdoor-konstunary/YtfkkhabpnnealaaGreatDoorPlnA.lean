/-
  Plain facts on rows of words (digits at a base, the lowest first), their values, sums, products and quotients: no program is named here.
-/
namespace Go.Proofs.YtfkkhabpnnealaaGreatDoor
/-- the value of a row of digits at base e, the lowest first -/
def vl (e : Nat) : List Nat → Nat
  | [] => 0
  | x :: l => x + e * vl e l
def Wd (e : Nat) (l : List Nat) : Prop := ∀ x ∈ l, x < e
/-- in form: digits, the last one not 0 -/
def Form (e : Nat) : List Nat → Prop
  | [] => True
  | x :: l => x < e ∧ Form e l ∧ (l = [] → x ≠ 0)
theorem Wd.cons {e x : Nat} {l : List Nat} : Wd e (x :: l) ↔ x < e ∧ Wd e l := by simp [Wd]
theorem Wd.append {e : Nat} {a b : List Nat} : Wd e (a ++ b) ↔ Wd e a ∧ Wd e b := by
  constructor
  · intro h; exact ⟨fun x hx => h x (by simp [hx]), fun x hx => h x (by simp [hx])⟩
  · intro h x hx
    rcases List.mem_append.1 hx with h1 | h1
    · exact h.1 x h1
    · exact h.2 x h1
theorem Wd.take {e : Nat} {l : List Nat} (h : Wd e l) (k : Nat) : Wd e (l.take k) := fun x hx => h x (List.mem_of_mem_take hx)
theorem Wd.drop {e : Nat} {l : List Nat} (h : Wd e l) (k : Nat) : Wd e (l.drop k) := fun x hx => h x (List.mem_of_mem_drop hx)
theorem Wd.at {e : Nat} {l : List Nat} (h : Wd e l) (he : 0 < e) (k : Nat) : l.getD k 0 < e := by
  by_cases hk : k < l.length
  · rw [List.getD_eq_getElem?_getD, List.getElem?_eq_getElem hk]
    exact h _ (List.getElem_mem hk)
  · rw [List.getD_eq_getElem?_getD, List.getElem?_eq_none (by omega)]
    exact he
theorem vl_append (e : Nat) : ∀ a b : List Nat, vl e (a ++ b) = vl e a + e ^ a.length * vl e b
  | [], b => by simp [vl]
  | x :: a, b => by
    have := vl_append e a b
    simp only [List.cons_append, vl, List.length_cons, this, Nat.pow_succ]
    grind
theorem vl_lt (e : Nat) : ∀ l : List Nat, Wd e l → vl e l < e ^ l.length
  | [], _ => by simp [vl]
  | x :: l, h => by
    have h1 := vl_lt e l (Wd.cons.1 h).2
    have h2 := (Wd.cons.1 h).1
    simp only [vl, List.length_cons, Nat.pow_succ]
    have h3 : vl e l + 1 ≤ e ^ l.length := h1
    have h4 := Nat.mul_le_mul_left e h3
    rw [Nat.mul_comm (e ^ l.length) e]
    have h5 : e * (vl e l + 1) = e * vl e l + e := by grind
    omega
theorem vl_zeros (e : Nat) : ∀ l : List Nat, (∀ x ∈ l, x = 0) → vl e l = 0
  | [], _ => rfl
  | x :: l, h => by
    have h1 := vl_zeros e l fun y hy => h y (by simp [hy])
    have h2 := h x (by simp)
    simp [vl, h1, h2]
theorem vl_replicate (e n : Nat) : vl e (List.replicate n 0) = 0 := vl_zeros e _ fun _ hx => (List.mem_replicate.1 hx).2
theorem zeros_of_vl (e : Nat) (he : 0 < e) : ∀ l : List Nat, vl e l = 0 → ∀ x ∈ l, x = 0
  | [], _, x, hx => by simp at hx
  | y :: l, h, x, hx => by
    simp only [vl] at h
    have h1 : y = 0 := by omega
    have h2 : e * vl e l = 0 := by omega
    have h3 : vl e l = 0 := by
      rcases Nat.mul_eq_zero.1 h2 with h | h
      · omega
      · exact h
    rcases List.mem_cons.1 hx with rfl | hx
    · exact h1
    · exact zeros_of_vl e he l h3 x hx
theorem Form.wd {e : Nat} : ∀ {l : List Nat}, Form e l → Wd e l
  | [], _ => by simp [Wd]
  | _ :: _, h => Wd.cons.2 ⟨h.1, Form.wd h.2.1⟩
theorem Form.low {e : Nat} : ∀ {l : List Nat}, Form e l → l ≠ [] → e ^ (l.length - 1) ≤ vl e l
  | [], _, h => absurd rfl h
  | [x], h, _ => by have := h.2.2 rfl; simp [vl]; omega
  | x :: y :: l, h, _ => by
    have h1 := Form.low h.2.1 (by simp)
    simp only [List.length_cons, Nat.add_sub_cancel] at h1 ⊢
    rw [Nat.pow_succ, Nat.mul_comm]
    have h2 := Nat.mul_le_mul_left e h1
    have h3 : vl e (x :: y :: l) = x + e * vl e (y :: l) := rfl
    omega
theorem Form.uniq {e : Nat} : ∀ {a b : List Nat}, Form e a → Form e b → vl e a = vl e b → a = b
  | [], [], _, _, _ => rfl
  | [], y :: b, _, hb, h => by
    have h1 := Form.low hb (by simp)
    have h0 : y < e := hb.1
    have h2 : 0 < e ^ ((y :: b).length - 1) := Nat.pow_pos (by omega)
    have h3 : vl e [] = 0 := rfl
    omega
  | x :: a, [], ha, _, h => by
    have h1 := Form.low ha (by simp)
    have h0 : x < e := ha.1
    have h2 : 0 < e ^ ((x :: a).length - 1) := Nat.pow_pos (by omega)
    have h3 : vl e [] = 0 := rfl
    omega
  | x :: a, y :: b, ha, hb, h => by
    have h1 : x + e * vl e a = y + e * vl e b := h
    have hx := ha.1
    have hy := hb.1
    have e1 : (x + e * vl e a) % e = x := by rw [Nat.add_mul_mod_self_left, Nat.mod_eq_of_lt hx]
    have e2 : (y + e * vl e b) % e = y := by rw [Nat.add_mul_mod_self_left, Nat.mod_eq_of_lt hy]
    have hxy : x = y := by rw [← e1, ← e2, h1]
    subst hxy
    have h2 : e * vl e a = e * vl e b := by omega
    have h3 := Nat.eq_of_mul_eq_mul_left (by omega) h2
    rw [Form.uniq ha.2.1 hb.2.1 h3]
theorem Form.snoc {e : Nat} : ∀ {l : List Nat} {x : Nat}, Wd e l → x < e → x ≠ 0 → Form e (l ++ [x])
  | [], x, _, h, h0 => ⟨h, trivial, fun _ => h0⟩
  | y :: l, x, hl, h, h0 => ⟨(Wd.cons.1 hl).1, Form.snoc (Wd.cons.1 hl).2 h h0, fun hn => by simp at hn⟩
/-- the first k words, where the k-th from below is the last that is not 0 -/
theorem Form.of_take {e : Nat} {l : List Nat} (h : Wd e l) (k : Nat) (hk : k ≤ l.length) (h0 : 0 < k → l.getD (k - 1) 0 ≠ 0) : Form e (l.take k) := by
  match k, hk, h0 with
  | 0, _, _ => simp [Form]
  | k + 1, hk, h0 =>
    have h1 := h0 (by omega)
    simp only [Nat.add_sub_cancel, List.getD_eq_getElem?_getD, List.getElem?_eq_getElem (show k < l.length by omega), Option.getD_some] at h1
    rw [List.take_succ_eq_append_getElem (by omega)]
    exact Form.snoc (h.take k) (h _ (List.getElem_mem _)) h1
theorem vl_take_zeros (e : Nat) (l : List Nat) (k : Nat) (hz : ∀ j, k ≤ j → j < l.length → l.getD j 0 = 0) : vl e (l.take k) = vl e l := by
  have h1 := vl_append e (l.take k) (l.drop k)
  rw [List.take_append_drop] at h1
  have h2 : vl e (l.drop k) = 0 := vl_zeros e _ fun x hx => by
    obtain ⟨i, hi, rfl⟩ := List.mem_iff_getElem.1 hx
    have hi' : k + i < l.length := by simp at hi; omega
    have := hz (k + i) (by omega) hi'
    rw [List.getElem_drop]
    simpa [List.getD_eq_getElem?_getD, List.getElem?_eq_getElem hi'] using this
  rw [h1, h2]; simp
theorem vl_take_succ (e : Nat) (l : List Nat) (k : Nat) (hk : k < l.length) : vl e (l.take (k + 1)) = vl e (l.take k) + e ^ k * l.getD k 0 := by
  rw [List.take_succ_eq_append_getElem hk, vl_append]
  simp only [vl, List.getD_eq_getElem?_getD, List.getElem?_eq_getElem hk, Option.getD_some, Nat.mul_zero, Nat.add_zero]
  rw [show (l.take k).length = k from by simp; omega]
theorem vl_take_over (e : Nat) (l : List Nat) (k : Nat) (hk : l.length ≤ k) : vl e (l.take (k + 1)) = vl e (l.take k) + e ^ k * 0 := by
  rw [List.take_of_length_le (by omega), List.take_of_length_le (by omega)]; simp
theorem Form.len_lt {e : Nat} (he : 0 < e) {a b : List Nat} (ha : Wd e a) (hb : Form e b) (h : a.length < b.length) : vl e a < vl e b := by
  have h1 := vl_lt e a ha
  have h2 := hb.low (by intro h0; subst h0; simp at h)
  have h3 : e ^ a.length ≤ e ^ (b.length - 1) := Nat.pow_le_pow_right he (by omega)
  omega
/-- held against each other from above: the first words that differ -/
theorem vl_lt_of_top {e : Nat} (a b : List Nat) (hl : a.length = b.length) (ha : Wd e a) (i : Nat) (hi : i < a.length) (ht : a.drop (i + 1) = b.drop (i + 1)) (h : a.getD i 0 < b.getD i 0) : vl e a < vl e b := by
  have h1 := vl_append e (a.take (i + 1)) (a.drop (i + 1))
  have h2 := vl_append e (b.take (i + 1)) (b.drop (i + 1))
  rw [List.take_append_drop] at h1 h2
  rw [h1, h2, ht]
  have l1 : (a.take (i + 1)).length = i + 1 := by simp; omega
  have l2 : (b.take (i + 1)).length = i + 1 := by simp; omega
  rw [l1, l2, vl_take_succ e a i hi, vl_take_succ e b i (by omega)]
  have h3 := vl_lt e (a.take i) (ha.take i)
  rw [show (a.take i).length = i from by simp; omega] at h3
  have h4 := Nat.mul_le_mul_left (e ^ i) (show a.getD i 0 + 1 ≤ b.getD i 0 from h)
  rw [Nat.mul_add] at h4
  omega
theorem drop_eq_step {a b : List Nat} (hl : a.length = b.length) (i : Nat) (hi : i < a.length) (ht : a.drop (i + 1) = b.drop (i + 1)) (h : a.getD i 0 = b.getD i 0) : a.drop i = b.drop i := by
  rw [List.drop_eq_getElem_cons hi, List.drop_eq_getElem_cons (show i < b.length by omega), ht]
  simp only [List.getD_eq_getElem?_getD, List.getElem?_eq_getElem hi, List.getElem?_eq_getElem (show i < b.length by omega), Option.getD_some] at h
  rw [h]
/-- one round of adding b times word to a row of words -/
theorem add_step (P s t m c c' v1 v2 w v3 b : Nat) (h2 : v1 + P * c = v2 + w * v3) (hm : m = w * b) (h : t + 4294967296 * c' = s + m + c) :
    v1 + P * t + (P * 4294967296) * c' = v2 + P * s + w * (v3 + P * b) := by subst hm; grind
theorem add_word (s low p c' : Nat) (hs : s < 4294967296) (hp : p ≤ 18446744069414584320) (hl : low = p % 4294967296) (hc : c' = p / 4294967296 + (if 4294967296 ≤ s + low then 1 else 0)) :
    (s + low) % 4294967296 + 4294967296 * c' = s + p ∧ c' < 4294967296 := by
  subst hl; subst hc; split <;> omega
/-- one round of taking b times word from a row of words -/
theorem take_step (P s t m c c' v1 v2 w v3 b : Nat) (h2 : v1 + w * v3 = v2 + P * c) (hm : m = w * b) (h : t + m + c = s + 4294967296 * c') :
    v1 + P * t + w * (v3 + P * b) = v2 + P * s + (P * 4294967296) * c' := by subst hm; grind
theorem take_word (s low p c' : Nat) (hs : s < 4294967296) (hp : p ≤ 18446744069414584320) (hl : low = p % 4294967296) (hc : c' = p / 4294967296 + (if s < low then 1 else 0)) :
    (if s < low then s + 4294967296 - low else s - low) + p = s + 4294967296 * c' ∧ c' < 4294967296 := by
  subst hl; subst hc; split <;> omega
theorem prod_le (c b w : Nat) (hc : c < 4294967296) (hb : b < 4294967296) (hw : w < 4294967296) : c + w * b ≤ 18446744069414584320 := by
  have h := Nat.mul_le_mul (show w ≤ 4294967295 by omega) (show b ≤ 4294967295 by omega)
  omega
/-- a row of n + 1 words whose highest is 0 takes b times a word without a carry -/
theorem no_carry (E m v w b c : Nat) (hm : m < E) (hb : b < E) (hw : w < 4294967296) (h : v + (E * 4294967296) * c = m + w * b) : c = 0 ∧ v = m + w * b := by
  have h1 : w * b ≤ 4294967295 * (E - 1) := Nat.mul_le_mul (by omega) (by omega)
  generalize w * b = wb at *
  have h4 : c = 0 := by
    rcases Nat.eq_zero_or_pos c with h0 | h0
    · exact h0
    · have h5 : (E * 4294967296) * 1 ≤ (E * 4294967296) * c := Nat.mul_le_mul_left _ h0
      generalize (E * 4294967296) * c = X at *
      omega
  subst h4
  exact ⟨rfl, by rw [Nat.mul_zero] at h; exact h⟩
/-- the quotient, guessed from the highest words, is not too small -/
theorem guess_ge (Q b top hi E v : Nat) (h0 : 0 < top) (hb : top * E ≤ b) (hv : v < (hi + 1) * E) (hq : Q * b ≤ v) : Q ≤ hi / top := by
  have h1 : Q * (top * E) ≤ v := Nat.le_trans (Nat.mul_le_mul_left Q hb) hq
  have h2 : Q * top * E < (hi + 1) * E := by rw [Nat.mul_assoc]; omega
  have h3 : Q * top < hi + 1 := Nat.lt_of_mul_lt_mul_right h2
  exact (Nat.le_div_iff_mul_le h0).2 (by omega)
theorem div_step (T r m d q vq : Nat) (h : vq * d + r = T) (hq : q = (r * 4294967296 + m) / d) :
    (q + 4294967296 * vq) * d + (r * 4294967296 + m) % d = m + 4294967296 * T := by
  have h1 := Nat.div_add_mod (r * 4294967296 + m) d
  rw [← hq] at h1
  generalize (r * 4294967296 + m) % d = x at *
  subst h
  grind
theorem div_word (r m d : Nat) (hr : r < d) (hm : m < 4294967296) : (r * 4294967296 + m) / d < 4294967296 := by
  rw [Nat.div_lt_iff_lt_mul (by omega)]
  have h1 := Nat.mul_le_mul_left 4294967296 (show r + 1 ≤ d from hr)
  omega
end Go.Proofs.YtfkkhabpnnealaaGreatDoor

/-
  Plain facts on products of rows of words: no program is named here.
-/
namespace Go.Proofs.YtfkkhabpnnealaaGreatDoor
theorem win_split (d : List Nat) (k m : Nat) (h : k + m ≤ d.length) : vl 4294967296 d = vl 4294967296 (d.take k) + 4294967296 ^ k * (vl 4294967296 ((d.drop k).take m) + 4294967296 ^ m * vl 4294967296 (d.drop (k + m))) := by
  have h1 := vl_append 4294967296 (d.take k) (d.drop k)
  have h2 := vl_append 4294967296 ((d.drop k).take m) ((d.drop k).drop m)
  rw [List.take_append_drop] at h1 h2
  rw [h1, h2, List.drop_drop]
  rw [show (d.take k).length = k from by simp; omega, show ((d.drop k).take m).length = m from by simp; omega]
theorem vl_three (a r c : List Nat) (k m : Nat) (h1 : a.length = k) (h2 : r.length = m) : vl 4294967296 (a ++ (r ++ c)) = vl 4294967296 a + 4294967296 ^ k * (vl 4294967296 r + 4294967296 ^ m * vl 4294967296 c) := by
  rw [vl_append, vl_append, h1, h2]
theorem mul_arith (P V D W w v r A : Nat) (hd : D = A + P * W) (he : D = V * v) (hr : r = W + w * v) : A + P * r = (V + P * w) * v := by
  subst hr; subst hd; grind
structure MulR (l p : List Nat) (k : Nat) (d : List Nat) : Prop where
  len : d.length = l.length + p.length
  wd : Wd 4294967296 d
  eq : vl 4294967296 d = vl 4294967296 (l.take k) * vl 4294967296 p
  top : vl 4294967296 (d.drop (k + p.length)) = 0
theorem take_snoc_lt (l : List Nat) (m : Nat) (hw : Wd 4294967296 l) (h0 : l.getD m 0 = 0) (hl : m < l.length) : vl 4294967296 (l.take (m + 1)) < 4294967296 ^ m := by
  rw [vl_take_succ _ _ _ hl, h0, Nat.mul_zero, Nat.add_zero]
  have := vl_lt 4294967296 (l.take m) (hw.take m)
  rwa [show (l.take m).length = m from by simp; omega] at this
theorem MulR.step {l p d r : List Nat} {k c : Nat} (h : MulR l p k d) (hk : k < l.length) (wp : Wd 4294967296 p) (wl : Wd 4294967296 l) (hr : r.length = p.length + 1) (wr : Wd 4294967296 r)
    (he : vl 4294967296 r + 4294967296 ^ (p.length + 1) * c = vl 4294967296 ((d.drop k).take (p.length + 1)) + l.getD k 0 * vl 4294967296 p) : MulR l p (k + 1) (d.take k ++ (r ++ d.drop (k + (p.length + 1)))) := by
  have hl := h.len
  have hz : d.getD (k + p.length) 0 = 0 := by
    have := zeros_of_vl 4294967296 (by omega) _ h.top
    rw [List.getD_eq_getElem?_getD, List.getElem?_eq_getElem (by omega)]
    refine this _ ?_
    rw [List.mem_iff_getElem]
    exact ⟨0, by simp; omega, by simp⟩
  have hz2 : vl 4294967296 (d.drop (k + (p.length + 1))) = 0 := by
    have h1 := h.top
    rw [List.drop_eq_getElem_cons (by omega)] at h1
    simp only [vl] at h1
    rw [show k + (p.length + 1) = k + p.length + 1 from by omega]
    omega
  have hw : vl 4294967296 ((d.drop k).take (p.length + 1)) < 4294967296 ^ p.length := take_snoc_lt _ _ (h.wd.drop k) (by rw [List.getD_eq_getElem?_getD, List.getElem?_drop, ← List.getD_eq_getElem?_getD]; exact hz) (by simp; omega)
  have hp := vl_lt 4294967296 p wp
  rw [Nat.pow_succ] at he
  have hn := (no_carry _ _ _ _ _ c hw hp (wl.at (by omega) k) he).2
  have hd := win_split d k (p.length + 1) (by omega)
  rw [hz2, Nat.mul_zero, Nat.add_zero] at hd
  refine ⟨by simp; omega, Wd.append.2 ⟨h.wd.take k, Wd.append.2 ⟨wr, h.wd.drop _⟩⟩, ?_, ?_⟩
  · rw [vl_three _ _ _ k (p.length + 1) (by simp; omega) hr, hz2, Nat.mul_zero, Nat.add_zero, vl_take_succ _ _ _ hk]
    exact mul_arith _ _ _ _ _ _ _ _ hd h.eq hn
  · rw [← List.append_assoc, List.drop_append_of_le_length (by simp; omega), List.drop_of_length_le (by simp; omega), List.nil_append]
    exact hz2
end Go.Proofs.YtfkkhabpnnealaaGreatDoor

/-
  Plain facts on decimal digits: no program is named here.
-/
namespace Go.Proofs.YtfkkhabpnnealaaGreatDoor
/-- k decimal digits of n, the lowest first -/
def dg : Nat → Nat → List Nat
  | 0, _ => []
  | k + 1, n => n % 10 :: dg k (n / 10)
theorem dg_len : ∀ k n, (dg k n).length = k
  | 0, _ => rfl
  | k + 1, n => by simp [dg, dg_len k]
theorem dg_wd : ∀ k n, Wd 10 (dg k n)
  | 0, _ => by simp [dg, Wd]
  | k + 1, n => Wd.cons.2 ⟨Nat.mod_lt _ (by omega), dg_wd k _⟩
theorem dg_val : ∀ k n, n < 10 ^ k → vl 10 (dg k n) = n
  | 0, n, h => by simp at h; simp [dg, vl, h]
  | k + 1, n, h => by
    rw [Nat.pow_succ] at h
    simp only [dg, vl, dg_val k (n / 10) (by omega)]
    omega
theorem dg_app : ∀ a b n, dg (a + b) n = dg a n ++ dg b (n / 10 ^ a)
  | 0, b, n => by simp [dg]
  | a + 1, b, n => by
    rw [Nat.add_right_comm]
    simp only [dg, List.cons_append, dg_app a b (n / 10)]
    rw [Nat.div_div_eq_div_mul, Nat.pow_succ, Nat.mul_comm 10]
theorem dg_mod : ∀ k n, dg k (n % 10 ^ k) = dg k n
  | 0, n => rfl
  | k + 1, n => by
    simp only [dg]
    have h1 : n % 10 ^ (k + 1) % 10 = n % 10 := by
      rw [Nat.pow_succ, Nat.mod_mul_left_mod]
    have h2 : n % 10 ^ (k + 1) / 10 = (n / 10) % 10 ^ k := by
      rw [Nat.pow_succ, Nat.mul_comm, Nat.mod_mul_right_div_self]
    rw [h1, h2, dg_mod k]
end Go.Proofs.YtfkkhabpnnealaaGreatDoor

/-
  Plain facts on quotients of rows of words: no program is named here.
-/
namespace Go.Proofs.YtfkkhabpnnealaaGreatDoor
/-- the state of a search for a quotient's word: b tells whether it is still too great -/
structure TmR (d p : List Nat) (t : Nat) (b : Bool) (r : List Nat) : Prop where
  len : r.length = d.length
  wd : Wd 4294967296 r
  small : t ≤ 4294967295
  yes : b = true → vl 4294967296 r + t * vl 4294967296 p = vl 4294967296 d + 4294967296 ^ d.length
  no : b = false → vl 4294967296 r + t * vl 4294967296 p = vl 4294967296 d ∧ vl 4294967296 r < vl 4294967296 p
theorem TmR.done {d p : List Nat} {t : Nat} {r : List Nat} (h : TmR d p t false r) : t = vl 4294967296 d / vl 4294967296 p ∧ vl 4294967296 r = vl 4294967296 d % vl 4294967296 p := by
  obtain ⟨h1, h2⟩ := h.no rfl
  rw [← h1, Nat.add_mul_div_right _ _ (by omega), Nat.div_eq_of_lt h2, Nat.add_mul_mod_self_right, Nat.mod_eq_of_lt h2]
  simp
theorem TmR.pos {d p : List Nat} {t : Nat} {r : List Nat} (h : TmR d p t true r) : 1 ≤ t := by
  have h1 := h.yes rfl
  have h2 := vl_lt 4294967296 r h.wd
  rw [h.len] at h2
  rcases Nat.eq_zero_or_pos t with h0 | h0
  · subst h0
    rw [Nat.zero_mul] at h1
    omega
  · exact h0
theorem TmR.step {d p : List Nat} {t : Nat} {r r' : List Nat} {c : Nat} (h : TmR d p t true r) (hl : r'.length = d.length) (hw : Wd 4294967296 r') (he : vl 4294967296 r' + 4294967296 ^ d.length * c = vl 4294967296 r + 1 * vl 4294967296 p) (hp : vl 4294967296 p < 4294967296 ^ d.length) :
    TmR d p (t - 1) (decide (c = 0)) r' := by
  have h0 := h.pos
  have h1 := h.yes rfl
  have h2 := vl_lt 4294967296 r h.wd
  rw [h.len] at h2
  have hs := h.small
  obtain ⟨u, rfl⟩ : ∃ u, t = u + 1 := ⟨t - 1, by omega⟩
  have h3 : (u + 1) * vl 4294967296 p = u * vl 4294967296 p + vl 4294967296 p := by rw [Nat.add_mul, Nat.one_mul]
  rw [Nat.add_sub_cancel]
  refine ⟨hl, hw, by omega, fun hb => ?_, fun hb => ?_⟩
  · have hc : c = 0 := by simpa using hb
    subst hc
    rw [Nat.mul_zero] at he
    omega
  · have hc : c ≠ 0 := by simpa using hb
    have h5 : c = 1 := by
      rcases Nat.lt_or_ge c 2 with h6 | h6
      · omega
      · have := Nat.mul_le_mul_left (4294967296 ^ d.length) h6
        omega
    subst h5
    rw [Nat.mul_one] at he
    exact ⟨by omega, by omega⟩
theorem TmR.first {d p : List Nat} {k t : Nat} {r : List Nat} {c : Nat} (hd : d.length = k + 1 + 1) (wd : Wd 4294967296 d) (hp : p.length = k + 1) (wp : Wd 4294967296 p) (htop : p.getD k 0 ≠ 0) (hlt : vl 4294967296 (d.drop 1) < vl 4294967296 p)
    (ht : t = Nat.min ((d.getD (k + 1) 0 * 4294967296 + d.getD k 0) / p.getD k 0) 4294967295) (hl : r.length = d.length) (hw : Wd 4294967296 r)
    (he : vl 4294967296 r + t * vl 4294967296 p = vl 4294967296 d + 4294967296 ^ d.length * c) : TmR d p t (decide (0 < c)) r := by
  have htl : t ≤ 4294967295 := by rw [ht]; exact Nat.min_le_right _ _
  have hpl := vl_lt 4294967296 p wp
  have hrl := vl_lt 4294967296 r hw
  rw [hl] at hrl
  have hP : vl 4294967296 p = vl 4294967296 (p.take k) + 4294967296 ^ k * p.getD k 0 := by
    have := vl_take_succ 4294967296 p k (by omega)
    rwa [List.take_of_length_le (by omega)] at this
  have hD : vl 4294967296 d = vl 4294967296 (d.take k) + 4294967296 ^ k * d.getD k 0 + 4294967296 ^ (k + 1) * d.getD (k + 1) 0 := by
    have h1 := vl_take_succ 4294967296 d (k + 1) (by omega)
    have h2 := vl_take_succ 4294967296 d k (by omega)
    rw [List.take_of_length_le (by omega), h2] at h1
    exact h1
  have hdt := vl_lt 4294967296 (d.take k) (wd.take k)
  rw [show (d.take k).length = k from by simp; omega] at hdt
  have hd1 : vl 4294967296 d = d.getD 0 0 + 4294967296 * vl 4294967296 (d.drop 1) := by
    cases d with
    | nil => simp at hd
    | cons x d => rfl
  have hd0 := wd.at (by omega) 0
  have hquo : vl 4294967296 d / vl 4294967296 p ≤ t := by
    rw [ht]
    refine Nat.le_min.2 ⟨?_, ?_⟩
    · refine guess_ge _ (vl 4294967296 p) (p.getD k 0) _ (4294967296 ^ k) (vl 4294967296 d) (by omega) (by rw [hP, Nat.mul_comm]; omega) ?_ (Nat.div_mul_le_self _ _)
      rw [hD, Nat.pow_succ]
      have : (d.getD (k + 1) 0 * 4294967296 + d.getD k 0 + 1) * 4294967296 ^ k = 4294967296 ^ k * d.getD k 0 + 4294967296 ^ k * 4294967296 * d.getD (k + 1) 0 + 4294967296 ^ k := by grind
      omega
    · have : vl 4294967296 d / vl 4294967296 p < 4294967296 := by
        rw [Nat.div_lt_iff_lt_mul (by omega)]
        omega
      omega
  have htp : t * vl 4294967296 p < 4294967296 ^ d.length := by
    have h1 := Nat.mul_le_mul htl (show vl 4294967296 p ≤ 4294967296 ^ (k + 1) by rw [hp] at hpl; omega)
    rw [hd, Nat.pow_succ]
    have : 0 < 4294967296 ^ (k + 1) := Nat.pow_pos (by omega)
    omega
  refine ⟨hl, hw, htl, fun hb => ?_, fun hb => ?_⟩
  · have h0 : 0 < c := by simpa using hb
    have h1 : c = 1 := by
      rcases Nat.lt_or_ge c 2 with h6 | h6
      · omega
      · have := Nat.mul_le_mul_left (4294967296 ^ d.length) h6
        omega
    rw [h1, Nat.mul_one] at he
    exact he
  · have h0 : c = 0 := by simpa using hb
    subst h0
    rw [Nat.mul_zero, Nat.add_zero] at he
    refine ⟨he, ?_⟩
    have h1 := Nat.div_add_mod (vl 4294967296 d) (vl 4294967296 p)
    have h2 := Nat.mod_lt (vl 4294967296 d) (show 0 < vl 4294967296 p by omega)
    have h3 := Nat.mul_le_mul_right (vl 4294967296 p) hquo
    rw [Nat.mul_comm] at h1
    omega
end Go.Proofs.YtfkkhabpnnealaaGreatDoor

/-
  Plain facts on long division of rows of words: no program is named here.
-/
namespace Go.Proofs.YtfkkhabpnnealaaGreatDoor
/-- a division under way: the words of the quotient from j on are found -/
structure DvR (A P k j : Nat) (rl ql : List Nat) : Prop where
  wr : Wd 4294967296 rl
  wq : Wd 4294967296 ql
  le : j ≤ ql.length
  len : 0 < ql.length → ql.length + k < rl.length
  eq : vl 4294967296 rl + 4294967296 ^ j * vl 4294967296 (ql.drop j) * P = A
  lt : vl 4294967296 (rl.drop j) < P
theorem vl_take_le (l : List Nat) (m : Nat) : vl 4294967296 (l.take m) ≤ vl 4294967296 l := by
  have h := vl_append 4294967296 (l.take m) (l.drop m)
  rw [List.take_append_drop] at h
  omega
theorem zeros_above (l : List Nat) (m P : Nat) (h : vl 4294967296 l < P) (hP : P < 4294967296 ^ m) : vl 4294967296 (l.drop m) = 0 := by
  rcases Nat.lt_or_ge l.length m with h0 | h0
  · rw [List.drop_of_length_le (by omega)]; rfl
  · have h1 := vl_append 4294967296 (l.take m) (l.drop m)
    rw [List.take_append_drop, show (l.take m).length = m from by simp; omega] at h1
    rcases Nat.eq_zero_or_pos (vl 4294967296 (l.drop m)) with h2 | h2
    · exact h2
    · have := Nat.mul_le_mul_left (4294967296 ^ m) h2
      omega
theorem vl_set_drop (ql : List Nat) (i t : Nat) (h : i < ql.length) : vl 4294967296 ((ql.set i t).drop i) = t + 4294967296 * vl 4294967296 (ql.drop (i + 1)) := by
  have e : (ql.set i t).drop i = t :: ql.drop (i + 1) := by
    rw [List.drop_eq_getElem_cons (by simpa using h)]
    simp [List.drop_set]
  rw [e]; rfl
theorem dv_arith (E v W r P A L t : Nat) (h1 : L + E * W + E * 4294967296 * v * P = A) (h2 : W = r + t * P) : L + E * r + E * (t + 4294967296 * v) * P = A := by
  subst h2; subst h1; grind
theorem DvR.step {A P k i : Nat} {rl ql r : List Nat} {t : Nat} (h : DvR A P k (i + 1) rl ql) (hP : P < 4294967296 ^ (k + 1)) (hr : r.length = k + 1 + 1) (wr : Wd 4294967296 r) (ht : t < 4294967296)
    (he : vl 4294967296 r + t * P = vl 4294967296 ((rl.drop i).take (k + 1 + 1))) (hlt : vl 4294967296 r < P) : DvR A P k i (rl.take i ++ (r ++ rl.drop (i + (k + 1 + 1)))) (ql.set i t) := by
  have hle := h.le
  have hlen := h.len (by omega)
  have hz : vl 4294967296 (rl.drop (i + (k + 1 + 1))) = 0 := by
    have := zeros_above _ (k + 1) P h.lt hP
    rw [List.drop_drop] at this
    rw [show i + (k + 1 + 1) = i + 1 + (k + 1) from by omega]
    exact this
  have hd := win_split rl i (k + 1 + 1) (by omega)
  rw [hz, Nat.mul_zero, Nat.add_zero] at hd
  refine ⟨Wd.append.2 ⟨h.wr.take i, Wd.append.2 ⟨wr, h.wr.drop _⟩⟩, ?_, by simp; omega, fun _ => by simp; omega, ?_, ?_⟩
  · intro x hx
    rcases List.mem_or_eq_of_mem_set hx with h1 | h1
    · exact h.wq x h1
    · rw [h1]; exact ht
  · rw [vl_three _ _ _ i (k + 1 + 1) (by simp; omega) hr, hz, Nat.mul_zero, Nat.add_zero, vl_set_drop ql i t (by omega)]
    have he2 := h.eq
    rw [hd, Nat.pow_succ] at he2
    exact dv_arith _ _ _ _ _ _ _ _ he2 he.symm
  · rw [List.drop_append_of_le_length (by simp; omega), List.drop_of_length_le (by simp; omega), List.nil_append, vl_append, hz, Nat.mul_zero, Nat.add_zero]
    exact hlt
theorem win_drop_one (rl : List Nat) (i k P : Nat) (h : vl 4294967296 (rl.drop (i + 1)) < P) : vl 4294967296 (((rl.drop i).take (k + 1 + 1)).drop 1) < P := by
  have e : ((rl.drop i).take (k + 1 + 1)).drop 1 = (rl.drop (i + 1)).take (k + 1) := by
    rw [List.drop_take, List.drop_drop]; rfl
  rw [e]
  have := vl_take_le (rl.drop (i + 1)) (k + 1)
  omega
/-- at the beginning of a division -/
theorem DvR.start {l p rl : List Nat} {f k n : Nat} (hl : l.length = n) (wl : Wd 4294967296 l) (fp : Form 4294967296 p) (hp : p.length = k + 1) (hf : 0 < f) (hr : rl.length = n + 1) (wr : Wd 4294967296 rl) (hv : vl 4294967296 rl = vl 4294967296 l * f) :
    DvR (vl 4294967296 l * f) (vl 4294967296 p * f) k (n - k) rl (List.replicate (n - k) 0) := by
  have h1 := fp.low (by intro h; rw [h] at hp; simp at hp)
  rw [show p.length - 1 = k from by omega] at h1
  have h2 := vl_lt 4294967296 l wl
  rw [hl] at h2
  have h3 : vl 4294967296 l * f < 4294967296 ^ n * f := Nat.mul_lt_mul_of_pos_right h2 hf
  by_cases hkn : k ≤ n
  · have h4 : n = (n - k) + k := by omega
    refine ⟨wr, fun x hx => by rw [(List.mem_replicate.1 hx).2]; omega, by simp, by simp; omega, ?_, ?_⟩
    · rw [List.drop_of_length_le (by simp), hv]; simp [vl]
    · have h5 := vl_append 4294967296 (rl.take (n - k)) (rl.drop (n - k))
      rw [List.take_append_drop, show (rl.take (n - k)).length = n - k from by simp; omega, hv] at h5
      have h6 : 4294967296 ^ n = 4294967296 ^ (n - k) * 4294967296 ^ k := by rw [← Nat.pow_add]; congr 1
      rw [h6, Nat.mul_assoc] at h3
      have h7 : 4294967296 ^ (n - k) * vl 4294967296 (rl.drop (n - k)) < 4294967296 ^ (n - k) * (4294967296 ^ k * f) := by omega
      have h8 := Nat.lt_of_mul_lt_mul_left h7
      have h9 := Nat.mul_le_mul_right f h1
      omega
  · have h0 : n - k = 0 := by omega
    rw [h0]
    refine ⟨wr, by simp [Wd], by simp, fun h => by simp at h, by simp [hv, vl], ?_⟩
    rw [List.drop_zero, hv]
    have h4 : 4294967296 ^ n ≤ 4294967296 ^ k := Nat.pow_le_pow_right (by omega) (by omega)
    have h9 := Nat.mul_le_mul_right f (Nat.le_trans h4 h1)
    omega
end Go.Proofs.YtfkkhabpnnealaaGreatDoor

/-
  Plain facts for a division bit by bit: the words' bits, and the quotient and the rest of the first bits.
-/
namespace Go.Proofs.YtfkkhabpnnealaaGreatDoor
theorem getD_vl : ∀ (l : List Nat) (k : Nat), Wd 4294967296 l → l.getD k 0 = vl 4294967296 l / 4294967296 ^ k % 4294967296
  | [], k, _ => by simp [vl]
  | x :: l, 0, h => by
    have hx := (Wd.cons.1 h).1
    simp only [vl, Nat.pow_zero, Nat.div_one, List.getD_cons_zero]
    omega
  | x :: l, k + 1, h => by
    have hx := (Wd.cons.1 h).1
    have ih := getD_vl l k (Wd.cons.1 h).2
    rw [List.getD_cons_succ, ih]
    congr 1
    rw [Nat.pow_succ, Nat.mul_comm (4294967296 ^ k), ← Nat.div_div_eq_div_mul]
    congr 1
    simp only [vl]
    omega
theorem word_pow (k : Nat) : 4294967296 ^ k = 2 ^ (32 * k) := by
  rw [Nat.pow_mul]
theorem word_bit (N k t x : Nat) (ht : t < 32) (hx : x = N / 4294967296 ^ k % 4294967296) : x / 2 ^ t % 2 = N / 2 ^ (32 * k + t) % 2 := by
  subst hx
  rw [word_pow, Nat.pow_add, ← Nat.div_div_eq_div_mul]
  generalize N / 2 ^ (32 * k) = Y
  have h := Nat.testBit_mod_two_pow Y 32 t
  rw [Nat.testBit_eq_decide_div_mod_eq, Nat.testBit_eq_decide_div_mod_eq] at h
  simp only [ht, decide_true, Bool.true_and, Nat.reducePow] at h
  have h2 := decide_eq_decide.1 h
  omega
theorem vl_set (l : List Nat) (k y : Nat) (hk : k < l.length) : vl 4294967296 (l.set k y) + 4294967296 ^ k * l.getD k 0 = vl 4294967296 l + 4294967296 ^ k * y := by
  induction l generalizing k with
  | nil => simp at hk
  | cons x l ih =>
    cases k with
    | zero => simp only [List.set_cons_zero, vl, Nat.pow_zero, List.getD_cons_zero]; omega
    | succ k =>
      have := ih k (by simpa using hk)
      simp only [List.set_cons_succ, vl, List.getD_cons_succ, Nat.pow_succ]
      grind
/-- the quotient and the rest of the bits of N from the j-th on, by M -/
structure BitR (N M j q r : Nat) : Prop where
  q : q = N / 2 ^ j / M * 2 ^ j
  r : r = N / 2 ^ j % M
theorem BitR.low {N M i q r : Nat} (h : BitR N M (i + 1) q r) {b : Nat} (hb : b = N / 2 ^ i % 2) (hlt : r * 2 + b < M) : BitR N M i q (r * 2 + b) := by
  have h1 : N / 2 ^ i = N / 2 ^ (i + 1) * 2 + b := by
    rw [Nat.pow_succ, ← Nat.div_div_eq_div_mul, hb]; omega
  have h2 := h.r
  have h3 := h.q
  generalize N / 2 ^ (i + 1) = H at *
  have h4 := Nat.div_add_mod H M
  rw [← h2] at h4
  have h5 : N / 2 ^ i = M * (H / M * 2) + (r * 2 + b) := by rw [h1, ← h4]; grind
  have hM : 0 < M := by omega
  refine ⟨?_, ?_⟩
  · rw [h5, Nat.mul_add_div hM, Nat.div_eq_of_lt hlt, h3, Nat.pow_succ]; grind
  · rw [h5, Nat.mul_add_mod, Nat.mod_eq_of_lt hlt]
theorem BitR.high {N M i q r : Nat} (h : BitR N M (i + 1) q r) {b : Nat} (hb : b = N / 2 ^ i % 2) (hM : 0 < M) (hge : M ≤ r * 2 + b) : BitR N M i (q + 2 ^ i) (r * 2 + b - M) := by
  have h1 : N / 2 ^ i = N / 2 ^ (i + 1) * 2 + b := by
    rw [Nat.pow_succ, ← Nat.div_div_eq_div_mul, hb]; omega
  have h2 := h.r
  have h3 := h.q
  generalize N / 2 ^ (i + 1) = H at *
  have h4 := Nat.div_add_mod H M
  rw [← h2] at h4
  have hrM : r < M := by rw [h2]; exact Nat.mod_lt _ hM
  have h5 : N / 2 ^ i = M * (H / M * 2 + 1) + (r * 2 + b - M) := by
    have h6 : M * (H / M * 2 + 1) = (M * (H / M)) * 2 + M := by grind
    rw [h1, h6]
    omega
  have hlt : r * 2 + b - M < M := by omega
  refine ⟨?_, ?_⟩
  · rw [h5, Nat.mul_add_div hM, Nat.div_eq_of_lt hlt, h3, Nat.pow_succ]; grind
  · rw [h5, Nat.mul_add_mod, Nat.mod_eq_of_lt hlt]
theorem BitR.start {N M n : Nat} (hN : N < 4294967296 ^ n) : BitR N M (32 * n) 0 0 := by
  rw [word_pow] at hN
  refine ⟨?_, ?_⟩ <;> rw [Nat.div_eq_of_lt hN] <;> simp
theorem BitR.done {N M q r : Nat} (h : BitR N M 0 q r) : q = N / M ∧ r = N % M := by
  have h1 := h.q
  have h2 := h.r
  simp at h1 h2
  exact ⟨h1, h2⟩
/-- the word of the quotient at which a bit is laid has none from there down -/
theorem BitR.word {N M i r : Nat} {d : List Nat} (h : BitR N M (i + 1) (vl 4294967296 d) r) (hw : Wd 4294967296 d) : d.getD (i / 32) 0 % 2 ^ (i % 32 + 1) = 0 := by
  have ht : i % 32 < 32 := Nat.mod_lt _ (by omega)
  rw [getD_vl d (i / 32) hw, h.q, word_pow]
  generalize N / 2 ^ (i + 1) / M = K
  have e : i + 1 = 32 * (i / 32) + (i % 32 + 1) := by omega
  rw [e, Nat.pow_add, Nat.mul_comm (2 ^ (32 * (i / 32))), ← Nat.mul_assoc, Nat.mul_div_cancel _ (Nat.two_pow_pos _)]
  clear e
  have hd : 2 ^ (i % 32 + 1) ∣ 2 ^ 32 := Nat.pow_dvd_pow 2 (by omega)
  rw [show (4294967296 : Nat) = 2 ^ 32 from by simp, Nat.mod_mod_of_dvd _ hd, Nat.mul_mod_left]
end Go.Proofs.YtfkkhabpnnealaaGreatDoor

