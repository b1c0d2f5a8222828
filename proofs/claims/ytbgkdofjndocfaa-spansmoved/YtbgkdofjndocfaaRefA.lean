/-
  recastref1.clash and recastref1.less; rows of edits.
-/
import Derived.Test.YtbgkdofjndocfaaSorted
import Derived.Test.YtbgkdofjndocfaaWalkD
namespace Go.Proofs.Ytbgkdofjndocfaa
open Go.RowKit
attribute [local go_sem ↓] Go.wp_at_zero Go.wp_at_succ
set_option maxHeartbeats 1000000 in
theorem rclash_any (p t p' t' : ByteArray) (a b a' b' : Int) (w : World) (r : Bool) (hr : Hid (clR (p, a, b, t) (p', a', b', t') = r)) :
    Calls Try.prog 28 #[.agg #[.string p, .int .i64 a, .int .i64 b, .string t], .agg #[.string p', .int .i64 a', .int .i64 b', .string t']] w fun e w' => e = .returned (.bool r) ∧ w' = (w.alloc (.cells #[.string p, .int .i64 a, .int .i64 b, .string t] 33)).alloc (.cells #[.string p', .int .i64 a', .int .i64 b', .string t'] 33) := by
  cases h1 : (a == b) <;> cases h2 : (a' == b')
  all_goals
    have k1 := h1
    have k2 := h2
    simp at k1 k2
    have hr' := hr.out
    simp only [clR, k1, k2, false_and, and_false, and_self, if_true, if_false] at hr'
    have HR : Hid _ := hr'
    clear hr hr' k1 k2
    go_enter Try.func28, Try.ntmps28
    go_wp2
  all_goals go_ret
  all_goals
    refine ⟨ret_bool ?_, rfl⟩
    rw [← HR.out]
    simp only [beq_iff_eq, beq_eq_false_iff_ne, ne_eq] at h1 h2
    rw [Bool.eq_iff_iff]
    try simp
    try omega
set_option maxHeartbeats 1000000 in
theorem rless_any (p t p' t' : ByteArray) (a b a' b' : Int) (w : World) (r : Bool) (hr : Hid (lessR (p, a, b, t) (p', a', b', t') = r)) :
    Calls Try.prog 29 #[.agg #[.string p, .int .i64 a, .int .i64 b, .string t], .agg #[.string p', .int .i64 a', .int .i64 b', .string t']] w fun e w' => e = .returned (.bool r) ∧ w' = (w.alloc (.cells #[.string p, .int .i64 a, .int .i64 b, .string t] 33)).alloc (.cells #[.string p', .int .i64 a', .int .i64 b', .string t'] 33) := by
  cases h1 : (p.toList == p'.toList) <;> cases h2 : (a == a') <;> cases h3 : (b == b')
  all_goals
    have n2 : (a != a') = !(a == a') := rfl
    have n3 : (b != b') = !(b == b') := rfl
    rw [h2] at n2
    rw [h3] at n3
    simp only [Bool.not_true, Bool.not_false] at n2 n3
    have k2 := h2
    have k3 := h3
    simp at k2 k3
    have hr' := hr.out
    simp only [lessR, h1, k2, k3, Bool.false_eq_true, if_true, if_false] at hr'
    have HR : Hid _ := hr'
    clear hr hr' k2 k3
    go_enter Try.func29, Try.ntmps29
    go_wp2
  all_goals go_ret
  all_goals
    refine ⟨ret_bool ?_, rfl⟩
    rw [← HR.out]
    try simp
    try omega
set_option maxRecDepth 100000 in
theorem info33_ex : ∃ i0, Try.prog.info? 33 = some i0 ∧ i0.zero = some (.agg #[.string ⟨#[]⟩, .int .i64 0, .int .i64 0, .string ⟨#[]⟩]) ∧ i0.size = 4 ∧ i0.bytes = 48 := ⟨_, rfl, rfl, rfl, rfl⟩
theorem xed {w : World} {B o : Nat} {l : List Ed} (h : EdsAt w B o l) (j : Nat) (hj : j < l.length) : w.cell? ⟨B, o + j * 4, none⟩ = some (.string (l.getD j default).1) ∧ w.cell? ⟨B, o + j * 4 + 1, none⟩ = some (.int .i64 (l.getD j default).2.1) ∧ w.cell? ⟨B, o + j * 4 + 2, none⟩ = some (.int .i64 (l.getD j default).2.2.1) ∧ w.cell? ⟨B, o + j * 4 + 3, none⟩ = some (.string (l.getD j default).2.2.2) := by
  have g := fun i (hi : i < 4) => flatE_get l j i hj hi
  refine ⟨?_, ?_, ?_, ?_⟩
  · have := h (j * 4) _ (by rw [← Nat.add_zero (j * 4), g 0 (by omega)]; rfl); simpa using this
  · have := h (j * 4 + 1) _ (by rw [g 1 (by omega)]; rfl); simpa [Nat.add_assoc] using this
  · have := h (j * 4 + 2) _ (by rw [g 2 (by omega)]; rfl); simpa [Nat.add_assoc] using this
  · have := h (j * 4 + 3) _ (by rw [g 3 (by omega)]; rfl); simpa [Nat.add_assoc] using this
theorem own_eds {w : World} {base n g cap : Nat} {out : List Ed} (h : w.ownsRow base 33 4 (.slice (some ⟨g, 0, none⟩) n cap) n (flatE out)) : ∀ j, j < out.length → EdAt w g j (out.getD j default) := by
  have hl : out.length = n := by have := h.1; rw [flatE_len] at this; omega
  refine edAt_of fun j u hu => ?_
  rw [Nat.zero_add, h.cellAt j (by have := (List.getElem?_eq_some_iff.1 hu).1; rw [flatE_len] at this; omega)]
  exact hu
theorem any_succ (f : Ed → Bool) (out : List Ed) (k : Nat) (h : k < out.length) : (out.take (k + 1)).any f = ((out.take k).any f || f (out.getD k default)) := by
  rw [take_snoc out k h]; simp
theorem EdAt.alloc {w : World} {B j : Nat} {x : Ed} {A : Obj} (h : EdAt w B j x) (hB : B < w.heap.size) : EdAt (w.alloc A) B j x := by
  unfold EdAt
  rw [World.cell?_alloc_lt _ _ _ hB, World.cell?_alloc_lt _ _ _ hB, World.cell?_alloc_lt _ _ _ hB, World.cell?_alloc_lt _ _ _ hB]
  exact h
def RPost (l : List Ed) (w : World) (e : Ending) (w' : World) : Prop :=
  Below w.heap.size w w' ∧ ((∃ v out, Srt l out ∧ e = .returned (.tuple #[v, .int .i64 0]) ∧ w'.ownsRow w.heap.size 33 4 v out.length (flatE out)) ∨ (¬ Good l ∧ e = .returned (.tuple #[.slice none 0 0, .int .i64 1])))
theorem own_shape {w : World} {base n : Nat} {v : Value} {xs : List Value} (h : w.ownsRow base 33 4 v n xs) : ∃ a cap, v = .slice a n cap ∧ n ≤ cap ∧ (0 < n → ∃ g, a = some ⟨g, 0, none⟩ ∧ base ≤ g ∧ g < w.heap.size) := by
  rcases h.2 with ⟨h', rfl⟩ | ⟨g, cap, cur, h, h1, h2, h3, _⟩
  · exact ⟨none, 0, h', Nat.le_refl _, fun h => absurd h (by omega)⟩
  · exact ⟨some ⟨g, 0, none⟩, cap, h, h3, fun _ => ⟨g, rfl, h1, (Array.getElem?_eq_some_iff.1 h2).1⟩⟩
theorem own_below {w w' : World} {base n size : Nat} {e : TypeId} {v : Value} {xs : List Value} (h : w.ownsRow base e size v n xs) (hb : Below w.heap.size w w') : w'.ownsRow base e size v n xs := by
  refine ⟨h.1, ?_⟩
  rcases h.2 with h' | ⟨g, cap, cur, hv, h1, h2, h3⟩
  · exact .inl h'
  · exact .inr ⟨g, cap, cur, hv, h1, (hb.block g (Array.getElem?_eq_some_iff.1 h2).1).trans h2, h3⟩
theorem own_set {w : World} {base n size g cap o : Nat} {e : TypeId} {xs : List Value} {v : Value} (h : w.ownsRow base e size (.slice (some ⟨g, 0, none⟩) n cap) n xs) (ho : o < n * size) : (w.setCell ⟨g, o, none⟩ v).ownsRow base e size (.slice (some ⟨g, 0, none⟩) n cap) n (xs.set o v) := by
  refine ⟨by simpa using h.1, ?_⟩
  rcases h.2 with ⟨h', _⟩ | ⟨g', cap', cur, hv, h1, h2, h3, h4, h5, h6⟩
  · cases h'
  · simp at hv
    obtain ⟨rfl, rfl⟩ := hv
    refine .inr ⟨g, cap, cur.setIfInBounds o v, rfl, h1, heap_setCell_same w g o cur e v h2, h3, h4, by simpa using h5, ?_⟩
    rw [Array.toList_setIfInBounds, ← h6]
    apply List.ext_getElem?
    intro i
    simp only [List.getElem?_take, List.getElem?_set, List.length_take]
    by_cases h7 : o = i
    · subst h7
      have hle : n * size ≤ cur.size := by rw [h5]; exact Nat.mul_le_mul_right size h3
      have h8 : o < cur.size := by omega
      have h9 : o < min (n * size) cur.size := by omega
      simp [ho, h8, h9]
    · simp [h7]
theorem flatE_set (l : List Ed) (m : Nat) (x : Ed) (hm : m < l.length) : ((((flatE l).set (m * 4) (.string x.1)).set (m * 4 + 1) (.int .i64 x.2.1)).set (m * 4 + 2) (.int .i64 x.2.2.1)).set (m * 4 + 3) (.string x.2.2.2) = flatE (l.set m x) := by
  apply List.ext_getElem?
  intro i
  have hl := flatE_len l
  rcases Nat.lt_or_ge i (l.length * 4) with hi | hi
  · have e := flatE_get (l.set m x) (i / 4) (i % 4) (by simp; omega) (Nat.mod_lt _ (by omega))
    have e' := flatE_get l (i / 4) (i % 4) (by omega) (Nat.mod_lt _ (by omega))
    rw [show i / 4 * 4 + i % 4 = i by omega] at e e'
    rw [e]
    simp only [List.getElem?_set, List.length_set]
    by_cases hq : m = i / 4
    · have hx : (l.set m x).getD (i / 4) default = x := by simp [List.getD_eq_getElem?_getD, hq, (by omega : i / 4 < l.length)]
      rw [hx]
      rcases (by omega : i % 4 = 0 ∨ i % 4 = 1 ∨ i % 4 = 2 ∨ i % 4 = 3) with h | h | h | h <;> rw [h]
      · rw [if_neg (by omega), if_neg (by omega), if_neg (by omega), if_pos (by omega), if_pos (by omega)]; rfl
      · rw [if_neg (by omega), if_neg (by omega), if_pos (by omega), if_pos (by omega)]; rfl
      · rw [if_neg (by omega), if_pos (by omega), if_pos (by omega)]; rfl
      · rw [if_pos (by omega), if_pos (by omega)]; rfl
    · have hx : (l.set m x).getD (i / 4) default = l.getD (i / 4) default := by simp [List.getD_eq_getElem?_getD, hq]
      rw [hx, ← e', if_neg (by omega), if_neg (by omega), if_neg (by omega), if_neg (by omega)]
  · rw [List.getElem?_eq_none (by simp; omega), List.getElem?_eq_none (by rw [flatE_len]; simpa using hi)]
theorem own_put4 {w : World} {base n g cap m : Nat} {l : List Ed} {x : Ed} (h : w.ownsRow base 33 4 (.slice (some ⟨g, 0, none⟩) n cap) n (flatE l)) (hm : m < l.length) : (put4 w g m x).ownsRow base 33 4 (.slice (some ⟨g, 0, none⟩) n cap) n (flatE (l.set m x)) := by
  have hl : l.length = n := by have := h.1; rw [flatE_len] at this; omega
  rw [← flatE_set l m x hm]
  exact own_set (own_set (own_set (own_set h (by omega)) (by omega)) (by omega)) (by omega)
theorem own_below4 {w0 w : World} {base g m : Nat} {x : Ed} (h : Below base w0 w) (hg : base ≤ g) : Below base w0 (put4 w g m x) :=
  ((((h.setCell (p := ⟨g, m * 4, none⟩) hg _).setCell (p := ⟨g, m * 4 + 1, none⟩) hg _).setCell (p := ⟨g, m * 4 + 2, none⟩) hg _).setCell (p := ⟨g, m * 4 + 3, none⟩) hg _)
theorem row_get (out : List Ed) (x : Ed) (k : Nat) (hk : k ≤ out.length) : (out.take k ++ x :: out.drop k).getD k default = x := by
  simp [List.getD_eq_getElem?_getD, hk]
theorem row_prev (out : List Ed) (x : Ed) (k : Nat) (hk : k ≤ out.length) (h0 : 0 < k) : (out.take k ++ x :: out.drop k).getD (k - 1) default = out.getD (k - 1) default := by
  rw [List.getD_eq_getElem?_getD, List.getElem?_append_left (by simp; omega), List.getD_eq_getElem?_getD, List.getElem?_take, if_pos (by omega)]
theorem row_swap (out : List Ed) (x : Ed) (k : Nat) (hk : k ≤ out.length) (h0 : 0 < k) : ((out.take k ++ x :: out.drop k).set k (out.getD (k - 1) default)).set (k - 1) x = out.take (k - 1) ++ x :: out.drop (k - 1) := by
  apply List.ext_getElem?
  intro i
  simp only [List.getElem?_set, List.length_set, List.length_append, List.length_cons, List.length_take, List.length_drop]
  by_cases h1 : k - 1 = i
  · subst h1
    rw [if_pos rfl, if_pos (by omega), List.getElem?_append_right (by simp; omega)]
    simp [show k - 1 - min (k - 1) out.length = 0 by omega]
  · rw [if_neg h1]
    by_cases h2 : k = i
    · subst h2
      rw [if_pos rfl, if_pos (by omega), List.getElem?_append_right (by simp; omega)]
      simp only [List.length_take, show k - min (k - 1) out.length = 1 by omega, List.getElem?_cons_succ, List.getElem?_drop, Nat.add_zero]
      simp [List.getD_eq_getElem?_getD, (by omega : k - 1 < out.length)]
    · rw [if_neg h2]
      rcases Nat.lt_or_ge i (k - 1) with h3 | h3
      · rw [List.getElem?_append_left (by simp; omega), List.getElem?_append_left (by simp; omega), List.getElem?_take, List.getElem?_take, if_pos (by omega), if_pos (by omega)]
      · rw [List.getElem?_append_right (by simp; omega), List.getElem?_append_right (by simp; omega)]
        simp only [List.length_take]
        obtain ⟨r, hr⟩ : ∃ r, i = k + 1 + r := ⟨i - k - 1, by omega⟩
        rw [show i - min k out.length = r + 1 by omega, show i - min (k - 1) out.length = r + 2 by omega]
        simp only [List.getElem?_cons_succ, List.getElem?_drop]
        congr 1
        omega
theorem flatE_snoc (out : List Ed) (x : Ed) : flatE out ++ encE x = flatE (out.take out.length ++ x :: out.drop out.length) := by simp [flatE]
end Go.Proofs.Ytbgkdofjndocfaa
