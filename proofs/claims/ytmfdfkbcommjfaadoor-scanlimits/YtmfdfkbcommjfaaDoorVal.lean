/-
  Plain facts: texts of UTF-8, one behind another.
-/
import Derived.Lib.ValidLaws
import Derived.Lib.TrimUEq
namespace Go.Proofs.YtmfdfkbcommjfaaDoor
open Go
set_option maxRecDepth 100000 in
set_option maxHeartbeats 2000000 in
theorem decN_more (n n' b0 b1 b2 b3 c1 c2 c3 : Nat) (hg : ¬ ((Lib.decodeN n b0 b1 b2 b3).1 = 65533 ∧ (Lib.decodeN n b0 b1 b2 b3).2 = 1)) (hnn : n ≤ n')
    (e1 : 1 < n → c1 = b1) (e2 : 2 < n → c2 = b2) (e3 : 3 < n → c3 = b3) : Lib.decodeN n' b0 c1 c2 c3 = Lib.decodeN n b0 b1 b2 b3 := by
  unfold Lib.decodeN at hg ⊢
  by_cases h0 : b0 < 128
  · simp [h0]
  simp only [h0, if_false] at hg ⊢
  by_cases q1 : b0 / 32 = 6 ∧ (1 < n ∧ b1 / 64 = 2)
  · have E1 := e1 (by omega); subst E1
    rw [if_pos q1, if_pos ⟨q1.1, by omega, q1.2.2⟩]
  rw [if_neg q1] at hg
  by_cases q2 : b0 / 16 = 14 ∧ (1 < n ∧ b1 / 64 = 2) ∧ (2 < n ∧ b2 / 64 = 2)
  · have E1 := e1 (by omega); subst E1
    have E2 := e2 (by omega); subst E2
    rw [if_neg (by omega), if_pos ⟨q2.1, ⟨by omega, q2.2.1.2⟩, ⟨by omega, q2.2.2.2⟩⟩, if_neg q1, if_pos q2]
  rw [if_neg q2] at hg
  by_cases q3 : b0 / 8 = 30 ∧ (1 < n ∧ b1 / 64 = 2) ∧ (2 < n ∧ b2 / 64 = 2) ∧ (3 < n ∧ b3 / 64 = 2)
  · have E1 := e1 (by omega); subst E1
    have E2 := e2 (by omega); subst E2
    have E3 := e3 (by omega); subst E3
    rw [if_neg (by omega), if_neg (by omega), if_pos ⟨q3.1, ⟨by omega, q3.2.1.2⟩, ⟨by omega, q3.2.2.1.2⟩, ⟨by omega, q3.2.2.2.2⟩⟩, if_neg q1, if_neg q2, if_pos q3]
  rw [if_neg q3] at hg
  exact absurd ⟨rfl, rfl⟩ hg
theorem getD_app (a b : List UInt8) (i : Nat) (h : i < a.length) : (a ++ b).getD i 0 = a.getD i 0 := by simp [List.getD, List.getElem?_append_left h]
theorem decL_app (a b : List UInt8) (ha : a ≠ []) (hg : ¬ ((Lib.decodeL a).1 = 65533 ∧ (Lib.decodeL a).2 = 1)) : Lib.decodeL (a ++ b) = Lib.decodeL a := by
  have hl : 0 < a.length := List.length_pos_iff.2 ha
  rw [Lib.decodeL_N] at hg ⊢
  rw [Lib.decodeL_N a]
  rw [getD_app a b 0 hl]
  exact decN_more _ _ _ _ _ _ _ _ _ hg (by simp) (fun h => by rw [getD_app a b 1 h]) (fun h => by rw [getD_app a b 2 h]) (fun h => by rw [getD_app a b 3 h])
theorem valid_app (b : List UInt8) : ∀ (n : Nat) (a : List UInt8), a.length ≤ n → Lib.validD a = true → Lib.validD (a ++ b) = Lib.validD b := by
  intro n
  induction n with
  | zero => intro a h _; have : a = [] := List.eq_nil_of_length_eq_zero (by omega)
            subst this; rfl
  | succ n ih =>
    intro a h hv
    by_cases ha : a = []
    · subst ha; rfl
    rw [Lib.validD_step a ha] at hv
    split at hv
    · cases hv
    rename_i hg
    have hw := Lib.decodeL_width a
    have hle : (Lib.decodeL a).2 ≤ a.length := by
      rw [Lib.decodeL_N]
      have hl : 0 < a.length := List.length_pos_iff.2 ha
      unfold Lib.decodeN
      repeat' split
      all_goals (simp only; omega)
    rw [Lib.validD_step (a ++ b) (by simp [ha]), decL_app a b ha hg, if_neg hg, List.drop_append_of_le_length hle]
    exact ih _ (by rw [List.length_drop]; have hl : 0 < a.length := List.length_pos_iff.2 ha; omega) hv
theorem valid_append {a b : List UInt8} (ha : Lib.validD a = true) (hb : Lib.validD b = true) : Lib.validD (a ++ b) = true := by rw [valid_app b _ a (Nat.le_refl _) ha]; exact hb
end Go.Proofs.YtmfdfkbcommjfaaDoor
