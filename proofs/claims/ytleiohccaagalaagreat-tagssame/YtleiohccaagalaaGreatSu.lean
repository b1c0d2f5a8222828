/-
  Rows that rise: there is one for the same texts.
-/
import Derived.Test.YtleiohccaagalaaGreatEo
namespace Go.Proofs.YtleiohccaagalaaGreat
open Go.RowKit Go.Sort
/-- strictly rising -/
def SU (l : List Bs) : Prop := l.Pairwise (· < ·)
theorem blt_irrefl (a : Bs) : ¬ a < a := List.lt_irrefl a
theorem blt_trans {a b c : Bs} (h : a < b) (k : b < c) : a < c := List.lt_trans h k
theorem ble_lt {a b : Bs} : a ≤ b ↔ a < b ∨ a = b := by
  constructor
  · intro h
    by_cases e : a = b
    · exact .inr e
    · left
      rcases Classical.em (a < b) with h1 | h1
      · exact h1
      · exact absurd (List.le_antisymm h (List.not_lt.1 h1)) e
  · rintro (h | rfl)
    · exact List.le_of_lt h
    · exact List.le_refl _
theorem su_uniq : ∀ {a b : List Bs}, SU a → SU b → (∀ x, x ∈ a ↔ x ∈ b) → a = b
  | [], [], _, _, _ => rfl
  | [], y :: b, _, _, h => by have := (h y).2 (by simp); simp at this
  | x :: a, [], _, _, h => by have := (h x).1 (by simp); simp at this
  | x :: a, y :: b, ha, hb, h => by
    have ha' := List.pairwise_cons.1 ha
    have hb' := List.pairwise_cons.1 hb
    have e : x = y := by
      rcases List.mem_cons.1 ((h x).1 (by simp)) with e | hx
      · exact e
      · rcases List.mem_cons.1 ((h y).2 (by simp)) with e | hy
        · exact e.symm
        · exact absurd (blt_trans (ha'.1 y hy) (hb'.1 x hx)) (blt_irrefl x)
    subst e
    congr 1
    refine su_uniq ha'.2 hb'.2 fun z => ?_
    have hz := h z
    simp only [List.mem_cons] at hz
    constructor
    · intro hm
      rcases hz.1 (.inr hm) with e | h1
      · subst e; exact absurd (ha'.1 z hm) (blt_irrefl z)
      · exact h1
    · intro hm
      rcases hz.2 (.inr hm) with e | h1
      · subst e; exact absurd (hb'.1 z hm) (blt_irrefl z)
      · exact h1
/-- x put in between -/
theorem su_ins {A B : List Bs} {x : Bs} (h : SU (A ++ B)) (hA : ∀ a ∈ A, a < x) (hB : ∀ b ∈ B, x < b) : SU (A ++ x :: B) := by
  have h1 := List.pairwise_append.1 h
  refine List.pairwise_append.2 ⟨h1.1, List.pairwise_cons.2 ⟨hB, h1.2.1⟩, fun a ha b hb => ?_⟩
  rcases List.mem_cons.1 hb with rfl | hb
  · exact hA a ha
  · exact h1.2.2 a ha b hb
theorem su_last {A : List Bs} {y x : Bs} (h : SU (A ++ [y])) (hy : y < x) : ∀ a ∈ A ++ [y], a < x := by
  have h1 := List.pairwise_append.1 h
  intro a ha
  rcases List.mem_append.1 ha with ha | ha
  · exact blt_trans (h1.2.2 a ha y (by simp)) hy
  · simp at ha; subst ha; exact hy
theorem cmp_succ (d : Array Bs) (m : Nat) : Lib.compactUpTo d (m + 1) = Lib.compactUpTo d m ++ if Lib.keeps d m then [d[m]!] else [] := by
  unfold Lib.compactUpTo
  rw [List.range_succ, List.filter_append, List.map_append]
  congr 1
  simp only [List.filter_cons, List.filter_nil]
  split <;> simp
theorem cmp_facts (d : Array Bs) (hs : ∀ i j, i ≤ j → j < d.size → d[i]! ≤ d[j]!) : ∀ m, m ≤ d.size → SU (Lib.compactUpTo d m) ∧ (∀ x, x ∈ Lib.compactUpTo d m ↔ ∃ j, j < m ∧ d[j]! = x)
  | 0, _ => by simp [Lib.compactUpTo, SU]
  | m + 1, hm => by
    obtain ⟨h1, h2⟩ := cmp_facts d hs m (by omega)
    rw [cmp_succ]
    by_cases hk : Lib.keeps d m = true
    · rw [if_pos hk]
      have hlt : ∀ x ∈ Lib.compactUpTo d m, x < d[m]! := by
        intro x hx
        obtain ⟨j, hj, rfl⟩ := (h2 x).1 hx
        simp only [Lib.keeps, decide_eq_true_eq] at hk
        rcases hk with hk | hk
        · omega
        · have a1 := hs j (m - 1) (by omega) (by omega)
          have a2 := hs (m - 1) m (by omega) (by omega)
          rcases ble_lt.1 a2 with a3 | a3
          · rcases ble_lt.1 a1 with a4 | a4
            · exact blt_trans a4 a3
            · rw [a4]; exact a3
          · exact absurd a3.symm hk
      refine ⟨List.pairwise_append.2 ⟨h1, by simp, fun a ha b hb => ?_⟩, fun x => ?_⟩
      · simp at hb; subst hb; exact hlt a ha
      · rw [List.mem_append, h2]
        simp only [List.mem_singleton]
        constructor
        · rintro (⟨j, hj, e⟩ | e)
          · exact ⟨j, by omega, e⟩
          · exact ⟨m, by omega, e.symm⟩
        · rintro ⟨j, hj, e⟩
          rcases Nat.lt_or_ge j m with h | h
          · exact .inl ⟨j, h, e⟩
          · right; rw [← e, show j = m by omega]
    · rw [if_neg hk, List.append_nil]
      refine ⟨h1, fun x => ?_⟩
      rw [h2]
      simp only [Lib.keeps, decide_eq_true_eq, not_or, Decidable.not_not] at hk
      constructor
      · rintro ⟨j, hj, e⟩; exact ⟨j, by omega, e⟩
      · rintro ⟨j, hj, e⟩
        rcases Nat.lt_or_ge j m with h | h
        · exact ⟨j, h, e⟩
        · have : j = m := by omega
          subst this
          exact ⟨j - 1, by omega, by rw [← hk.2]; exact e⟩
theorem srt_sorted (l : List Bs) : (srt l).Pairwise (· ≤ ·) := by
  have := List.pairwise_mergeSort (le := fun x y : Bs => decide (x ≤ y)) (fun a b c h1 h2 => by simp only [decide_eq_true_eq] at *; exact List.le_trans h1 h2) (fun a b => by simp only [Bool.or_eq_true, decide_eq_true_eq]; exact List.le_total a b) l
  exact this.imp fun h => by simpa using h
theorem eo_facts (l : List Bs) : SU (eo l) ∧ ∀ x, x ∈ eo l ↔ x ∈ l := by
  have hs : ∀ i j, i ≤ j → j < (srt l).toArray.size → (srt l).toArray[i]! ≤ (srt l).toArray[j]! := by
    intro i j hij hj
    simp only [List.size_toArray] at hj
    rw [getElem!_pos _ i (by simp; omega), getElem!_pos _ j (by simpa using hj)]
    simp only [List.getElem_toArray]
    rcases Nat.lt_or_ge i j with h | h
    · exact List.pairwise_iff_getElem.1 (srt_sorted l) i j (by omega) hj h
    · have : i = j := by omega
      subst this
      exact List.le_refl _
  obtain ⟨h1, h2⟩ := cmp_facts (srt l).toArray hs (srt l).length (by simp)
  refine ⟨h1, fun x => ?_⟩
  have e : x ∈ srt l ↔ x ∈ l := List.mem_mergeSort
  rw [← e]
  show x ∈ Lib.compactUpTo _ _ ↔ _
  rw [h2]
  constructor
  · rintro ⟨j, hj, rfl⟩
    rw [getElem!_pos _ j (by simpa using hj)]
    simp
  · intro hx
    obtain ⟨j, hj, rfl⟩ := List.getElem_of_mem hx
    exact ⟨j, hj, by rw [getElem!_pos _ j (by simpa using hj)]; simp⟩
theorem eo_of {l m : List Bs} (h : SU m) (hm : ∀ x, x ∈ m ↔ x ∈ l) : eo l = m := su_uniq (eo_facts l).1 h fun x => by rw [(eo_facts l).2, hm]
end Go.Proofs.YtleiohccaagalaaGreat
