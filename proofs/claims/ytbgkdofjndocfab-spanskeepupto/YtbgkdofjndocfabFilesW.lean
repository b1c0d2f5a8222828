/-
  Files in memory, and the map of their paths; spans.Apply's parts that ask for neither edits nor texts.
-/
import Derived.Test.YtbgkdofjndocfabStep
namespace Go.Proofs.Ytbgkdofjndocfab
open Go.RowKit Go.Maps
attribute [local go_sem ↓] Go.wp_at_zero Go.wp_at_succ
theorem mp_at (fs : List Fi) (i : Nat) : ∀ k, i < k → (∀ j, i < j → j < k → (fs.getD j default).1.data.toList ≠ (fs.getD i default).1.data.toList) → (mp fs k).atKey (ky (fs.getD i default).1) (.lit (.int .i64 0)) = .lit (.int .i64 i) ∧ Maps.has (mp fs k) (ky (fs.getD i default).1) = true
  | 0, h, _ => absurd h (by omega)
  | k + 1, h, hd => by
    have hk : WideAt.IsKeyLit (ky (fs.getD i default).1) := True.intro
    rcases Nat.lt_or_ge i k with h1 | h1
    · have ih := mp_at fs i k h1 fun j h2 h3 => hd j h2 (by omega)
      have hne : ky (fs.getD i default).1 ≠ ky (fs.getD k default).1 := by unfold ky; intro e; exact hd k h1 (by omega) (by simpa using e.symm)
      rw [mp, atKey_put_other hne, has_put_other hne]
      exact ih
    · obtain rfl : i = k := by omega
      rw [mp]
      exact ⟨atKey_put_same (mp_isMap fs i) hk _ _, has_put_same (mp_isMap fs i) hk _⟩
theorem mp_in (fs : List Fi) (i : Nat) : ∀ k, i < k → Maps.has (mp fs k) (ky (fs.getD i default).1) = true
  | 0, h => absurd h (by omega)
  | k + 1, h => by
    have hk : WideAt.IsKeyLit (ky (fs.getD i default).1) := True.intro
    rw [mp]
    by_cases he : ky (fs.getD i default).1 = ky (fs.getD k default).1
    · have hk' : WideAt.IsKeyLit (ky (fs.getD k default).1) := True.intro
      rw [he]; exact has_put_same (mp_isMap fs k) hk' _
    · rw [has_put_other he]
      refine mp_in fs i k ?_
      rcases Nat.lt_or_ge i k with h1 | h1
      · exact h1
      · obtain rfl : i = k := by omega
        exact absurd rfl he
theorem mp_le (fs : List Fi) : ∀ k, (∀ j, j < k → Tidy (mp fs j)) → Maps.size (mp fs k) ≤ k
  | 0, _ => Nat.le_refl _
  | k + 1, ht => by
    have ih := mp_le fs k fun j hj => ht j (by omega)
    rw [mp, size_put (ht k (by omega))]
    split <;> omega
theorem mp_dup (fs : List Fi) (i j : Nat) (hij : i < j) (he : (fs.getD i default).1 = (fs.getD j default).1) : ∀ k, j < k → (∀ x, x < k → Tidy (mp fs x)) → Maps.size (mp fs k) < k
  | 0, h, _ => absurd h (by omega)
  | k + 1, h, ht => by
    rw [mp, size_put (ht k (by omega))]
    rcases Nat.lt_or_ge j k with h1 | h1
    · have ih := mp_dup fs i j hij he k h1 fun x hx => ht x (by omega)
      split <;> omega
    · obtain rfl : j = k := by omega
      have := mp_in fs i j hij
      rw [he] at this
      rw [this]
      have := mp_le fs j fun x hx => ht x (by omega)
      simp
      omega
/-- What a slice of files, handed in, holds. -/
def FiArg (w : World) (v : Value) (fs : List Fi) : Prop := (v = .slice none 0 0 ∧ fs = []) ∨ ∃ F fo c, v = .slice (some ⟨F, fo, none⟩) fs.length c ∧ F < w.heap.size ∧ FilesAt w F fo fs
theorem FiArg.below {w w' : World} {v : Value} {fs : List Fi} (h : FiArg w v fs) (hb : Below w.heap.size w w') : FiArg w' v fs := by
  rcases h with h | ⟨F, fo, c, h, hF, he⟩
  · exact .inl h
  · exact .inr ⟨F, fo, c, h, Nat.lt_of_lt_of_le hF hb.size, he.below hF hb⟩
theorem FiArg.shape {w : World} {v : Value} {fs : List Fi} (h : FiArg w v fs) : ∃ a c, v = .slice a fs.length c ∧ (0 < fs.length → ∃ F fo, a = some ⟨F, fo, none⟩ ∧ F < w.heap.size ∧ FilesAt w F fo fs) := by
  rcases h with ⟨rfl, rfl⟩ | ⟨F, fo, c, rfl, hF, he⟩
  · exact ⟨none, 0, rfl, fun h => by simp at h⟩
  · exact ⟨_, c, rfl, fun _ => ⟨F, fo, rfl, hF, he⟩⟩
theorem cloneFi_any (v : Value) (fs : List Fi) (w : World) (hn : fs.length ≤ 1000000) (h : FiArg w v fs) :
    Calls Try.prog 14 #[v] w fun e w' => ∃ v', e = .returned v' ∧ w'.ownsRow w.heap.size 32 2 v' fs.length (flatF fs) ∧ Below w.heap.size w w' := by
  rcases h with ⟨rfl, rfl⟩ | ⟨F, fo, c, rfl, hF, he⟩
  · refine (AnyE.slices_Clone_nil Try.cloneFi 0 0 w).mono ?_
    rintro e w' ⟨rfl, rfl⟩
    exact ⟨_, rfl, World.ownsRow_nil _ _ _ _, Below.refl _ _⟩
  · refine (cloneF_any F fo fs.length c (flatF fs) w (flatF_len fs) (by unfold maxLen; omega) (by omega) (flatF_cells he) (flatF_one fs)).mono ?_
    rintro e w' ⟨v', rfl, ho, _, hb⟩
    exact ⟨v', rfl, ho, hb⟩
def SPost2 (l : List Ed) (w : World) (e : Ending) (w' : World) : Prop :=
  Below w.heap.size w w' ∧ ((∃ a cap out, Srt l out ∧ e = .returned (.tuple #[.slice a out.length cap, .int .i64 0]) ∧ out.length ≤ cap ∧ (0 < out.length → ∃ g, a = some ⟨g, 0, none⟩ ∧ EdRow w' w.heap.size g out)) ∨ (¬ Good l ∧ e = .returned (.tuple #[.slice none 0 0, .int .i64 1])))
theorem sorted_sp2 (v : Value) (l : List Ed) (w : World) (hn : l.length ≤ 2932031007402) (h : EdArg w v l) : Calls Try.prog 10 #[v] w fun e w' => SPost2 l w e w' := by
  rcases h with ⟨rfl, rfl⟩ | ⟨B, o, c, rfl, hB, he⟩
  · refine (sorted0_any w).mono ?_
    rintro e w' ⟨rfl, rfl⟩
    exact ⟨Below.refl _ _, .inl ⟨none, 0, [], srt_nil, rfl, by simp, fun h => by simp at h⟩⟩
  · refine (sorted_any B o c l.length l w rfl hn hB he).mono ?_
    rintro e w' ⟨hb, ⟨g, cap, out, hs, rfl, hc, hr⟩ | ⟨hg, rfl⟩⟩
    · exact ⟨hb, .inl ⟨_, cap, out, hs, rfl, hc, fun _ => ⟨g, rfl, hr⟩⟩⟩
    · exact ⟨hb, .inr ⟨hg, rfl⟩⟩
end Go.Proofs.Ytbgkdofjndocfab
