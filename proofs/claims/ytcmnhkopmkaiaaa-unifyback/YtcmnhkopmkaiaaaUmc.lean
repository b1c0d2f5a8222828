/-
  Matching as the code does it: a part that says nothing matches nowhere. In plain Lean.
-/
import Derived.Test.YtcmnhkopmkaiaaaMth
import Derived.Test.YtcmnhkopmkaiaaaFri
namespace Go.Proofs.Ytcmnhkopmkaiaaa
open Go.RowKit
mutual
/-- matching: whether it does, and what is known then -/
def Ty.mtc : Ty → Ty → List Ty → Bool × List Ty
  | .mk k nm n f ns ms ks, b, xs =>
    if b.opn = true then (false, xs)
    else if k = 9 ∧ 0 ≤ n ∧ n < (xs.length : Int) then
      (if (xs.getD n.toNat b).kind = 0 then (true, xs.set n.toNat b) else ((xs.getD n.toNat b).idn b, xs))
    else if k = b.kind ∧ nm = b.name ∧ n = b.n ∧ f = b.flag ∧ ns = b.names ∧ ms = b.marks ∧ ks.length = b.kids.length then mcL ks b.kids xs else (false, xs)
def mcL : List Ty → List Ty → List Ty → Bool × List Ty
  | [], _, xs => (true, xs)
  | _ :: _, [], xs => (true, xs)
  | x :: r, y :: s, xs => if (x.mtc y xs).1 = true then mcL r s (x.mtc y xs).2 else (false, (x.mtc y xs).2)
end
theorem mcL_nil (s xs : List Ty) : mcL [] s xs = (true, xs) := by simp [mcL]
theorem mcL_cons (x y : Ty) (r s xs : List Ty) : mcL (x :: r) (y :: s) xs = if (x.mtc y xs).1 = true then mcL r s (x.mtc y xs).2 else (false, (x.mtc y xs).2) := by simp [mcL]
theorem mcL_drop (ks bs xs : List Ty) (i : Nat) (h1 : i < ks.length) (h2 : i < bs.length) : mcL (ks.drop i) (bs.drop i) xs = if ((ks[i]).mtc bs[i] xs).1 = true then mcL (ks.drop (i + 1)) (bs.drop (i + 1)) ((ks[i]).mtc bs[i] xs).2 else (false, ((ks[i]).mtc bs[i] xs).2) := by
  rw [List.drop_eq_getElem_cons h1, List.drop_eq_getElem_cons h2, mcL_cons]
mutual
/-- where it matches, it does by the document's words too, with the same known -/
theorem Ty.mtc_mt : ∀ (a b : Ty) (xs : List Ty), (a.mtc b xs).1 = true → a.mt b xs = a.mtc b xs
  | .mk k nm n f ns ms ks, b, xs => by
    unfold Ty.mtc Ty.mt
    intro h
    by_cases ho : b.opn = true
    · rw [if_pos ho] at h; cases h
    · rw [if_neg ho] at h ⊢
      by_cases hc : k = 9 ∧ 0 ≤ n ∧ n < (xs.length : Int)
      · rw [if_pos hc, if_pos ⟨hc.1, hc.2.1, by omega⟩, if_neg ho]
      · rw [if_neg hc] at h ⊢
        rw [if_neg (fun h => hc ⟨h.1, h.2.1, by omega⟩)]
        split at h
        · rename_i he
          rw [if_pos he, if_pos he, if_neg ho]
          exact mcL_mt ks b.kids xs h
        · cases h
theorem mcL_mt : ∀ (r s xs : List Ty), (mcL r s xs).1 = true → mtL r s xs = mcL r s xs
  | [], s, xs => by intro _; simp [mcL, mtL]
  | _ :: _, [], xs => by intro _; simp [mcL, mtL]
  | x :: r, y :: s, xs => by
    rw [mcL_cons, mtL_cons]
    intro h
    split at h
    · rename_i hx
      rw [Ty.mtc_mt x y xs hx, if_pos hx, if_pos hx]
      exact mcL_mt r s _ h
    · cases h
end
mutual
/-- what is known is what was, or a part of the argument -/
theorem Ty.mtc_all (P : Ty → Prop) : ∀ (a b : Ty) (xs : List Ty), P b → (∀ t, P t → ∀ x ∈ t.kids, P x) → (∀ x ∈ xs, P x) → ∀ x ∈ (a.mtc b xs).2, P x
  | .mk k nm n f ns ms ks, b, xs => by
    intro hb hk hx
    unfold Ty.mtc
    split
    · exact hx
    · split
      · split
        · intro x h
          rcases List.mem_or_eq_of_mem_set h with h | rfl
          · exact hx x h
          · exact hb
        · exact hx
      · split
        · exact mcL_all P ks b.kids xs (hk b hb) hk hx
        · exact hx
theorem mcL_all (P : Ty → Prop) : ∀ (r s xs : List Ty), (∀ x ∈ s, P x) → (∀ t, P t → ∀ x ∈ t.kids, P x) → (∀ x ∈ xs, P x) → ∀ x ∈ (mcL r s xs).2, P x
  | [], s, xs => by intro _ _ hx; simpa [mcL] using hx
  | _ :: _, [], xs => by intro _ _ hx; simpa [mcL] using hx
  | x :: r, y :: s, xs => by
    intro hs hk hx
    rw [mcL_cons]
    have h1 := Ty.mtc_all P x y xs (hs y (by simp)) hk hx
    split
    · exact mcL_all P r s _ (fun z hz => hs z (by simp [hz])) hk h1
    · exact h1
end
theorem Ty.mtc_len : ∀ (a b : Ty) (xs : List Ty), (a.mtc b xs).2.length = xs.length := by
  have key : ∀ a : Ty, ∀ (b : Ty) (xs : List Ty), (a.mtc b xs).2.length = xs.length := by
    refine Ty.ind fun k nm n f ns ms ks ih b xs => ?_
    unfold Ty.mtc
    split
    · rfl
    · split
      · split
        · simp
        · rfl
      · split
        · have : ∀ (r s ys : List Ty), (∀ x ∈ r, ∀ (b : Ty) (xs : List Ty), (x.mtc b xs).2.length = xs.length) → (mcL r s ys).2.length = ys.length := by
            intro r
            induction r with
            | nil => intro s ys _; rw [mcL_nil]
            | cons x r ihr =>
              intro s ys h
              cases s with
              | nil => simp [mcL]
              | cons y s =>
                rw [mcL_cons]
                split
                · rw [ihr s _ (fun z hz => h z (by simp [hz])), h x (by simp)]
                · exact h x (by simp) y ys
          exact this ks b.kids xs ih
        · rfl
  exact key
/-- a part has no more parts than the whole -/
theorem cnt_kid {t x : Ty} (h : x ∈ t.kids) : x.cnt < t.cnt := by
  rw [Ty.cnt_eq t]
  have : ∀ l : List Ty, x ∈ l → x.cnt ≤ cntL l := by
    intro l
    induction l with
    | nil => intro h; cases h
    | cons y r ih =>
      intro h
      rw [cntL_cons]
      rcases List.mem_cons.1 h with rfl | h
      · omega
      · have := ih h; omega
  have := this t.kids h
  omega
theorem Ty.sbc_nil : ∀ t : Ty, t.sbc [] = t :=
  Ty.ind fun k nm n f ns ms ks ih => by
    rw [Ty.sbc_keep (by simp only [List.length_nil]; intro h; omega)]
    simp only [Ty.kind, Ty.name, Ty.n, Ty.flag, Ty.names, Ty.marks, Ty.kids]
    congr 1
    exact (List.map_congr_left ih).trans (List.map_id _)
end Go.Proofs.Ytcmnhkopmkaiaaa

