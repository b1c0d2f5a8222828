/-
  The document's Identical, walked.
-/
import Derived.Test.YtifcikhgbafegabTyt
namespace Go.Proofs.Ytifcikhgbafegab
open Go.RowKit
attribute [local go_sem ↓] Go.wp_at_zero Go.wp_at_succ
mutual
/-- are they identical? -/
def Ty.idn : Ty → Ty → Bool
  | .mk k nm n f ns ms ks, .mk k' nm' n' f' ns' ms' ks' => decide (k = k') && decide (nm = nm') && decide (n = n') && (decide (k = 9) || (decide (f = f') && decide (ns = ns') && decide (ms = ms') && idnL ks ks'))
def idnL : List Ty → List Ty → Bool
  | [], [] => true
  | x :: r, y :: s => x.idn y && idnL r s
  | [], _ :: _ => false
  | _ :: _, [] => false
end
theorem idnL_iff : ∀ (l l' : List Ty), idnL l l' = true ↔ l.length = l'.length ∧ ∀ i (h : i < l.length) (h' : i < l'.length), (l[i]).idn l'[i] = true
  | [], [] => by simp [idnL]
  | [], _ :: _ => by simp [idnL]
  | _ :: _, [] => by simp [idnL]
  | x :: r, y :: s => by
    simp only [idnL, Bool.and_eq_true, idnL_iff r s, List.length_cons]
    constructor
    · rintro ⟨h1, h2, h3⟩
      refine ⟨by omega, fun i h h' => ?_⟩
      cases i with
      | zero => exact h1
      | succ i => exact h3 i (by simpa using h) (by simpa using h')
    · rintro ⟨h1, h2⟩
      exact ⟨h2 0 (by simp) (by simp), by omega, fun i h h' => h2 (i + 1) (by simpa using h) (by simpa using h')⟩
end Go.Proofs.Ytifcikhgbafegab

