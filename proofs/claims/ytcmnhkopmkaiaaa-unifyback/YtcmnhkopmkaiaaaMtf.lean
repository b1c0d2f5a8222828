/-
  UnifyMatch: what is left, once Match is walked.
-/
import Derived.Test.YtcmnhkopmkaiaaaMte
import Derived.Test.YtcmnhkopmkaiaaaMkk
import Derived.Deep.RegionHeld3
namespace Go.Proofs.Ytcmnhkopmkaiaaa
open Go.RowKit
attribute [local go_sem ↓] Go.wp_at_zero Go.wp_at_succ
/-- a row of one's own may be written to -/
theorem RowT.argS {base : Nat} {K : BQ} {W : World} {v : Value} {l : List Ty} (h : RowT base K W v l) (hm : (l.length : Int) ≤ 9223372036854775807) (g0 : Nat) (hg0 : g0 < W.heap.size) : ∃ g, g < W.heap.size ∧ (g = g0 ∨ base ≤ g) ∧ (l ≠ [] → base ≤ g) ∧ ∀ E : Nat → Prop, (∀ b, K b → ¬ E b) → ArgS E g 0 W v l := by
  obtain ⟨vs, hl, ho, hs⟩ := h.ex
  rcases ho.2 with ⟨h0, h1⟩ | ⟨g, cap, cur, rfl, h1, h2, h3, h4, h5, h6⟩
  · exact ⟨g0, hg0, .inl rfl, fun h => absurd (List.eq_nil_of_length_eq_zero h1) h, fun E _ => .inl ⟨_, _, h0, List.eq_nil_of_length_eq_zero h1⟩⟩
  · refine ⟨g, (Array.getElem?_eq_some_iff.1 h2).1, .inr h1, fun _ => h1, fun E hE => .inr ⟨cap, cur, rfl, h2, by omega, hm, liesT_of fun i hi => ?_⟩⟩
    have hc : ∀ j, j < 7 → W.cell? ⟨g, 0 + i * 7 + j, none⟩ = (cel l[i] (vs[i]'(hl ▸ hi)))[j]? := fun j hj => by
      rw [← flatT_get l vs hl i hi j hj, cell_of h2, ← h6, List.getElem?_take, if_pos (by omega), Array.getElem?_toList]
      congr 1; omega
    have c0 := hc 0 (by omega)
    rw [Nat.add_zero] at c0
    exact lies_iff.2 ⟨c0, hc 1 (by omega), hc 2 (by omega), hc 3 (by omega), _, _, _, hc 4 (by omega), hc 5 (by omega), hc 6 (by omega), (hs i hi).with (fun b _ h8 => hE b h8.1)⟩
/-- a row that was written to reads as it should -/
theorem ArgS.read {E : Nat → Prop} {g o : Nat} {W : World} {v : Value} {xs : List Ty} (h : ArgS E g o W v xs) : SlT (fun _ => True) W v xs := by
  rcases h with h | ⟨c, cs, rfl, h1, _, h3, h4⟩
  · exact .inl h
  · exact .inr ⟨g, o, c, rfl, h3, (Array.getElem?_eq_some_iff.1 h1).1, trivial, liesT_of fun i hi => lies_to (X := fun _ => False) (Kx.refl _ _) (fun _ _ _ => trivial) (fun _ _ _ h => h) _ g _ (fun h => h) (liesT_get h4 i hi)⟩
/-- and is kept, where another one is written to -/
theorem ArgS.kx {E : Nat → Prop} {g o g2 : Nat} {W W' : World} {v : Value} {xs : List Ty} (h : ArgS E g o W v xs) (hk : Kx (· = g2) W W') (hg : xs ≠ [] → g ≠ g2) (hE : E g2) : ArgS E g o W' v xs := by
  rcases h with h | ⟨c, cs, e, h1, h2, h3, h4⟩
  · exact .inl h
  · by_cases hx : xs = []
    · subst hx
      exact .inl ⟨_, _, e, rfl⟩
    · exact .inr ⟨c, cs, e, hk.keep _ _ h1 (hg hx), h2, h3, liesT_of fun i hi => lies_to (X := (· = g2)) hk (fun _ _ h => h) (fun b _ h e => h (by rw [e]; exact hE)) _ g _ (hg hx) (liesT_get h4 i hi)⟩
end Go.Proofs.Ytcmnhkopmkaiaaa

