/-
  Rules put behind a row of rules.
-/
import Derived.Test.YtleiohccaagalaaGreatRfp
namespace Go.Proofs.YtleiohccaagalaaGreat
open Go.RowKit
set_option maxRecDepth 100000 in
theorem infoR_ex : ∃ i0, Tryz.prog.info? 31 = some i0 ∧ i0.zero = some (.agg #[.int .i64 0, .string ⟨#[]⟩, .slice none 0 0]) ∧ i0.size = 3 ∧ i0.bytes = 48 := ⟨_, rfl, rfl, rfl, rfl⟩
theorem flatV_one (l : List Rl) (vs : List Value) (h : vs.length = l.length) (h1 : ∀ i (hi : i < vs.length), (vs[i]).oneCell' = true) : ∀ u ∈ flatV l vs, u.oneCell' = true := by
  induction l generalizing vs with
  | nil => intro u hu; simp [flatV] at hu
  | cons x l ih =>
    cases vs with
    | nil => simp at h
    | cons v vs =>
      intro u hu
      simp only [flatV, List.mem_cons] at hu
      rcases hu with rfl | rfl | rfl | hu
      · rfl
      · rfl
      · exact h1 0 (by simp)
      · exact ih vs (by simpa using h) (fun i hi => h1 (i + 1) (by simpa using hi)) u hu
/-- rules in a row, cell by cell -/
theorem liesL_flat {B : BP} {W : World} (l : List Rl) : ∀ (b o : Nat), liesL B W l b o → ∃ vs : List Value, ∃ h : vs.length = l.length, (∀ j u, (flatV l vs)[j]? = some u → W.cell? ⟨b, o + j, none⟩ = some u) ∧ ∀ i (hi : i < l.length), SlV B W (vs[i]'(h ▸ hi)) l[i].kids := by
  induction l with
  | nil => intro b o _; exact ⟨[], rfl, (fun j u h => by simp [flatV] at h), fun i hi => by cases hi⟩
  | cons x l ih =>
    intro b o h
    obtain ⟨h1, h2⟩ := liesL_cons.1 h
    obtain ⟨vs, hl, hc, hs⟩ := ih b (o + 3) h2
    obtain ⟨k0, k1, v, k2, k3⟩ := lies_iff.1 h1
    refine ⟨v :: vs, by simp [hl], fun j u hj => ?_, fun i hi => ?_⟩
    · match j with
      | 0 => simp [flatV] at hj; subst hj; exact k0
      | 1 => simp [flatV] at hj; subst hj; exact k1
      | 2 => simp [flatV] at hj; subst hj; exact k2
      | j + 3 =>
        have := hc j u (by simpa [flatV] using hj)
        rwa [show o + (j + 3) = o + 3 + j by omega]
    · cases i with
      | zero => exact k3
      | succ i => exact hs i (by simpa using hi)
set_option maxRecDepth 100000 in
/-- rules more -/
theorem wp_appR {w : World} {ops : Array Oper} {rest : List Oper} {o : Oper} {a : Act} {Q : Exit → Act → World → Prop} (hgd : o.guard = none) (s x : Operand)
    (ho : o.op = .call { callee := .builtin .append, args := #[s, x], argTypes := #[29, 29] }) (base : Nat) (K : BP) (v : Value) (l l2 : List Rl) (b0 o0 c0 : Nat)
    (hs : a.eval s = v) (hown : RowN base K w v l) (hx : a.eval x = .slice (some ⟨b0, o0, none⟩) l2.length c0) (hb0 : liesL (fun b o ob => K b o ob ∧ v.ownBlock ≠ some b) w l2 b0 o0) (hne : l2 ≠ []) (hl : l.length + l2.length ≤ 1000000) (hbase : base ≤ w.heap.size) (H : Nat) (hH : w.heap.size = H)
    (h : ∀ g cap w', RowN base K w' (.slice (some ⟨g, 0, none⟩) (l.length + l2.length) cap) (l ++ l2) → w.grownBy w' v.ownBlock → (v.ownBlock = some g ∨ g = H) → g < w'.heap.size → wpList Tryz.prog ops Q rest (a.put o.dst (.slice (some ⟨g, 0, none⟩) (l.length + l2.length) cap)) w') : wpList Tryz.prog ops Q (o :: rest) a w := by
  obtain ⟨i0, i1, i2, i3, i4⟩ := infoR_ex
  obtain ⟨vs, hvl, hr, hsv⟩ := hown.ex
  obtain ⟨vs2, hvl2, hc2, hsv2⟩ := liesL_flat l2 b0 o0 hb0
  refine wpList_append_lies w hgd s x 29 ho base 31 i0 _ 3 48 Tryz.underlying29 i1 i2 i3 i4 rfl (by omega) v l.length (flatV l vs) hs hr ⟨b0, o0, none⟩ l2.length c0 (flatV l2 vs2) hx (flatV_len l2 vs2 hvl2) ?_ (flatV_one l2 vs2 hvl2 fun i hi => (hsv2 i (by omega)).one) (List.length_pos_iff.2 hne) (by unfold maxLen; omega) (by omega) hbase H hH ?_
  · intro j u hj
    rw [Addr.add_lit]; exact hc2 j u hj
  · intro g cap w' hown' hgrow hat hlt
    exact h g cap w' (RowN.join hvl hsv hvl2 hsv2 hgrow (hH ▸ hat) hown') hgrow hat hlt
end Go.Proofs.YtleiohccaagalaaGreat
