/-
  Sets, walked.
-/
import Derived.Test.YtleiohccaagalaaGreatTry
namespace Go.Proofs.YtleiohccaagalaaGreat
open Go.RowKit Go.Sort
attribute [local go_sem ↓] Go.wp_at_zero Go.wp_at_succ
set_option maxRecDepth 100000 in
theorem info33_ex : ∃ i0, Tryz.prog.info? 22 = some i0 ∧ i0.zero = some (.slice none 0 0) ∧ i0.size = 1 ∧ i0.bytes = 24 := ⟨_, rfl, rfl, rfl, rfl⟩
/-- a row of rows of texts of one's own -/
structure Rw2 (W : World) (base : Nat) (v : Value) (L : List (List Bs)) : Prop where
  ex : ∃ xs, W.ownsRow base 22 1 v L.length xs ∧ ∀ (i : Nat) l, L[i]? = some l → ∃ a c, xs[i]? = some (.slice a l.length c) ∧ SRow W base (.slice a l.length c) l
theorem Rw2.nil (W : World) (base : Nat) : Rw2 W base (.slice none 0 0) [] := ⟨[], World.ownsRow_nil _ _ _ _, fun i l h => by simp at h⟩
theorem Rw2.whole {W W' : World} {base : Nat} {v : Value} {L : List (List Bs)} (h : Rw2 W base v L) (k : Below W.heap.size W W') : Rw2 W' base v L := by
  obtain ⟨xs, h1, h2⟩ := h.ex
  exact ⟨xs, own_whole h1 k, fun i l hl => by obtain ⟨a, c, e, hr⟩ := h2 i l hl; exact ⟨a, c, e, own_whole hr k⟩⟩
theorem Rw2.slice {W : World} {base : Nat} {v : Value} {L : List (List Bs)} (h : Rw2 W base v L) : ∃ a c, v = .slice a L.length c := by
  obtain ⟨xs, h1, _⟩ := h.ex; exact own_slice h1
theorem Rw2.mono {W : World} {base b : Nat} {v : Value} {L : List (List Bs)} (h : Rw2 W base v L) (hb : b ≤ base) : Rw2 W b v L := by
  obtain ⟨xs, h1, h2⟩ := h.ex
  refine ⟨xs, ⟨h1.1, ?_⟩, fun i l hl => by obtain ⟨a, c, e, hr⟩ := h2 i l hl; exact ⟨a, c, e, SRow.base hr hb⟩⟩
  rcases h1.2 with h' | ⟨g, cap, cur, hv, h3, h4⟩
  · exact .inl h'
  · exact .inr ⟨g, cap, cur, hv, Nat.le_trans hb h3, h4⟩
set_option maxRecDepth 100000 in
/-- one row more -/
theorem wp_app2 {w : World} {ops : Array Oper} {rest : List Oper} {o : Oper} {a : Act} {Q : Exit → Act → World → Prop} (hgd : o.guard = none) (s x : Operand)
    (ho : o.op = .call { callee := .builtin .append, args := #[s, x], argTypes := #[57, 57] }) (base : Nat) (v : Value) (L : List (List Bs)) (l : List Bs) (a1 : Option Addr) (c1 b0 : Nat)
    (hs : a.eval s = v) (hown : Rw2 w base v L) (hx : a.eval x = .slice (some ⟨b0, 0, none⟩) 1 1) (hb0 : w.cell? ⟨b0, 0, none⟩ = some (.slice a1 l.length c1)) (hr : SRow w base (.slice a1 l.length c1) l) (hl : L.length ≤ 1000000) (hbase : base ≤ w.heap.size)
    (h : ∀ g cap w', Rw2 w' base (.slice (some ⟨g, 0, none⟩) (L.length + 1) cap) (L ++ [l]) → Kt base w w' → w.grownBy w' v.ownBlock → g < w'.heap.size → wpList Tryz.prog ops Q rest (a.put o.dst (.slice (some ⟨g, 0, none⟩) (L.length + 1) cap)) w') : wpList Tryz.prog ops Q (o :: rest) a w := by
  obtain ⟨i0, i1, i2, i3, i4⟩ := info33_ex
  obtain ⟨xs, h1, h2⟩ := hown.ex
  refine wpList_append_lies w hgd s x 57 ho base 22 i0 _ 1 24 Tryz.underlying57 i1 i2 i3 i4 rfl (by omega) v L.length xs hs h1 ⟨b0, 0, none⟩ 1 1 [.slice a1 l.length c1] hx rfl ?_ (by simp [Value.oneCell']) (by omega) (by unfold maxLen; omega) (by omega) hbase w.heap.size rfl ?_
  · intro j u hj
    cases j with
    | zero => simp at hj; subst hj; simpa [Addr.add] using hb0
    | succ j => simp at hj
  · intro g cap w' hown' hgrow _ hlt
    have hkt : Kt base w w' := ⟨hgrow.os, hgrow.tape, hgrow.output, hgrow.size, fun b hb => hgrow.block b (by omega) (fun e => by have := (h1.lt b e.symm).1; omega), fun b cs fr hb => by
      refine (hgrow.block b (Array.getElem?_eq_some_iff.1 hb).1 (fun e => ?_)).trans hb
      obtain ⟨_, c, hc⟩ := own_blk h1 e.symm
      rw [hb] at hc
      simp at hc⟩
    refine h g cap w' ⟨xs ++ [.slice a1 l.length c1], by simpa using hown', fun i m hm => ?_⟩ hkt hgrow hlt
    have hxl : xs.length = L.length := by have := h1.1; omega
    rcases Nat.lt_or_ge i L.length with hi | hi
    · rw [List.getElem?_append_left hi] at hm
      obtain ⟨a2, c2, e2, r2⟩ := h2 i m hm
      exact ⟨a2, c2, by rw [List.getElem?_append_left (by omega)]; exact e2, SRow.kt r2 hkt⟩
    · rw [List.getElem?_append_right hi] at hm
      have : i - L.length = 0 := by
        rcases Nat.eq_zero_or_pos (i - L.length) with h0 | h0
        · exact h0
        · rw [List.getElem?_eq_none (by simp; omega)] at hm; cases hm
      rw [this] at hm
      simp only [List.getElem?_cons_zero, Option.some.injEq] at hm
      subst hm
      exact ⟨a1, c1, by rw [List.getElem?_append_right (by omega), hxl, this]; rfl, SRow.kt hr hkt⟩
theorem SRow.small {W : World} {b : Nat} {v : Value} {l : List Bs} (h : SRow W b v l) : l.length ≤ 9223372036854775807 := by
  rcases h.2 with ⟨_, h0⟩ | ⟨_, _, _, _, _, _, h3, h4, _⟩
  · omega
  · unfold maxLen at h4; omega
/-- the i-th row of a row of rows -/
theorem Rw2.at {W : World} {base : Nat} {a : Option Addr} {n c : Nat} {L : List (List Bs)} (h : Rw2 W base (.slice a n c) L) {i : Nat} (hi : i < L.length) : ∃ g b d, a = some ⟨g, 0, none⟩ ∧ W.cell? ⟨g, i, none⟩ = some (.slice b (L[i]).length d) ∧ TxV W b (L[i]).length d L[i] ∧ (L[i]).length ≤ 9223372036854775807 := by
  obtain ⟨xs, h1, h2⟩ := h.ex
  obtain ⟨b, d, e, hr⟩ := h2 i L[i] (List.getElem?_eq_getElem hi)
  obtain ⟨g, cap, hv, _⟩ := World.ownsRow.form h1 (by omega)
  simp only [Value.slice.injEq] at hv
  obtain ⟨rfl, _, _⟩ := hv
  refine ⟨g, b, d, rfl, ?_, hr.txv, hr.small⟩
  have := h1.cells (g := g) rfl i _ e
  rw [Go.WideShapes.add_plain] at this
  simpa using this
theorem Rw2.small {W : World} {b : Nat} {v : Value} {L : List (List Bs)} (h : Rw2 W b v L) : L.length ≤ 9223372036854775807 := by
  obtain ⟨xs, h1, _⟩ := h.ex
  rcases h1.2 with ⟨_, h0⟩ | ⟨_, _, _, _, _, _, h3, h4, _⟩
  · omega
  · unfold maxLen at h4; omega
/-- the first m sets -/
def fst (T : List Bs) (m : Nat) : List (List Bs) := (List.range m).map fun j => chs T j T.length
theorem fst_len (T : List Bs) (m : Nat) : (fst T m).length = m := by simp [fst]
theorem fst_succ (T : List Bs) (m : Nat) : fst T (m + 1) = fst T m ++ [chs T m T.length] := by simp [fst, List.range_succ]
/-- the variable out at block B holds the first m sets -/
structure StI (B base : Nat) (T : List Bs) (m : Nat) (W : World) : Prop where
  ex : ∃ a c, W.heap[B]? = some (.cells #[.slice a m c] 57 (0, 0)) ∧ Rw2 W base (.slice a m c) (fst T m)
  bb : base ≤ B
theorem StI.whole {B base : Nat} {T : List Bs} {m : Nat} {W W' : World} (h : StI B base T m W) (k : Below W.heap.size W W') : StI B base T m W' := by
  obtain ⟨a, c, hb, hr⟩ := h.ex
  exact ⟨⟨a, c, blk_kept k hb, hr.whole k⟩, h.bb⟩
theorem Rw2.kt {W W' : World} {n base : Nat} {v : Value} {L : List (List Bs)} (h : Rw2 W base v L) (k : Kt n W W') (hk : ∀ b, v.ownBlock = some b → W'.heap[b]? = W.heap[b]?) : Rw2 W' base v L := by
  obtain ⟨xs, h1, h2⟩ := h.ex
  exact ⟨xs, own_far h1 hk, fun i l hl => by obtain ⟨a, c, e, hr⟩ := h2 i l hl; exact ⟨a, c, e, SRow.kt hr k⟩⟩
theorem kt_set {W : World} {n B o : Nat} {u : Value} {cs : Array Value} {T : TypeId} {fr : Nat × Nat} (hB : W.heap[B]? = some (.cells cs T fr)) (hT : T ≠ 9) (hn : n ≤ B) : Kt n W (W.setCell ⟨B, o, none⟩ u) :=
  ⟨rfl, rfl, rfl, by simp [World.setCell], fun b hb => Below.heap_setCell W ⟨B, o, none⟩ u b (by show b ≠ B; omega), fun b c f hb => by
    refine (Below.heap_setCell W ⟨B, o, none⟩ u b (fun e => ?_)).trans hb
    have e : b = B := e
    rw [e, hB] at hb
    simp at hb
    exact hT hb.2.1⟩
def sets (T : List Bs) : List (List Bs) := if T.length ≤ 10 then fst T (2 ^ T.length) else []
structure SetQ (w : World) (L : List (List Bs)) (e : Ending) (w' : World) : Prop where
  bl : Below w.heap.size w w'
  ex : ∃ a c, e = .returned (.slice a L.length c) ∧ Rw2 w' w.heap.size (.slice a L.length c) L
end Go.Proofs.YtleiohccaagalaaGreat
