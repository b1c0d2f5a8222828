/-
  Types put behind nothing; the document's Make, walked.
-/
import Derived.Test.YtcmnhkopmkaiaaaSbp
namespace Go.Proofs.Ytcmnhkopmkaiaaa
open Go.RowKit
attribute [local go_sem ↓] Go.wp_at_zero Go.wp_at_succ
/-- a slice that is new memory, and reads as these types; what stands in them lies in blocks of B -/
structure NewT (B : BQ) (base : Nat) (W : World) (a : Option Addr) (n c : Nat) (l : List Ty) : Prop where
  row : RowT base B W (.slice a n c) l
set_option maxRecDepth 100000 in
/-- types put behind nothing -/
theorem wp_appT {w : World} {ops : Array Oper} {rest : List Oper} {o : Oper} {a : Act} {Q : Exit → Act → World → Prop} (hgd : o.guard = none) (s x : Operand)
    (ho : o.op = .call { callee := .builtin .append, args := #[s, x], argTypes := #[24, 24] }) (B : BQ) {a2 : Option Addr} {n2 c2 : Nat} {l2 : List Ty}
    (hs : a.eval s = .slice none 0 0) (hx : a.eval x = .slice a2 n2 c2) (hT : SlT B w (.slice a2 n2 c2) l2) (hl : n2 * 112 ≤ 140737488355328)
    (h : ∀ a3 c3 w', RowT w.heap.size (fun b => B b ∧ b < w.heap.size) w' (.slice a3 n2 c3) l2 → Below w.heap.size w w' → wpList Try.prog ops Q rest (a.put o.dst (.slice a3 n2 c3)) w') : wpList Try.prog ops Q (o :: rest) a w := by
  obtain ⟨i0, i1, i2, i3, i4⟩ := infoT_ex
  obtain ⟨a0, c0, e0, hlen, hel⟩ := hT.open
  obtain ⟨rfl, hn2, rfl⟩ : a2 = a0 ∧ n2 = l2.length ∧ c2 = c0 := by simpa using e0
  by_cases h0 : l2 = []
  · have hn : n2 = 0 := by rw [hn2, h0]; rfl
    subst hn h0
    refine wpList_plain hgd fun K hK => ?_
    have hrun : (Builtin.append_ #[24, 24] o.type #[.slice none 0 0, .slice a2 0 c2]).run Try.prog w = .ok (.slice none 0 0) w := by
      cases a2 <;> simp [Builtin.append_, run_underlying Try.underlying24, sizeOf, typeInfo, i1, Builtin.lenOf, Builtin.firstCells, loadCells, loadCellsFrom]
    unfold Oper.wp
    have hfin : K (a.put o.dst (.slice none 0 0)) w := hK _ _ (h none 0 w (RowT.nil _ _ _) (Below.refl _ _))
    simp [execOp, ho, resolve, invoke, builtin, hs, hx, hrun, Result.andThen, Oper.upon, hfin]
  · have hpos : 0 < l2.length := List.length_pos_iff.2 h0
    rcases hT with ⟨_, _, _, e⟩ | ⟨g2, o2, c2', e, hl2, hb1, hb, hL⟩
    · exact absurd e h0
    · obtain ⟨rfl, _, rfl⟩ : a2 = some ⟨g2, o2, none⟩ ∧ n2 = l2.length ∧ c2 = c2' := by simpa using e
      subst hn2
      obtain ⟨vs, hvl, hc, hpr⟩ := liesT_flat l2 g2 o2 hL
      refine wpList_append_lies w hgd s x 24 ho w.heap.size 26 i0 _ 7 112 Try.underlying24 i1 i2 i3 i4 rfl (by omega) (.slice none 0 0) 0 [] hs (World.ownsRow_nil _ _ _ _) ⟨g2, o2, none⟩ l2.length c2 (flatT l2 vs) hx (flatT_len l2 vs hvl) ?_ (flatT_one l2 vs hvl fun i hi => (hpr i hi).one) hpos (by unfold maxLen; omega) (by omega) (Nat.le_refl _) w.heap.size rfl ?_
      · intro j u hj
        rw [Addr.add_lit]; exact hc j u hj
      · intro g cap w' hown' hgrow hat hlt
        have hbl : Below w.heap.size w w' := (Below.refl _ w).grown hgrow (Nat.le_refl _) (fun b hb => by cases hb)
        rw [Nat.zero_add, List.nil_append] at hown'
        rw [Nat.zero_add]
        have hg : g = w.heap.size := by rcases hat with h | h; cases h; exact h
        refine h _ _ w' ⟨vs, hvl, hown', fun i hi => ?_⟩ hbl
        exact (hpr i hi).to (Kx.of_whole (X := fun _ => False) hbl) (fun b h1 h2 => ⟨⟨h2, h1⟩, fun e => by
          have e' : g = b := by simpa [Value.ownBlock] using e
          omega⟩) (fun _ _ _ h => h)
/-- what Make makes -/
def mkT (k : Int) (ks : List Ty) : Ty := .mk k ⟨#[]⟩ (if k = 13 then (ks.length : Int) else 0) false [] [] ks
end Go.Proofs.Ytcmnhkopmkaiaaa

