/-
  Types put behind nothing; the document's Make, walked.
-/
import Derived.Test.YtifcikhgbafegaaSbp
namespace Go.Proofs.Ytifcikhgbafegaa
open Go.RowKit
attribute [local go_sem ↓] Go.wp_at_zero Go.wp_at_succ
/-- a slice that is new memory, and reads as these types; what stands in them lies in blocks of B -/
structure NewT (B : BQ) (base : Nat) (W : World) (a : Option Addr) (n c : Nat) (l : List Ty) : Prop where
  row : RowT base B W (.slice a n c) l
set_option maxRecDepth 100000 in
/-- types put behind nothing -/
theorem wp_appT {w : World} {ops : Array Oper} {rest : List Oper} {o : Oper} {a : Act} {Q : Exit → Act → World → Prop} (hgd : o.guard = none) (s x : Operand)
    (ho : o.op = .call { callee := .builtin .append, args := #[s, x], argTypes := #[24, 24] }) (B : BQ) {a2 : Option Addr} {n2 c2 : Nat} {l2 : List Ty}
    (hs : a.eval s = .slice none 0 0) (hx : a.eval x = .slice a2 n2 c2) (hT : SlT B w (.slice a2 n2 c2) l2) (hl : n2 * 112 ≤ 140737488355328)
    (h : ∀ a3 c3 w', RowT w.heap.size (fun b => B b ∧ b < w.heap.size) w' (.slice a3 n2 c3) l2 → Below w.heap.size w w' → wpList Try.prog ops Q rest (a.put o.dst (.slice a3 n2 c3)) w') : wpList Try.prog ops Q (o :: rest) a w := by
  obtain ⟨i0, i1, i2, i3, i4⟩ := infoT_ex
  obtain ⟨a0, c0, e0, hlen, hel⟩ := hT.open
  obtain ⟨rfl, hn2, rfl⟩ : a2 = a0 ∧ n2 = l2.length ∧ c2 = c0 := by simpa using e0
  by_cases h0 : l2 = []
  · have hn : n2 = 0 := by rw [hn2, h0]; rfl
    subst hn h0
    refine wpList_plain hgd fun K hK => ?_
    have hrun : (Builtin.append_ #[24, 24] o.type #[.slice none 0 0, .slice a2 0 c2]).run Try.prog w = .ok (.slice none 0 0) w := by
      cases a2 <;> simp [Builtin.append_, run_underlying Try.underlying24, sizeOf, typeInfo, i1, Builtin.lenOf, Builtin.firstCells, loadCells, loadCellsFrom]
    unfold Oper.wp
    have hfin : K (a.put o.dst (.slice none 0 0)) w := hK _ _ (h none 0 w (RowT.nil _ _ _) (Below.refl _ _))
    simp [execOp, ho, resolve, invoke, builtin, hs, hx, hrun, Result.andThen, Oper.upon, hfin]
  · have hpos : 0 < l2.length := List.length_pos_iff.2 h0
    rcases hT with ⟨_, _, _, e⟩ | ⟨g2, o2, c2', e, hl2, hb1, hb, hL⟩
    · exact absurd e h0
    · obtain ⟨rfl, _, rfl⟩ : a2 = some ⟨g2, o2, none⟩ ∧ n2 = l2.length ∧ c2 = c2' := by simpa using e
      subst hn2
      obtain ⟨vs, hvl, hc, hpr⟩ := liesT_flat l2 g2 o2 hL
      refine wpList_append_lies w hgd s x 24 ho w.heap.size 26 i0 _ 7 112 Try.underlying24 i1 i2 i3 i4 rfl (by omega) (.slice none 0 0) 0 [] hs (World.ownsRow_nil _ _ _ _) ⟨g2, o2, none⟩ l2.length c2 (flatT l2 vs) hx (flatT_len l2 vs hvl) ?_ (flatT_one l2 vs hvl fun i hi => (hpr i hi).one) hpos (by unfold maxLen; omega) (by omega) (Nat.le_refl _) w.heap.size rfl ?_
      · intro j u hj
        rw [Addr.add_lit]; exact hc j u hj
      · intro g cap w' hown' hgrow hat hlt
        have hbl : Below w.heap.size w w' := (Below.refl _ w).grown hgrow (Nat.le_refl _) (fun b hb => by cases hb)
        rw [Nat.zero_add, List.nil_append] at hown'
        rw [Nat.zero_add]
        have hg : g = w.heap.size := by rcases hat with h | h; cases h; exact h
        refine h _ _ w' ⟨vs, hvl, hown', fun i hi => ?_⟩ hbl
        exact (hpr i hi).to (Kx.of_whole (X := fun _ => False) hbl) (fun b h1 h2 => ⟨⟨h2, h1⟩, fun e => by
          have e' : g = b := by simpa [Value.ownBlock] using e
          omega⟩) (fun _ _ _ h => h)
/-- what Make makes -/
def mkT (k : Int) (ks : List Ty) : Ty := .mk k ⟨#[]⟩ (if k = 13 then (ks.length : Int) else 0) false [] [] ks
set_option maxRecDepth 100000 in
set_option maxHeartbeats 4000000 in
theorem rmake_any {B : BQ} {w : World} (k : Int) {a : Option Addr} {n c : Nat} {ks : List Ty} (h : SlT B w (.slice a n c) ks) (hn : n * 112 ≤ 140737488355328) : Calls Try.prog 21 #[.int .i64 k, .slice a n c] w (TyQ w (fun b => (B b ∧ b < w.heap.size) ∨ w.heap.size ≤ b) (mkT k ks)) := by
  obtain ⟨a0, c0, e0, hlen, _⟩ := h.open
  have hnk : n = ks.length := by simp at e0; exact e0.2.1
  have hnI : (n : Int) ≤ 9223372036854775807 := by omega
  have hb2 : Below w.heap.size w ((w.alloc (.cells #[.int .i64 0, .string ⟨#[]⟩, .int .i64 0, .bool false, .slice none 0 0, .slice none 0 0, .slice none 0 0] 26)).alloc (.cells #[.int .i64 k, .string ⟨#[]⟩, .int .i64 0, .bool false, .slice none 0 0, .slice none 0 0, .slice none 0 0] 26)) := bthen (below_alloc _ _) (below_alloc _ _)
  have hn1 : ((w.alloc (.cells #[.int .i64 0, .string ⟨#[]⟩, .int .i64 0, .bool false, .slice none 0 0, .slice none 0 0, .slice none 0 0] 26)).alloc (.cells #[.int .i64 k, .string ⟨#[]⟩, .int .i64 0, .bool false, .slice none 0 0, .slice none 0 0, .slice none 0 0] 26)).heap[w.heap.size]? = some (.cells #[.int .i64 0, .string ⟨#[]⟩, .int .i64 0, .bool false, .slice none 0 0, .slice none 0 0, .slice none 0 0] 26 (0, 0)) := blk_kept (below_alloc _ _) (heap_new _ _)
  have hn2 : ((w.alloc (.cells #[.int .i64 0, .string ⟨#[]⟩, .int .i64 0, .bool false, .slice none 0 0, .slice none 0 0, .slice none 0 0] 26)).alloc (.cells #[.int .i64 k, .string ⟨#[]⟩, .int .i64 0, .bool false, .slice none 0 0, .slice none 0 0, .slice none 0 0] 26)).heap[w.heap.size + 1]? = some (.cells #[.int .i64 k, .string ⟨#[]⟩, .int .i64 0, .bool false, .slice none 0 0, .slice none 0 0, .slice none 0 0] 26 (0, 0)) := by
    have := heap_new (w.alloc (.cells #[.int .i64 0, .string ⟨#[]⟩, .int .i64 0, .bool false, .slice none 0 0, .slice none 0 0, .slice none 0 0] 26)) (.cells #[.int .i64 k, .string ⟨#[]⟩, .int .i64 0, .bool false, .slice none 0 0, .slice none 0 0, .slice none 0 0] 26)
    simpa using this
  have HT : Hid (SlT (fun b => B b ∧ b < w.heap.size) ((w.alloc (.cells #[.int .i64 0, .string ⟨#[]⟩, .int .i64 0, .bool false, .slice none 0 0, .slice none 0 0, .slice none 0 0] 26)).alloc (.cells #[.int .i64 k, .string ⟨#[]⟩, .int .i64 0, .bool false, .slice none 0 0, .slice none 0 0, .slice none 0 0] 26)) (.slice a n c) ks) := (h.with (fun b h1 h2 => ⟨h2, h1⟩)).kept hb2
  have HB2 : Hid (Below w.heap.size w ((w.alloc (.cells #[.int .i64 0, .string ⟨#[]⟩, .int .i64 0, .bool false, .slice none 0 0, .slice none 0 0, .slice none 0 0] 26)).alloc (.cells #[.int .i64 k, .string ⟨#[]⟩, .int .i64 0, .bool false, .slice none 0 0, .slice none 0 0, .slice none 0 0] 26))) := hb2
  have HN1 : Hid (((w.alloc (.cells #[.int .i64 0, .string ⟨#[]⟩, .int .i64 0, .bool false, .slice none 0 0, .slice none 0 0, .slice none 0 0] 26)).alloc (.cells #[.int .i64 k, .string ⟨#[]⟩, .int .i64 0, .bool false, .slice none 0 0, .slice none 0 0, .slice none 0 0] 26)).heap[w.heap.size]? = some (.cells #[.int .i64 0, .string ⟨#[]⟩, .int .i64 0, .bool false, .slice none 0 0, .slice none 0 0, .slice none 0 0] 26 (0, 0))) := hn1
  have HN2 : Hid (((w.alloc (.cells #[.int .i64 0, .string ⟨#[]⟩, .int .i64 0, .bool false, .slice none 0 0, .slice none 0 0, .slice none 0 0] 26)).alloc (.cells #[.int .i64 k, .string ⟨#[]⟩, .int .i64 0, .bool false, .slice none 0 0, .slice none 0 0, .slice none 0 0] 26)).heap[w.heap.size + 1]? = some (.cells #[.int .i64 k, .string ⟨#[]⟩, .int .i64 0, .bool false, .slice none 0 0, .slice none 0 0, .slice none 0 0] 26 (0, 0))) := hn2
  have HNK : Hid (n = ks.length) := hnk
  have HLN : Hid (n * 112 ≤ 140737488355328) := hn
  clear h e0 hlen hb2 hn1 hn2 hnk hn
  by_cases h13 : k = 13
  · subst h13
    have HMK : Hid (mkT 13 ks = .mk 13 ⟨#[]⟩ (n : Int) false [] [] ks) := by show _ = _; rw [HNK.out]; rfl
    go_enter Try.func21, Try.ntmps21
    go_wp2_with (at_builtin; refine wp_appT (by rfl) _ _ (by rfl) (fun b => B b ∧ b < w.heap.size) (a2 := a) (n2 := n) (c2 := c) (l2 := ks) (by rfl) (by rfl) HT.out HLN.out ?_; intro a4 c4 w4 hr4 hb4; have HR4 : Hid (RowT (((w.alloc (.cells #[.int .i64 0, .string ⟨#[]⟩, .int .i64 0, .bool false, .slice none 0 0, .slice none 0 0, .slice none 0 0] 26)).alloc (.cells #[.int .i64 13, .string ⟨#[]⟩, .int .i64 0, .bool false, .slice none 0 0, .slice none 0 0, .slice none 0 0] 26))).heap.size (fun b => (B b ∧ b < w.heap.size) ∧ b < (((w.alloc (.cells #[.int .i64 0, .string ⟨#[]⟩, .int .i64 0, .bool false, .slice none 0 0, .slice none 0 0, .slice none 0 0] 26)).alloc (.cells #[.int .i64 13, .string ⟨#[]⟩, .int .i64 0, .bool false, .slice none 0 0, .slice none 0 0, .slice none 0 0] 26))).heap.size) w4 (.slice a4 n c4) ks) := hr4; have HB4 : Hid (Below (((w.alloc (.cells #[.int .i64 0, .string ⟨#[]⟩, .int .i64 0, .bool false, .slice none 0 0, .slice none 0 0, .slice none 0 0] 26)).alloc (.cells #[.int .i64 13, .string ⟨#[]⟩, .int .i64 0, .bool false, .slice none 0 0, .slice none 0 0, .slice none 0 0] 26))).heap.size (((w.alloc (.cells #[.int .i64 0, .string ⟨#[]⟩, .int .i64 0, .bool false, .slice none 0 0, .slice none 0 0, .slice none 0 0] 26)).alloc (.cells #[.int .i64 13, .string ⟨#[]⟩, .int .i64 0, .bool false, .slice none 0 0, .slice none 0 0, .slice none 0 0] 26))) w4) := hb4; have hm1 := blk_kept hb4 HN1.out; have hm2 := blk_kept hb4 HN2.out; obtain ⟨s0, s1, s2, s3, s4, s5, s6⟩ := bx7 hm1; obtain ⟨f0, f1, f2, f3, f4, f5, f6⟩ := bx7f hm1; obtain ⟨t0, t1, t2, t3, t4, t5, t6⟩ := bx7 hm2; obtain ⟨g0, g1, g2, g3, g4, g5, g6⟩ := bx7f hm2; have hzz := hb4.size; clear hr4 hb4 hm1 hm2)
    have HB4w : Hid (Below w.heap.size w w4) := bthen HB2.out HB4.out
    have hkk : Kx (· = w.heap.size + 1) w4 ((w4.setCell ⟨w.heap.size + 1, 6, none⟩ (.slice a4 n c4)).setCell ⟨w.heap.size + 1, 2, none⟩ (.int .i64 (n : Int))) := kx_set.trans kx_set
    have hm1 : ((w4.setCell ⟨w.heap.size + 1, 6, none⟩ (.slice a4 n c4)).setCell ⟨w.heap.size + 1, 2, none⟩ (.int .i64 (n : Int))).heap[w.heap.size]? = some (.cells #[.int .i64 0, .string ⟨#[]⟩, .int .i64 0, .bool false, .slice none 0 0, .slice none 0 0, .slice none 0 0] 26 (0, 0)) := hkk.keep _ _ (blk_kept HB4.out HN1.out) (by omega)
    have hbe : Below w.heap.size w ((w4.setCell ⟨w.heap.size + 1, 6, none⟩ (.slice a4 n c4)).setCell ⟨w.heap.size + 1, 2, none⟩ (.int .i64 (n : Int))) := below_kx1 HB4w.out hkk (by omega)
    have hsl : SlT (fun b => (B b ∧ b < w.heap.size) ∨ w.heap.size + 2 ≤ b) w4 (.slice a4 n c4) ks := HR4.out.read (by have := HNK.out; omega) (fun b _ h => .inl h.1) (fun b _ h => .inr (by simpa using h))
    refine bodyPost_ret (v := .agg #[.int .i64 13, .string ⟨#[]⟩, .int .i64 (n : Int), .bool false, .slice none 0 0, .slice none 0 0, .slice a4 n c4]) (results_cell rfl rfl (resT (bx7_set hm1))) rfl ?_
    refine ⟨below_kx1 hbe kx_set7 (Nat.le_refl _), .slice none 0 0, .slice none 0 0, .slice a4 n c4, ?_, ⟨.inl ⟨_, _, rfl, rfl⟩, .inl ⟨_, _, rfl, rfl⟩, ?_⟩⟩
    · rw [HMK.out]; rfl
    · exact (hsl.to hkk (fun _ _ h => h) (fun b _ h e => by rcases h with h | h <;> omega)).to kx_set7 (fun b _ h => by rcases h with h | h; exact .inl h; exact .inr (by omega)) (fun b _ h e => by rcases h with h | h <;> omega)
  · have HMK : Hid (mkT k ks = .mk k ⟨#[]⟩ 0 false [] [] ks) := by show _ = _; unfold mkT; rw [if_neg h13]
    go_enter Try.func21, Try.ntmps21
    go_wp2_with (at_builtin; refine wp_appT (by rfl) _ _ (by rfl) (fun b => B b ∧ b < w.heap.size) (a2 := a) (n2 := n) (c2 := c) (l2 := ks) (by rfl) (by rfl) HT.out HLN.out ?_; intro a4 c4 w4 hr4 hb4; have HR4 : Hid (RowT (((w.alloc (.cells #[.int .i64 0, .string ⟨#[]⟩, .int .i64 0, .bool false, .slice none 0 0, .slice none 0 0, .slice none 0 0] 26)).alloc (.cells #[.int .i64 k, .string ⟨#[]⟩, .int .i64 0, .bool false, .slice none 0 0, .slice none 0 0, .slice none 0 0] 26))).heap.size (fun b => (B b ∧ b < w.heap.size) ∧ b < (((w.alloc (.cells #[.int .i64 0, .string ⟨#[]⟩, .int .i64 0, .bool false, .slice none 0 0, .slice none 0 0, .slice none 0 0] 26)).alloc (.cells #[.int .i64 k, .string ⟨#[]⟩, .int .i64 0, .bool false, .slice none 0 0, .slice none 0 0, .slice none 0 0] 26))).heap.size) w4 (.slice a4 n c4) ks) := hr4; have HB4 : Hid (Below (((w.alloc (.cells #[.int .i64 0, .string ⟨#[]⟩, .int .i64 0, .bool false, .slice none 0 0, .slice none 0 0, .slice none 0 0] 26)).alloc (.cells #[.int .i64 k, .string ⟨#[]⟩, .int .i64 0, .bool false, .slice none 0 0, .slice none 0 0, .slice none 0 0] 26))).heap.size (((w.alloc (.cells #[.int .i64 0, .string ⟨#[]⟩, .int .i64 0, .bool false, .slice none 0 0, .slice none 0 0, .slice none 0 0] 26)).alloc (.cells #[.int .i64 k, .string ⟨#[]⟩, .int .i64 0, .bool false, .slice none 0 0, .slice none 0 0, .slice none 0 0] 26))) w4) := hb4; have hm1 := blk_kept hb4 HN1.out; have hm2 := blk_kept hb4 HN2.out; obtain ⟨s0, s1, s2, s3, s4, s5, s6⟩ := bx7 hm1; obtain ⟨f0, f1, f2, f3, f4, f5, f6⟩ := bx7f hm1; obtain ⟨t0, t1, t2, t3, t4, t5, t6⟩ := bx7 hm2; obtain ⟨g0, g1, g2, g3, g4, g5, g6⟩ := bx7f hm2; have hzz := hb4.size; clear hr4 hb4 hm1 hm2)
    have HB4w : Hid (Below w.heap.size w w4) := bthen HB2.out HB4.out
    have hkk : Kx (· = w.heap.size + 1) w4 (w4.setCell ⟨w.heap.size + 1, 6, none⟩ (.slice a4 n c4)) := kx_set
    have hm1 : (w4.setCell ⟨w.heap.size + 1, 6, none⟩ (.slice a4 n c4)).heap[w.heap.size]? = some (.cells #[.int .i64 0, .string ⟨#[]⟩, .int .i64 0, .bool false, .slice none 0 0, .slice none 0 0, .slice none 0 0] 26 (0, 0)) := hkk.keep _ _ (blk_kept HB4.out HN1.out) (by omega)
    have hbe : Below w.heap.size w (w4.setCell ⟨w.heap.size + 1, 6, none⟩ (.slice a4 n c4)) := below_kx1 HB4w.out hkk (by omega)
    have hsl : SlT (fun b => (B b ∧ b < w.heap.size) ∨ w.heap.size + 2 ≤ b) w4 (.slice a4 n c4) ks := HR4.out.read (by have := HNK.out; omega) (fun b _ h => .inl h.1) (fun b _ h => .inr (by simpa using h))
    refine bodyPost_ret (v := .agg #[.int .i64 k, .string ⟨#[]⟩, .int .i64 0, .bool false, .slice none 0 0, .slice none 0 0, .slice a4 n c4]) (results_cell rfl rfl (resT (bx7_set hm1))) rfl ?_
    refine ⟨below_kx1 hbe kx_set7 (Nat.le_refl _), .slice none 0 0, .slice none 0 0, .slice a4 n c4, ?_, ⟨.inl ⟨_, _, rfl, rfl⟩, .inl ⟨_, _, rfl, rfl⟩, ?_⟩⟩
    · rw [HMK.out]; rfl
    · exact (hsl.to hkk (fun _ _ h => h) (fun b _ h e => by rcases h with h | h <;> omega)).to kx_set7 (fun b _ h => by rcases h with h | h; exact .inl h; exact .inr (by omega)) (fun b _ h e => by rcases h with h | h <;> omega)
end Go.Proofs.Ytifcikhgbafegaa
