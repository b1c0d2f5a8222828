/-
  Sets, walked.
-/
import Derived.Test.YtleiohccaagalaaTry
namespace Go.Proofs.Ytleiohccaagalaa
open Go.RowKit Go.Sort
attribute [local go_sem ↓] Go.wp_at_zero Go.wp_at_succ
set_option maxRecDepth 100000 in
theorem info33_ex : ∃ i0, Try.prog.info? 33 = some i0 ∧ i0.zero = some (.slice none 0 0) ∧ i0.size = 1 ∧ i0.bytes = 24 := ⟨_, rfl, rfl, rfl, rfl⟩
/-- a row of rows of texts of one's own -/
structure Rw2 (W : World) (base : Nat) (v : Value) (L : List (List Bs)) : Prop where
  ex : ∃ xs, W.ownsRow base 33 1 v L.length xs ∧ ∀ (i : Nat) l, L[i]? = some l → ∃ a c, xs[i]? = some (.slice a l.length c) ∧ SRow W base (.slice a l.length c) l
theorem Rw2.nil (W : World) (base : Nat) : Rw2 W base (.slice none 0 0) [] := ⟨[], World.ownsRow_nil _ _ _ _, fun i l h => by simp at h⟩
theorem Rw2.whole {W W' : World} {base : Nat} {v : Value} {L : List (List Bs)} (h : Rw2 W base v L) (k : Below W.heap.size W W') : Rw2 W' base v L := by
  obtain ⟨xs, h1, h2⟩ := h.ex
  exact ⟨xs, own_whole h1 k, fun i l hl => by obtain ⟨a, c, e, hr⟩ := h2 i l hl; exact ⟨a, c, e, own_whole hr k⟩⟩
theorem Rw2.slice {W : World} {base : Nat} {v : Value} {L : List (List Bs)} (h : Rw2 W base v L) : ∃ a c, v = .slice a L.length c := by
  obtain ⟨xs, h1, _⟩ := h.ex; exact own_slice h1
theorem Rw2.mono {W : World} {base b : Nat} {v : Value} {L : List (List Bs)} (h : Rw2 W base v L) (hb : b ≤ base) : Rw2 W b v L := by
  obtain ⟨xs, h1, h2⟩ := h.ex
  refine ⟨xs, ⟨h1.1, ?_⟩, fun i l hl => by obtain ⟨a, c, e, hr⟩ := h2 i l hl; exact ⟨a, c, e, SRow.base hr hb⟩⟩
  rcases h1.2 with h' | ⟨g, cap, cur, hv, h3, h4⟩
  · exact .inl h'
  · exact .inr ⟨g, cap, cur, hv, Nat.le_trans hb h3, h4⟩
set_option maxRecDepth 100000 in
/-- one row more -/
theorem wp_app2 {w : World} {ops : Array Oper} {rest : List Oper} {o : Oper} {a : Act} {Q : Exit → Act → World → Prop} (hgd : o.guard = none) (s x : Operand)
    (ho : o.op = .call { callee := .builtin .append, args := #[s, x], argTypes := #[42, 42] }) (base : Nat) (v : Value) (L : List (List Bs)) (l : List Bs) (a1 : Option Addr) (c1 b0 : Nat)
    (hs : a.eval s = v) (hown : Rw2 w base v L) (hx : a.eval x = .slice (some ⟨b0, 0, none⟩) 1 1) (hb0 : w.cell? ⟨b0, 0, none⟩ = some (.slice a1 l.length c1)) (hr : SRow w base (.slice a1 l.length c1) l) (hl : L.length ≤ 1000000) (hbase : base ≤ w.heap.size)
    (h : ∀ g cap w', Rw2 w' base (.slice (some ⟨g, 0, none⟩) (L.length + 1) cap) (L ++ [l]) → Kt base w w' → w.grownBy w' v.ownBlock → g < w'.heap.size → wpList Try.prog ops Q rest (a.put o.dst (.slice (some ⟨g, 0, none⟩) (L.length + 1) cap)) w') : wpList Try.prog ops Q (o :: rest) a w := by
  obtain ⟨i0, i1, i2, i3, i4⟩ := info33_ex
  obtain ⟨xs, h1, h2⟩ := hown.ex
  refine wpList_append_lies w hgd s x 42 ho base 33 i0 _ 1 24 Try.underlying42 i1 i2 i3 i4 rfl (by omega) v L.length xs hs h1 ⟨b0, 0, none⟩ 1 1 [.slice a1 l.length c1] hx rfl ?_ (by simp [Value.oneCell']) (by omega) (by unfold maxLen; omega) (by omega) hbase w.heap.size rfl ?_
  · intro j u hj
    cases j with
    | zero => simp at hj; subst hj; simpa [Addr.add] using hb0
    | succ j => simp at hj
  · intro g cap w' hown' hgrow _ hlt
    have hkt : Kt base w w' := ⟨hgrow.os, hgrow.tape, hgrow.output, hgrow.size, fun b hb => hgrow.block b (by omega) (fun e => by have := (h1.lt b e.symm).1; omega), fun b cs fr hb => by
      refine (hgrow.block b (Array.getElem?_eq_some_iff.1 hb).1 (fun e => ?_)).trans hb
      obtain ⟨_, c, hc⟩ := own_blk h1 e.symm
      rw [hb] at hc
      simp at hc⟩
    refine h g cap w' ⟨xs ++ [.slice a1 l.length c1], by simpa using hown', fun i m hm => ?_⟩ hkt hgrow hlt
    have hxl : xs.length = L.length := by have := h1.1; omega
    rcases Nat.lt_or_ge i L.length with hi | hi
    · rw [List.getElem?_append_left hi] at hm
      obtain ⟨a2, c2, e2, r2⟩ := h2 i m hm
      exact ⟨a2, c2, by rw [List.getElem?_append_left (by omega)]; exact e2, SRow.kt r2 hkt⟩
    · rw [List.getElem?_append_right hi] at hm
      have : i - L.length = 0 := by
        rcases Nat.eq_zero_or_pos (i - L.length) with h0 | h0
        · exact h0
        · rw [List.getElem?_eq_none (by simp; omega)] at hm; cases hm
      rw [this] at hm
      simp only [List.getElem?_cons_zero, Option.some.injEq] at hm
      subst hm
      exact ⟨a1, c1, by rw [List.getElem?_append_right (by omega), hxl, this]; rfl, SRow.kt hr hkt⟩
theorem SRow.small {W : World} {b : Nat} {v : Value} {l : List Bs} (h : SRow W b v l) : l.length ≤ 9223372036854775807 := by
  rcases h.2 with ⟨_, h0⟩ | ⟨_, _, _, _, _, _, h3, h4, _⟩
  · omega
  · unfold maxLen at h4; omega
/-- the i-th row of a row of rows -/
theorem Rw2.at {W : World} {base : Nat} {a : Option Addr} {n c : Nat} {L : List (List Bs)} (h : Rw2 W base (.slice a n c) L) {i : Nat} (hi : i < L.length) : ∃ g b d, a = some ⟨g, 0, none⟩ ∧ W.cell? ⟨g, i, none⟩ = some (.slice b (L[i]).length d) ∧ TxV W b (L[i]).length d L[i] ∧ (L[i]).length ≤ 9223372036854775807 := by
  obtain ⟨xs, h1, h2⟩ := h.ex
  obtain ⟨b, d, e, hr⟩ := h2 i L[i] (List.getElem?_eq_getElem hi)
  obtain ⟨g, cap, hv, _⟩ := World.ownsRow.form h1 (by omega)
  simp only [Value.slice.injEq] at hv
  obtain ⟨rfl, _, _⟩ := hv
  refine ⟨g, b, d, rfl, ?_, hr.txv, hr.small⟩
  have := h1.cells (g := g) rfl i _ e
  rw [Go.WideShapes.add_plain] at this
  simpa using this
theorem Rw2.small {W : World} {b : Nat} {v : Value} {L : List (List Bs)} (h : Rw2 W b v L) : L.length ≤ 9223372036854775807 := by
  obtain ⟨xs, h1, _⟩ := h.ex
  rcases h1.2 with ⟨_, h0⟩ | ⟨_, _, _, _, _, _, h3, h4, _⟩
  · omega
  · unfold maxLen at h4; omega
/-- the first m sets -/
def fst (T : List Bs) (m : Nat) : List (List Bs) := (List.range m).map fun j => chs T j T.length
theorem fst_len (T : List Bs) (m : Nat) : (fst T m).length = m := by simp [fst]
theorem fst_succ (T : List Bs) (m : Nat) : fst T (m + 1) = fst T m ++ [chs T m T.length] := by simp [fst, List.range_succ]
/-- the variable out at block B holds the first m sets -/
structure StI (B base : Nat) (T : List Bs) (m : Nat) (W : World) : Prop where
  ex : ∃ a c, W.heap[B]? = some (.cells #[.slice a m c] 42 (0, 0)) ∧ Rw2 W base (.slice a m c) (fst T m)
  bb : base ≤ B
theorem StI.whole {B base : Nat} {T : List Bs} {m : Nat} {W W' : World} (h : StI B base T m W) (k : Below W.heap.size W W') : StI B base T m W' := by
  obtain ⟨a, c, hb, hr⟩ := h.ex
  exact ⟨⟨a, c, blk_kept k hb, hr.whole k⟩, h.bb⟩
theorem Rw2.kt {W W' : World} {n base : Nat} {v : Value} {L : List (List Bs)} (h : Rw2 W base v L) (k : Kt n W W') (hk : ∀ b, v.ownBlock = some b → W'.heap[b]? = W.heap[b]?) : Rw2 W' base v L := by
  obtain ⟨xs, h1, h2⟩ := h.ex
  exact ⟨xs, own_far h1 hk, fun i l hl => by obtain ⟨a, c, e, hr⟩ := h2 i l hl; exact ⟨a, c, e, SRow.kt hr k⟩⟩
theorem kt_set {W : World} {n B o : Nat} {u : Value} {cs : Array Value} {T : TypeId} {fr : Nat × Nat} (hB : W.heap[B]? = some (.cells cs T fr)) (hT : T ≠ 9) (hn : n ≤ B) : Kt n W (W.setCell ⟨B, o, none⟩ u) :=
  ⟨rfl, rfl, rfl, by simp [World.setCell], fun b hb => Below.heap_setCell W ⟨B, o, none⟩ u b (by show b ≠ B; omega), fun b c f hb => by
    refine (Below.heap_setCell W ⟨B, o, none⟩ u b (fun e => ?_)).trans hb
    have e : b = B := e
    rw [e, hB] at hb
    simp at hb
    exact hT hb.2.1⟩
set_option maxRecDepth 100000 in
set_option maxHeartbeats 2000000 in
theorem sets1_any {B base : Nat} {T : List Bs} {m : Nat} {W : World} (h : StI B base T m W) (hm : m ≤ 100000) (hbase : base ≤ W.heap.size) {a' : Option Addr} {c' : Nat} (hr : SRow W base (.slice a' (chs T m T.length).length c') (chs T m T.length)) :
    Calls Try.prog 33 #[.slice a' (chs T m T.length).length c', .pointer (some ⟨B, 0, none⟩)] W fun e w' => e = .returned (.bool true) ∧ Kt base W w' ∧ StI B base T (m + 1) w' := by
  obtain ⟨a, c, hb, hrw⟩ := h.ex
  have hbb := h.bb
  obtain ⟨c0, f0⟩ := bx1 hb
  have hlt : B < W.heap.size := (Array.getElem?_eq_some_iff.1 hb).1
  have HB : Hid (W.heap[B]? = some (.cells #[.slice a m c] 42 (0, 0))) := hb
  have HRW : Hid (Rw2 W base (.slice a m c) (fst T m)) := hrw
  have HR : Hid (SRow W base (.slice a' (chs T m T.length).length c') (chs T m T.length)) := hr
  have HS : Hid (fst T (m + 1) = fst T m ++ [chs T m T.length]) := fst_succ T m
  have hfl := fst_len T m
  clear h hb hrw hr
  generalize chs T m T.length = l at *
  have hNE : ∀ b, (Value.slice a m c).ownBlock = some b → b ≠ B := by
    intro b hb e
    obtain ⟨xs, h1, _⟩ := HRW.out.ex
    obtain ⟨_, cc, hcc⟩ := own_blk h1 hb
    rw [e, HB.out] at hcc
    simp at hcc
  have HNE : Hid _ := hNE
  clear hNE
  go_enter Try.func33, Try.ntmps33
  go_wp2_with (at_builtin; refine wp_app2 (by rfl) _ _ (by rfl) base (.slice a m c) (fst T m) l a' c' W.heap.size (by rfl) (HRW.out.whole ((Below.refl _ _).alloc (Nat.le_refl _) _)) (by rfl) (cell_new _ _ _) (HR.out.alloc _) (by omega) (by simp; omega) ?_; intro gg cap w9 hrw9 hkt9 hgrow hlt9; rw [hfl] at hrw9; have HRW9 : Hid (Rw2 w9 base (.slice (some ⟨gg, 0, none⟩) (m + 1) cap) (fst T m ++ [l])) := hrw9; have HK9 : Hid (Kt base W w9) := (Kt.of ((Below.refl _ _).alloc (Nat.le_refl _) _) hbase).trans hkt9; have hb9 : w9.heap[B]? = some (.cells #[.slice a m c] 42 (0, 0)) := (hgrow.block B (by simp; omega) (fun e => HNE.out B e.symm rfl)).trans ((Below.heap_alloc _ _ _ hlt).trans HB.out); have c9 := (bx1 hb9).1; have f9 := (bx1 hb9).2; have HB9 : Hid (w9.heap[B]? = some (.cells #[.slice a m c] 42 (0, 0))) := hb9; have hz9 := HK9.out.size; clear hrw9 hkt9 hgrow hb9)
  go_ret
  have hne : gg ≠ B := by
    obtain ⟨xs, h1, _⟩ := HRW9.out.ex
    obtain ⟨_, cc, hcc⟩ := own_blk h1 (k := gg) rfl
    intro e
    rw [e, HB9.out] at hcc
    simp at hcc
  have hks := kt_set (u := .slice (some ⟨gg, 0, none⟩) (m + 1) cap) (o := 0) HB9.out (by decide) hbb
  refine ⟨rfl, HK9.out.trans hks, ⟨_, _, bx1_set HB9.out, ?_⟩, hbb⟩
  rw [HS.out]
  exact HRW9.out.kt hks (fun b hb => Below.heap_setCell _ _ _ _ (by
    have : gg = b := Option.some.inj hb
    show b ≠ B; rw [← this]; exact hne))
/-- all sets -/
def sets (T : List Bs) : List (List Bs) := if T.length ≤ 10 then fst T (2 ^ T.length) else []
structure SetQ (w : World) (L : List (List Bs)) (e : Ending) (w' : World) : Prop where
  bl : Below w.heap.size w w'
  ex : ∃ a c, e = .returned (.slice a L.length c) ∧ Rw2 w' w.heap.size (.slice a L.length c) L
theorem call33 : ∀ (args : Array Value) (w : World), (callFunc 33 args).run Try.prog w = .ok (.enter 33 args) w := fun _ _ => by kernel_rfl
set_option maxRecDepth 100000 in
set_option maxHeartbeats 2000000 in
theorem Sets_any {w : World} {a : Option Addr} {n c : Nat} {l : List Bs} (hT : TxV w a n c l) (hn : n ≤ 1000000) : Calls Try.prog 19 #[.slice a n c] w (SetQ w (sets (eo l))) := by
  obtain ⟨W0, hW0⟩ : ∃ W0, W0 = w.alloc (.cells #[.slice none 0 0] 42) := ⟨_, rfl⟩
  have hb0 : Below w.heap.size w W0 := by rw [hW0]; exact (Below.refl _ _).alloc (Nat.le_refl _) _
  have hbx : W0.heap[w.heap.size]? = some (.cells #[.slice none 0 0] 42 (0, 0)) := by rw [hW0]; exact Go.heap_alloc_new _ _
  have h1 := trySets_any (hT.whole hb0) hn w.heap.size hb0.size 33 #[.pointer (some ⟨w.heap.size, 0, none⟩)] call33 (StI w.heap.size w.heap.size (eo l)) (fun _ => False)
    (fun W hb => ⟨⟨none, 0, blk_kept hb hbx, Rw2.nil _ _⟩, Nat.le_refl _⟩) (fun m W W' h hb => h.whole hb)
    (fun m W a' c' h10 hm hz hI hr => by
      refine (sets1_any hI ?_ (Nat.le_trans hb0.size hz) (SRow.base hr hb0.size)).mono ?_
      · have : 2 ^ (eo l).length ≤ 2 ^ 10 := Nat.pow_le_pow_right (by omega) h10
        omega
      · rintro e w' ⟨he, hk, hi⟩
        exact ⟨true, he, hk, fun _ => hi, fun h => by cases h⟩)
  have HB0 : Hid (Below w.heap.size w W0) := hb0
  have HBX : Hid (W0.heap[w.heap.size]? = some (.cells #[.slice none 0 0] 42 (0, 0))) := hbx
  have hlt0 : w.heap.size < W0.heap.size := (Array.getElem?_eq_some_iff.1 hbx).1
  clear hb0 hbx hT
  unfold sets
  generalize eo l = T at *
  by_cases h10 : T.length ≤ 10
  · rw [if_pos h10]
    go_enter Try.func19, Try.ntmps19
    rw [hW0] at h1
    go_wp2_with (go_at_call 32; refine h1.mono ?_; intro e w1 hq; obtain ⟨rfl, hij⟩ := hq.few h10; have hI := hij.resolve_right id; obtain ⟨a1, c1, hb1, hr1⟩ := hI.ex; have c0 := (bx1 hb1).1; have HR1 : Hid _ := hr1; have HK1 : Hid _ := hq.kt; clear hq hij hI hr1 h1 hb1)
    go_ret
    rw [← hW0] at HK1
    refine ⟨HB0.out.trans HK1.out.below, a1, c1, ?_, ?_⟩
    · rw [fst_len]; rfl
    · rw [fst_len]; exact HR1.out
  · rw [if_neg h10]
    go_enter Try.func19, Try.ntmps19
    rw [hW0] at h1
    go_wp2_with (go_at_call 32; refine h1.mono ?_; intro e w1 hq; obtain ⟨rfl, hb1⟩ := hq.many h10; rw [← hW0] at hb1; have c0 := (bx1 (blk_kept hb1 HBX.out)).1; have HB1 : Hid (Below w.heap.size w w1) := HB0.out.trans (hb1.mono (by omega)); clear hq h1 hb1)
    go_ret
    exact ⟨HB1.out, none, 0, rfl, Rw2.nil _ _⟩
end Go.Proofs.Ytleiohccaagalaa
