/-
  TagsHold, walked.
-/
import Derived.Test.YtleiohccaagalaaLaw
import Derived.Test.YtleiohccaagalaaFew
import Derived.Test.YtleiohccaagalaaRul2
import Derived.Test.YtleiohccaagalaaPd
import Derived.Test.YtleiohccaagalaaRfa
import Derived.Test.YtleiohccaagalaaRgf
namespace Go.Proofs.Ytleiohccaagalaa
open Go.RowKit Go.Sort
attribute [local go_sem ↓] Go.wp_at_zero Go.wp_at_succ
set_option maxRecDepth 100000 in
/-- texts put behind nothing -/
theorem wp_appN {w : World} {ops : Array Oper} {rest : List Oper} {o : Oper} {a : Act} {Q : Exit → Act → World → Prop} (hgd : o.guard = none) (s x : Operand)
    (ho : o.op = .call { callee := .builtin .append, args := #[s, x], argTypes := #[33, 33] }) {a2 : Option Addr} {n2 c2 : Nat} {l2 : List Bs}
    (hs : a.eval s = .slice none 0 0) (hx : a.eval x = .slice a2 n2 c2) (hT : TxV w a2 n2 c2 l2) (hl : n2 * 16 ≤ 140737488355328)
    (h : ∀ a3 c3 w', TxV w' a3 n2 c3 l2 → Below w.heap.size w w' → wpList Try.prog ops Q rest (a.put o.dst (.slice a3 n2 c3)) w') : wpList Try.prog ops Q (o :: rest) a w := by
  obtain ⟨i0, i1, i2, i3, i4⟩ := info9_ex
  by_cases h0 : l2 = []
  · have hn : n2 = 0 := by rw [hT.len, h0]; rfl
    subst hn h0
    refine wpList_plain hgd fun K hK => ?_
    have hrun : (Builtin.append_ #[33, 33] o.type #[.slice none 0 0, .slice a2 0 c2]).run Try.prog w = .ok (.slice none 0 0) w := by
      cases a2 <;> simp [Builtin.append_, run_underlying Try.underlying33, sizeOf, typeInfo, i1, Builtin.lenOf, Builtin.firstCells, loadCells, loadCellsFrom]
    unfold Oper.wp
    have hfin : K (a.put o.dst (.slice none 0 0)) w := hK _ _ (h none 0 w ⟨rfl, Nat.le_refl _, .inl ⟨rfl, rfl⟩⟩ (Below.refl _ _))
    simp [execOp, ho, resolve, invoke, builtin, hs, hx, hrun, Result.andThen, Oper.upon, hfin]
  · have hpos : 0 < l2.length := List.length_pos_iff.2 h0
    rcases hT.at_ with ⟨_, e⟩ | ⟨g2, o2, rfl, hc2⟩
    · exact absurd e h0
    · obtain rfl := hT.len
      refine wpList_append_lies w hgd s x 33 ho w.heap.size 9 i0 _ 1 16 Try.underlying33 i1 i2 i3 i4 rfl (by omega) (.slice none 0 0) 0 [] hs (World.ownsRow_nil _ _ _ _) ⟨g2, o2, none⟩ l2.length c2 (sv l2) hx (by rw [sv_len]; omega) ?_ (by simp [sv, Value.oneCell']) hpos (by unfold maxLen; omega) (by omega) (Nat.le_refl _) w.heap.size rfl ?_
      · intro j u hj
        rw [Addr.add_lit]
        simp only [sv, List.getElem?_map, Option.map_eq_some_iff] at hj
        obtain ⟨t, ht, rfl⟩ := hj
        exact hc2 j t ht
      · intro g cap w' hown' hgrow _ hlt
        rw [Nat.zero_add, List.nil_append] at hown'
        rw [Nat.zero_add]
        exact h _ _ w' (SRow.txv hown') ((Below.refl _ w).grown hgrow (Nat.le_refl _) (fun b hb => by cases hb))
set_option maxRecDepth 100000 in
set_option maxHeartbeats 4000000 in
theorem holdlaw_in (S : ByteArray) {a : Option Addr} {n c : Nat} {l : List Bs} (w : World) (hS : S.size ≤ 600) (hT : TxV w a n c l) (hn : n * 16 ≤ 140737488355328) (hM : Mx w) {p : Pt} (hp : readR S.data.toList = some p) : Calls Try.prog 4 #[.string S, .slice a n c] w fun e w' => e = .returned (.bool true) ∧ Below w.heap.size w w' := by
  have hf := few_any hT (by omega)
  have h1 := Read_any S w (by omega) hM
  have h2 := fun W => rread_any S W (by omega)
  rw [hp] at h1 h2
  have HA : Hid (∀ W, Below w.heap.size w W → Calls Try.prog 8 #[] W fun e w' => e = .returned (.bool true) ∧ Below W.heap.size W w') := fun W h => awake_any W (hM.below hM.lt h)
  have HH : Hid (∀ W v a3 c3, RuleV W v p → TxV W a3 n c3 l → Calls Try.prog 17 #[v, .slice a3 n c3] W fun e w' => e = .returned (.bool (p.holds l)) ∧ Below W.heap.size W w') := fun W v a3 c3 hr ht => Holds_any hr ht (by omega)
  have HRH : Hid (∀ (Q : BP) W v, SlV Q W v (nf p).kids → TxV W a n c l → Calls Try.prog 18 #[.agg #[.int .i64 (nf p).kind, .string (bs (nf p).tag), v], .slice a n c] W fun e w' => e = .returned (.bool (p.holds l)) ∧ Below W.heap.size W w') := fun Q W v hv ht => by
    have := rholds_any Q a n c l (by omega) (nf p) (nf_wf p) W v hv ht
    rwa [nf_hold] at this
  have HT : Hid (TxV w a n c l) := hT
  have hn9 : n ≤ 9223372036854775807 := by omega
  have HN : Hid (n * 16 ≤ 140737488355328) := hn
  have kS : ¬ (600 : Int) < (S.size : Int) := by omega
  clear hM hp hS hT hn
  generalize p.holds l = B at *
  go_enter Try.func4, Try.ntmps4
  go_wp2_with (go_at_call 16; refine hf.mono ?_; intro e w1 hq; obtain ⟨b, rfl⟩ := hq.ex; obtain rfl := hq.same.symm; clear hq hf; cases b)
  · refine (HA.out _ (Below.refl _ _)).mono ?_
    rintro e w2 ⟨rfl, hb2⟩
    go_wp2_with fail
    go_ret
    exact ⟨rfl, hb2⟩
  · go_wp2_with (first
    | (go_at_call 9; refine h1.mono ?_; intro e w1 hq; obtain ⟨b1, rfl, hbz, hru⟩ := hq.yes _ rfl; have HB1 : Hid (Below w.heap.size w w1) := hq.bl; have HU1 : Hid (RuleV w1 (.pointer (some ⟨b1, 0, none⟩)) p) := .inr ⟨b1, rfl, hru⟩; have hz1 := hq.bl.size; clear hq h1 hru hbz)
    | (go_at_call 10; refine (h2 _).mono ?_; intro e w2 hq; obtain ⟨va, vc, rfl, hv⟩ := hq.yes _ rfl; have HB2 : Hid (Below w.heap.size w w2) := HB1.out.trans (hq.bl.mono hz1); have HU2 : Hid (RuleV w2 (.pointer (some ⟨b1, 0, none⟩)) p) := RuleV.whole HU1.out hq.bl; have HV2 : Hid (SlV (Bf w1.heap.size) w2 (.slice va (nf p).kids.length vc) (nf p).kids) := hv; have hz2 := HB2.out.size; clear hq h2 hv)
    | (at_builtin; refine wp_appN (by rfl) _ _ (by rfl) (a2 := a) (n2 := n) (c2 := c) (l2 := l) (by rfl) (by rfl) (HT.out.whole (HB2.out.trans ((below_alloc w2 _).mono hz2))) HN.out ?_; intro a4 c4 w4 ht4 hb4; have HT4 : Hid (TxV w4 a4 n c4 l) := ht4; have hb24 : Below w2.heap.size w2 w4 := (below_alloc w2 _).trans (hb4.mono (by simp)); have HB4 : Hid (Below w.heap.size w w4) := HB2.out.trans (hb24.mono hz2); have HU4 : Hid (RuleV w4 (.pointer (some ⟨b1, 0, none⟩)) p) := RuleV.whole HU2.out hb24; have HV4 : Hid (SlV (Bf w1.heap.size) w4 (.slice va (nf p).kids.length vc) (nf p).kids) := HV2.out.kept hb24; have hx4 := blk_kept hb4 (heap_new w2 (.cells #[.int .i64 (nf p).kind, .string (bs (nf p).tag), .slice va (nf p).kids.length vc] 29)); obtain ⟨d0, d1, d2, _, _, _⟩ := bx3 hx4; have hz4 := HB4.out.size; clear ht4 hb4 hb24 hx4 HB2 HU2 HV2))
    have HH4 : Hid (∀ W, Below w4.heap.size w4 W → Calls Try.prog 17 #[.pointer (some ⟨b1, 0, none⟩), .slice a4 n c4] W fun e w' => e = .returned (.bool B) ∧ Below W.heap.size W w') := fun W h => HH.out W _ _ _ (RuleV.whole HU4.out h) (HT4.out.whole h)
    have HRH4 : Hid (∀ W, Below w4.heap.size w4 W → Calls Try.prog 18 #[.agg #[.int .i64 (nf p).kind, .string (bs (nf p).tag), .slice va (nf p).kids.length vc], .slice a n c] W fun e w' => e = .returned (.bool B) ∧ Below W.heap.size W w') := fun W h => HRH.out _ W _ (HV4.out.kept h) (HT.out.whole (HB4.out.trans (h.mono hz4)))
    have HX4 : Hid (∀ W, Below w4.heap.size w4 W → Calls Try.prog 11 #[.slice a4 n c4, .slice a n c] W fun e w' => e = .returned (.bool true) ∧ Below W.heap.size W w') := fun W h => by
      have := texts_any (HT4.out.whole h) (HT.out.whole (HB4.out.trans (h.mono hz4))) hn9
      rw [decide_eq_true rfl] at this
      refine this.mono ?_
      rintro e w' ⟨rfl, q, rfl⟩
      exact ⟨rfl, below_dn _ _⟩
    have HA4 : Hid (∀ W, Below w4.heap.size w4 W → Calls Try.prog 8 #[] W fun e w' => e = .returned (.bool true) ∧ Below W.heap.size W w') := fun W h => HA.out W (HB4.out.trans (h.mono hz4))
    have HKP : Hid (∀ W, Below w4.heap.size w4 W → W.cell? ⟨w2.heap.size, 0, none⟩ = some (.int .i64 (nf p).kind) ∧ W.cell? ⟨w2.heap.size, 1, none⟩ = some (.string (bs (nf p).tag)) ∧ W.cell? ⟨w2.heap.size, 2, none⟩ = some (.slice va (nf p).kids.length vc)) := fun W h => ⟨kept_cell h d0, kept_cell h d1, kept_cell h d2⟩
    clear d0 d1 d2 HH HRH HA HU4 HV4 HT4
    generalize (nf p).kind = K at *
    generalize (nf p).kids.length = N at *
    generalize bs (nf p).tag = T at *
    have kS := HKP.out w4 (Below.refl _ _)
    have kB : (B == B) = true := by simp
    go_region_held3 (fun w' => w'.cell? ⟨w2.heap.size, 0, none⟩ = some (.int .i64 K) ∧ w'.cell? ⟨w2.heap.size, 1, none⟩ = some (.string T) ∧ w'.cell? ⟨w2.heap.size, 2, none⟩ = some (.slice va N vc))
      (first | exact kS | go_keep)
      (first
        | (go_at_call 17; refine (HH4.out _ (below_drew1 _)).mono ?_; rintro e w5 ⟨rfl, hb5⟩; have HB5 : Hid (Below w4.heap.size w4 w5) := (below_drew1 _).trans hb5; have kS := HKP.out w5 HB5.out; have hz5 := HB5.out.size; clear hb5 HH4)
        | (go_at_call 18; refine (HRH4.out _ HB5.out).mono ?_; rintro e w6 ⟨rfl, hb6⟩; have HB6 : Hid (Below w4.heap.size w4 w6) := HB5.out.trans (hb6.mono hz5); have kS := HKP.out w6 HB6.out; have hz6 := HB6.out.size; clear hb6 HRH4)
        | (go_at_call 11; refine (HX4.out _ HB6.out).mono ?_; rintro e w7 ⟨rfl, hb7⟩; have HB7 : Hid (Below w4.heap.size w4 w7) := HB6.out.trans (hb7.mono hz6); have kS := HKP.out w7 HB7.out; have hz7 := HB7.out.size; clear hb7 HX4)
        | (go_at_call 8; refine (HA4.out _ HB7.out).mono ?_; rintro e w8 ⟨rfl, hb8⟩; have HB8 : Hid (Below w4.heap.size w4 w8) := HB7.out.trans (hb8.mono hz7); have kS := HKP.out w8 HB8.out; clear hb8 HA4))
    all_goals
      go_wp2_with fail
      go_ret
      exact ⟨rfl, HB4.out.trans (HB8.out.mono hz4)⟩
set_option maxRecDepth 100000 in
set_option maxHeartbeats 4000000 in
theorem holdlaw_any (S : ByteArray) {a : Option Addr} {n c : Nat} {l : List Bs} (w : World) (hT : TxV w a n c l) (hn : n * 16 ≤ 140737488355328) (hM : Mx w) : Calls Try.prog 4 #[.string S, .slice a n c] w fun e w' => e = .returned (.bool true) ∧ Below w.heap.size w w' := by
  have HA : Hid (∀ W, Below w.heap.size w W → Calls Try.prog 8 #[] W fun e w' => e = .returned (.bool true) ∧ Below W.heap.size W w') := fun W h => awake_any W (hM.below hM.lt h)
  by_cases hS : S.size ≤ 600
  · cases hp : readR S.data.toList with
    | some p => exact holdlaw_in S w hS hT hn hM hp
    | none =>
      have hf := few_any hT (by omega)
      have h1 := Read_any S w (by omega) hM
      have h2 := fun W => rread_any S W (by omega)
      rw [hp] at h1 h2
      have kS : ¬ (600 : Int) < (S.size : Int) := by omega
      clear hM hp hS hT hn
      go_enter Try.func4, Try.ntmps4
      go_wp2_with (go_at_call 16; refine hf.mono ?_; intro e w1 hq; obtain ⟨b, rfl⟩ := hq.ex; obtain rfl := hq.same.symm; clear hq hf; cases b)
      · refine (HA.out _ (Below.refl _ _)).mono ?_
        rintro e w2 ⟨rfl, hb2⟩
        go_wp2_with fail
        go_ret
        exact ⟨rfl, hb2⟩
      · go_wp2_with (first
        | (go_at_call 9; refine h1.mono ?_; intro e w1 hq; obtain rfl := hq.no rfl; have HB1 : Hid (Below w.heap.size w w1) := hq.bl; have hz1 := hq.bl.size; clear hq h1)
        | (go_at_call 10; refine (h2 _).mono ?_; intro e w2 hq; obtain rfl := hq.no rfl; have HB3 : Hid (Below w.heap.size w (w2.alloc (.cells #[.int .i64 0, .string ⟨#[]⟩, .slice none 0 0] 29))) := (HB1.out.trans (hq.bl.mono hz1)).trans ((below_alloc w2 _).mono (HB1.out.trans (hq.bl.mono hz1)).size); clear hq h2)
        | (go_at_call 8; refine (HA.out _ HB3.out).mono ?_; rintro e w4 ⟨rfl, hb4⟩; have HB4 : Hid (Below w.heap.size w w4) := HB3.out.trans (hb4.mono HB3.out.size); clear hb4))
        go_ret
        exact ⟨rfl, HB4.out⟩
  · have kS : (600 : Int) < (S.size : Int) := by omega
    clear hS hM
    go_enter Try.func4, Try.ntmps4
    go_wp2_with (go_at_call 8; refine (HA.out _ (Below.refl _ _)).mono ?_; rintro e w2 ⟨rfl, hb2⟩)
    go_ret
    exact ⟨rfl, hb2⟩
end Go.Proofs.Ytleiohccaagalaa
