/-
  The document's all and Tags, walked.
-/
import Derived.Test.YtleiohccaagalaaRfh
import Derived.Test.YtleiohccaagalaaNam
import Derived.Test.YtleiohccaagalaaRfq
namespace Go.Proofs.Ytleiohccaagalaa
open Go.RowKit
attribute [local go_sem ↓] Go.wp_at_zero Go.wp_at_succ
set_option maxRecDepth 100000 in
/-- texts more -/
theorem wp_appS {w : World} {ops : Array Oper} {rest : List Oper} {o : Oper} {a : Act} {Q : Exit → Act → World → Prop} (hgd : o.guard = none) (s x : Operand)
    (ho : o.op = .call { callee := .builtin .append, args := #[s, x], argTypes := #[33, 33] }) (base base2 : Nat) (v v2 : Value) (l l2 : List Bs)
    (hs : a.eval s = v) (hown : SRow w base v l) (hx : a.eval x = v2) (hown2 : SRow w base2 v2 l2) (he : l2 = [] → v2 = .slice none 0 0) (hl : l.length + l2.length ≤ 1000000) (hbase : base ≤ w.heap.size)
    (h : ∀ u w', SRow w' base u (l ++ l2) → w.grownBy w' v.ownBlock → (l2 = [] → u = v) → wpList Try.prog ops Q rest (a.put o.dst u) w') : wpList Try.prog ops Q (o :: rest) a w := by
  obtain ⟨i0, i1, i2, i3, i4⟩ := info9_ex
  by_cases h0 : l2 = []
  · have hv2 := he h0
    subst h0
    refine wpList_plain hgd fun K hK => ?_
    have hrun := run_append_owned_none (P := Try.prog) (w := w) base 33 o.type 9 i0 1 Try.underlying33 i1 v l.length (sv l) hown
    rw [hv2] at hx
    unfold Oper.wp
    have hfin : K (a.put o.dst v) w := hK _ _ (h v w (by rw [List.append_nil]; exact hown) ⟨rfl, rfl, rfl, Nat.le_refl _, fun _ _ _ => rfl⟩ (fun _ => rfl))
    simp [execOp, ho, resolve, invoke, builtin, hs, hx, hrun, Result.andThen, Oper.upon, hfin]
  · have hpos : 0 < l2.length := List.length_pos_iff.2 h0
    obtain ⟨g2, cap2, hv, _, hlt2⟩ := World.ownsRow.form hown2 hpos
    subst hv
    have hc2 := World.ownsRow.cells hown2 (g := g2) rfl
    refine wpList_append_lies w hgd s x 33 ho base 9 i0 _ 1 16 Try.underlying33 i1 i2 i3 i4 rfl (by omega) v l.length (sv l) hs hown ⟨g2, 0, none⟩ l2.length cap2 (sv l2) hx (by rw [sv_len]; omega) hc2 (by simp [sv, Value.oneCell']) hpos (by unfold maxLen; omega) (by omega) hbase w.heap.size rfl ?_
    intro g cap w' hown' hgrow _ hlt
    refine h _ w' ?_ hgrow (fun h => absurd h h0)
    simp only [SRow, List.length_append]
    rw [show sv (l ++ l2) = sv l ++ sv l2 by simp [sv]]
    exact hown'
theorem allL_len_mem {l : List Rl} {i : Nat} (hi : i < l.length) : (allL (l.take i)).length + (l[i]).all.length ≤ (allL l).length := by
  have h : l = l.take i ++ l[i] :: l.drop (i + 1) := by rw [← List.drop_eq_getElem_cons hi, List.take_append_drop]
  have h2 : allL l = allL (l.take i) ++ allL (l[i] :: l.drop (i + 1)) := by rw [← allL_append, ← h]
  rw [h2]
  simp [allL]
/-- where the loop of all stands -/
structure LAl (W0 wr : World) (u : Value) (l : List Bs) : Prop where
  bl : Below W0.heap.size W0 wr
  row : SRow wr W0.heap.size u l
  non : l = [] → u = .slice none 0 0
set_option maxRecDepth 100000 in
set_option maxHeartbeats 8000000 in
theorem rall_any (Q : BP) : ∀ x : Rl, x.all.length ≤ 1000000 → ∀ (w : World) (v : Value), SlV Q w v x.kids → Calls Try.prog 30 #[.agg #[.int .i64 x.kind, .string (bs x.tag), v]] w (NamQ w x.all) := by
  refine Rl.ind fun k t ks ih hcn w v hv => ?_
  simp only [Rl.kind, Rl.tag, Rl.kids] at hv ⊢
  have hall : (Rl.mk k t ks).all = (if k = 1 then [t] else []) ++ allL ks := by rw [Rl.all]
  rw [hall] at hcn ⊢
  rw [List.length_append] at hcn
  have HI : Hid (∀ (i : Nat) (hi : i < ks.length) (w : World) (v : Value), SlV Q w v (ks[i]).kids → Calls Try.prog 30 #[.agg #[.int .i64 (ks[i]).kind, .string (bs (ks[i]).tag), v]] w (NamQ w (ks[i]).all)) := fun i hi w v hv => ih _ (List.getElem_mem _) (by have := allL_len_mem hi; omega) w v hv
  clear ih hall
  obtain ⟨va, vc, rfl⟩ := hv.slice
  obtain ⟨W0, hW0⟩ : ∃ W0, W0 = w.alloc (.cells #[.int .i64 k, .string (bs t), .slice va ks.length vc] 29) := ⟨_, rfl⟩
  have hb0 : Below w.heap.size w W0 := by rw [hW0]; exact (Below.refl _ w).alloc (Nat.le_refl _) _
  have HB0 : Hid (Below w.heap.size w W0) := hb0
  have hz0 : w.heap.size ≤ W0.heap.size := hb0.size
  have hzw : w.heap.size < W0.heap.size := by rw [hW0]; simp
  obtain ⟨a0, c0, e0, hlen, hel⟩ := (hv.kept hb0).open
  obtain ⟨rfl, rfl⟩ : va = a0 ∧ vc = c0 := by simpa using e0
  have HEL : Hid (∀ i (hi : i < ks.length), ∃ b o, va = some ⟨b, o, none⟩ ∧ (∃ ob, W0.heap[b]? = some ob ∧ Q b o ob) ∧ (ks[i]).lies Q W0 b (o + i * 3)) := hel
  have HKK : Hid (W0.cell? ⟨w.heap.size, 0, none⟩ = some (.int .i64 k) ∧ W0.cell? ⟨w.heap.size, 1, none⟩ = some (.string (bs t)) ∧ W0.cell? ⟨w.heap.size, 2, none⟩ = some (.slice va ks.length vc)) := by
    obtain ⟨k0, k1, k2, _, _, _⟩ := bx3 (by rw [hW0]; exact heap_new w _ : W0.heap[w.heap.size]? = some (.cells #[.int .i64 k, .string (bs t), .slice va ks.length vc] 29 (0, 0)))
    exact ⟨k0, k1, k2⟩
  clear hv hb0 e0 hel
  obtain ⟨PRE, hPRE⟩ : ∃ P, P = (if k = 1 then [t] else [] : List Bs) := ⟨_, rfl⟩
  rw [← hPRE] at hcn ⊢
  have HCN : Hid (PRE.length + (allL ks).length ≤ 1000000) := hcn
  clear hcn
  by_cases h1 : k = 1
  · have q1 : ((k : Int) == 1) = true := nat_beq (b := 1) h1
    rw [if_pos h1] at hPRE
    have HPE : Hid (PRE = [t]) := hPRE
    clear hPRE h1
    subst hW0
    go_enter Try.func30, Try.ntmps30
    go_wp2_with (at_builtin; refine wp_app1 (by rfl) _ _ (by rfl) (w.heap.size + 1) (.slice none 0 0) [] t (w.heap.size + 1) (by rfl) (SRow.nil _ _) (by rfl) (cell_new2b w _ _ _) (by simp) (by simp) ?_; intro gg cap w9 hown1 hgrow hlt9; have HO9 : Hid (SRow w9 (w.heap.size + 1) (.slice (some ⟨gg, 0, none⟩) 1 cap) [t]) := hown1; have HB9 : Hid (Below (w.heap.size + 1) (w.alloc (.cells #[.int .i64 k, .string (bs t), .slice va ks.length vc] 29)) w9) := (((Below.refl _ _).alloc (by simp) _).grown hgrow (by simp) (fun b hb => by cases hb)); clear hown1 hgrow)
    have HST : Hid (LAl (w.alloc (.cells #[.int .i64 k, .string (bs t), .slice va ks.length vc] 29)) w9 (.slice (some ⟨gg, 0, none⟩) 1 cap) [t]) := ⟨by simpa using HB9.out, by simpa using HO9.out, fun h => by cases h⟩
    clear HO9 HB9
    generalize w.alloc (.cells #[.int .i64 k, .string (bs t), .slice va ks.length vc] 29) = W0 at *
    go_loopg [3, 4] ks.length (fun g u3 u4 wr => ∃ (i : Nat) (l : List Bs) (a : Option Addr) (c : Nat), i ≤ ks.length ∧ ks.length - i ≤ g ∧ u4 = .int .i64 i ∧ u3 = .slice a l.length c ∧ Hid (l = PRE ++ allL (ks.take i) ∧ LAl W0 wr (.slice a l.length c) l))
    case atStart => exact ⟨0, PRE, some ⟨gg, 0, none⟩, cap, Nat.zero_le _, Nat.le_refl _, rfl, by rw [HPE.out]; rfl, by simp [allL], by rw [HPE.out]; exact HST.out⟩
    case round =>
      obtain ⟨i, l, a, c, hi, hg, rfl, rfl, HX⟩ := hrel
      have hbl := HX.out.2.bl
      have x0 := kept_cell hbl HKK.out.1
      have x1 := kept_cell hbl HKK.out.2.1
      have x2 := kept_cell hbl HKK.out.2.2
      have hzr := hbl.size
      by_cases hlt : i < ks.length
      · have z1 : (i : Int) < (ks.length : Int) := by omega
        have z0 : (0 : Int) ≤ (i : Int) := by omega
        obtain ⟨b, o, rfl, _, hli⟩ := HEL.out i hlt
        obtain ⟨e0, e1, vi, e2, hvi⟩ := lies_iff.1 hli
        obtain ⟨ai, ci, rfl⟩ := hvi.slice
        have e0 := kept_cell hbl e0
        have e1 := kept_cell hbl e1
        have e2 := kept_cell hbl e2
        have hc := HI.out i hlt wr _ (hvi.kept hbl)
        have HTK : Hid (allL (ks.take (i + 1)) = allL (ks.take i) ++ (ks[i]).all) := by
          show _ = _
          rw [List.take_succ_eq_append_getElem hlt, allL_append]; simp [allL]
        have HLN : Hid (l.length + (ks[i]).all.length ≤ 1000000) := by
          have h1 := allL_len_mem hlt
          have h2 := HCN.out
          show _ ≤ _
          rw [HX.out.1, List.length_append]; omega
        clear hli hvi hbl
        generalize (ks[i]).all = l2 at *
        generalize (ks[i]).kind = ki at *
        generalize (ks[i]).tag = ti at *
        generalize (ks[i]).kids.length = li at *
        go_wp2_with (first
          | (go_at_call 30; refine hc.mono ?_; intro e w1 hq; obtain ⟨v2, rfl, hr2, hv2⟩ := hq.ex; obtain ⟨a2, n2, rfl⟩ := own_slice hr2; have HB1 : Hid (Below wr.heap.size wr w1) := hq.bl; have hz1 := hq.bl.size; have HR2 : Hid (SRow w1 wr.heap.size (.slice a2 l2.length n2) l2) := hr2; have HV2 : Hid (l2 = [] → Value.slice a2 l2.length n2 = .slice none 0 0) := hv2; clear hq hr2 hv2 hc)
          | (at_builtin; refine wp_appS (by rfl) _ _ (by rfl) W0.heap.size wr.heap.size (.slice a l.length c) (.slice a2 l2.length n2) l l2 (by rfl) (own_whole HX.out.2.row HB1.out) (by rfl) HR2.out HV2.out HLN.out (by omega) ?_; intro u w9 hown9 hgrow hnone; have HN9 : Hid (l ++ l2 = [] → u = .slice none 0 0) := (fun h => by obtain ⟨h1, h2⟩ := List.append_eq_nil_iff.1 h; rw [hnone h2]; exact HX.out.2.non h1); obtain ⟨a9, c9, rfl⟩ := own_slice hown9; have HO9 : Hid (SRow w9 W0.heap.size (.slice a9 (l ++ l2).length c9) (l ++ l2)) := hown9; have HB9 : Hid (Below W0.heap.size W0 w9) := (HX.out.2.bl.trans (HB1.out.mono hzr)).grown hgrow (by omega) (fun b hb => (HX.out.2.row.blk hb).1); clear hown9 hgrow hnone))
        go_roundg (ks.length - (i + 1))
        case measure => omega
        case rel => exact ⟨i + 1, l ++ l2, a9, c9, by omega, Nat.le_refl _, by go_num, by rw [List.length_append], by rw [HTK.out, ← List.append_assoc, ← HX.out.1], HB9.out, HO9.out, HN9.out⟩
      · have z1 : ¬ (i : Int) < (ks.length : Int) := by omega
        go_wp2_with fail
        go_ret
        have he : l = PRE ++ allL ks := by rw [HX.out.1, List.take_of_length_le (by omega)]
        rw [← he]
        exact ⟨HB0.out.trans (HX.out.2.bl.mono hz0), _, rfl, SRow.base HX.out.2.row hz0, HX.out.2.non⟩
  · have q1 : ((k : Int) == 1) = false := nat_bne (b := 1) h1
    rw [if_neg h1] at hPRE
    have HPE : Hid (PRE = []) := hPRE
    clear hPRE h1
    have HST : Hid (LAl W0 W0 (.slice none 0 0) []) := ⟨Below.refl _ _, SRow.nil _ _, fun _ => rfl⟩
    subst hW0
    go_enter Try.func30, Try.ntmps30
    go_wp2_with fail
    generalize w.alloc (.cells #[.int .i64 k, .string (bs t), .slice va ks.length vc] 29) = W0 at *
    go_loopg [3, 4] ks.length (fun g u3 u4 wr => ∃ (i : Nat) (l : List Bs) (a : Option Addr) (c : Nat), i ≤ ks.length ∧ ks.length - i ≤ g ∧ u4 = .int .i64 i ∧ u3 = .slice a l.length c ∧ Hid (l = PRE ++ allL (ks.take i) ∧ LAl W0 wr (.slice a l.length c) l))
    case atStart => exact ⟨0, PRE, none, 0, Nat.zero_le _, Nat.le_refl _, rfl, by rw [HPE.out]; rfl, by simp [allL], by rw [HPE.out]; exact HST.out⟩
    case round =>
      obtain ⟨i, l, a, c, hi, hg, rfl, rfl, HX⟩ := hrel
      have hbl := HX.out.2.bl
      have x0 := kept_cell hbl HKK.out.1
      have x1 := kept_cell hbl HKK.out.2.1
      have x2 := kept_cell hbl HKK.out.2.2
      have hzr := hbl.size
      by_cases hlt : i < ks.length
      · have z1 : (i : Int) < (ks.length : Int) := by omega
        have z0 : (0 : Int) ≤ (i : Int) := by omega
        obtain ⟨b, o, rfl, _, hli⟩ := HEL.out i hlt
        obtain ⟨e0, e1, vi, e2, hvi⟩ := lies_iff.1 hli
        obtain ⟨ai, ci, rfl⟩ := hvi.slice
        have e0 := kept_cell hbl e0
        have e1 := kept_cell hbl e1
        have e2 := kept_cell hbl e2
        have hc := HI.out i hlt wr _ (hvi.kept hbl)
        have HTK : Hid (allL (ks.take (i + 1)) = allL (ks.take i) ++ (ks[i]).all) := by
          show _ = _
          rw [List.take_succ_eq_append_getElem hlt, allL_append]; simp [allL]
        have HLN : Hid (l.length + (ks[i]).all.length ≤ 1000000) := by
          have h1 := allL_len_mem hlt
          have h2 := HCN.out
          show _ ≤ _
          rw [HX.out.1, List.length_append]; omega
        clear hli hvi hbl
        generalize (ks[i]).all = l2 at *
        generalize (ks[i]).kind = ki at *
        generalize (ks[i]).tag = ti at *
        generalize (ks[i]).kids.length = li at *
        go_wp2_with (first
          | (go_at_call 30; refine hc.mono ?_; intro e w1 hq; obtain ⟨v2, rfl, hr2, hv2⟩ := hq.ex; obtain ⟨a2, n2, rfl⟩ := own_slice hr2; have HB1 : Hid (Below wr.heap.size wr w1) := hq.bl; have hz1 := hq.bl.size; have HR2 : Hid (SRow w1 wr.heap.size (.slice a2 l2.length n2) l2) := hr2; have HV2 : Hid (l2 = [] → Value.slice a2 l2.length n2 = .slice none 0 0) := hv2; clear hq hr2 hv2 hc)
          | (at_builtin; refine wp_appS (by rfl) _ _ (by rfl) W0.heap.size wr.heap.size (.slice a l.length c) (.slice a2 l2.length n2) l l2 (by rfl) (own_whole HX.out.2.row HB1.out) (by rfl) HR2.out HV2.out HLN.out (by omega) ?_; intro u w9 hown9 hgrow hnone; have HN9 : Hid (l ++ l2 = [] → u = .slice none 0 0) := (fun h => by obtain ⟨h1, h2⟩ := List.append_eq_nil_iff.1 h; rw [hnone h2]; exact HX.out.2.non h1); obtain ⟨a9, c9, rfl⟩ := own_slice hown9; have HO9 : Hid (SRow w9 W0.heap.size (.slice a9 (l ++ l2).length c9) (l ++ l2)) := hown9; have HB9 : Hid (Below W0.heap.size W0 w9) := (HX.out.2.bl.trans (HB1.out.mono hzr)).grown hgrow (by omega) (fun b hb => (HX.out.2.row.blk hb).1); clear hown9 hgrow hnone))
        go_roundg (ks.length - (i + 1))
        case measure => omega
        case rel => exact ⟨i + 1, l ++ l2, a9, c9, by omega, Nat.le_refl _, by go_num, by rw [List.length_append], by rw [HTK.out, ← List.append_assoc, ← HX.out.1], HB9.out, HO9.out, HN9.out⟩
      · have z1 : ¬ (i : Int) < (ks.length : Int) := by omega
        go_wp2_with fail
        go_ret
        have he : l = PRE ++ allL ks := by rw [HX.out.1, List.take_of_length_le (by omega)]
        rw [← he]
        exact ⟨HB0.out.trans (HX.out.2.bl.mono hz0), _, rfl, SRow.base HX.out.2.row hz0, HX.out.2.non⟩
set_option maxRecDepth 100000 in
set_option maxHeartbeats 2000000 in
theorem rtags_any (Q : BP) (x : Rl) (hx : x.all.length ≤ 1000000) (w : World) (v : Value) (hv : SlV Q w v x.kids) : Calls Try.prog 13 #[.agg #[.int .i64 x.kind, .string (bs x.tag), v]] w (EoQ w (eo x.all)) := by
  obtain ⟨va, vc, rfl⟩ := hv.slice
  have hb0 : Below w.heap.size w (w.alloc (.cells #[.int .i64 x.kind, .string (bs x.tag), .slice va x.kids.length vc] 29)) := (Below.refl _ w).alloc (Nat.le_refl _) _
  have hc := rall_any Q x hx _ _ (hv.kept hb0)
  have HX : Hid (x.all.length ≤ 1000000) := hx
  have HB0 : Hid (Below w.heap.size w (w.alloc (.cells #[.int .i64 x.kind, .string (bs x.tag), .slice va x.kids.length vc] 29))) := hb0
  have hz0 := hb0.size
  clear hv hb0 hx
  generalize x.all = l at *
  generalize x.kind = kk at *
  generalize x.kids.length = ll at *
  generalize x.tag = tt at *
  go_enter Try.func13, Try.ntmps13
  go_wp2_with (first
    | (go_at_call 30; refine hc.mono ?_; intro e w1 hq; obtain ⟨v2, rfl, hr2, hv2⟩ := hq.ex; obtain ⟨a2, n2, rfl⟩ := own_slice hr2; have HB1 : Hid (Below w.heap.size w w1) := HB0.out.trans (hq.bl.mono hz0); have hz1 := HB1.out.size; have hs := rsorted_any (SRow.txv hr2) HX.out; clear hq hr2 hv2 hc)
    | (go_at_call 29; refine hs.mono ?_; intro e w2 hq; obtain ⟨a3, c3, rfl, hr3⟩ := hq.ex; have HB2 : Hid (Below w.heap.size w w2) := HB1.out.trans (hq.bl.mono hz1); have HR3 : Hid (SRow w2 w1.heap.size (.slice a3 (eo l).length c3) (eo l)) := hr3; clear hq hr3 hs))
  go_ret
  exact ⟨HB2.out, a3, c3, rfl, SRow.base HR3.out hz1⟩
end Go.Proofs.Ytleiohccaagalaa
