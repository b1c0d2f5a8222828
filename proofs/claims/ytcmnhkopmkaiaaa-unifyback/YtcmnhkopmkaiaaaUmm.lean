/-
  unify.Match, walked.
-/
import Derived.Test.YtcmnhkopmkaiaaaUmw
import Derived.Test.YtcmnhkopmkaiaaaSbx
import Derived.Test.YtcmnhkopmkaiaaaMka
import Derived.Laws.AppendOwnNone
namespace Go.Proofs.Ytcmnhkopmkaiaaa
open Go.RowKit
attribute [local go_sem ↓] Go.wp_at_zero Go.wp_at_succ
set_option maxRecDepth 100000 in
set_option maxHeartbeats 4000000 in
theorem copied_any {B : BQ} {w : World} {t : Ty} {vn vm vk : Value} (hp : Prt B w t vn vm vk) (hf : Fit t) (hc : t.cnt ≤ 1000000) : Calls Try.prog 16 #[agT t vn vm vk] w (TyQ w (fun b => w.heap.size ≤ b) t) := by
  obtain ⟨an, cn, am, cm, ak, ck, rfl, rfl, rfl⟩ := hp.form
  obtain ⟨W0, hW0⟩ : ∃ W0, W0 = (w.alloc (.cells #[.int .i64 t.kind, .string t.name, .int .i64 t.n, .bool t.flag, .slice an t.names.length cn, .slice am t.marks.length cm, .slice ak t.kids.length ck] 26)).alloc (.cells #[.int .i64 0, .string ⟨#[]⟩, .int .i64 0, .bool false, .slice none 0 0, .slice none 0 0, .slice none 0 0] 26) := ⟨_, rfl⟩
  have hb0 : Below w.heap.size w W0 := by rw [hW0]; exact bthen (below_alloc _ _) (below_alloc _ _)
  have HB0 : Hid (Below w.heap.size w W0) := hb0
  have hz0 : W0.heap.size = w.heap.size + 2 := by rw [hW0]; simp
  have HR : Hid (W0.heap[w.heap.size + 1]? = some (.cells #[.int .i64 0, .string ⟨#[]⟩, .int .i64 0, .bool false, .slice none 0 0, .slice none 0 0, .slice none 0 0] 26 (0, 0))) := by
    show _ = _
    rw [hW0]; exact heap_new2 _ _ _
  have hsb := subst_any (args := []) (aa := none) (la := 0) (ca := 0) (hp.kept hb0) hf hc (.inl ⟨none, 0, rfl, rfl⟩) (fun x hx => by cases hx)
  rw [Ty.sbc_nil] at hsb
  unfold agT at hsb ⊢
  have HZ : Hid (W0.heap.size = w.heap.size + 2) := hz0
  clear hp hf hc hb0 hz0
  subst hW0
  go_enter Try.func16, Try.ntmps16
  go_wp2_with (go_at_call 14; refine hsb.mono ?_; intro e w4 hq; obtain ⟨un, um, uk, rfl, hpr⟩ := hq.ex; obtain ⟨bn, en, bm, em, bk, ek, rfl, rfl, rfl⟩ := hpr.form; have hR4 := blk_kept hq.bl HR.out; obtain ⟨z0, z1, z2, z3, z4, z5, z6⟩ := bx7 hR4; obtain ⟨f0, f1, f2, f3, f4, f5, f6⟩ := bx7f hR4; have HPR : Hid _ := hpr; have HR4 : Hid _ := hR4; have HQB : Hid _ := hq.bl; unfold agT; clear hq hpr hR4 hsb)
  have hk7 := kx_set7 (w := w4) (g := w.heap.size + 1) (a := .int .i64 t.kind) (b := .string t.name) (c := .int .i64 t.n) (d := .bool t.flag) (x := .slice bn t.names.length en) (y := .slice bm t.marks.length em) (z := .slice bk t.kids.length ek)
  have hb4 : Below w.heap.size w w4 := bthen HB0.out HQB.out
  have hzz := HZ.out
  refine bodyPost_ret (v := .agg #[.int .i64 t.kind, .string t.name, .int .i64 t.n, .bool t.flag, .slice bn t.names.length en, .slice bm t.marks.length em, .slice bk t.kids.length ek]) (results_cell rfl rfl (resT (bx7_set HR4.out))) rfl ?_
  exact ⟨below_kx1 hb4 hk7 (by omega), _, _, _, rfl, HPR.out.to hk7 (fun b _ hb => by show w.heap.size ≤ b; omega) (fun b _ hb e => by omega)⟩
theorem reverse_nil {w : World} : Calls Try.prog 29 #[.slice none 0 0] w fun e w' => (∃ v, e = .returned v) ∧ ∃ m, w' = w.drewN m := by
  go_enter Try.func29, Try.ntmps29
  go_wp2_with fail
  go_loopg [2, 3] 0 (fun gh u2 u3 wr => u2 = .int .i64 0 ∧ u3 = .int .i64 (-1) ∧ ∃ m, wr = w.drewN m)
  case atStart => exact ⟨rfl, rfl, 0, rfl⟩
  case round =>
    obtain ⟨rfl, rfl, m, rfl⟩ := hrel
    go_wp2_with fail
    refine bodyPost_end (results_none rfl _ _ _) rfl ?_
    exact ⟨⟨_, rfl⟩, m, rfl⟩
theorem wp_app0 {w : World} {ops : Array Oper} {rest : List Oper} {o : Oper} {a : Act} {Q : Exit → Act → World → Prop} (hgd : o.guard = none) (s x : Operand)
    (ho : o.op = .call { callee := .builtin .append, args := #[s, x], argTypes := #[52, 52] }) {ad : Addr} {c : Nat}
    (hs : a.eval s = .slice (some ad) 0 c) (hx : a.eval x = .slice none 0 0)
    (h : wpList Try.prog ops Q rest (a.put o.dst (.slice (some ad) 0 c)) w) : wpList Try.prog ops Q (o :: rest) a w := by
  obtain ⟨i0, i1, i2, i3, i4⟩ : ∃ i, Try.prog.info? 56 = some i ∧ i.zero = some (.agg #[.pointer none, .pointer none]) ∧ i.size = 2 ∧ i.bytes = 16 := info_parts (by kernel_rfl)
  refine wpList_plain hgd fun K hK => ?_
  have hrun : (Builtin.append_ #[52, 52] o.type #[.slice (some ad) 0 c, .slice none 0 0]).run Try.prog w = .ok (.slice (some ad) 0 c) w := by
    simp [Builtin.append_, run_underlying Try.underlying52, sizeOf, typeInfo, i1, Builtin.lenOf, Builtin.firstCells, loadCells, loadCellsFrom, storeCells]
  unfold Oper.wp
  have hfin : K (a.put o.dst (.slice (some ad) 0 c)) w := hK _ _ h
  simp [execOp, ho, resolve, invoke, builtin, hs, hx, hrun, Result.andThen, Oper.upon, hfin]
set_option maxRecDepth 100000 in
set_option maxHeartbeats 8000000 in
theorem matches_any (E : Nat → Prop) (g og : Nat) (hE : E g) (va : Value) (B B' : BQ) (hB : ∀ b, B b → ¬ E b) (x y : Ty) (xs : List Ty) (w : World) (b o : Nat) (un um uk : Value) (hEw : ∀ b, E b → b < w.heap.size) (hb : ¬ E b) (hx : x.lies B w b o) (hy : Prt B' w y un um uk) (hf : Fit y) (ha : ArgS E g og w va xs) (hcs : ∀ t ∈ xs, t.cnt ≤ 1000000) (hcy : y.cnt ≤ 1000000) (hcx : x.cnt ≤ 1000) :
    Calls Try.prog 17 #[pv ⟨b, o, none⟩, agT y un um uk, va] w (MtQ E g og w va (x.mtc y xs)) := by
  obtain ⟨yan, ycn, yam, ycm, yak, yck, rfl, rfl, rfl⟩ := hy.form
  obtain ⟨a9, c9, rfl, _⟩ := ha.form
  have hb0 : Below w.heap.size w (w.alloc (.cells #[.int .i64 y.kind, .string y.name, .int .i64 y.n, .bool y.flag, .slice yan y.names.length ycn, .slice yam y.marks.length ycm, .slice yak y.kids.length yck] 26)) := below_alloc _ _
  have hcp := copied_any (hy.kept hb0) hf hcy
  have HB0 : Hid (Below w.heap.size w (w.alloc (.cells #[.int .i64 y.kind, .string y.name, .int .i64 y.n, .bool y.flag, .slice yan y.names.length ycn, .slice yam y.marks.length ycm, .slice yak y.kids.length yck] 26))) := hb0
  have HX : Hid (x.lies B w b o) := hx
  have HA : Hid (ArgS E g og w (.slice a9 xs.length c9) xs) := ha
  have HE : Hid (E g ∧ ¬ E b ∧ (∀ b, B b → ¬ E b) ∧ (∀ b, E b → b < w.heap.size)) := ⟨hE, hb, hB, hEw⟩
  have HC : Hid ((∀ t ∈ xs, t.cnt ≤ 1000000) ∧ y.cnt ≤ 1000000 ∧ x.cnt ≤ 1000) := ⟨hcs, hcy, hcx⟩
  unfold agT at hcp ⊢
  clear hx ha hb hE hB hEw hcs hcy hcx hf hb0 hy
  go_enter Try.func17, Try.ntmps17
  go_wp2_with (go_at_call 16; refine hcp.mono ?_; intro e w4 hq; obtain ⟨vn, vm, vk, rfl, hpr⟩ := hq.ex; obtain ⟨bn, en, bm, em, bk, ek, rfl, rfl, rfl⟩ := hpr.form; have HPR : Hid _ := hpr; have HQB : Hid _ := hq.bl; unfold agT; clear hq hpr hcp)
  have hne : w4.heap.size + 1 ≠ w4.heap.size + 1 + 1 := by omega
  go_loopg [9] 1 (fun gh u9 wr => (u9 = .slice (some ⟨w4.heap.size + 1 + 1, 0, none⟩) 1 1 ∧ 1 ≤ gh ∧ wr = ((w4.alloc (.cells #[.int .i64 y.kind, .string y.name, .int .i64 y.n, .bool y.flag, .slice bn y.names.length en, .slice bm y.marks.length em, .slice bk y.kids.length ek] 26)).alloc (.cells #[.slice a9 xs.length c9, .slice none 0 0] 54)).alloc (.cells #[pv ⟨b, o, none⟩, pv ⟨w4.heap.size, 0, none⟩] 56)) ∨ (∃ ad c, u9 = .slice (some ad) 0 c ∧ Hid (Kx (· = g) w wr ∧ ArgS E g og wr (.slice a9 xs.length c9) (x.mtc y xs).2 ∧ (x.mtc y xs).1 = true)))
  case atStart => exact .inl ⟨rfl, Nat.le_refl _, rfl⟩
  case round =>
    rcases hrel with ⟨rfl, hg1, rfl⟩ | ⟨ad, c, rfl, HF⟩
    · obtain ⟨W8, hW8⟩ : ∃ W8, W8 = (((w4.alloc (.cells #[.int .i64 y.kind, .string y.name, .int .i64 y.n, .bool y.flag, .slice bn y.names.length en, .slice bm y.marks.length em, .slice bk y.kids.length ek] 26)).alloc (.cells #[.slice a9 xs.length c9, .slice none 0 0] 54)).alloc (.cells #[pv ⟨b, o, none⟩, pv ⟨w4.heap.size, 0, none⟩] 56)).alloc (.cells #[pv ⟨b, o, none⟩, pv ⟨w4.heap.size, 0, none⟩] 56) := ⟨_, rfl⟩
      have hb48 : Below w4.heap.size w4 W8 := by rw [hW8]; exact bthen (bthen (bthen (below_alloc _ _) (below_alloc _ _)) (below_alloc _ _)) (below_alloc _ _)
      have hbw4 : Below w.heap.size w w4 := bthen HB0.out HQB.out
      have hbw8 : Below w.heap.size w W8 := bthen hbw4 hb48
      have hk0 : W8.heap[w4.heap.size]? = some (.cells #[.int .i64 y.kind, .string y.name, .int .i64 y.n, .bool y.flag, .slice bn y.names.length en, .slice bm y.marks.length em, .slice bk y.kids.length ek] 26 (0, 0)) := by
        rw [hW8]; exact blk_kept (bthen (bthen (below_alloc _ _) (below_alloc _ _)) (below_alloc _ _)) (heap_new _ _)
      have hk1 : W8.heap[w4.heap.size + 1]? = some (.cells #[.slice a9 xs.length c9, .slice none 0 0] 54 (0, 0)) := by
        rw [hW8]; exact blk_kept (bthen (below_alloc _ _) (below_alloc _ _)) (heap_new2 _ _ _)
      have hz4 : w.heap.size + 1 ≤ w4.heap.size := by have := HQB.out.size; simp at this; omega
      have hgw : g < w.heap.size := HE.out.2.2.2 g HE.out.1
      have hnE : ∀ b, w.heap.size ≤ b → ¬ E b := fun b hb h => by have := HE.out.2.2.2 b h; omega
      have hw0 : W8.cell? ⟨w4.heap.size + 1, 0, none⟩ = some (.slice a9 xs.length c9) := cell_of hk1 0
      have hw1 : W8.cell? ⟨w4.heap.size + 1, 1, none⟩ = some (.slice none 0 0) := cell_of hk1 1
      have hly : y.lies (fun b => w.heap.size ≤ b) W8 w4.heap.size 0 := by
        obtain ⟨y0, y1, y2, y3, y4, y5, y6⟩ := bx7 hk0
        exact lies_iff.2 ⟨y0, y1, y2, y3, _, _, _, y4, y5, y6, (HPR.out.kept hb48).with (fun b _ h => by have h' := h; simp at h'; show w.heap.size ≤ b; omega)⟩
      have hmt := mat_any E g og HE.out.1 (w4.heap.size + 1) (hnE _ (by omega)) (.slice a9 xs.length c9) B (fun b => w.heap.size ≤ b) HE.out.2.2.1 hnE x y xs W8 b o w4.heap.size 0 0 (by have := hbw8.size; omega) HE.out.2.1 (hnE _ (by omega)) (lies_to (X := fun _ => False) (Kx.of_whole hbw8) (fun _ _ h => h) (fun _ _ _ h => h) _ _ _ (fun h => h) HX.out) hly hw0 hw1 (HA.out.kept hbw8) HC.out.1 HC.out.2.1 (by have := HC.out.2.2; omega)
      have HW : Hid (Below w.heap.size w W8 ∧ w4.heap.size + 1 ≠ g) := ⟨hbw8, by omega⟩
      have HW1 : Hid (W8.cell? ⟨w4.heap.size + 1, 1, none⟩ = some (.slice none 0 0)) := hw1
      clear hb48 hbw4 hbw8 hk0 hk1 hz4 hgw hnE hw0 hw1 hly
      generalize x.mtc y xs = r at *
      subst hW8
      go_wp2_with fail
      refine hmt.mono ?_
      intro e w5 hq5
      obtain ⟨rfl, hq1, hq2⟩ := hq5
      have HQ1 : Hid (Kx (· = g) w w5) := (Kx.of_whole HW.out.1).trans hq1
      have HQ2 : Hid (ArgS E g og w5 (.slice a9 xs.length c9) r.2) := hq2
      have k1 : w5.cell? ⟨w4.heap.size + 1, 1, none⟩ = some (.slice none 0 0) := hq1.cell HW1.out HW.out.2
      clear hq1 hq2 hmt HW1
      obtain ⟨ra, rb⟩ := r
      cases ra with
      | false =>
        go_wp2_with fail
        go_ret
        exact ⟨rfl, HQ1.out, HQ2.out⟩
      | true =>
        go_wp2_with (first | (go_at_call 29; refine (reverse_nil (w := w5)).mono ?_; rintro e w6 ⟨⟨v6, rfl⟩, q6, rfl⟩) | (at_builtin; refine wp_app0 (by rfl) _ _ (by rfl) (by rfl) (by rfl) ?_))
        go_roundg 0
        case measure => omega
        case rel => exact .inr ⟨_, _, rfl, HQ1.out.than (below_dn _ _), HQ2.out.kept (below_dn _ _), trivial⟩
    · go_wp2_with fail
      go_ret
      exact ⟨by rw [HF.out.2.2]; rfl, HF.out.1, HF.out.2.1⟩
set_option maxRecDepth 100000 in
set_option maxHeartbeats 8000000 in
theorem umatch_any (E : Nat → Prop) (g og : Nat) (hE : E g) (va : Value) (B B' : BQ) (x y : Ty) (xs : List Ty) (w : World) (vn vm vk un um uk : Value) (hEw : ∀ b, E b → b < w.heap.size) (hx : Prt B w x vn vm vk) (hfx : Fit x) (hy : Prt B' w y un um uk) (hf : Fit y) (ha : ArgS E g og w va xs) (hcs : ∀ t ∈ xs, t.cnt ≤ 1000000) (hcy : y.cnt ≤ 1000000) (hcx : x.cnt ≤ 1000) :
    Calls Try.prog 7 #[agT x vn vm vk, agT y un um uk, va] w (MtQ E g og w va (x.mtc y xs)) := by
  obtain ⟨xan, xcn, xam, xcm, xak, xck, rfl, rfl, rfl⟩ := hx.form
  obtain ⟨yan, ycn, yam, ycm, yak, yck, rfl, rfl, rfl⟩ := hy.form
  obtain ⟨a9, c9, rfl, _⟩ := ha.form
  obtain ⟨W0, hW0⟩ : ∃ W0, W0 = (w.alloc (.cells #[.int .i64 x.kind, .string x.name, .int .i64 x.n, .bool x.flag, .slice xan x.names.length xcn, .slice xam x.marks.length xcm, .slice xak x.kids.length xck] 26)).alloc (.cells #[.int .i64 y.kind, .string y.name, .int .i64 y.n, .bool y.flag, .slice yan y.names.length ycn, .slice yam y.marks.length ycm, .slice yak y.kids.length yck] 26) := ⟨_, rfl⟩
  have hb0 : Below w.heap.size w W0 := by rw [hW0]; exact bthen (below_alloc _ _) (below_alloc _ _)
  have hz0 : W0.heap.size = w.heap.size + 2 := by rw [hW0]; simp
  have hk1 : W0.heap[w.heap.size + 1]? = some (.cells #[.int .i64 y.kind, .string y.name, .int .i64 y.n, .bool y.flag, .slice yan y.names.length ycn, .slice yam y.marks.length ycm, .slice yak y.kids.length yck] 26 (0, 0)) := by rw [hW0]; exact heap_new2 _ _ _
  have hcp := copied_any (hx.kept hb0) hfx (by omega)
  have HB0 : Hid (Below w.heap.size w W0 ∧ W0.heap.size = w.heap.size + 2) := ⟨hb0, hz0⟩
  have HK1 : Hid (W0.heap[w.heap.size + 1]? = some (.cells #[.int .i64 y.kind, .string y.name, .int .i64 y.n, .bool y.flag, .slice yan y.names.length ycn, .slice yam y.marks.length ycm, .slice yak y.kids.length yck] 26 (0, 0))) := hk1
  have HMM : Hid (∀ w4 bn en bm em bk ek, Below W0.heap.size W0 w4 → Prt (fun b => W0.heap.size ≤ b) w4 x (.slice bn x.names.length en) (.slice bm x.marks.length em) (.slice bk x.kids.length ek) → Calls Try.prog 17 #[pv ⟨w4.heap.size, 0, none⟩, agT y (.slice yan y.names.length ycn) (.slice yam y.marks.length ycm) (.slice yak y.kids.length yck), .slice a9 xs.length c9] (w4.alloc (.cells #[.int .i64 x.kind, .string x.name, .int .i64 x.n, .bool x.flag, .slice bn x.names.length en, .slice bm x.marks.length em, .slice bk x.kids.length ek] 26)) (MtQ E g og (w4.alloc (.cells #[.int .i64 x.kind, .string x.name, .int .i64 x.n, .bool x.flag, .slice bn x.names.length en, .slice bm x.marks.length em, .slice bk x.kids.length ek] 26)) (.slice a9 xs.length c9) (x.mtc y xs))) := fun w4 bn en bm em bk ek h4 hp4 => by
    have hb5 : Below w4.heap.size w4 (w4.alloc (.cells #[.int .i64 x.kind, .string x.name, .int .i64 x.n, .bool x.flag, .slice bn x.names.length en, .slice bm x.marks.length em, .slice bk x.kids.length ek] 26)) := below_alloc _ _
    have hb6 := bthen hb0 (bthen h4 hb5)
    have hz6 := hb6.size
    obtain ⟨y0, y1, y2, y3, y4, y5, y6⟩ := bx7 (heap_new w4 (.cells #[.int .i64 x.kind, .string x.name, .int .i64 x.n, .bool x.flag, .slice bn x.names.length en, .slice bm x.marks.length em, .slice bk x.kids.length ek] 26))
    have hz4 := h4.size
    exact matches_any E g og hE _ (fun b => w.heap.size ≤ b) B' (fun b hb h => by have := hEw b h; omega) x y xs _ w4.heap.size 0 _ _ _ (fun b h => by have := hEw b h; omega) (fun h => by have := hEw _ h; omega) (lies_iff.2 ⟨y0, y1, y2, y3, _, _, _, y4, y5, y6, (hp4.kept hb5).with (fun b _ h => by show w.heap.size ≤ b; omega)⟩) (hy.kept hb6) hf (ha.kept hb6) hcs hcy hcx
  unfold agT at hcp HMM ⊢
  generalize x.mtc y xs = r at *
  clear hx hy ha hfx hf hcs hcy hcx hk1 hb0 hz0 hEw hE
  subst hW0
  go_enter Try.func7, Try.ntmps7
  go_wp2_with fail
  refine hcp.mono ?_
  intro e w4 hq
  obtain ⟨vn, vm, vk, rfl, hpr⟩ := hq.ex
  obtain ⟨bn, en, bm, em, bk, ek, rfl, rfl, rfl⟩ := hpr.form
  have HPR : Hid _ := hpr
  have HQB : Hid _ := hq.bl
  have hmm := HMM.out w4 _ _ _ _ _ _ hq.bl hpr
  have hk4 := blk_kept (bthen hq.bl (below_alloc _ (.cells #[.int .i64 x.kind, .string x.name, .int .i64 x.n, .bool x.flag, .slice bn x.names.length en, .slice bm x.marks.length em, .slice bk x.kids.length ek] 26))) HK1.out
  obtain ⟨y0, y1, y2, y3, y4, y5, y6⟩ := bx7 hk4
  have HB9 : Hid (Below w.heap.size w (w4.alloc (.cells #[.int .i64 x.kind, .string x.name, .int .i64 x.n, .bool x.flag, .slice bn x.names.length en, .slice bm x.marks.length em, .slice bk x.kids.length ek] 26))) := bthen HB0.out.1 (bthen hq.bl (below_alloc _ _))
  have hz5 : w.heap.size + 1 < w4.heap.size := by have := hq.bl.size; have := HB0.out.2; omega
  unfold agT
  clear hq hpr hcp hk4 HMM
  go_wp2_with (go_at_call 17; refine hmm.mono ?_; intro e w5 hq5; obtain ⟨rfl, hq1, hq2⟩ := hq5; have HQ1 : Hid (Kx (· = g) w w5) := (Kx.of_whole HB9.out).trans hq1; have HQ2 : Hid (ArgS E g og w5 (.slice a9 xs.length c9) r.2) := hq2; clear hq1 hq2 hmm)
  go_ret
  exact ⟨rfl, HQ1.out, HQ2.out⟩
end Go.Proofs.Ytcmnhkopmkaiaaa

