/-
  The methods of parts: names.
-/
import Derived.Test.YtleiohccaagalaaGreatPrt
import Derived.Deep.RegionHeld3
import Derived.Laws.AppendOwnNone
namespace Go.Proofs.YtleiohccaagalaaGreat
open Go.RowKit
attribute [local go_sem ↓] Go.wp_at_zero Go.wp_at_succ
theorem mth_names (p : Pt) : ∃ t x K x', Mth p "recast/tags.names" t x K x' ∧ (match p with | .yes => K = 100 ∧ x' = .agg #[] | .tag s => K = 116 ∧ x' = .string (bs s) | .not q => K = 112 ∧ x' = .agg #[enc q] | .both l r => K = 104 ∧ x' = .agg #[enc l, enc r] | .either l r => K = 104 ∧ x' = .agg #[enc l, enc r]) := by
  cases p with
  | yes => exact ⟨_, _, _, _, ⟨rfl, fun _ => by kernel_rfl, fun _ _ => by kernel_rfl⟩, rfl, rfl⟩
  | tag s => exact ⟨_, _, _, _, ⟨rfl, fun _ => by kernel_rfl, fun _ _ => by kernel_rfl⟩, rfl, rfl⟩
  | not q => exact ⟨_, _, _, _, ⟨rfl, fun _ => by kernel_rfl, fun _ _ => by kernel_rfl⟩, rfl, rfl⟩
  | both l r =>
    obtain ⟨tl, xl, el⟩ := enc_if l
    obtain ⟨tr, xr, er⟩ := enc_if r
    simp only [el, er]
    exact ⟨_, _, _, _, ⟨by rw [enc, el, er], fun _ => by kernel_rfl, fun _ _ => by kernel_rfl⟩, rfl, rfl⟩
  | either l r =>
    obtain ⟨tl, xl, el⟩ := enc_if l
    obtain ⟨tr, xr, er⟩ := enc_if r
    simp only [el, er]
    exact ⟨_, _, _, _, ⟨by rw [enc, el, er], fun _ => by kernel_rfl, fun _ _ => by kernel_rfl⟩, rfl, rfl⟩
theorem SRow.base {w : World} {b b' : Nat} {v : Value} {l : List Bs} (h : SRow w b v l) (hb : b' ≤ b) : SRow w b' v l := by
  refine ⟨h.1, ?_⟩
  rcases h.2 with h' | ⟨g, cap, cur, hv, h1, h2⟩
  · exact .inl h'
  · exact .inr ⟨g, cap, cur, hv, Nat.le_trans hb h1, h2⟩
theorem step_append_none {P : Program} {w : World} {ops : Array Oper} {o : Oper} {a : Act} {K : Act → World → Prop} {Q : Exit → Act → World → Prop} {E : Prop} (hgd : o.guard = none) (s x : Operand) (t : TypeId)
    (ho : o.op = .call { callee := .builtin .append, args := #[s, x], argTypes := #[t, t] })
    (base : Nat) (e : TypeId) (i : TypeInfo) (size : Nat) (ht : P.underlying t = some (.slice e)) (hi : P.info? e = some i)
    (v : Value) (n : Nat) (xs : List Value) (hs : a.eval s = v) (hown : w.ownsRow base e size v n xs) (hx : a.eval x = .slice none 0 0)
    (h : K (a.put o.dst v) w) : if Region.wanted o (yielded ops a.tmps) = true then Oper.wp P o a w K Q else E := by
  have hw : Region.wanted o (yielded ops a.tmps) = true := by simp [Region.wanted, hgd]
  rw [if_pos hw]
  have hrun := run_append_owned_none (P := P) (w := w) base t o.type e i size ht hi v n xs hown
  unfold Oper.wp
  simp [execOp, ho, resolve, invoke, builtin, hs, hx, hrun, Result.andThen, Oper.upon, h]
/-- what names answers -/
structure NamQ (w : World) (l : List Bs) (e : Ending) (w' : World) : Prop where
  bl : Below w.heap.size w w'
  ex : ∃ v, e = .returned v ∧ SRow w' w.heap.size v l ∧ (l = [] → v = .slice none 0 0)
def NamC (p : Pt) : Prop := ∃ t x K x', Mth p "recast/tags.names" t x K x' ∧ ∀ w : World, Calls Tryz.prog K #[x'] w (NamQ w p.names)
set_option maxRecDepth 100000 in
set_option maxHeartbeats 2000000 in
theorem pnames_of {l r : Pt} (hl : NamC l) (hr : NamC r) (hn : l.names.length + r.names.length ≤ 1000000) (w : World) : Calls Tryz.prog 104 #[.agg #[enc l, enc r]] w (NamQ w (l.names ++ r.names)) := by
  obtain ⟨tl, xl, Kl, yl, hml, cl⟩ := hl
  obtain ⟨tr, xr, Kr, yr, hmr, cr⟩ := hr
  rw [hml.e, hmr.e]
  have ml := hml.m
  have ccl := hml.c
  have mr := hmr.m
  have ccr := hmr.c
  have HL : Hid _ := cl
  have HR : Hid _ := cr
  clear hml hmr cl cr
  generalize l.names = L at *
  generalize r.names = R at *
  go_enter Tryz.func104, Tryz.ntmps104
  go_wp2_with fail
  have c0 := cell_new21 w (.iface tl xl) (.iface tr xr) 78
  have c1 := cell_new2 w (.iface tl xl) (.iface tr xr) 78
  have hb0 : Below w.heap.size w (w.alloc (.cells #[.iface tl xl, .iface tr xr] 78)) := (Below.refl _ _).alloc (Nat.le_refl _) _
  have hlt0 : w.heap.size < (w.alloc (.cells #[.iface tl xl, .iface tr xr] 78)).heap.size := by simp
  generalize w.alloc (.cells #[.iface tl xl, .iface tr xr] 78) = W0 at *
  have HB0 : Hid (Below w.heap.size w W0) := hb0
  have hz0 := hb0.size
  have kS : W0.cell? ⟨w.heap.size, 0, none⟩ = some (.iface tl xl) ∧ W0.cell? ⟨w.heap.size, 1, none⟩ = some (.iface tr xr) := ⟨c0, c1⟩
  clear hb0
  obtain ⟨i0, i1, i2, i3, i4⟩ := info9_ex
  have HI : Hid (Tryz.prog.info? 9 = some i0 ∧ i0.zero = some (.string ⟨#[]⟩) ∧ i0.size = 1 ∧ i0.bytes = 16) := ⟨i1, i2, i3, i4⟩
  clear i1 i2 i3 i4
  by_cases hR : R = []
  · go_region_held3 (fun w' => w'.cell? ⟨w.heap.size, 0, none⟩ = some (.iface tl xl) ∧ w'.cell? ⟨w.heap.size, 1, none⟩ = some (.iface tr xr))
      (first | exact kS | go_keep)
      (first
        | (refine (HL.out _).mono ?_; intro e w1 hq; obtain ⟨v1, rfl, hr1, hv1⟩ := hq.ex; obtain ⟨a1, n1, rfl⟩ := own_slice hr1; have hb1 := hq.bl; have HK1 : Hid (∀ k, (Value.slice a1 L.length n1).ownBlock = some k → w.heap.size < k) := fun k hk => Nat.lt_of_lt_of_le hlt0 (World.ownsRow.lt hr1 k hk).1; have kS : w1.cell? ⟨w.heap.size, 0, none⟩ = some (.iface tl xl) ∧ w1.cell? ⟨w.heap.size, 1, none⟩ = some (.iface tr xr) := ⟨kept_cell hb1 c0, kept_cell hb1 c1⟩; have c0 := kS.1; have c1 := kS.2; have HB1 : Hid (Below w.heap.size w w1) := HB0.out.drew.trans (hb1.mono hz0); have hz1 := HB1.out.size; have HR1 : Hid (SRow w1 w.heap.size (.slice a1 L.length n1) L) := SRow.base hr1 hz0; have HV1 : Hid (L = [] → Value.slice a1 L.length n1 = .slice none 0 0) := hv1; clear hb1 hr1 hv1 hq)
        | (refine (HR.out _).mono ?_; intro e w2 hq; obtain ⟨v2, rfl, hr2, hv2⟩ := hq.ex; have hb2 := hq.bl; have kS : w2.cell? ⟨w.heap.size, 0, none⟩ = some (.iface tl xl) ∧ w2.cell? ⟨w.heap.size, 1, none⟩ = some (.iface tr xr) := ⟨kept_cell hb2 c0, kept_cell hb2 c1⟩; have c0 := kS.1; have c1 := kS.2; have HB2 : Hid (Below w.heap.size w w2) := HB1.out.trans (hb2.mono hz1); have hz2 := HB2.out.size; have hlt2' := hb2.size; have HR2 : Hid (SRow w2 w.heap.size (.slice a1 L.length n1) L) := own_whole HR1.out hb2; obtain rfl := hv2 hR;  clear hb2 hr2 hv2 hq)
        | (refine step_append_none (by rfl) _ _ _ (by rfl) w.heap.size 9 i0 1 Tryz.underlying22 HI.out.1 (.slice a1 L.length n1) L.length (sv L) (by rfl) HR2.out (by rfl) ?_))
    all_goals
      go_wp2_with fail
      go_ret
      refine ⟨HB2.out, _, rfl, ?_, ?_⟩
      · rw [hR, List.append_nil]; exact HR2.out
      · rw [hR, List.append_nil]; exact HV1.out
  · have hRl : 0 < R.length := List.length_pos_iff.2 hR
    go_region_held3 (fun w' => w'.cell? ⟨w.heap.size, 0, none⟩ = some (.iface tl xl) ∧ w'.cell? ⟨w.heap.size, 1, none⟩ = some (.iface tr xr))
      (first | exact kS | go_keep)
      (first
        | (refine (HL.out _).mono ?_; intro e w1 hq; obtain ⟨v1, rfl, hr1, hv1⟩ := hq.ex; obtain ⟨a1, n1, rfl⟩ := own_slice hr1; have hb1 := hq.bl; have HK1 : Hid (∀ k, (Value.slice a1 L.length n1).ownBlock = some k → w.heap.size < k) := fun k hk => Nat.lt_of_lt_of_le hlt0 (World.ownsRow.lt hr1 k hk).1; have kS : w1.cell? ⟨w.heap.size, 0, none⟩ = some (.iface tl xl) ∧ w1.cell? ⟨w.heap.size, 1, none⟩ = some (.iface tr xr) := ⟨kept_cell hb1 c0, kept_cell hb1 c1⟩; have c0 := kS.1; have c1 := kS.2; have HB1 : Hid (Below w.heap.size w w1) := HB0.out.drew.trans (hb1.mono hz0); have hz1 := HB1.out.size; have HR1 : Hid (SRow w1 w.heap.size (.slice a1 L.length n1) L) := SRow.base hr1 hz0; have HV1 : Hid (L = [] → Value.slice a1 L.length n1 = .slice none 0 0) := hv1; clear hb1 hr1 hv1 hq)
        | (refine (HR.out _).mono ?_; intro e w2 hq; obtain ⟨v2, rfl, hr2, hv2⟩ := hq.ex; have hb2 := hq.bl; have kS : w2.cell? ⟨w.heap.size, 0, none⟩ = some (.iface tl xl) ∧ w2.cell? ⟨w.heap.size, 1, none⟩ = some (.iface tr xr) := ⟨kept_cell hb2 c0, kept_cell hb2 c1⟩; have c0 := kS.1; have c1 := kS.2; have HB2 : Hid (Below w.heap.size w w2) := HB1.out.trans (hb2.mono hz1); have hz2 := HB2.out.size; have hlt2' := hb2.size; have HR2 : Hid (SRow w2 w.heap.size (.slice a1 L.length n1) L) := own_whole HR1.out hb2; obtain ⟨g2, cap2, hv, _, hlt2⟩ := World.ownsRow.form hr2 hRl; subst hv; have hc2 := World.ownsRow.cells hr2 (g := g2) rfl; have hk2 := (World.ownsRow.lt hr2 g2 rfl).1; have HC2 : Hid (∀ j u, (sv R)[j]? = some u → w2.cell? ((⟨g2, 0, none⟩ : Addr).add j) = some u) := hc2; clear hc2; clear hb2 hr2 hv2 hq)
        | (refine step_append_lies _ (by rfl) _ _ _ (by rfl) w.heap.size 9 i0 _ 1 16 Tryz.underlying22 HI.out.1 HI.out.2.1 HI.out.2.2.1 HI.out.2.2.2 rfl (by omega) (.slice a1 L.length n1) L.length (sv L) (by rfl) HR2.out ⟨g2, 0, none⟩ R.length cap2 (sv R) (by rfl) (by rw [sv_len]; omega) HC2.out (by simp [sv, Value.oneCell']) hRl (by unfold maxLen; omega) (by omega) hz2 w2.heap.size rfl ?_; intro gg cap w9 hown hgrow hat hlt9; have HO9 : Hid (w9.ownsRow w.heap.size 9 1 (.slice (some ⟨gg, 0, none⟩) (L.length + R.length) cap) (L.length + R.length) (sv L ++ sv R)) := hown; have HB9 : Hid (Below w.heap.size w w9) := HB2.out.grown hgrow hz2 (fun b hb => (HR2.out.blk hb).1); have hne : some w.heap.size ≠ (Value.slice a1 L.length n1).ownBlock := fun h => absurd (HK1.out _ h.symm) (by omega); have kS : w9.cell? ⟨w.heap.size, 0, none⟩ = some (.iface tl xl) ∧ w9.cell? ⟨w.heap.size, 1, none⟩ = some (.iface tr xr) := ⟨(hgrow.cell_far _ (by show w.heap.size < _; omega) hne).trans c0, (hgrow.cell_far _ (by show w.heap.size < _; omega) hne).trans c1⟩; clear hown hat hgrow hne))
    all_goals
      go_wp2_with fail
      go_ret
      refine ⟨HB9.out, _, rfl, ?_, fun h => absurd (List.append_eq_nil_iff.1 h).2 hR⟩
      have := HO9.out
      simp only [SRow, List.length_append]
      rw [show sv (L ++ R) = sv L ++ sv R by simp [sv]]
      exact this
theorem names_sub (l r : Pt) : (Pt.both l r).names = l.names ++ r.names := rfl
set_option maxRecDepth 100000 in
set_option maxHeartbeats 2000000 in
theorem names_any (p : Pt) (hp : p.names.length ≤ 1000000) : NamC p := by
  induction p with
  | yes =>
    obtain ⟨_, _, _, _, hm, rfl, rfl⟩ := mth_names .yes
    refine ⟨_, _, _, _, hm, ?_⟩
    clear hm
    intro w
    go_enter Tryz.func100, Tryz.ntmps100
    go_wp2_with fail
    go_ret
    exact ⟨(Below.refl _ _).alloc (Nat.le_refl _) _, _, rfl, SRow.nil _ _, fun _ => rfl⟩
  | tag s =>
    obtain ⟨_, _, _, _, hm, rfl, rfl⟩ := mth_names (.tag s)
    refine ⟨_, _, _, _, hm, ?_⟩
    clear hm
    intro w
    go_enter Tryz.func116, Tryz.ntmps116
    go_wp2_with fail
    go_ret
    refine ⟨(Below.refl _ _).alloc (Nat.le_refl _) _, _, rfl, ?_, fun h => by cases h⟩
    refine ⟨rfl, .inr ⟨w.heap.size, 1, #[.string (bs s)], rfl, Nat.le_refl _, Go.heap_alloc_new _ _, Nat.le_refl _, by unfold maxLen; omega, rfl, rfl⟩⟩
  | not q ih =>
    obtain ⟨tq, xq, Kq, yq, hmq, cq⟩ := ih hp
    obtain ⟨_, _, _, _, hm, rfl, rfl⟩ := mth_names (.not q)
    refine ⟨_, _, _, _, hm, ?_⟩
    clear hm
    intro w
    rw [hmq.e, show (Pt.not q).names = q.names from rfl]
    have mq := hmq.m
    have ccq := hmq.c
    have HC : Hid _ := cq
    clear hmq cq hp
    generalize q.names = L at *
    go_enter Tryz.func112, Tryz.ntmps112
    go_wp2_with fail
    refine (HC.out _).mono ?_
    intro e w1 hq
    obtain ⟨v1, rfl, hr1, hv1⟩ := hq.ex
    obtain ⟨a1, n1, rfl⟩ := own_slice hr1
    have HB1 : Hid (Below w.heap.size w w1) := ((Below.refl _ _).alloc (Nat.le_refl _) _).trans (hq.bl.mono (by simp))
    have HR1 : Hid (SRow w1 w.heap.size (.slice a1 L.length n1) L) := SRow.base hr1 (by simp)
    have HV1 : Hid _ := hv1
    clear hq hr1 hv1
    go_wp2_with fail
    go_ret
    exact ⟨HB1.out, _, rfl, HR1.out, HV1.out⟩
  | both l r ihl ihr =>
    have hle : l.names.length + r.names.length ≤ 1000000 := by have := hp; simp only [Pt.names, List.length_append] at this; exact this
    obtain ⟨_, _, _, _, hm, rfl, rfl⟩ := mth_names (.both l r)
    exact ⟨_, _, _, _, hm, fun w => pnames_of (ihl (by omega)) (ihr (by omega)) hle w⟩
  | either l r ihl ihr =>
    have hle : l.names.length + r.names.length ≤ 1000000 := by have := hp; simp only [Pt.names, List.length_append] at this; exact this
    obtain ⟨_, _, _, _, hm, rfl, rfl⟩ := mth_names (.either l r)
    exact ⟨_, _, _, _, hm, fun w => pnames_of (ihl (by omega)) (ihr (by omega)) hle w⟩
end Go.Proofs.YtleiohccaagalaaGreat
