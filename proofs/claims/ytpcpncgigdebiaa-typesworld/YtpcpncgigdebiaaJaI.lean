/-
  types.freshNamed, walked.
-/
import Derived.Test.YtpcpncgigdebiaaJaH
namespace Go.Proofs.Ytpcpncgigdebiaa
open Go.RowKit
attribute [local go_sem ↓] Go.wp_at_zero Go.wp_at_succ
theorem flatM_set_len (l : List Mth) (vs : List V3) (h : vs.length = l.length) (i : Nat) (v : V3) : (flatM l (vs.set i v)).length = l.length * 9 := flatM_len _ _ (by simpa using h)
/-- seven cells of a method's Sig are written -/
theorem own_sig {W : World} {base g c n i : Nat} {ms : List Mth} {vs : List V3} {v : V3} {W' : World} (hn : n = ms.length) (hl : vs.length = ms.length) (hi : i < ms.length) (h : W.ownsRow base 51 9 (.slice (some ⟨g, 0, none⟩) n c) n (flatM ms vs)) (hW : W' = ((((((W.setCell ⟨g, i * 9 + 2, none⟩ (.int .i64 (ms[i]).sig.kind)).setCell ⟨g, i * 9 + 2 + 1, none⟩ (.string (ms[i]).sig.name)).setCell ⟨g, i * 9 + 2 + 2, none⟩ (.int .i64 (ms[i]).sig.n)).setCell ⟨g, i * 9 + 2 + 3, none⟩ (.bool (ms[i]).sig.flag)).setCell ⟨g, i * 9 + 2 + 4, none⟩ v.n).setCell ⟨g, i * 9 + 2 + 5, none⟩ v.m).setCell ⟨g, i * 9 + 2 + 6, none⟩ v.k) : W'.ownsRow base 51 9 (.slice (some ⟨g, 0, none⟩) n c) n (flatM ms (vs.set i v)) := by
  subst hn
  refine ⟨flatM_set_len ms vs hl i v, ?_⟩
  rcases h.2 with ⟨h1, _⟩ | ⟨g', cap, cur, e, h1, h2, h3, h4, h5, h6⟩
  · cases h1
  · simp at e
    obtain ⟨rfl, rfl⟩ := e
    refine .inr ⟨g, c, _, rfl, h1, by rw [hW]; exact set_blk2 (set_blk2 (set_blk2 (set_blk2 (set_blk2 (set_blk2 (set_blk2 h2)))))), h3, h4, by simp [h5], ?_⟩
    refine List.ext_getElem? fun q => ?_
    rw [List.getElem?_take, Array.getElem?_toList]
    by_cases hq : q < ms.length * 9
    · rw [if_pos hq]
      have hcur : cur[q]? = (flatM ms vs)[q]? := by
        rw [← h6, List.getElem?_take, if_pos hq, Array.getElem?_toList]
      obtain ⟨j, r, hr, hqj⟩ : ∃ j r, r < 9 ∧ q = j * 9 + r := ⟨q / 9, q % 9, Nat.mod_lt _ (by omega), by omega⟩
      subst hqj
      have hj : j < ms.length := by omega
      have e1 := flatM_get ms vs hl j hj r hr
      have e2 := flatM_get ms (vs.set i v) (by simpa using hl) j hj r hr
      rw [e2]
      have hsz : ms.length * 9 ≤ cur.size := by rw [h5]; exact Nat.mul_le_mul_right _ h3
      simp only [Array.getElem?_setIfInBounds, Array.size_setIfInBounds]
      by_cases hji : j = i
      · subst hji
        have e3 : (vs.set j v)[j]'(by simp; omega) = v := by simp
        simp only [e3]
        have hr9 : r = 0 ∨ r = 1 ∨ r = 2 ∨ r = 3 ∨ r = 4 ∨ r = 5 ∨ r = 6 ∨ r = 7 ∨ r = 8 := by omega
        rcases hr9 with rfl | rfl | rfl | rfl | rfl | rfl | rfl | rfl | rfl
        · rw [if_neg (by omega), if_neg (by omega), if_neg (by omega), if_neg (by omega), if_neg (by omega), if_neg (by omega), if_neg (by omega), hcur, e1]; rfl
        · rw [if_neg (by omega), if_neg (by omega), if_neg (by omega), if_neg (by omega), if_neg (by omega), if_neg (by omega), if_neg (by omega), hcur, e1]; rfl
        · rw [if_neg (by omega), if_neg (by omega), if_neg (by omega), if_neg (by omega), if_neg (by omega), if_neg (by omega), if_pos (by omega), if_pos (by omega)]; rfl
        · rw [if_neg (by omega), if_neg (by omega), if_neg (by omega), if_neg (by omega), if_neg (by omega), if_pos (by omega), if_pos (by omega)]; rfl
        · rw [if_neg (by omega), if_neg (by omega), if_neg (by omega), if_neg (by omega), if_pos (by omega), if_pos (by omega)]; rfl
        · rw [if_neg (by omega), if_neg (by omega), if_neg (by omega), if_pos (by omega), if_pos (by omega)]; rfl
        · rw [if_neg (by omega), if_neg (by omega), if_pos (by omega), if_pos (by omega)]; rfl
        · rw [if_neg (by omega), if_pos (by omega), if_pos (by omega)]; rfl
        · rw [if_pos (by omega), if_pos (by omega)]; rfl
      · have e3 : (vs.set i v)[j]'(by simp; omega) = vs[j]'(by omega) := by rw [List.getElem_set_ne (fun h => hji h.symm)]
        simp only [e3]
        rw [if_neg (by omega), if_neg (by omega), if_neg (by omega), if_neg (by omega), if_neg (by omega), if_neg (by omega), if_neg (by omega), hcur, e1]
    · rw [if_neg hq]
      symm
      rw [List.getElem?_eq_none_iff]
      rw [flatM_set_len ms vs hl i v]
      omega
theorem frzA {w : World} {g : Nat} {cs : Array Value} {T : TypeId} (h : w.heap[g]? = some (.cells cs T (0, 0))) (j : Nat) : w.frozen? ⟨g, j, none⟩ = false := by simp [World.frozen?, h]
theorem bx9_all {w : World} {g : Nat} {a b c d e f x y z a' b' c' d' e' f' x' y' z' : Value} {T : TypeId} (h : w.heap[g]? = some (.cells #[a, b, c, d, e, f, x, y, z] T (0, 0))) : (((((((((w.setCell ⟨g, 0, none⟩ a').setCell ⟨g, 1, none⟩ b').setCell ⟨g, 2, none⟩ c').setCell ⟨g, 3, none⟩ d').setCell ⟨g, 4, none⟩ e').setCell ⟨g, 5, none⟩ f').setCell ⟨g, 6, none⟩ x').setCell ⟨g, 7, none⟩ y').setCell ⟨g, 8, none⟩ z').heap[g]? = some (.cells #[a', b', c', d', e', f', x', y', z'] T (0, 0)) := by
  simp [World.setCell, Array.getElem?_modify, h]
theorem bx9_set {w : World} {g : Nat} {a b c d e f x y z b' c' d' e' f' x' y' z' : Value} {T : TypeId} (h : w.heap[g]? = some (.cells #[a, b, c, d, e, f, x, y, z] T (0, 0))) : ((((((((w.setCell ⟨g, 1, none⟩ b').setCell ⟨g, 2, none⟩ c').setCell ⟨g, 3, none⟩ d').setCell ⟨g, 4, none⟩ e').setCell ⟨g, 5, none⟩ f').setCell ⟨g, 6, none⟩ x').setCell ⟨g, 7, none⟩ y').setCell ⟨g, 8, none⟩ z').heap[g]? = some (.cells #[a, b', c', d', e', f', x', y', z'] T (0, 0)) := by
  simp [World.setCell, Array.getElem?_modify, h]
/-- between two methods -/
structure FnS (w : World) (N1 : Nat) (ma : Option Addr) (mc : Nat) (ms : List Mth) (x4 : World) (i : Nat) (vs : List V3) (W : World) : Prop where
  hl : vs.length = ms.length
  own : W.ownsRow N1 51 9 (.slice ma ms.length mc) ms.length (flatM ms vs)
  kx : Kx (fun b => (Value.slice ma ms.length mc).ownBlock = some b) x4 W
  pr : ∀ j (hj : j < ms.length), Prt (fun b => (j < i → w.heap.size + 2 ≤ b) ∧ (b < w.heap.size ∨ w.heap.size + 2 ≤ b) ∧ (Value.slice ma ms.length mc).ownBlock ≠ some b) W ms[j].sig (vs[j]'(hl ▸ hj)).n (vs[j]'(hl ▸ hj)).m (vs[j]'(hl ▸ hj)).k
/-- the cells of a method -/
theorem FnS.cell {w : World} {N1 : Nat} {ma : Option Addr} {mc : Nat} {ms : List Mth} {x4 : World} {i : Nat} {vs : List V3} {W : World} (h : FnS w N1 ma mc ms x4 i vs W) {j : Nat} (hj : j < ms.length) : ∃ g cur, ma = some ⟨g, 0, none⟩ ∧ N1 ≤ g ∧ W.heap[g]? = some (.cells cur 51 (0, 0)) ∧ ∀ q, q < 9 → W.cell? ⟨g, j * 9 + q, none⟩ = (celM ms[j] (vs[j]'(h.hl ▸ hj)))[q]? := by
  rcases h.own.2 with ⟨h1, h0⟩ | ⟨g, cap, cur, e, h1, h2, h3, h4, h5, h6⟩
  · omega
  · simp at e
    obtain ⟨rfl, rfl⟩ := e
    refine ⟨g, cur, rfl, h1, h2, fun q hq => ?_⟩
    rw [← flatM_get ms vs h.hl j hj q hq, cell_of h2, ← h6, List.getElem?_take, if_pos (by omega), Array.getElem?_toList]
theorem FnS.done {w : World} {N1 : Nat} {ma : Option Addr} {mc : Nat} {ms : List Mth} {x4 : World} {i : Nat} {vs : List V3} {W : World} (h : FnS w N1 ma mc ms x4 i vs W) (hi : ms.length ≤ i) (hN : w.heap.size + 2 ≤ N1) (hm : (ms.length : Int) ≤ 9223372036854775807) : SlM (fun b => w.heap.size + 2 ≤ b) W (.slice ma ms.length mc) ms := by
  by_cases h0 : ms = []
  · subst h0; exact .inl ⟨ma, mc, rfl, rfl⟩
  · have hp : 0 < ms.length := List.length_pos_iff.2 h0
    obtain ⟨g, cur, rfl, h1, h2, _⟩ := h.cell hp
    refine .inr ⟨g, 0, mc, rfl, hm, (Array.getElem?_eq_some_iff.1 h2).1, by omega, fun j hj => ?_⟩
    obtain ⟨g', cur', e, _, _, hc⟩ := h.cell hj
    have e2 : g = g' := by simpa using e
    subst e2
    have c0 := hc 0 (by omega)
    rw [Nat.add_zero] at c0
    rw [Nat.zero_add]
    exact ⟨c0, hc 1 (by omega), lies_iff.2 ⟨hc 2 (by omega), hc 3 (by omega), hc 4 (by omega), hc 5 (by omega), _, _, _, hc 6 (by omega), hc 7 (by omega), hc 8 (by omega), (h.pr j hj).with (fun b _ hb => hb.1 (by omega))⟩⟩
/-- a method's Sig is made afresh -/
theorem FnS.step {w : World} {N1 mb : Nat} {mc : Nat} {ms : List Mth} {x4 : World} {i : Nat} {vs : List V3} {wr w5 W' : World} {v : V3} (h : FnS w N1 (some ⟨mb, 0, none⟩) mc ms x4 i vs wr) (hi : i < ms.length) (hN : w.heap.size + 2 ≤ N1) (hmb : N1 ≤ mb) (hlt : mb < wr.heap.size) (hb : Below wr.heap.size wr w5) (hp : Prt (fun b => wr.heap.size ≤ b) w5 (ms[i]).sig v.n v.m v.k) (hW : W' = ((((((w5.setCell ⟨mb, i * 9 + 2, none⟩ (.int .i64 (ms[i]).sig.kind)).setCell ⟨mb, i * 9 + 2 + 1, none⟩ (.string (ms[i]).sig.name)).setCell ⟨mb, i * 9 + 2 + 2, none⟩ (.int .i64 (ms[i]).sig.n)).setCell ⟨mb, i * 9 + 2 + 3, none⟩ (.bool (ms[i]).sig.flag)).setCell ⟨mb, i * 9 + 2 + 4, none⟩ v.n).setCell ⟨mb, i * 9 + 2 + 5, none⟩ v.m).setCell ⟨mb, i * 9 + 2 + 6, none⟩ v.k) : FnS w N1 (some ⟨mb, 0, none⟩) mc ms x4 (i + 1) (vs.set i v) W' := by
  have hk : Kx (· = mb) w5 W' := by rw [hW]; exact (((((kx_set.trans kx_set).trans kx_set).trans kx_set).trans kx_set).trans kx_set).trans kx_set
  have hl' : (vs.set i v).length = ms.length := by simpa using h.hl
  have hown : ∀ b, (Value.slice (some ⟨mb, 0, none⟩) ms.length mc).ownBlock = some b ↔ mb = b := fun b => by simp [Value.ownBlock]
  refine ⟨hl', own_sig rfl h.hl hi (own_kept h.own hb) hW, ⟨?_, ?_, ?_, ?_, ?_⟩, fun j hj => ?_⟩
  · exact hk.os.trans (h.kx.than hb).os
  · exact hk.tape.trans (h.kx.than hb).tape
  · exact hk.output.trans (h.kx.than hb).output
  · exact Nat.le_trans (h.kx.than hb).size hk.size
  · intro b o h1 h2
    exact hk.keep b o ((h.kx.than hb).keep b o h1 h2) (fun e => h2 ((hown b).2 e.symm))
  · by_cases e : j = i
    · subst e
      have e3 : (vs.set j v)[j]'(hl' ▸ hj) = v := by simp
      rw [e3]
      refine hp.to hk (fun b _ hB => ?_) (fun b _ hB e => ?_)
      · have hB' : wr.heap.size ≤ b := hB
        exact ⟨fun _ => by omega, .inr (by omega), fun e => by have := (hown b).1 e; omega⟩
      · have hB' : wr.heap.size ≤ b := hB
        omega
    · have e3 : (vs.set i v)[j]'(hl' ▸ hj) = vs[j]'(h.hl ▸ hj) := by rw [List.getElem_set_ne (fun h => e h.symm)]
      rw [e3]
      refine ((h.pr j hj).kept hb).to hk (fun b _ hB => ⟨fun hlt' => hB.1 (by omega), hB.2⟩) (fun b _ hB e => hB.2.2 ((hown b).2 e.symm))
set_option maxRecDepth 100000 in
set_option maxHeartbeats 8000000 in
theorem freshN_any {B : BQ} {w : World} {t : Nmd} {vn vm vk vs : Value} (hp : NmP B w t vn vm vk vs) (hf : FitN t) : Calls Try.prog 30 #[agN t vn vm vk vs] w (NmQ w (fun b => w.heap.size ≤ b) t) := by
  obtain ⟨an, cn, am, cm, ak, ck, sa, sc, rfl, rfl, rfl, rfl⟩ := hp.form
  obtain ⟨W2, hW2⟩ : ∃ W2, W2 = (w.alloc (.cells #[.string t.name, .int .i64 t.under.kind, .string t.under.name, .int .i64 t.under.n, .bool t.under.flag, .slice an t.under.names.length cn, .slice am t.under.marks.length cm, .slice ak t.under.kids.length ck, .slice sa t.mths.length sc] 40)).alloc (.cells #[.string ⟨#[]⟩, .int .i64 0, .string ⟨#[]⟩, .int .i64 0, .bool false, .slice none 0 0, .slice none 0 0, .slice none 0 0, .slice none 0 0] 40) := ⟨_, rfl⟩
  have hb2 : Below w.heap.size w W2 := by rw [hW2]; exact bthen (below_alloc _ _) (below_alloc _ _)
  have hz2 : W2.heap.size = w.heap.size + 2 := by rw [hW2]; simp
  have k1 : W2.heap[w.heap.size]? = some (.cells #[.string t.name, .int .i64 t.under.kind, .string t.under.name, .int .i64 t.under.n, .bool t.under.flag, .slice an t.under.names.length cn, .slice am t.under.marks.length cm, .slice ak t.under.kids.length ck, .slice sa t.mths.length sc] 40 (0, 0)) := by
    rw [hW2]; exact blk_kept (below_alloc _ _) (heap_new _ _)
  have k2 : W2.heap[w.heap.size + 1]? = some (.cells #[.string ⟨#[]⟩, .int .i64 0, .string ⟨#[]⟩, .int .i64 0, .bool false, .slice none 0 0, .slice none 0 0, .slice none 0 0, .slice none 0 0] 40 (0, 0)) := by
    rw [hW2]
    have := heap_new (w.alloc (.cells #[.string t.name, .int .i64 t.under.kind, .string t.under.name, .int .i64 t.under.n, .bool t.under.flag, .slice an t.under.names.length cn, .slice am t.under.marks.length cm, .slice ak t.under.kids.length ck, .slice sa t.mths.length sc] 40)) (.cells #[.string ⟨#[]⟩, .int .i64 0, .string ⟨#[]⟩, .int .i64 0, .bool false, .slice none 0 0, .slice none 0 0, .slice none 0 0, .slice none 0 0] 40)
    rw [World.size_alloc] at this
    exact this
  obtain ⟨us, hul, hsrc, hpr⟩ := hp.ms.cells
  have hfr := fresh_any ((hp.un.kept hb2).kept (below_drew1 W2)) hf.un hf.uc
  have HCL : Hid (∀ W, Below w.heap.size w W → Calls Try.prog 48 #[.slice sa t.mths.length sc] W (ClQ W 51 9 t.mths.length (flatM t.mths us))) := fun W hb => cloneM (hsrc.kept hb) (flatM_len _ us hul) (flatM_one _ us hul (fun i hi => (hpr i hi).one)) hf.ms
  have HPR : Hid (∀ i (hi : i < t.mths.length), Prt (fun b => b < w.heap.size) w t.mths[i].sig (us[i]'(hul ▸ hi)).n (us[i]'(hul ▸ hi)).m (us[i]'(hul ▸ hi)).k) := fun i hi => (hpr i hi).with (fun b hb _ => hb)
  have HFT : Hid (FitN t) := hf
  have HK : Hid (W2.heap[w.heap.size]? = some (.cells #[.string t.name, .int .i64 t.under.kind, .string t.under.name, .int .i64 t.under.n, .bool t.under.flag, .slice an t.under.names.length cn, .slice am t.under.marks.length cm, .slice ak t.under.kids.length ck, .slice sa t.mths.length sc] 40 (0, 0)) ∧ W2.heap[w.heap.size + 1]? = some (.cells #[.string ⟨#[]⟩, .int .i64 0, .string ⟨#[]⟩, .int .i64 0, .bool false, .slice none 0 0, .slice none 0 0, .slice none 0 0, .slice none 0 0] 40 (0, 0)) ∧ Below w.heap.size w W2 ∧ W2.heap.size = w.heap.size + 2) := ⟨k1, k2, hb2, hz2⟩
  unfold agT at hfr
  unfold agN
  clear hp hf hsrc hpr hb2 hz2 k1 k2
  subst hW2
  go_enter Try.func30, Try.ntmps30
  go_wp2_with fail
  go_region_law
    (go_simp; go_wp2_with (first
      | (go_at_call 34; refine hfr.mono ?_; intro e w1 hq; obtain ⟨pn, pm, pk, rfl, hp1⟩ := hq.ex; obtain ⟨bn, dn, bm, dm, bk, dk, rfl, rfl, rfl⟩ := hp1.form; have hb1 : Below _ _ w1 := bthen (below_drew1 _) hq.bl; have HB1 : Hid (Below _ _ w1) := hb1; have HP1 : Hid (Prt _ w1 t.under (.slice bn t.under.names.length dn) (.slice bm t.under.marks.length dm) (.slice bk t.under.kids.length dk)) := hp1; have hbx := blk_kept hb1 HK.out.1; have c8 := (bx9 hbx).2.2.2.2.2.2.2.2; have hcl := HCL.out w1 (bthen HK.out.2.2.1 hb1); unfold agT; clear hq hp1 hbx hfr hb1)
      | (go_at_call 48; refine hcl.mono ?_; intro e w3 hq; obtain ⟨ma, mc, rfl, hr3⟩ := hq.slice; have HB3 : Hid (Below w1.heap.size w1 w3) := hq.bl; have HR3 : Hid (w3.ownsRow w1.heap.size 51 9 (.slice ma t.mths.length mc) t.mths.length (flatM t.mths us)) := hr3; have hbx := blk_kept (bthen HB1.out hq.bl) HK.out.1; obtain ⟨y0, y1, y2, y3, y4, y5, y6, y7, y8⟩ := bx9 hbx; obtain ⟨z0, z1, z2, z3, z4, z5, z6, z7, z8⟩ := bx9f hbx; clear hq hr3 hbx hcl)))
  all_goals
    go_simp
    go_wp2_with fail
    obtain ⟨x4, hx4⟩ : ∃ x4, x4 = ((((((((w3.setCell ⟨w.heap.size, 1, none⟩ (.int .i64 t.under.kind)).setCell ⟨w.heap.size, 2, none⟩ (.string t.under.name)).setCell ⟨w.heap.size, 3, none⟩ (.int .i64 t.under.n)).setCell ⟨w.heap.size, 4, none⟩ (.bool t.under.flag)).setCell ⟨w.heap.size, 5, none⟩ (.slice bn t.under.names.length dn)).setCell ⟨w.heap.size, 6, none⟩ (.slice bm t.under.marks.length dm)).setCell ⟨w.heap.size, 7, none⟩ (.slice bk t.under.kids.length dk)).setCell ⟨w.heap.size, 8, none⟩ (.slice ma t.mths.length mc)) := ⟨_, rfl⟩
    rw [← hx4]
    have hk4 : Kx (· = w.heap.size) w3 x4 := by rw [hx4]; exact ((((((kx_set.trans kx_set).trans kx_set).trans kx_set).trans kx_set).trans kx_set).trans kx_set).trans kx_set
    have hbx4 : x4.heap[w.heap.size]? = some (.cells #[.string t.name, .int .i64 t.under.kind, .string t.under.name, .int .i64 t.under.n, .bool t.under.flag, .slice bn t.under.names.length dn, .slice bm t.under.marks.length dm, .slice bk t.under.kids.length dk, .slice ma t.mths.length mc] 40 (0, 0)) := by rw [hx4]; exact bx9_set (blk_kept (bthen HB1.out HB3.out) HK.out.1)
    have hz1 : w.heap.size + 2 ≤ w1.heap.size := by have := HB1.out.size; have := HK.out.2.2.2; omega
    have HX4 : Hid (Below w.heap.size w x4 ∧ w1.heap.size ≤ x4.heap.size) := ⟨below_kx1 (bthen HK.out.2.2.1 (bthen HB1.out HB3.out)) hk4 (Nat.le_refl _), Nat.le_trans HB3.out.size hk4.size⟩
    have HBX : Hid (x4.heap[w.heap.size]? = some (.cells #[.string t.name, .int .i64 t.under.kind, .string t.under.name, .int .i64 t.under.n, .bool t.under.flag, .slice bn t.under.names.length dn, .slice bm t.under.marks.length dm, .slice bk t.under.kids.length dk, .slice ma t.mths.length mc] 40 (0, 0)) ∧ x4.heap[w.heap.size + 1]? = some (.cells #[.string ⟨#[]⟩, .int .i64 0, .string ⟨#[]⟩, .int .i64 0, .bool false, .slice none 0 0, .slice none 0 0, .slice none 0 0, .slice none 0 0] 40 (0, 0))) := ⟨hbx4, hk4.keep _ _ (blk_kept (bthen HB1.out HB3.out) HK.out.2.1) (by omega)⟩
    have HUN : Hid (Prt (fun b => w.heap.size + 2 ≤ b ∧ b < w1.heap.size) x4 t.under (.slice bn t.under.names.length dn) (.slice bm t.under.marks.length dm) (.slice bk t.under.kids.length dk)) := (HP1.out.with (fun b hb h => ⟨by have h' := h; have := HK.out.2.2.2; simp at h' this; omega, hb⟩)).to ((Kx.of_whole (X := (· = w.heap.size)) HB3.out).trans hk4) (fun _ _ h => h) (fun b _ h e => by omega)
    have HRW : Hid (x4.ownsRow w1.heap.size 51 9 (.slice ma t.mths.length mc) t.mths.length (flatM t.mths us)) := own_kx HR3.out hk4 (fun k e => by have := (HR3.out.lt k e).1; omega)
    clear hx4 hk4 hbx4 y0 y1 y2 y3 y4 y5 y6 y7 y8 z0 z1 z2 z3 z4 z5 z6 z7 z8
    have HF0 : Hid (FnS w w1.heap.size ma mc t.mths x4 0 us x4) := ⟨hul, HRW.out, Kx.refl _ _, fun j hj => ((HPR.out j hj).kept HX4.out.1).with (fun b _ h => ⟨fun h0 => by omega, .inl h, fun e => by have := (HRW.out.lt b e).1; omega⟩)⟩
    have hc8 := (bx9 HBX.out.1).2.2.2.2.2.2.2.2
    have HML : Hid (t.mths.length * 136 ≤ 140737488355328) := HFT.out.ms
    have hml := HML.out
    go_wp2_with fail
    clear hc8
    go_loopg [15] t.mths.length (fun g u15 wr => ∃ (i : Nat) (vs : List V3), i ≤ t.mths.length ∧ t.mths.length - i ≤ g ∧ u15 = .int .i64 i ∧ Hid (FnS w w1.heap.size ma mc t.mths x4 i vs wr))
    case atStart => exact ⟨0, us, Nat.zero_le _, Nat.le_refl _, rfl, HF0⟩
    case round =>
      obtain ⟨i, vs', hi, hg, rfl, HX⟩ := hrel
      have hnbx : ¬ (Value.slice ma t.mths.length mc).ownBlock = some w.heap.size := fun e => by have := (HX.out.own.lt _ e).1; omega
      have hnrs : ¬ (Value.slice ma t.mths.length mc).ownBlock = some (w.heap.size + 1) := fun e => by have := (HX.out.own.lt _ e).1; omega
      have hbxr := HX.out.kx.keep _ _ HBX.out.1 hnbx
      have hrsr := HX.out.kx.keep _ _ HBX.out.2 hnrs
      have HBR : Hid (wr.heap[w.heap.size]? = some (.cells #[.string t.name, .int .i64 t.under.kind, .string t.under.name, .int .i64 t.under.n, .bool t.under.flag, .slice bn t.under.names.length dn, .slice bm t.under.marks.length dm, .slice bk t.under.kids.length dk, .slice ma t.mths.length mc] 40 (0, 0)) ∧ wr.heap[w.heap.size + 1]? = some (.cells #[.string ⟨#[]⟩, .int .i64 0, .string ⟨#[]⟩, .int .i64 0, .bool false, .slice none 0 0, .slice none 0 0, .slice none 0 0, .slice none 0 0] 40 (0, 0))) := ⟨hbxr, hrsr⟩
      have c8 := (bx9 hbxr).2.2.2.2.2.2.2.2
      have v8 : w.heap.size < wr.heap.size := World.block_lt_of_cell? _ _ c8
      clear hnbx hnrs hbxr hrsr
      by_cases hlt : i < t.mths.length
      · have z1 : (i : Int) < (t.mths.length : Int) := by omega
        have z0 : (0 : Int) ≤ (i : Int) := by omega
        obtain ⟨mb, cur, rfl, hmb, hbk, hcl⟩ := HX.out.cell hlt
        have hpi := HX.out.pr i hlt
        obtain ⟨pn, qn, pm, qm, pk, qk, en, em, ek⟩ := hpi.form
        have hms := HFT.out.ss _ (List.getElem_mem hlt)
        have c2 : wr.cell? ⟨mb, i * 9 + 2, none⟩ = some (.int .i64 (t.mths[i]).sig.kind) := hcl 2 (by omega)
        have c3 : wr.cell? ⟨mb, i * 9 + 2 + 1, none⟩ = some (.string (t.mths[i]).sig.name) := hcl 3 (by omega)
        have c4 : wr.cell? ⟨mb, i * 9 + 2 + 2, none⟩ = some (.int .i64 (t.mths[i]).sig.n) := hcl 4 (by omega)
        have c5 : wr.cell? ⟨mb, i * 9 + 2 + 3, none⟩ = some (.bool (t.mths[i]).sig.flag) := hcl 5 (by omega)
        have c6 : wr.cell? ⟨mb, i * 9 + 2 + 4, none⟩ = some (.slice pn (t.mths[i]).sig.names.length qn) := by rw [← en]; exact hcl 6 (by omega)
        have c7 : wr.cell? ⟨mb, i * 9 + 2 + 5, none⟩ = some (.slice pm (t.mths[i]).sig.marks.length qm) := by rw [← em]; exact hcl 7 (by omega)
        have c9 : wr.cell? ⟨mb, i * 9 + 2 + 6, none⟩ = some (.slice pk (t.mths[i]).sig.kids.length qk) := by rw [← ek]; exact hcl 8 (by omega)
        rw [en, em, ek] at hpi
        have hfr := fresh_any (hpi.kept (below_drew1 wr)) hms.1 hms.2
        unfold agT at hfr
        have v9 : mb < wr.heap.size := World.block_lt_of_cell? _ _ c2
        have HCS : Hid (∀ W, Below wr.heap.size wr W → W.cell? ⟨w.heap.size, 8, none⟩ = some (.slice (some ⟨mb, 0, none⟩) t.mths.length mc) ∧ W.cell? ⟨mb, i * 9 + 2, none⟩ = some (.int .i64 (t.mths[i]).sig.kind) ∧ W.cell? ⟨mb, i * 9 + 2 + 1, none⟩ = some (.string (t.mths[i]).sig.name) ∧ W.cell? ⟨mb, i * 9 + 2 + 2, none⟩ = some (.int .i64 (t.mths[i]).sig.n) ∧ W.cell? ⟨mb, i * 9 + 2 + 3, none⟩ = some (.bool (t.mths[i]).sig.flag) ∧ W.cell? ⟨mb, i * 9 + 2 + 4, none⟩ = some (.slice pn (t.mths[i]).sig.names.length qn) ∧ W.cell? ⟨mb, i * 9 + 2 + 5, none⟩ = some (.slice pm (t.mths[i]).sig.marks.length qm) ∧ W.cell? ⟨mb, i * 9 + 2 + 6, none⟩ = some (.slice pk (t.mths[i]).sig.kids.length qk)) := fun W h => ⟨kept_cell h c8, kept_cell h c2, kept_cell h c3, kept_cell h c4, kept_cell h c5, kept_cell h c6, kept_cell h c7, kept_cell h c9⟩
        have HBK : Hid (wr.heap[mb]? = some (.cells cur 51 (0, 0)) ∧ w1.heap.size ≤ mb) := ⟨hbk, hmb⟩
        have HLT : Hid (i < t.mths.length) := hlt
        clear hcl en em ek hms hpi hbk hmb
        go_wp2_with fail
        go_region_law
          (go_simp; go_wp2_with (go_at_call 34; refine hfr.mono ?_; intro e w5 hq; obtain ⟨xn, xm, xk, rfl, hp5⟩ := hq.ex; obtain ⟨sn, tn, sm, tm, sk, tk, rfl, rfl, rfl⟩ := hp5.form; have hb5 : Below wr.heap.size wr w5 := bthen (below_drew1 _) hq.bl; have HB5 : Hid (Below wr.heap.size wr w5) := hb5; have HP5 : Hid (Prt (fun b => wr.heap.size ≤ b) w5 (t.mths[i]'HLT.out).sig (.slice sn (t.mths[i]'HLT.out).sig.names.length tn) (.slice sm (t.mths[i]'HLT.out).sig.marks.length tm) (.slice sk (t.mths[i]'HLT.out).sig.kids.length tk)) := hp5; obtain ⟨u8, u2, u3, u4, u5, u6, u7, u9⟩ := HCS.out w5 hb5; have hbk5 := blk_kept hb5 HBK.out.1; have g0 := frzA hbk5 (i * 9 + 2); have g1 := frzA hbk5 (i * 9 + 2 + 1); have g2 := frzA hbk5 (i * 9 + 2 + 2); have g3 := frzA hbk5 (i * 9 + 2 + 3); have g4 := frzA hbk5 (i * 9 + 2 + 4); have g5 := frzA hbk5 (i * 9 + 2 + 5); have g6 := frzA hbk5 (i * 9 + 2 + 6); unfold agT; clear hq hp5 hfr hb5 hbk5))
        all_goals
          go_simp
          go_wp2_with fail
          have hst := HX.out.step (v := ⟨.slice sn (t.mths[i]'HLT.out).sig.names.length tn, .slice sm (t.mths[i]'HLT.out).sig.marks.length tm, .slice sk (t.mths[i]'HLT.out).sig.kids.length tk⟩) HLT.out hz1 HBK.out.2 v9 HB5.out HP5.out rfl
          have HST : Hid (FnS w w1.heap.size (some ⟨mb, 0, none⟩) mc t.mths x4 (i + 1) _ _) := hst
          clear hst
          go_roundg (t.mths.length - (i + 1))
          case measure => have := HLT.out; omega
          case rel => exact ⟨i + 1, _, by have := HLT.out; omega, Nat.le_refl _, by go_num, HST⟩
      · have z1 : ¬ (i : Int) < (t.mths.length : Int) := by omega
        obtain ⟨y0, y1, y2, y3, y4, y5, y6, y7, y8⟩ := bx9 HBR.out.1
        obtain ⟨r0, r1, r2, r3, r4, r5, r6, r7, r8⟩ := bx9 HBR.out.2
        obtain ⟨f0, f1, f2, f3, f4, f5, f6, f7, f8⟩ := bx9f HBR.out.2
        go_wp2_with fail
        have hkf := kx_set9 (w := wr) (g := w.heap.size + 1) (a := .string t.name) (b := .int .i64 t.under.kind) (c := .string t.under.name) (d := .int .i64 t.under.n) (e := .bool t.under.flag) (f := .slice bn t.under.names.length dn) (x := .slice bm t.under.marks.length dm) (y := .slice bk t.under.kids.length dk) (z := .slice ma t.mths.length mc)
        have hbw : Below w.heap.size w wr := HX4.out.1.trans (HX.out.kx.below HX4.out.1.size (fun b hb e => by have := (HX.out.own.lt b e).1; omega))
        have hsm := HX.out.done (by omega) (by omega) (by omega)
        have hun : Prt (fun b => w.heap.size + 2 ≤ b) wr t.under (.slice bn t.under.names.length dn) (.slice bm t.under.marks.length dm) (.slice bk t.under.kids.length dk) := HUN.out.to HX.out.kx (fun b _ h => h.1) (fun b _ h e => by have := (HX.out.own.lt b e).1; omega)
        refine bodyPost_ret (v := .agg #[.string t.name, .int .i64 t.under.kind, .string t.under.name, .int .i64 t.under.n, .bool t.under.flag, .slice bn t.under.names.length dn, .slice bm t.under.marks.length dm, .slice bk t.under.kids.length dk, .slice ma t.mths.length mc]) (results_cell rfl rfl (resN (bx9_all HBR.out.2))) rfl ?_
        exact ⟨below_kx1 hbw hkf (by omega), _, _, _, _, rfl, hun.to hkf (fun b _ h => by show w.heap.size ≤ b; omega) (fun b _ h e => by omega), hsm.to hkf (fun b _ h => by show w.heap.size ≤ b; omega) (fun b _ h e => by omega)⟩
end Go.Proofs.Ytpcpncgigdebiaa

/-
  table.add, walked.
-/
namespace Go.Proofs.Ytpcpncgigdebiaa
open Go.RowKit
attribute [local go_sem ↓] Go.wp_at_zero Go.wp_at_succ
/-- what add answers, where the name is new -/
structure AdQ (w : World) (b0 n : Nat) (f : ByteArray → Option Value) (ks : List ByteArray) (t : Nmd) (e : Ending) (w' : World) : Prop where
  ret : e = .returned (.bool true)
  ex : ∃ vn vm vk vs, MpS w' b0 (n + 1) (ups f t.name (agN t vn vm vk vs)) (insK ks t.name) ∧ NmP (fun b => w.heap.size ≤ b) w' t vn vm vk vs
  kx : Kx (· = b0) w w'
set_option maxRecDepth 100000 in
set_option maxHeartbeats 4000000 in
theorem add_old {B : BQ} {w : World} {b0 n : Nat} {f : ByteArray → Option Value} {ks : List ByteArray} {t : Nmd} {vn vm vk vs : Value} (h : MpS w b0 n f ks) (hp : NmP B w t vn vm vk vs) (hs : t.name.size ≤ maxLen) {s0 s1 : ByteArray} {k m : Int} {fl : Bool} {a1 a2 a3 a4 : Option Addr} {n1 c1 n2 c2 n3 c3 n4 c4 : Nat} (ho : f t.name = some (.agg #[.string s0, .int .i64 k, .string s1, .int .i64 m, .bool fl, .slice a1 n1 c1, .slice a2 n2 c2, .slice a3 n3 c3, .slice a4 n4 c4])) :
    Calls Try.prog 21 #[.map (some b0), agN t vn vm vk vs] w fun e w' => e = .returned (.bool false) ∧ Below w.heap.size w w' := by
  obtain ⟨an, cn, am, cm, ak, ck, sa, sc, rfl, rfl, rfl, rfl⟩ := hp.form
  have hl := (h.kept (below_alloc w (.cells #[.string t.name, .int .i64 t.under.kind, .string t.under.name, .int .i64 t.under.n, .bool t.under.flag, .slice an t.under.names.length cn, .slice am t.under.marks.length cm, .slice ak t.under.kids.length ck, .slice sa t.mths.length sc] 40))).look Try.underlying55 (zeroN _) hs
  simp only [ho, Option.getD_some, Option.isSome_some] at hl
  unfold agN
  clear h hp hs ho
  go_enter Try.func21, Try.ntmps21
  go_wp2_with fail
  go_ret
  exact ⟨rfl, bthen (below_alloc _ _) (below_alloc _ _)⟩
set_option maxRecDepth 100000 in
set_option maxHeartbeats 4000000 in
theorem add_new {B : BQ} {w : World} {b0 n : Nat} {f : ByteArray → Option Value} {ks : List ByteArray} {t : Nmd} {vn vm vk vs : Value} (h : MpS w b0 n f ks) (hp : NmP B w t vn vm vk vs) (hf : FitN t) (hs : t.name.size ≤ maxLen) (hn : n < maxLen) (ho : f t.name = none) :
    Calls Try.prog 21 #[.map (some b0), agN t vn vm vk vs] w (AdQ w b0 n f ks t) := by
  obtain ⟨an, cn, am, cm, ak, ck, sa, sc, rfl, rfl, rfl, rfl⟩ := hp.form
  have hl := (h.kept (below_alloc w (.cells #[.string t.name, .int .i64 t.under.kind, .string t.under.name, .int .i64 t.under.n, .bool t.under.flag, .slice an t.under.names.length cn, .slice am t.under.marks.length cm, .slice ak t.under.kids.length ck, .slice sa t.mths.length sc] 40))).look Try.underlying55 (zeroN _) hs
  simp only [ho, Option.getD_none, Option.isSome_none] at hl
  obtain ⟨W2, hW2⟩ : ∃ W2, W2 = (w.alloc (.cells #[.string t.name, .int .i64 t.under.kind, .string t.under.name, .int .i64 t.under.n, .bool t.under.flag, .slice an t.under.names.length cn, .slice am t.under.marks.length cm, .slice ak t.under.kids.length ck, .slice sa t.mths.length sc] 40)).alloc (.cells #[.string ⟨#[]⟩, .int .i64 0, .string ⟨#[]⟩, .int .i64 0, .bool false, .slice none 0 0, .slice none 0 0, .slice none 0 0, .slice none 0 0] 40) := ⟨_, rfl⟩
  have hb2 : Below w.heap.size w W2 := by rw [hW2]; exact bthen (below_alloc _ _) (below_alloc _ _)
  have hfr := freshN_any ((hp.kept hb2).kept (below_drew1 W2)) hf
  have HU : Hid (∀ W, Below w.heap.size w W → ∀ v, ∃ w', (Instr.mapUpdate 55 (.map (some b0)) (.string t.name) v).run Try.prog W = .ok () w' ∧ MpS w' b0 (n + 1) (ups f t.name v) (insK ks t.name) ∧ Kx (· = b0) W w' ∧ w'.heap.size = W.heap.size) := fun W hb v => (h.kept hb).upd Try.underlying55 hs hn v
  have HKB : Hid (W2.heap[w.heap.size]? = some (.cells #[.string t.name, .int .i64 t.under.kind, .string t.under.name, .int .i64 t.under.n, .bool t.under.flag, .slice an t.under.names.length cn, .slice am t.under.marks.length cm, .slice ak t.under.kids.length ck, .slice sa t.mths.length sc] 40 (0, 0))) := by
    rw [hW2]; exact blk_kept (below_alloc _ _) (heap_new _ _)
  have HB2 : Hid (Below w.heap.size w W2 ∧ b0 < w.heap.size) := ⟨hb2, h.lt⟩
  unfold agN at hfr
  unfold agN
  clear h hp hs ho hf hb2
  subst hW2
  go_enter Try.func21, Try.ntmps21
  go_wp2_with fail
  go_region_law
    (go_simp; go_wp2_with (go_at_call 30; refine hfr.mono ?_; intro e w3 hq; obtain ⟨xn, xm, xk, xs, rfl, hp3⟩ := hq.ex; obtain ⟨a1, c1, a2, c2, a3, c3, a4, c4, rfl, rfl, rfl, rfl⟩ := hp3.form; have hb3 : Below w.heap.size w w3 := bthen HB2.out.1 (bthen (below_drew1 _) hq.bl); obtain ⟨w4, hup, hM, hk4, hz4⟩ := HU.out w3 hb3 (agN t (.slice a1 t.under.names.length c1) (.slice a2 t.under.marks.length c2) (.slice a3 t.under.kids.length c3) (.slice a4 t.mths.length c4)); unfold agN at hup; have y0 := (bx9 (blk_kept (bthen (below_drew1 _) hq.bl) HKB.out)).1; have HB3 : Hid (Below w.heap.size w w3) := hb3; have HM : Hid (MpS w4 b0 (n + 1) _ (insK ks t.name)) := hM; have HK4 : Hid (Kx (· = b0) w3 w4) := hk4; have HP3 : Hid (NmP _ w3 t _ _ _ _) := hp3; unfold agN; clear hq hp3 hb3 hfr hM hk4 hz4))
  all_goals
    go_simp
    go_wp2_with fail
    go_ret
    have hz : ∀ b, ((((w.alloc (.cells #[.string t.name, .int .i64 t.under.kind, .string t.under.name, .int .i64 t.under.n, .bool t.under.flag, .slice an t.under.names.length cn, .slice am t.under.marks.length cm, .slice ak t.under.kids.length ck, .slice sa t.mths.length sc] 40)).alloc (.cells #[.string ⟨#[]⟩, .int .i64 0, .string ⟨#[]⟩, .int .i64 0, .bool false, .slice none 0 0, .slice none 0 0, .slice none 0 0, .slice none 0 0] 40)).drew).heap.size ≤ b) → w.heap.size ≤ b := fun b hb => Nat.le_trans (bthen HB2.out.1 (below_drew1 _)).size hb
    exact ⟨rfl, ⟨_, _, _, _, HM.out, HP3.out.to HK4.out (fun b _ hb => hz b hb) (fun b _ hb e => by have := hz b hb; have := HB2.out.2; omega)⟩, (Kx.of_whole HB3.out).trans HK4.out⟩
end Go.Proofs.Ytpcpncgigdebiaa

