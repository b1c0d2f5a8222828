/-
  The example: awake answers true.
-/
import Derived.Test.YtifcikhgbafegabAwl
import Derived.Deep.RegionLaw
namespace Go.Proofs.Ytifcikhgbafegab
open Go.RowKit
attribute [local go_sem ↓] Go.wp_at_zero Go.wp_at_succ
/-- one type in a slice that was built of it -/
theorem slt_one {w : World} {t : Ty} {B : BQ} {vn vm vk : Value} (h : Prt B w t vn vm vk) : SlT (fun _ => True) (w.alloc (.cells #[.int .i64 t.kind, .string t.name, .int .i64 t.n, .bool t.flag, vn, vm, vk] 26)) (.slice (some ⟨w.heap.size, 0, none⟩) 1 1) [t] := by
  obtain ⟨c0, c1, c2, c3, c4, c5, c6⟩ := bx7 (heap_new w (.cells #[.int .i64 t.kind, .string t.name, .int .i64 t.n, .bool t.flag, vn, vm, vk] 26))
  refine .inr ⟨w.heap.size, 0, 1, rfl, by simp, by simp, trivial, liesT_cons.2 ⟨lies_iff.2 ⟨c0, c1, c2, c3, vn, vm, vk, c4, c5, c6, ?_⟩, liesT_nil⟩⟩
  exact (h.with (fun _ _ _ => trivial)).kept (below_alloc _ _)
theorem bx14 {w : World} {X : Nat} {a b c d e f g a' b' c' d' e' f' g' : Value} {T : TypeId} (h : w.heap[X]? = some (.cells #[a, b, c, d, e, f, g, a', b', c', d', e', f', g'] T (0, 0))) :
    (w.cell? ⟨X, 0, none⟩ = some a ∧ w.cell? ⟨X, 1, none⟩ = some b ∧ w.cell? ⟨X, 2, none⟩ = some c ∧ w.cell? ⟨X, 3, none⟩ = some d ∧ w.cell? ⟨X, 4, none⟩ = some e ∧ w.cell? ⟨X, 5, none⟩ = some f ∧ w.cell? ⟨X, 6, none⟩ = some g) ∧
    (w.cell? ⟨X, 7, none⟩ = some a' ∧ w.cell? ⟨X, 8, none⟩ = some b' ∧ w.cell? ⟨X, 9, none⟩ = some c' ∧ w.cell? ⟨X, 10, none⟩ = some d' ∧ w.cell? ⟨X, 11, none⟩ = some e' ∧ w.cell? ⟨X, 12, none⟩ = some f' ∧ w.cell? ⟨X, 13, none⟩ = some g') := by
  simp [World.cell?, h]
theorem slt_two {w : World} {t u : Ty} {B B' : BQ} {vn vm vk un um uk : Value} (h : Prt B w t vn vm vk) (h' : Prt B' w u un um uk) : SlT (fun _ => True) (w.alloc (.cells #[.int .i64 t.kind, .string t.name, .int .i64 t.n, .bool t.flag, vn, vm, vk, .int .i64 u.kind, .string u.name, .int .i64 u.n, .bool u.flag, un, um, uk] 26)) (.slice (some ⟨w.heap.size, 0, none⟩) 2 2) [t, u] := by
  obtain ⟨⟨c0, c1, c2, c3, c4, c5, c6⟩, d0, d1, d2, d3, d4, d5, d6⟩ := bx14 (heap_new w (.cells #[.int .i64 t.kind, .string t.name, .int .i64 t.n, .bool t.flag, vn, vm, vk, .int .i64 u.kind, .string u.name, .int .i64 u.n, .bool u.flag, un, um, uk] 26))
  refine .inr ⟨w.heap.size, 0, 2, rfl, by simp, by simp, trivial, liesT_cons.2 ⟨lies_iff.2 ⟨c0, c1, c2, c3, vn, vm, vk, c4, c5, c6, ?_⟩, liesT_cons.2 ⟨lies_iff.2 ⟨d0, d1, d2, d3, un, um, uk, d4, d5, d6, ?_⟩, liesT_nil⟩⟩⟩
  · exact (h.with (fun _ _ _ => trivial)).kept (below_alloc _ _)
  · exact (h'.with (fun _ _ _ => trivial)).kept (below_alloc _ _)
/-- kids that are all one's own, cell by cell -/
theorem ownT {W : World} {N : Nat} {v : Value} {ks : List Ty} (ho : OwnK W ks.length v) (hk : KidsO N ks v W) : ∃ (vs : List V3) (h : vs.length = ks.length), W.ownsRow 0 26 7 v ks.length (flatT ks vs) ∧ ∀ i (hi : i < ks.length), Prt (fun b => True ∧ v.ownBlock ≠ some b) W ks[i] (vs[i]'(h ▸ hi)).n (vs[i]'(h ▸ hi)).m (vs[i]'(h ▸ hi)).k := by
  cases ho with
  | nil h =>
    obtain rfl : ks = [] := List.length_eq_zero_iff.1 h
    exact ⟨[], rfl, World.ownsRow_nil _ _ _ _, fun i hi => by cases hi⟩
  | row g cap cur hc hm hb hs =>
    have hL : liesT (fun b => N ≤ b ∧ b ≠ g) W ks g 0 := liesT_of fun i hi => by rw [Nat.zero_add]; exact hk g rfl i hi
    obtain ⟨vs, hvl, hcs, hpr⟩ := liesT_flat ks g 0 hL
    refine ⟨vs, hvl, ⟨flatT_len ks vs hvl, .inr ⟨g, cap, cur, rfl, Nat.zero_le _, hb, hc, hm, hs, ?_⟩⟩, fun i hi => (hpr i hi).with (fun b _ h => ⟨trivial, fun e => h.2 (by simpa [Value.ownBlock] using e.symm)⟩)⟩
    apply List.ext_getElem?
    intro j
    rw [List.getElem?_take]
    have hlen := flatT_len ks vs hvl
    by_cases hj : j < ks.length * 7
    · rw [if_pos hj]
      obtain ⟨u, hu⟩ : ∃ u, (flatT ks vs)[j]? = some u := ⟨_, List.getElem?_eq_getElem (by omega)⟩
      rw [hu]
      have := hcs j u hu
      rw [cell_of hb, Nat.zero_add] at this
      rw [Array.getElem?_toList]; exact this
    · rw [if_neg hj, List.getElem?_eq_none (by omega)]
theorem aw_below {w w4 w6 w9 : World} {kb n c : Nat} {u : Value} {tmp : Obj} (hb : Below w.heap.size w w4) (hb6 : Below w4.heap.size w4 w6) (hk : w.heap.size ≤ kb) (hz : w4.heap.size < w6.heap.size) (hg : (w6.alloc tmp).grownBy w9 (Value.slice (some ⟨kb, 0, none⟩) n c).ownBlock) : Below w.heap.size w (w9.setCell ⟨w4.heap.size, 6, none⟩ u) := by
  have h1 : Below w.heap.size w w6 := bthen hb hb6
  have h2 : Below w.heap.size w w9 := (bthen h1 (below_alloc _ _)).grown hg (by have := h1.size; simp; omega) (fun k e => by
    obtain rfl : kb = k := by simpa [Value.ownBlock] using e
    exact hk)
  have := hz
  exact h2.setCell (p := ⟨w4.heap.size, 6, none⟩) hb.size _
theorem aw_row {w4 w6 w9 : World} {kb gg cap ck4 cn4 cm4 cn6 cm6 ck6 : Nat} {an4 am4 an6 am6 ak6 : Option Addr} {vs : List V3} {tmp : Obj} (hvl : vs.length = [mkT 1 [], mkT 11 [mkT 2 []]].length)
    (hpr : ∀ i (hi : i < [mkT 1 [], mkT 11 [mkT 2 []]].length), Prt (fun b => True ∧ (Value.slice (some ⟨kb, 0, none⟩) 2 ck4).ownBlock ≠ some b) w4 [mkT 1 [], mkT 11 [mkT 2 []]][i] (vs[i]'(hvl ▸ hi)).n (vs[i]'(hvl ▸ hi)).m (vs[i]'(hvl ▸ hi)).k) (hb6 : Below w4.heap.size w4 w6) (hkb : kb < w4.heap.size) (hz : w4.heap.size < w6.heap.size)
    (hg : (w6.alloc tmp).grownBy w9 (Value.slice (some ⟨kb, 0, none⟩) 2 ck4).ownBlock) (hat : (Value.slice (some ⟨kb, 0, none⟩) 2 ck4).ownBlock = some gg ∨ gg = w6.heap.size + 1)
    (ho : w9.ownsRow 0 26 7 (.slice (some ⟨gg, 0, none⟩) (2 + 1) cap) (2 + 1) (flatT [mkT 1 [], mkT 11 [mkT 2 []]] vs ++ cel (mkT 3 []) ⟨.slice an6 0 cn6, .slice am6 0 cm6, .slice ak6 0 ck6⟩)) :
    Prt (fun _ => True) (w9.setCell ⟨w4.heap.size, 6, none⟩ (.slice (some ⟨gg, 0, none⟩) 3 cap)) awT (.slice an4 0 cn4) (.slice am4 0 cm4) (.slice (some ⟨gg, 0, none⟩) 3 cap) := by
  have hrow := RowT.join (base := 0) (K := fun b => b ≠ w4.heap.size) (W := w6.alloc tmp) (v := .slice (some ⟨kb, 0, none⟩) 2 ck4) (l := [mkT 1 [], mkT 11 [mkT 2 []]]) (l2 := [mkT 3 []]) (vs2 := [⟨.slice an6 0 cn6, .slice am6 0 cm6, .slice ak6 0 ck6⟩]) hvl (fun i hi => ((hpr i hi).with (B' := fun b => b ≠ w4.heap.size ∧ (Value.slice (some ⟨kb, 0, none⟩) 2 ck4).ownBlock ≠ some b) (fun b hb h => ⟨by omega, h.2⟩)).kept (bthen hb6 (below_alloc _ _))) rfl (fun i hi => by
    have hi0 : i = 0 := by simp at hi; exact hi
    subst hi0
    exact ⟨.inl ⟨_, _, rfl, rfl⟩, .inl ⟨_, _, rfl, rfl⟩, .inl ⟨_, _, rfl, rfl⟩⟩) hg (by rw [World.size_alloc]; exact hat) (by simpa [flatT] using ho)
  have hne : gg ≠ w4.heap.size := by
    rcases hat with h | h
    · obtain rfl : kb = gg := by simpa [Value.ownBlock] using h
      omega
    · omega
  have hr2 := hrow.to (kx_set (w := w9) (B := w4.heap.size) (o := 6) (v := .slice (some ⟨gg, 0, none⟩) 3 cap)) (fun b hb e => hne (by
    obtain rfl : gg = b := by simpa [Value.ownBlock] using hb
    exact e)) (fun b _ h e => h e)
  have hsl := hr2.read (B := fun _ => True) (by simp) (fun _ _ _ => trivial) (fun _ _ _ => trivial)
  exact ⟨.inl ⟨_, _, rfl, rfl⟩, .inl ⟨_, _, rfl, rfl⟩, hsl⟩
theorem fit1 (k : Int) : Fit (mkT k []) := fit_mk (fun x hx => by cases hx)
theorem sltN {W : World} : SlT (fun _ => True) W (.slice none 0 0) [] := .inl ⟨none, 0, rfl, rfl⟩
set_option maxRecDepth 100000 in
set_option maxHeartbeats 8000000 in
theorem awake_any (w : World) : Calls Try.prog 5 #[] w fun e w' => e = .returned (.bool true) ∧ Below w.heap.size w w' := by
  go_enter Try.func5, Try.ntmps5
  go_wp2_with fail
  refine (make_any (B := fun _ => True) 1 sltN (fun x hx => by cases hx) (by decide)).mono ?_
  intro e w1 hq
  obtain ⟨v1n, v1m, v1k, rfl, p1⟩ := hq.ex
  obtain ⟨an1, cn1, am1, cm1, ak1, ck1, rfl, rfl, rfl⟩ := p1.form
  have B1 : Hid (Below w.heap.size w w1) := hq.bl
  have P1 : Hid _ := p1
  unfold agT
  simp only [mkT, Ty.kind, Ty.name, Ty.n, Ty.flag, Ty.names, Ty.marks, Ty.kids, List.length_nil, Int.reduceEq, if_false]
  clear hq p1
  go_wp2_with fail
  refine (make_any (B := fun _ => True) 2 sltN (fun x hx => by cases hx) (by decide)).mono ?_
  intro e w2 hq
  obtain ⟨v2n, v2m, v2k, rfl, p2⟩ := hq.ex
  obtain ⟨an2, cn2, am2, cm2, ak2, ck2, rfl, rfl, rfl⟩ := p2.form
  have B2 : Hid (Below w1.heap.size w1 w2) := hq.bl
  have P2 : Hid _ := p2
  unfold agT
  simp only [mkT, Ty.kind, Ty.name, Ty.n, Ty.flag, Ty.names, Ty.marks, Ty.kids, List.length_nil, Int.reduceEq, if_false]
  clear hq p2
  go_wp2_with fail
  have s2 : SlT (fun _ => True) (w2.alloc (.cells #[.int .i64 2, .string ⟨#[]⟩, .int .i64 0, .bool false, .slice an2 0 cn2, .slice am2 0 cm2, .slice ak2 0 ck2] 26)) (.slice (some ⟨w2.heap.size, 0, none⟩) 1 1) [mkT 2 []] := slt_one P2.out
  refine (make_any 11 s2 (fun x hx => by obtain rfl := List.mem_singleton.1 hx; exact fit1 2) (by decide)).mono ?_
  intro e w3 hq
  obtain ⟨v3n, v3m, v3k, rfl, p3⟩ := hq.ex
  obtain ⟨an3, cn3, am3, cm3, ak3, ck3, rfl, rfl, rfl⟩ := p3.form
  have B3 : Hid (Below w1.heap.size w1 w3) := bthen B2.out (bthen (below_alloc _ _) hq.bl)
  have P3 : Hid _ := p3
  have P1' : Hid _ := P1.out.kept B3.out
  unfold agT
  simp only [mkT, Ty.kind, Ty.name, Ty.n, Ty.flag, Ty.names, Ty.marks, Ty.kids, List.length_nil, List.length_cons, Int.reduceEq, if_false]
  clear hq p3 s2 B2 P2 P1
  go_wp2_with fail
  have s3 : SlT (fun _ => True) (w3.alloc (.cells #[.int .i64 1, .string ⟨#[]⟩, .int .i64 0, .bool false, .slice an1 0 cn1, .slice am1 0 cm1, .slice ak1 0 ck1, .int .i64 11, .string ⟨#[]⟩, .int .i64 0, .bool false, .slice an3 0 cn3, .slice am3 0 cm3, .slice ak3 1 ck3] 26)) (.slice (some ⟨w3.heap.size, 0, none⟩) 2 2) [mkT 1 [], mkT 11 [mkT 2 []]] := slt_two P1'.out P3.out
  refine (make_own 13 s3 (fun x hx => by
    simp only [List.mem_cons, List.not_mem_nil, or_false] at hx
    rcases hx with rfl | rfl
    · exact fit1 1
    · exact fit_mk (fun x hx => by obtain rfl := List.mem_singleton.1 hx; exact fit1 2)) (by decide)).mono ?_
  intro e w4 hq
  obtain ⟨v4n, v4m, v4k, rfl, p4, ok4, kk4⟩ := hq.ex
  obtain ⟨an4, cn4, am4, cm4, ak4, ck4, rfl, rfl, rfl⟩ := p4.form
  have B4 : Hid (Below w.heap.size w w4) := bthen B1.out (bthen B3.out (bthen (below_alloc _ _) hq.bl))
  unfold agT
  have P4 : Hid (StrV (fun _ => True) w4 (.slice an4 0 cn4) [] ∧ BooV (fun _ => True) w4 (.slice am4 0 cm4) []) := ⟨(p4.with (B' := fun _ => True) (fun _ _ _ => trivial)).ns, (p4.with (B' := fun _ => True) (fun _ _ _ => trivial)).ms⟩
  obtain ⟨vs, hvl, hrow, hprs⟩ := ownT ok4 kk4
  obtain ⟨kb, rfl⟩ : ∃ kb, ak4 = some ⟨kb, 0, none⟩ := by
    rcases hrow.2 with ⟨h, _⟩ | ⟨g, cap, cur, h, _⟩
    · simp [mkT, Ty.kids] at h
    · exact ⟨g, by simp at h; exact h.1⟩
  have HROW : Hid (w4.ownsRow 0 26 7 (.slice (some ⟨kb, 0, none⟩) 2 ck4) 2 (flatT [mkT 1 [], mkT 11 [mkT 2 []]] vs)) := hrow
  have HPRS : Hid (∀ i (hi : i < [mkT 1 [], mkT 11 [mkT 2 []]].length), Prt (fun b => True ∧ (Value.slice (some ⟨kb, 0, none⟩) 2 ck4).ownBlock ≠ some b) w4 [mkT 1 [], mkT 11 [mkT 2 []]][i] (vs[i]'(hvl ▸ hi)).n (vs[i]'(hvl ▸ hi)).m (vs[i]'(hvl ▸ hi)).k) := hprs
  have hkb : kb < w4.heap.size := (hrow.lt kb rfl).2
  have hkw : w.heap.size ≤ kb := by
    have z1 := (bthen B1.out B3.out).size
    rcases p4.ks with ⟨_, _, e, _⟩ | ⟨b9, o9, c9, e, _, _, hb9, _⟩
    · simp [mkT, Ty.kids] at e
    · obtain ⟨rfl, _⟩ : kb = b9 ∧ 0 = o9 := by simp at e; exact e.1
      simp only [World.size_alloc] at hb9
      omega
  simp only [mkT, Ty.kind, Ty.name, Ty.n, Ty.flag, Ty.names, Ty.marks, Ty.kids, List.length_nil, List.length_cons, Int.reduceEq, if_false]
  clear hq p4 s3 B3 P3 P1' B1 ok4 kk4 hrow hprs
  have hmk := make_any (B := fun _ => True) (w := (w4.alloc (.cells #[.int .i64 13, .string ⟨#[]⟩, .int .i64 2, .bool true, .slice an4 0 cn4, .slice am4 0 cm4, .slice (some ⟨kb, 0, none⟩) 2 ck4] 26)).drew) 3 sltN (fun x hx => by cases hx) (by decide)
  have hTn := heap_new w4 (.cells #[.int .i64 13, .string ⟨#[]⟩, .int .i64 2, .bool true, .slice an4 0 cn4, .slice am4 0 cm4, .slice (some ⟨kb, 0, none⟩) 2 ck4] 26)
  have t6 : (w4.alloc (.cells #[.int .i64 13, .string ⟨#[]⟩, .int .i64 2, .bool true, .slice an4 0 cn4, .slice am4 0 cm4, .slice (some ⟨kb, 0, none⟩) 2 ck4] 26)).cell? ⟨w4.heap.size, 6, none⟩ = some (.slice (some ⟨kb, 0, none⟩) 2 ck4) := (bx7 hTn).2.2.2.2.2.2
  obtain ⟨i0, hi, hz0, hz1, hz2⟩ := infoT_ex
  have HTN : Hid _ := hTn
  clear hTn
  go_wp2_with fail
  go_region_law
    (first
      | (refine step_append_lies _ (by rfl) _ _ _ (by rfl) 0 26 i0 _ 7 112 Try.underlying24 hi hz0 hz1 hz2 rfl (by omega) (.slice (some ⟨kb, 0, none⟩) 2 ck4) 2 (flatT [mkT 1 [], mkT 11 [mkT 2 []]] vs) (by rfl) (HO6.out.alloc _) ⟨w6.heap.size, 0, none⟩ 1 1 (cel (mkT 3 []) ⟨.slice an6 0 cn6, .slice am6 0 cm6, .slice ak6 0 ck6⟩) (by rfl) (by rfl) (World.news_of_block (heap_alloc_new w6 _)) (by simp [Value.oneCell', cel]) (by omega) (by unfold maxLen; omega) (by omega) (by simp) (w6.heap.size + 1) (by simp) ?_; intro gg cap w9 hown1 hgrow hat hlt1; have HO9 : Hid _ := hown1; have HG9 : Hid _ := hgrow; have HAT : Hid _ := hat; have hT9 : w9.heap[w4.heap.size]? = some (.cells #[.int .i64 13, .string ⟨#[]⟩, .int .i64 2, .bool true, .slice an4 0 cn4, .slice am4 0 cm4, .slice (some ⟨kb, 0, none⟩) 2 ck4] 26 (0, 0)) := (hgrow.block _ (by simp; omega) (by simp [Value.ownBlock]; omega)).trans (blk_kept (below_alloc _ _) HT6.out); have kk1 : w9.cell? ⟨w4.heap.size, 6, none⟩ = some (.slice (some ⟨kb, 0, none⟩) 2 ck4) := (bx7 hT9).2.2.2.2.2.2; have kk2 : w9.frozen? ⟨w4.heap.size, 6, none⟩ = false := (bx7f hT9).2.2.2.2.2.2; have HT9 : Hid _ := hT9; clear hown1 hgrow hat hT9)
      | (go_simp; go_wp2_with (go_at_call 12; refine hmk.mono ?_; intro e w6 hq; obtain ⟨v6n, v6m, v6k, rfl, p6⟩ := hq.ex; obtain ⟨an6, cn6, am6, cm6, ak6, ck6, rfl, rfl, rfl⟩ := p6.form; have hb6 : Below w4.heap.size w4 w6 := bthen (bthen (below_alloc _ _) (below_drew1 _)) hq.bl; have HB6 : Hid (Below w4.heap.size w4 w6) := hb6; have HP6 : Hid (Prt (fun _ => True) w6 (mkT 3 []) (.slice an6 0 cn6) (.slice am6 0 cm6) (.slice ak6 0 ck6)) := p6.with (fun _ _ _ => trivial); have HO6 : Hid (w6.ownsRow 0 26 7 (.slice (some ⟨kb, 0, none⟩) 2 ck4) 2 (flatT [mkT 1 [], mkT 11 [mkT 2 []]] vs)) := own_kept HROW.out hb6; have hT6 : w6.heap[w4.heap.size]? = some (.cells #[.int .i64 13, .string ⟨#[]⟩, .int .i64 2, .bool true, .slice an4 0 cn4, .slice am4 0 cm4, .slice (some ⟨kb, 0, none⟩) 2 ck4] 26 (0, 0)) := blk_kept hq.bl HTN.out; have HT6 : Hid _ := hT6; have d6 : w6.cell? ⟨w4.heap.size, 6, none⟩ = some (.slice (some ⟨kb, 0, none⟩) 2 ck4) := (bx7 hT6).2.2.2.2.2.2; have hz6 : w4.heap.size < w6.heap.size := (Array.getElem?_eq_some_iff.1 hT6).1; unfold agT; simp only [mkT, Ty.kind, Ty.name, Ty.n, Ty.flag, Ty.names, Ty.marks, Ty.kids, List.length_nil, Int.reduceEq, if_false]; clear hq p6 hb6 hT6 hmk)))
  all_goals
    have hfin : Hid (Prt (fun _ => True) (w9.setCell ⟨w4.heap.size, 6, none⟩ (.slice (some ⟨gg, 0, none⟩) 3 cap)) awT (.slice an4 0 cn4) (.slice am4 0 cm4) (.slice (some ⟨gg, 0, none⟩) 3 cap)) := aw_row hvl HPRS.out HB6.out hkb hz6 HG9.out HAT.out HO9.out
    have hT10 : (w9.setCell ⟨w4.heap.size, 6, none⟩ (.slice (some ⟨gg, 0, none⟩) 3 cap)).heap[w4.heap.size]? = some (.cells #[.int .i64 13, .string ⟨#[]⟩, .int .i64 2, .bool true, .slice an4 0 cn4, .slice am4 0 cm4, .slice (some ⟨gg, 0, none⟩) 3 cap] 26 (0, 0)) := bx7_set6 HT9.out
    have HB9 : Hid (Below w.heap.size w (w9.setCell ⟨w4.heap.size, 6, none⟩ (.slice (some ⟨gg, 0, none⟩) 3 cap))) := aw_below B4.out HB6.out hkw hz6 HG9.out
    have HT10 : Hid _ := hT10
    have htx := text_any lays1 hfin.out (.inr rfl) (by decide) (by rw [aw_txt]; decide)
    rw [show bs awT.txt = ⟨#[102, 117, 110, 99, 40, 105, 110, 116, 44, 32, 46, 46, 46, 115, 116, 114, 105, 110, 103, 41, 32, 98, 111, 111, 108]⟩ by rw [aw_txt]; rfl] at htx
    unfold agT at htx
    simp only [awT, Ty.kind, Ty.name, Ty.n, Ty.flag] at htx
    obtain ⟨j0, j1, j2, j3, j4, j5, j6⟩ := bx7 hT10
    have kst := str_eq (a := ⟨#[102, 117, 110, 99, 40, 105, 110, 116, 44, 32, 46, 46, 46, 115, 116, 114, 105, 110, 103, 41, 32, 98, 111, 111, 108]⟩) rfl
    clear hT10 kk1 kk2 d6 t6 HT9 HT6 HO6 HPRS HROW HP6 HTN P4
    generalize (w9.setCell ⟨w4.heap.size, 6, none⟩ (.slice (some ⟨gg, 0, none⟩) 3 cap)) = W9 at *
    go_wp2_with fail
    refine htx.mono ?_
    rintro e w10 ⟨rfl, hb10⟩
    have hidn := idn_any (hfin.out.kept hb10) (hfin.out.kept hb10) (by decide)
    rw [show awT.idn awT = true by decide] at hidn
    unfold agT at hidn
    simp only [awT, Ty.kind, Ty.name, Ty.n, Ty.flag] at hidn
    obtain ⟨l0, l1, l2, l3, l4, l5, l6⟩ := bx7 (blk_kept hb10 HT10.out)
    have HB10 : Hid (Below W9.heap.size W9 w10) := hb10
    clear htx hb10
    go_wp2_with fail
    refine hidn.mono ?_
    rintro e w11 ⟨rfl, hb11⟩
    have HB11 : Hid _ := hb11
    clear hidn hb11
    go_wp2_with fail
    go_ret
    exact ⟨rfl, bthen HB9.out (bthen HB10.out HB11.out)⟩
end Go.Proofs.Ytifcikhgbafegab

