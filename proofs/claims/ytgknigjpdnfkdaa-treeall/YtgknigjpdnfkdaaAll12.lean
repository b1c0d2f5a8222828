/-
  The function that recastlaw4.TreeAll hands to the iterator.
-/
import Derived.Test.YtgknigjpdnfkdaaFlat
import Derived.Test.YtgknigjpdnfkdaaInts
namespace Go.Proofs.Ytgknigjpdnfkdaa
open Go.RowKit
attribute [local go_sem ↓] Go.wp_at_zero Go.wp_at_succ
/-- where recastlaw4.TreeAll stands: k nodes have come, all right; the rows of what is to come -/
structure StA (FL : List (Nat × Nd)) (n0 okb ovb kb lb db sb : Nat) (stop : Int) (vl vd : Value) (k : Nat) (ovr : Bool) (W : World) : Prop where
  ok : W.heap[okb]? = some (.cells #[.bool true] 4 (0, 0))
  ov : W.heap[ovb]? = some (.cells #[.bool ovr] 4 (0, 0))
  kc : W.heap[kb]? = some (.cells #[.int .i64 k] 3 (0, 0))
  lc : W.heap[lb]? = some (.cells #[vl] 22 (0, 0))
  dc : W.heap[db]? = some (.cells #[vd] 27 (0, 0))
  sc : W.heap[sb]? = some (.cells #[.int .i64 stop] 3 (0, 0))
  rl : RowN n0 (Bl n0) W vl (FL.map Prod.snd)
  rd : RowI n0 W vd (FL.map fun e => (e.1 : Int))
  d1 : okb ≠ ovb
  d2 : okb ≠ kb
  d3 : ovb ≠ kb
  d4 : kb ≠ sb
  n1 : n0 ≤ okb
  n2 : n0 ≤ ovb
  n3 : n0 ≤ kb
  n4 : vd.ownBlock ≠ some kb
/-- what stands there already is stored: nothing is changed -/
theorem setCell_same {W : World} {b : Nat} {v : Value} {t : TypeId} (h : W.heap[b]? = some (.cells #[v] t (0, 0))) : W.setCell ⟨b, 0, none⟩ v = W := by
  have hh : (W.setCell ⟨b, 0, none⟩ v).heap = W.heap := by
    apply Array.ext_getElem?
    intro k
    by_cases hk : k = b
    · subst hk
      rw [heap_setCell_same W k 0 _ t v h, h]
      simp
    · exact heap_setCell_other W ⟨b, 0, none⟩ k v hk
  have e : W.setCell ⟨b, 0, none⟩ v = { W with heap := (W.setCell ⟨b, 0, none⟩ v).heap } := rfl
  rw [e, hh]
theorem RowN.nec {base : Nat} {K : BP} {W : World} {v : Value} {l : List Nd} (h : RowN base K W v l) {b : Nat} {cs : Array Value} {t : TypeId} {fz : Nat × Nat} (hc : W.heap[b]? = some (.cells cs t fz)) (ht : t ≠ 24) : v.ownBlock ≠ some b := fun e => by
  obtain ⟨vs, hl, ho, _⟩ := h.ex
  rcases ho.2 with ⟨rfl, _⟩ | ⟨g, cap, cur, rfl, h1, h2, h3⟩
  · simp [Value.ownBlock] at e
  · have e' : g = b := by simpa [Value.ownBlock] using e
    subst e'
    rw [hc] at h2
    simp at h2
    exact ht h2.2.1
theorem RowN.elem {base : Nat} {K : BP} {W : World} {v : Value} {l : List Nd} (h : RowN base K W v l) (i : Nat) (hi : i < l.length) : ∃ g c u, v = .slice (some ⟨g, 0, none⟩) l.length c ∧ W.cell? ⟨g, i * 5, none⟩ = some (.int .i64 l[i].kind) ∧ W.cell? ⟨g, i * 5 + 1, none⟩ = some (.int .i64 l[i].fr) ∧ W.cell? ⟨g, i * 5 + 2, none⟩ = some (.int .i64 l[i].to) ∧ W.cell? ⟨g, i * 5 + 3, none⟩ = some (.string l[i].text) ∧ W.cell? ⟨g, i * 5 + 4, none⟩ = some u ∧ SlV K W u l[i].kids := by
  obtain ⟨vs, hl, ho, hs⟩ := h.ex
  rcases ho.2 with ⟨_, h0⟩ | ⟨g, cap, cur, rfl, h1, h2, h3, h4, h5, h6⟩
  · omega
  · have hc : ∀ k, k < l.length * 5 → W.cell? ⟨g, k, none⟩ = (flatV l vs)[k]? := fun k hk => by
      rw [cell_of h2, ← h6, List.getElem?_take, if_pos hk, Array.getElem?_toList]
    obtain ⟨f0, f1, f2, f3, f4⟩ := flatV_get l vs hl i hi
    exact ⟨g, cap, _, rfl, (hc _ (by omega)).trans f0, (hc _ (by omega)).trans f1, (hc _ (by omega)).trans f2, (hc _ (by omega)).trans f3, (hc _ (by omega)).trans f4, (hs i hi).with (fun _ _ _ _ h => h.1)⟩
theorem RowI.elem {base : Nat} {W : World} {v : Value} {l : List Int} (h : RowI base W v l) (i : Nat) (hi : i < l.length) : ∃ g c, v = .slice (some ⟨g, 0, none⟩) l.length c ∧ W.cell? ⟨g, i, none⟩ = some (.int .i64 l[i]) := by
  rcases h.2 with ⟨_, h0⟩ | ⟨g, cap, cur, rfl, h1, h2, h3, h4, h5, h6⟩
  · omega
  · refine ⟨g, cap, rfl, ?_⟩
    rw [cell_of h2]
    have h7 : (cur.toList.take (l.length * 1))[i]? = (l.map fun d => Value.int .i64 d)[i]? := by rw [h6]
    rw [List.getElem?_take, if_pos (by omega), Array.getElem?_toList] at h7
    rw [h7]
    simp [hi]
set_option maxRecDepth 100000 in
set_option maxHeartbeats 2000000 in
theorem yield_any (FL : List (Nat × Nd)) (n0 okb ovb kb lb db sb : Nat) (stop : Int) (vl vd : Value) (k : Nat) (hkz : k + 1 ≤ 1000000) (w : World) (d : Nat) (y : Nd) (vy : Value) (B : BP) (hS : StA FL n0 okb ovb kb lb db sb stop vl vd k false w) (hy : SlV B w vy y.kids) (hk : k < FL.length) (he : FL[k] = (d, y)) :
    Calls Try.prog 12 #[.int .i64 d, aggN y vy, .pointer (some ⟨okb, 0, none⟩), .pointer (some ⟨ovb, 0, none⟩), .pointer (some ⟨kb, 0, none⟩), .pointer (some ⟨lb, 0, none⟩), .pointer (some ⟨db, 0, none⟩), .pointer (some ⟨sb, 0, none⟩)] w fun e w' => ∃ q : Bool, e = .returned (.bool (!q)) ∧ (q = true ↔ (k : Int) + 1 = stop) ∧ StA FL n0 okb ovb kb lb db sb stop vl vd (k + 1) q w' ∧ Kx (fun b => b = okb ∨ b = ovb ∨ b = kb) w w' := by
  obtain ⟨ay, cy, rfl, -, -⟩ := hy.open
  have hll : (FL.map Prod.snd).length = FL.length := by simp
  have hdl : (FL.map fun e => (e.1 : Int)).length = FL.length := by simp
  obtain ⟨gl, cl, u, e1, p0, p1, p2, p3, p4, su⟩ := hS.rl.elem k (by omega)
  obtain ⟨gd, cd, e2, q0⟩ := hS.rd.elem k (by omega)
  have g1 : (FL.map Prod.snd)[k]'(by omega) = y := by simp [he]
  replace q0 : w.cell? ⟨gd, k, none⟩ = some (.int .i64 (d : Int)) := by simpa [he] using q0
  rw [hll] at e1
  rw [hdl] at e2
  subst e1 e2
  rw [g1] at p0 p1 p2 p3 su
  obtain ⟨au, cu, rfl⟩ := su.slice
  obtain ⟨NL, hNL⟩ : ∃ N, FL.length = N := ⟨_, rfl⟩
  have HS : Hid (StA FL n0 okb ovb kb lb db sb stop (.slice (some ⟨gl, 0, none⟩) FL.length cl) (.slice (some ⟨gd, 0, none⟩) FL.length cd) k false w) := ⟨hS⟩
  rw [hNL] at HS hk ⊢
  obtain ⟨W0, hW0⟩ : ∃ z, w.alloc (.cells #[.int .i64 y.kind, .int .i64 y.fr, .int .i64 y.to, .string y.text, .slice ay y.kids.length cy] 24) = z := ⟨_, rfl⟩
  have hb0 : Below w.heap.size w W0 := hW0 ▸ below_alloc _ _
  have hbx : W0.heap[w.heap.size]? = some (.cells #[.int .i64 y.kind, .int .i64 y.fr, .int .i64 y.to, .string y.text, .slice ay y.kids.length cy] 24) := by rw [← hW0]; exact heap_alloc_new _ _
  have KS : Hid (∀ w', Below W0.heap.size W0 w' → (w'.cell? ⟨okb, 0, none⟩ = some (.bool true) ∧ w'.cell? ⟨ovb, 0, none⟩ = some (.bool false) ∧ w'.cell? ⟨kb, 0, none⟩ = some (.int .i64 k) ∧ w'.cell? ⟨lb, 0, none⟩ = some (.slice (some ⟨gl, 0, none⟩) NL cl) ∧ w'.cell? ⟨db, 0, none⟩ = some (.slice (some ⟨gd, 0, none⟩) NL cd) ∧ w'.cell? ⟨gd, k, none⟩ = some (.int .i64 d) ∧ w'.cell? ⟨w.heap.size, 0, none⟩ = some (.int .i64 y.kind) ∧ w'.cell? ⟨w.heap.size, 1, none⟩ = some (.int .i64 y.fr) ∧ w'.cell? ⟨w.heap.size, 2, none⟩ = some (.int .i64 y.to) ∧ w'.cell? ⟨w.heap.size, 3, none⟩ = some (.string y.text) ∧ w'.cell? ⟨w.heap.size, 4, none⟩ = some (.slice ay y.kids.length cy) ∧ w'.cell? ⟨gl, k * 5, none⟩ = some (.int .i64 y.kind) ∧ w'.cell? ⟨gl, k * 5 + 1, none⟩ = some (.int .i64 y.fr) ∧ w'.cell? ⟨gl, k * 5 + 2, none⟩ = some (.int .i64 y.to) ∧ w'.cell? ⟨gl, k * 5 + 3, none⟩ = some (.string y.text) ∧ w'.cell? ⟨gl, k * 5 + 4, none⟩ = some (.slice au y.kids.length cu))) := ⟨fun w' h => by
    have hB := bthen hb0 h
    have j1 := (h.block _ (Array.getElem?_eq_some_iff.1 hbx).1).trans hbx
    have kp : ∀ {b : Nat} {o : Obj}, w.heap[b]? = some o → w'.heap[b]? = some o := fun {b o} hb => (hB.block b (Array.getElem?_eq_some_iff.1 hb).1).trans hb
    refine ⟨(cell_of (kp hS.ok) 0).trans (by simp), (cell_of (kp hS.ov) 0).trans (by simp), (cell_of (kp hS.kc) 0).trans (by simp), (cell_of (kp hS.lc) 0).trans (by simp [hNL]), (cell_of (kp hS.dc) 0).trans (by simp [hNL]), bcell hB q0, (cell_of j1 0).trans (by simp), (cell_of j1 1).trans (by simp), (cell_of j1 2).trans (by simp), (cell_of j1 3).trans (by simp), (cell_of j1 4).trans (by simp), bcell hB p0, bcell hB p1, bcell hB p2, bcell hB p3, bcell hB p4⟩⟩
  have KOK : Hid (∀ w', Below W0.heap.size W0 w' → w'.heap[okb]? = some (.cells #[.bool true] 4 (0, 0))) := ⟨fun w' h => ((bthen hb0 h).block _ (Array.getElem?_eq_some_iff.1 hS.ok).1).trans hS.ok⟩
  have hX : Below W0.heap.size W0 W0 := Below.refl _ _
  have hXd : Below W0.heap.size W0 W0.drew := hX.drew
  have IC := nodes_any y W0.drew (.slice ay y.kids.length cy) (.slice au y.kids.length cu) B (Bl n0) ((hy.kept hb0).drew) ((su.kept hb0).drew)
  have hklt : (k : Int) < (NL : Int) := by omega
  have hdd : ((d : Int) == (d : Int)) = true := by simp
  obtain ⟨x0, x1, x2, x3, x4, x5, x6, x7, x8, x9, x10, x11, x12, x13, x14, x15⟩ := KS.out W0 hX
  have HB0 : Hid (Below w.heap.size w W0) := ⟨hb0⟩
  simp only [aggN, encN] at IC ⊢
  clear hS hy hNL hll hdl g1 he hb0 hbx su p0 p1 p2 p3 p4 q0
  go_enter Try.func12, Try.ntmps12
  go_wp2
  go_region_held3 (fun w' => w'.cell? ⟨okb, 0, none⟩ = some (.bool true) ∧ w'.cell? ⟨ovb, 0, none⟩ = some (.bool false) ∧ w'.cell? ⟨kb, 0, none⟩ = some (.int .i64 k) ∧ w'.cell? ⟨lb, 0, none⟩ = some (.slice (some ⟨gl, 0, none⟩) NL cl) ∧ w'.cell? ⟨db, 0, none⟩ = some (.slice (some ⟨gd, 0, none⟩) NL cd) ∧ w'.cell? ⟨gd, k, none⟩ = some (.int .i64 d) ∧ w'.cell? ⟨w.heap.size, 0, none⟩ = some (.int .i64 y.kind) ∧ w'.cell? ⟨w.heap.size, 1, none⟩ = some (.int .i64 y.fr) ∧ w'.cell? ⟨w.heap.size, 2, none⟩ = some (.int .i64 y.to) ∧ w'.cell? ⟨w.heap.size, 3, none⟩ = some (.string y.text) ∧ w'.cell? ⟨w.heap.size, 4, none⟩ = some (.slice ay y.kids.length cy) ∧ w'.cell? ⟨gl, k * 5, none⟩ = some (.int .i64 y.kind) ∧ w'.cell? ⟨gl, k * 5 + 1, none⟩ = some (.int .i64 y.fr) ∧ w'.cell? ⟨gl, k * 5 + 2, none⟩ = some (.int .i64 y.to) ∧ w'.cell? ⟨gl, k * 5 + 3, none⟩ = some (.string y.text) ∧ w'.cell? ⟨gl, k * 5 + 4, none⟩ = some (.slice au y.kids.length cu))
    (first | go_keep | exact KS.out _ hX1)
    (first | (go_at_call 13; refine IC.mono ?_; clear IC; rintro e v1 ⟨rfl, hB1⟩; have hX1 : Below W0.heap.size W0 v1 := bthen hXd hB1; have hok1 := KOK.out v1 hX1; have fz2 : v1.frozen? ⟨okb, 0, none⟩ = false := (by simp [World.frozen?, hok1]); have hsm := setCell_same hok1; clear hB1 hok1))
  have hBv : Below w.heap.size w v1 := bthen HB0.out hX1
  have kp : ∀ {b : Nat} {o : Obj}, w.heap[b]? = some o → v1.heap[b]? = some o := fun {b o} hb => (hBv.block b (Array.getElem?_eq_some_iff.1 hb).1).trans hb
  have o1 := kp HS.out.ok
  have o2 := kp HS.out.ov
  have o3 := kp HS.out.kc
  have o6 := kp HS.out.sc
  have t1 := cell_of o1 0
  have t2 := cell_of o2 0
  have t3 := cell_of o3 0
  have t6 := cell_of o6 0
  simp only [List.getElem?_toArray, List.getElem?_cons_zero] at t1 t2 t3 t6
  have z2 : v1.frozen? ⟨ovb, 0, none⟩ = false := by simp [World.frozen?, o2]
  have z3 : v1.frozen? ⟨kb, 0, none⟩ = false := by simp [World.frozen?, o3]
  have d2 := HS.out.d2
  have d2' := HS.out.d2.symm
  have d3 := HS.out.d3
  have d3' := HS.out.d3.symm
  have d4 := HS.out.d4
  have d4' := HS.out.d4.symm
  have HBv : Hid (Below w.heap.size w v1) := ⟨hBv⟩
  have HO1 : Hid (v1.heap[okb]? = some (.cells #[.bool true] 4 (0, 0))) := ⟨o1⟩
  have HO2 : Hid (v1.heap[ovb]? = some (.cells #[.bool false] 4 (0, 0))) := ⟨o2⟩
  have HO3 : Hid (v1.heap[kb]? = some (.cells #[.int .i64 k] 3 (0, 0))) := ⟨o3⟩
  have fin : ∀ q : Bool, (q = true ↔ (k : Int) + 1 = stop) → StA FL n0 okb ovb kb lb db sb stop (.slice (some ⟨gl, 0, none⟩) NL cl) (.slice (some ⟨gd, 0, none⟩) NL cd) (k + 1) q ((v1.setCell ⟨kb, 0, none⟩ (.int .i64 ((k : Int) + 1))).setCell ⟨ovb, 0, none⟩ (.bool q)) ∧ Kx (fun b => b = okb ∨ b = ovb ∨ b = kb) w ((v1.setCell ⟨kb, 0, none⟩ (.int .i64 ((k : Int) + 1))).setCell ⟨ovb, 0, none⟩ (.bool q)) := fun q _ => by
    have hS := HS.out
    have kx : Kx (fun b => b = ovb ∨ b = kb) w ((v1.setCell ⟨kb, 0, none⟩ (.int .i64 ((k : Int) + 1))).setCell ⟨ovb, 0, none⟩ (.bool q)) := (((Kx.of_whole HBv.out).set (X := fun b => b = ovb ∨ b = kb) (.inr rfl) _).set (.inl rfl) _)
    have a2 : ((v1.setCell ⟨kb, 0, none⟩ (.int .i64 ((k : Int) + 1))).heap[kb]?) = some (.cells #[.int .i64 ((k : Int) + 1)] 3 (0, 0)) := by
      have := heap_setCell_same v1 kb 0 _ 3 (.int .i64 ((k : Int) + 1)) HO3.out
      simpa using this
    have a3 : ((v1.setCell ⟨kb, 0, none⟩ (.int .i64 ((k : Int) + 1))).heap[ovb]?) = some (.cells #[.bool false] 4 (0, 0)) := (heap_setCell_other v1 ⟨kb, 0, none⟩ ovb _ hS.d3).trans HO2.out
    have nl1 := hS.rl.nec hS.ov (by decide)
    have nl2 := hS.rl.nec hS.kc (by decide)
    have hnb : ∀ {b : Nat} {cs : Array Value} {t : TypeId}, w.heap[b]? = some (.cells cs t (0, 0)) → t ≠ 4 → t ≠ 3 → ¬ (b = ovb ∨ b = kb) := fun {b cs t} hb h4 h3 e => by
      rcases e with rfl | rfl
      · rw [hS.ov] at hb; simp at hb; exact h4 hb.2.symm
      · rw [hS.kc] at hb; simp at hb; exact h3 hb.2.symm
    refine ⟨⟨kx.keep _ _ hS.ok (fun e => e.elim hS.d1 hS.d2), ?_, ?_, kx.keep _ _ hS.lc (hnb hS.lc (by decide) (by decide)), kx.keep _ _ hS.dc (hnb hS.dc (by decide) (by decide)), kx.keep _ _ hS.sc ?_, ?_, ?_, hS.d1, hS.d2, hS.d3, hS.d4, hS.n1, hS.n2, hS.n3, hS.n4⟩, kx.mono (fun b _ e => .inr e)⟩
    · have := heap_setCell_same (v1.setCell ⟨kb, 0, none⟩ (.int .i64 ((k : Int) + 1))) ovb 0 _ 4 (.bool q) a3
      simpa using this
    · rw [heap_setCell_other _ ⟨ovb, 0, none⟩ kb _ hS.d3.symm, a2]
      simp
    · intro e
      rcases e with e | e
      · have h1 := hS.sc
        rw [e, hS.ov] at h1
        simp at h1
      · exact hS.d4 e.symm
    · exact hS.rl.to kx (fun b hb e => e.elim (fun e => nl1 (e ▸ hb)) (fun e => nl2 (e ▸ hb))) (fun b o ob _ h e => by have h2 : b < n0 := h; have := hS.n2; have := hS.n3; rcases e with e | e <;> omega)
    · have hr := hS.rd
      refine ⟨hr.1, ?_⟩
      rcases hr.2 with h0 | ⟨g, cap, cur, e, h1, h2, h3⟩
      · exact .inl h0
      · refine .inr ⟨g, cap, cur, e, h1, kx.keep _ _ h2 (fun e => ?_), h3⟩
        rcases e with rfl | rfl
        · rw [hS.ov] at h2; simp at h2
        · exact hS.n4 (by rw [e]; rfl)
  have HF : Hid _ := ⟨fin⟩
  clear fin o1 o2 o3 o6 kp hBv
  by_cases hq : (k : Int) + 1 = stop
  · have hq' : ((k : Int) + 1 == stop) = true := by simp [hq]
    have HQ : Hid ((k : Int) + 1 = stop) := ⟨hq⟩
    clear hq
    go_wp2
    go_ret
    exact ⟨true, rfl, ⟨fun _ => HQ.out, fun _ => rfl⟩, HF.out true ⟨fun _ => HQ.out, fun _ => rfl⟩⟩
  · have hq' : ((k : Int) + 1 == stop) = false := by simp [hq]
    have HQ : Hid (¬ (k : Int) + 1 = stop) := ⟨hq⟩
    clear hq
    go_wp2
    go_ret
    exact ⟨false, rfl, ⟨fun h => (by cases h), fun h => (HQ.out h).elim⟩, HF.out false ⟨fun h => (by cases h), fun h => (HQ.out h).elim⟩⟩
end Go.Proofs.Ytgknigjpdnfkdaa
