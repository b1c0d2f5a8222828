/-
  spans.Sorted at two edits that do not clash, in order: it answers them, in new memory.
-/
import Derived.Test.YtbgkdofjndocfabWalkB
import Derived.Deep.AppendLies
import Derived.Deep.Onto
namespace Go.Proofs.Ytbgkdofjndocfab
open Go.RowKit
attribute [local go_sem ↓] Go.wp_at_zero Go.wp_at_succ
set_option maxHeartbeats 1000000 in
theorem compact2_any (B c : Nat) (x y : Ed) (w : World)
    (c0 : w.cell? ⟨B, 0, none⟩ = some (.string x.1)) (c1 : w.cell? ⟨B, 1, none⟩ = some (.int .i64 x.2.1)) (c2 : w.cell? ⟨B, 2, none⟩ = some (.int .i64 x.2.2.1)) (c3 : w.cell? ⟨B, 3, none⟩ = some (.string x.2.2.2))
    (c4 : w.cell? ⟨B, 4, none⟩ = some (.string y.1)) (c5 : w.cell? ⟨B, 5, none⟩ = some (.int .i64 y.2.1)) (c6 : w.cell? ⟨B, 6, none⟩ = some (.int .i64 y.2.2.1)) (c7 : w.cell? ⟨B, 7, none⟩ = some (.string y.2.2.2))
    (ho : eqE y x = false) :
    Calls Try.prog 22 #[.slice (some ⟨B, 0, none⟩) 2 c] w fun e w' => e = .returned (.slice (some ⟨B, 0, none⟩) 2 c) ∧ ∃ q, w' = w.drewN q := by
  have hq := eqEd.1 y x
  rw [ho] at hq
  simp only [encE] at hq
  obtain ⟨p, a, b, t⟩ := x
  obtain ⟨p', a', b', t'⟩ := y
  clear ho
  go_enter Try.func22, Try.ntmps22
  go_wp2
  refine wp_loop_rounds 2 ?_
  rw [rounds_succ]
  go_wp2
  go_quiet (fail)
  go_wp2
  rw [rounds_succ]
  go_wp2
  go_ret
  exact ⟨rfl, _, rfl⟩
theorem cells2 {w : World} {B : Nat} {x y : Ed} (c0 : w.cell? ⟨B, 0, none⟩ = some (.string x.1)) (c1 : w.cell? ⟨B, 1, none⟩ = some (.int .i64 x.2.1)) (c2 : w.cell? ⟨B, 2, none⟩ = some (.int .i64 x.2.2.1)) (c3 : w.cell? ⟨B, 3, none⟩ = some (.string x.2.2.2))
    (c4 : w.cell? ⟨B, 4, none⟩ = some (.string y.1)) (c5 : w.cell? ⟨B, 5, none⟩ = some (.int .i64 y.2.1)) (c6 : w.cell? ⟨B, 6, none⟩ = some (.int .i64 y.2.2.1)) (c7 : w.cell? ⟨B, 7, none⟩ = some (.string y.2.2.2)) :
    ∀ j, j < [x, y].length → ∀ i v, (encE [x, y][j]!)[i]? = some v → w.cell? ⟨B, 0 + j * 4 + i, none⟩ = some v := by
  intro j hj i v hi
  simp at hj
  match j, hj with
  | 0, _ =>
    match i, hi with
    | 0, hi => simp [encE] at hi; subst hi; exact c0
    | 1, hi => simp [encE] at hi; subst hi; exact c1
    | 2, hi => simp [encE] at hi; subst hi; exact c2
    | 3, hi => simp [encE] at hi; subst hi; exact c3
    | i + 4, hi => simp [encE] at hi
  | 1, _ =>
    match i, hi with
    | 0, hi => simp [encE] at hi; subst hi; exact c4
    | 1, hi => simp [encE] at hi; subst hi; exact c5
    | 2, hi => simp [encE] at hi; subst hi; exact c6
    | 3, hi => simp [encE] at hi; subst hi; exact c7
    | i + 4, hi => simp [encE] at hi
theorem news2 {w : World} {B : Nat} {x y : Ed} (h : ∀ j, j < [x, y].length → ∀ i v, (encE [x, y][j]!)[i]? = some v → w.cell? ⟨B, 0 + j * 4 + i, none⟩ = some v) :
    ∀ j u, (encE x ++ encE y)[j]? = some u → w.cell? ⟨B, 0 + j, none⟩ = some u := by
  intro j u hu
  rcases Nat.lt_or_ge j 4 with h4 | h4
  · have := h 0 (by simp) j u (by rw [List.getElem?_append_left (by simpa [encE] using h4)] at hu; simpa using hu)
    simpa using this
  · have := h 1 (by simp) (j - 4) u (by rw [List.getElem?_append_right (by simpa [encE] using h4)] at hu; simpa [encE] using hu)
    rw [show 0 + 1 * 4 + (j - 4) = 0 + j by omega] at this
    exact this
theorem owns2 {w : World} {base g cap : Nat} {x y : Ed} (h : w.ownsRow base 26 4 (.slice (some ⟨g, 0, none⟩) 2 cap) 2 (encE x ++ encE y)) :
    w.cell? ⟨g, 0, none⟩ = some (.string x.1) ∧ w.cell? ⟨g, 1, none⟩ = some (.int .i64 x.2.1) ∧ w.cell? ⟨g, 2, none⟩ = some (.int .i64 x.2.2.1) ∧ w.cell? ⟨g, 3, none⟩ = some (.string x.2.2.2) ∧
    w.cell? ⟨g, 4, none⟩ = some (.string y.1) ∧ w.cell? ⟨g, 5, none⟩ = some (.int .i64 y.2.1) ∧ w.cell? ⟨g, 6, none⟩ = some (.int .i64 y.2.2.1) ∧ w.cell? ⟨g, 7, none⟩ = some (.string y.2.2.2) := by
  refine ⟨?_, ?_, ?_, ?_, ?_, ?_, ?_, ?_⟩ <;> (rw [h.cellAt _ (by omega)]; rfl)
theorem holds2 {w : World} {base g cap : Nat} {x y : Ed} (h : w.ownsRow base 26 4 (.slice (some ⟨g, 0, none⟩) 2 cap) 2 (encE x ++ encE y)) : Sort.HoldsK encE 4 w g 0 #[x, y] := by
  intro j hj
  have hj8 : j < 8 := by simpa using hj
  refine ⟨?_, by rw [Nat.zero_add]; exact h.frozenAt j⟩
  rw [Sort.get_flatK _ _ _ _ (by simpa using hj), Nat.zero_add, h.cellAt j (by omega)]
  match j, hj8 with
  | 0, _ => rfl
  | 1, _ => rfl
  | 2, _ => rfl
  | 3, _ => rfl
  | 4, _ => rfl
  | 5, _ => rfl
  | 6, _ => rfl
  | 7, _ => rfl
theorem ownsRow_below {w w' : World} {base g cap n size : Nat} {e : TypeId} {xs : List Value} (h : w.ownsRow base e size (.slice (some ⟨g, 0, none⟩) n cap) n xs) (hb : Below w.heap.size w w') (hg : g < w.heap.size) : w'.ownsRow base e size (.slice (some ⟨g, 0, none⟩) n cap) n xs := by
  refine ⟨h.1, ?_⟩
  rcases h.2 with ⟨hv, _⟩ | ⟨g', cap', cur, hv, h1, h2, h3⟩
  · simp at hv
  · simp at hv
    obtain ⟨rfl, rfl⟩ := hv
    exact .inr ⟨g, cap, cur, rfl, h1, (hb.block g hg).trans h2, h3⟩
theorem drewN_cell (w : World) (q : Nat) (a : Addr) : (w.drewN q).cell? a = w.cell? a := by simp
theorem cell2_old {w : World} {A B : Obj} {g o : Nat} (h : g < w.heap.size) : ((w.alloc A).alloc B).drew.cell? ⟨g, o, none⟩ = w.cell? ⟨g, o, none⟩ := by
  rw [World.cell?_drew, World.cell?_alloc_lt _ _ _ (by simp; omega), World.cell?_alloc_lt _ _ _ h]
set_option maxHeartbeats 1000000 in
theorem sorted2_any (B c : Nat) (x y : Ed) (w : World) (hB : B < w.heap.size)
    (c0 : w.cell? ⟨B, 0, none⟩ = some (.string x.1)) (c1 : w.cell? ⟨B, 1, none⟩ = some (.int .i64 x.2.1)) (c2 : w.cell? ⟨B, 2, none⟩ = some (.int .i64 x.2.2.1)) (c3 : w.cell? ⟨B, 3, none⟩ = some (.string x.2.2.2))
    (c4 : w.cell? ⟨B, 4, none⟩ = some (.string y.1)) (c5 : w.cell? ⟨B, 5, none⟩ = some (.int .i64 y.2.1)) (c6 : w.cell? ⟨B, 6, none⟩ = some (.int .i64 y.2.2.1)) (c7 : w.cell? ⟨B, 7, none⟩ = some (.string y.2.2.2))
    (hx : noSp x.2.1 x.2.2.1 = false) (hy : noSp y.2.1 y.2.2.1 = false) (ho : ¬ cfE y x < 0) (hne : eqE y x = false) (hcl : clashB x.1 x.2.1 x.2.2.1 y.1 y.2.1 = false) :
    Calls Try.prog 10 #[.slice (some ⟨B, 0, none⟩) 2 c] w fun e w' => ∃ g cap, e = .returned (.tuple #[.slice (some ⟨g, 0, none⟩) 2 cap, .int .i64 0]) ∧ w.heap.size ≤ g ∧ 2 ≤ cap ∧ w'.ownsRow w.heap.size 26 4 (.slice (some ⟨g, 0, none⟩) 2 cap) 2 (encE x ++ encE y) ∧ Below w.heap.size w w' := by
  have hc := cells2 c0 c1 c2 c3 c4 c5 c6 c7
  have h21 := contains_any B 0 2 c [x, y] w (by simp) (by omega) hB hc
  rw [show ([x, y].take 2).any (fun x => noSp x.2.1 x.2.2.1) = false by simp [hx, hy]] at h21
  have hw0 : IntKind.i64.wrap 0 = 0 := by decide
  have HC : Hid (∀ j, j < [x, y].length → ∀ i v, (encE [x, y][j]!)[i]? = some v → w.cell? ⟨B, 0 + j * 4 + i, none⟩ = some v) := hc
  clear hc c0 c1 c2 c3 c4 c5 c6 c7 hx hy
  go_enter Try.func10, Try.ntmps10
  go_wp2_with fail
  refine h21.mono ?_
  rintro e w1 ⟨rfl, hb1⟩
  clear h21
  have h23 := cloneE_any B 0 2 c (encE x ++ encE y) w1 (by simp [encE]) (by unfold maxLen; omega) (by omega) (news2 fun j hj i v hi => by rw [hb1.cell (p := ⟨B, 0 + j * 4 + i, none⟩) hB]; exact HC j hj i v hi) (fun u hu => by rcases List.mem_append.1 hu with h | h <;> exact encE_one _ _ h)
  go_wp2_with fail
  refine h23.mono ?_
  rintro e w2 ⟨v2, rfl, hown, hnn, hb2⟩
  clear h23
  have hex : ∃ g cap, v2 = .slice (some ⟨g, 0, none⟩) 2 cap ∧ w1.heap.size ≤ g ∧ g < w2.heap.size := hown.form (by omega)
  obtain ⟨g, cap, hv, hg1, hg2⟩ := hex
  rw [hv] at hown
  rw [hv]
  have hcap : 2 ≤ cap := by rcases hown.2 with ⟨h, _⟩ | ⟨g', cap', cur, h, _, _, h2, _⟩ <;> simp at h; omega
  have h24 := sort2_any g cap x y w2 (holds2 hown) hg2 (by omega)
  clear hnn hv
  go_wp2_with fail
  refine h24.mono ?_
  rintro e w3 ⟨rfl, hb3⟩
  clear h24
  have hown3 : w3.ownsRow w1.heap.size 26 4 (.slice (some ⟨g, 0, none⟩) 2 cap) 2 (encE x ++ encE y) := ownsRow_below hown hb3 hg2
  obtain ⟨c0, c1, c2, c3, c4, c5, c6, c7⟩ := owns2 hown3
  have h26 := compact2_any g cap x y w3 c0 c1 c2 c3 c4 c5 c6 c7 hne
  have HO : Hid (w3.ownsRow w1.heap.size 26 4 (.slice (some ⟨g, 0, none⟩) 2 cap) 2 (encE x ++ encE y)) := hown3
  clear hown hown3
  go_wp2_with fail
  refine h26.mono ?_
  rintro e w4 ⟨rfl, q, rfl⟩
  clear h26
  have d0 := (drewN_cell w3 q ⟨g, 0, none⟩).trans c0
  have d1 := (drewN_cell w3 q ⟨g, 1, none⟩).trans c1
  have d2 := (drewN_cell w3 q ⟨g, 2, none⟩).trans c2
  have d3 := (drewN_cell w3 q ⟨g, 3, none⟩).trans c3
  have d4 := (drewN_cell w3 q ⟨g, 4, none⟩).trans c4
  have d5 := (drewN_cell w3 q ⟨g, 5, none⟩).trans c5
  have d6 := (drewN_cell w3 q ⟨g, 6, none⟩).trans c6
  have d7 := (drewN_cell w3 q ⟨g, 7, none⟩).trans c7
  clear c0 c1 c2 c3 c4 c5 c6 c7
  have hb4 : Below w2.heap.size w2 (w3.drewN q) := below_drewN hb3 q
  have HO4 : Hid ((w3.drewN q).ownsRow w1.heap.size 26 4 (.slice (some ⟨g, 0, none⟩) 2 cap) 2 (encE x ++ encE y)) := HO.out
  clear HO hb3
  generalize w3.drewN q = w4 at *
  have hg4 : g < w4.heap.size := Nat.lt_of_lt_of_le hg2 hb4.size
  obtain ⟨p, a, b, t⟩ := x
  obtain ⟨p', a', b', t'⟩ := y
  go_wp2_with fail
  refine wp_loop_rounds 2 ?_
  rw [rounds_succ]
  go_wp2_with fail
  go_region_held3 (fun w' => w'.cell? ⟨g, 0, none⟩ = some (.string p) ∧ w'.cell? ⟨g, 1, none⟩ = some (.int .i64 a) ∧ w'.cell? ⟨g, 2, none⟩ = some (.int .i64 b) ∧ w'.cell? ⟨g, 3, none⟩ = some (.string t) ∧ w'.cell? ⟨g, 4, none⟩ = some (.string p') ∧ w'.cell? ⟨g, 5, none⟩ = some (.int .i64 a') ∧ w'.cell? ⟨g, 6, none⟩ = some (.int .i64 b') ∧ w'.cell? ⟨g, 7, none⟩ = some (.string t')) (first | go_keep | (refine ⟨?_, ?_, ?_, ?_, ?_, ?_, ?_, ?_⟩ <;> (rw [cell2_old hg4]; assumption)))
    (first | (go_at_call 23; refine (clash_any _ _ _ _ _ _ _ _ _).mono ?_; rintro e w' ⟨rfl, rfl⟩))
  go_wp2_with fail
  rw [rounds_succ]
  go_wp2_with fail
  go_ret2
  have hs1 := hb1.size
  have hs2 := hb2.size
  have hs4 := hb4.size
  refine ⟨g, cap, rfl, by omega, hcap, (((HO4.out.mono hs1).alloc _).alloc _).drew, ?_⟩
  exact (((hb1.trans (hb2.mono hs1)).trans (hb4.mono (by omega))).alloc (by omega) _).alloc (by simp; omega) _ |>.drew
end Go.Proofs.Ytbgkdofjndocfab
