/-
  The walk of recastlaw4.TreeSame.
-/
import Derived.Test.YtgknigjpdnfkdaaAwake
import Derived.Test.YtgknigjpdnfkdaaSame
namespace Go.Proofs.Ytgknigjpdnfkdaa
open Go.RowKit
attribute [local go_sem ↓] Go.wp_at_zero Go.wp_at_succ
set_option maxRecDepth 100000 in
set_option maxHeartbeats 2000000 in
theorem treeSame_any (n m : Nd) (w : World) (va vb : Value) (B C : BP) (ha : SlV B w va n.kids) (hb : SlV C w vb m.kids) :
    Calls Try.prog 4 #[aggN n va, aggN m vb] w fun e w' => e = .returned (.bool true) ∧ Below w.heap.size w w' := by
  obtain ⟨a1, c1, rfl, -, -⟩ := ha.open
  obtain ⟨a2, c2, rfl, -, -⟩ := hb.open
  obtain ⟨W0, hW0⟩ : ∃ y, (w.alloc (.cells #[.int .i64 n.kind, .int .i64 n.fr, .int .i64 n.to, .string n.text, .slice a1 n.kids.length c1] 24)).alloc (.cells #[.int .i64 m.kind, .int .i64 m.fr, .int .i64 m.to, .string m.text, .slice a2 m.kids.length c2] 24) = y := ⟨_, rfl⟩
  have hB0 : Below w.heap.size w W0 := hW0 ▸ below_alloc2 _ _ _
  have hz0 : W0.heap.size = w.heap.size + 2 := by rw [← hW0]; simp
  have HA : Hid (SlV B W0 (.slice a1 n.kids.length c1) n.kids) := ⟨ha.kept hB0⟩
  have HC : Hid (SlV C W0 (.slice a2 m.kids.length c2) m.kids) := ⟨hb.kept hB0⟩
  have k1 : W0.heap[w.heap.size]? = some (.cells #[.int .i64 n.kind, .int .i64 n.fr, .int .i64 n.to, .string n.text, .slice a1 n.kids.length c1] 24) := by rw [← hW0]; exact (Below.heap_alloc _ _ _ (by simp)).trans (heap_alloc_new w _)
  have k2 : W0.heap[w.heap.size + 1]? = some (.cells #[.int .i64 m.kind, .int .i64 m.fr, .int .i64 m.to, .string m.text, .slice a2 m.kids.length c2] 24) := by rw [← hW0]; have := heap_alloc_new (w.alloc (.cells #[.int .i64 n.kind, .int .i64 n.fr, .int .i64 n.to, .string n.text, .slice a1 n.kids.length c1] 24)) (.cells #[.int .i64 m.kind, .int .i64 m.fr, .int .i64 m.to, .string m.text, .slice a2 m.kids.length c2] 24); simpa using this
  have keepS : ∀ w', Below W0.heap.size W0 w' → (w'.cell? ⟨w.heap.size, 0, none⟩ = some (.int .i64 n.kind) ∧ w'.cell? ⟨w.heap.size, 1, none⟩ = some (.int .i64 n.fr) ∧ w'.cell? ⟨w.heap.size, 2, none⟩ = some (.int .i64 n.to) ∧ w'.cell? ⟨w.heap.size, 3, none⟩ = some (.string n.text) ∧ w'.cell? ⟨w.heap.size, 4, none⟩ = some (.slice a1 n.kids.length c1) ∧ w'.cell? ⟨w.heap.size + 1, 0, none⟩ = some (.int .i64 m.kind) ∧ w'.cell? ⟨w.heap.size + 1, 1, none⟩ = some (.int .i64 m.fr) ∧ w'.cell? ⟨w.heap.size + 1, 2, none⟩ = some (.int .i64 m.to) ∧ w'.cell? ⟨w.heap.size + 1, 3, none⟩ = some (.string m.text) ∧ w'.cell? ⟨w.heap.size + 1, 4, none⟩ = some (.slice a2 m.kids.length c2)) := fun w' h => by
    have j1 := (h.block _ (Array.getElem?_eq_some_iff.1 k1).1).trans k1
    have j2 := (h.block _ (Array.getElem?_eq_some_iff.1 k2).1).trans k2
    simp [cell_of j1, cell_of j2]
  have KS : Hid (∀ w', Below W0.heap.size W0 w' → (w'.cell? ⟨w.heap.size, 0, none⟩ = some (.int .i64 n.kind) ∧ w'.cell? ⟨w.heap.size, 1, none⟩ = some (.int .i64 n.fr) ∧ w'.cell? ⟨w.heap.size, 2, none⟩ = some (.int .i64 n.to) ∧ w'.cell? ⟨w.heap.size, 3, none⟩ = some (.string n.text) ∧ w'.cell? ⟨w.heap.size, 4, none⟩ = some (.slice a1 n.kids.length c1) ∧ w'.cell? ⟨w.heap.size + 1, 0, none⟩ = some (.int .i64 m.kind) ∧ w'.cell? ⟨w.heap.size + 1, 1, none⟩ = some (.int .i64 m.fr) ∧ w'.cell? ⟨w.heap.size + 1, 2, none⟩ = some (.int .i64 m.to) ∧ w'.cell? ⟨w.heap.size + 1, 3, none⟩ = some (.string m.text) ∧ w'.cell? ⟨w.heap.size + 1, 4, none⟩ = some (.slice a2 m.kids.length c2))) := ⟨keepS⟩
  have C8a : Hid (∀ w', Below W0.heap.size W0 w' → _) := ⟨fun w' h => in_any n w' (.slice a1 n.kids.length c1) B (HA.out.kept h)⟩
  have C8b : Hid (∀ w', Below W0.heap.size W0 w' → _) := ⟨fun w' h => in_any m w' (.slice a2 m.kids.length c2) C (HC.out.kept h)⟩
  have C17 : Hid (∀ w', Below W0.heap.size W0 w' → _) := ⟨fun w' h => same_any n m w' (.slice a1 n.kids.length c1) (.slice a2 m.kids.length c2) B C (HA.out.kept h) (HC.out.kept h)⟩
  have C18 : Hid (∀ w', Below W0.heap.size W0 w' → _) := ⟨fun w' h => rsame_any n m w' (.slice a1 n.kids.length c1) (.slice a2 m.kids.length c2) B C (HA.out.kept h) (HC.out.kept h)⟩
  have C17b : Hid (∀ w', Below W0.heap.size W0 w' → _) := ⟨fun w' h => same_any n n w' (.slice a1 n.kids.length c1) (.slice a1 n.kids.length c1) B B (HA.out.kept h) (HA.out.kept h)⟩
  have HB0 : Hid (Below w.heap.size w W0) := ⟨hB0⟩
  have hX : Below W0.heap.size W0 W0 := Below.refl _ _
  obtain ⟨x0, x1, x2, x3, x4, y0, y1, y2, y3, y4⟩ := keepS W0 hX
  clear keepS ha hb k1 k2 hB0
  rw [same_refl] at C17b
  simp only [aggN, encN] at C8a C8b C17 C18 C17b hW0 ⊢
  generalize n.same m = q at *
  by_cases h1 : n.sz ≤ 300
  rotate_left
  · rw [decide_eq_false h1] at C8a
    go_enter Try.func4, Try.ntmps4
    go_wp2_with (first
      | (go_at_call 8; refine (C8a.out _ hX).mono ?_; clear C8a C8b; rintro e v1 ⟨rfl, hB1⟩)
      | (go_at_call 9; refine (awake_any _).mono ?_; rintro e v2 ⟨rfl, hB2⟩))
    go_ret
    exact ⟨rfl, bthen HB0.out (bthen hB1 hB2)⟩
  rw [decide_eq_true h1] at C8a
  by_cases h2 : m.sz ≤ 300
  rotate_left
  · rw [decide_eq_false h2] at C8b
    go_enter Try.func4, Try.ntmps4
    go_wp2_with (first
      | (go_at_call 8; refine (C8a.out _ hX).mono ?_; clear C8a; rintro e v1 ⟨rfl, hB1⟩; obtain ⟨x0', x1', x2', x3', x4', y0', y1', y2', y3', y4'⟩ := KS.out v1 hB1)
      | (go_at_call 8; refine (C8b.out _ hB1).mono ?_; clear C8b; rintro e v2 ⟨rfl, hB2⟩)
      | (go_at_call 9; refine (awake_any _).mono ?_; rintro e v3 ⟨rfl, hB3⟩))
    go_ret
    exact ⟨rfl, bthen HB0.out (bthen hB1 (bthen hB2 hB3))⟩
  rw [decide_eq_true h2] at C8b
  clear h1 h2
  go_enter Try.func4, Try.ntmps4
  go_wp2_with (first
    | (go_at_call 8; refine (C8a.out _ hX).mono ?_; clear C8a; rintro e v1 ⟨rfl, hB1⟩; obtain ⟨x0', x1', x2', x3', x4', y0', y1', y2', y3', y4'⟩ := KS.out v1 hB1)
    | (go_at_call 8; refine (C8b.out _ hB1).mono ?_; clear C8b; rintro e v2 ⟨rfl, hB2⟩))
  have hX2 : Below W0.heap.size W0 v2 := bthen hB1 hB2
  have hX2d : Below W0.heap.size W0 v2.drew := hX2.drew
  obtain ⟨u0, u1, u2, u3, u4, s0, s1, s2, s3, s4⟩ := KS.out v2 hX2
  clear x0' x1' x2' x3' x4' y0' y1' y2' y3' y4' x0 x1 x2 x3 x4 y0 y1 y2 y3 y4
  cases q
  all_goals
    go_region_held3 (fun w' => w'.cell? ⟨w.heap.size, 0, none⟩ = some (.int .i64 n.kind) ∧ w'.cell? ⟨w.heap.size, 1, none⟩ = some (.int .i64 n.fr) ∧ w'.cell? ⟨w.heap.size, 2, none⟩ = some (.int .i64 n.to) ∧ w'.cell? ⟨w.heap.size, 3, none⟩ = some (.string n.text) ∧ w'.cell? ⟨w.heap.size, 4, none⟩ = some (.slice a1 n.kids.length c1) ∧ w'.cell? ⟨w.heap.size + 1, 0, none⟩ = some (.int .i64 m.kind) ∧ w'.cell? ⟨w.heap.size + 1, 1, none⟩ = some (.int .i64 m.fr) ∧ w'.cell? ⟨w.heap.size + 1, 2, none⟩ = some (.int .i64 m.to) ∧ w'.cell? ⟨w.heap.size + 1, 3, none⟩ = some (.string m.text) ∧ w'.cell? ⟨w.heap.size + 1, 4, none⟩ = some (.slice a2 m.kids.length c2))
      (first | go_keep | exact KS.out _ hX9 | exact KS.out _ hX17b | exact KS.out _ hX17 | exact KS.out _ hX18)
      (first
        | (go_at_call 17; refine (C17.out _ (by first | exact hX18 | exact hX2d)).mono ?_; clear C17; rintro e v17 ⟨rfl, hB17⟩; have hX17 : Below W0.heap.size W0 v17 := bthen (by first | exact hX18 | exact hX2d) hB17; clear hB17)
        | (go_at_call 18; refine (C18.out _ (by first | exact hX17 | exact hX2d)).mono ?_; clear C18; rintro e v18 ⟨rfl, hB18⟩; have hX18 : Below W0.heap.size W0 v18 := bthen (by first | exact hX17 | exact hX2d) hB18; clear hB18)
        | (go_at_call 17; refine (C17b.out _ (by first | exact hX18 | exact hX17)).mono ?_; clear C17b; rintro e v17b ⟨rfl, hB17b⟩; have hX17b : Below W0.heap.size W0 v17b := bthen (by first | exact hX18 | exact hX17) hB17b; clear hB17b)
        | (go_at_call 9; refine (awake_any _).mono ?_; rintro e v9 ⟨rfl, hB9⟩; have hX9 : Below W0.heap.size W0 v9 := bthen hX17b hB9; clear hB9))
    all_goals
      go_wp2
      go_ret
      exact ⟨rfl, bthen HB0.out hX9⟩
end Go.Proofs.Ytgknigjpdnfkdaa
