/-
  The walk of recastlaw4.TreeAt.
-/
import Derived.Test.YtgknigjpdnfkdaaAt
import Derived.Test.YtgknigjpdnfkdaaAwake
namespace Go.Proofs.Ytgknigjpdnfkdaa
open Go.RowKit
attribute [local go_sem ↓] Go.wp_at_zero Go.wp_at_succ
set_option maxRecDepth 100000 in
set_option maxHeartbeats 2000000 in
theorem treeAt_any (n : Nd) (f t : Int) (w : World) (va : Value) (B : BP) (ha : SlV B w va n.kids) :
    Calls Try.prog 5 #[aggN n va, .int .i64 f, .int .i64 t] w fun e w' => e = .returned (.bool true) ∧ Below w.heap.size w w' := by
  have hlow := ha.low
  obtain ⟨a1, c1, rfl, -, -⟩ := ha.open
  obtain ⟨W0, hW0⟩ : ∃ y, w.alloc (.cells #[.int .i64 n.kind, .int .i64 n.fr, .int .i64 n.to, .string n.text, .slice a1 n.kids.length c1] 24) = y := ⟨_, rfl⟩
  have hB0 : Below w.heap.size w W0 := hW0 ▸ below_alloc _ _
  have HA : Hid (SlV (Bl w.heap.size) W0 (.slice a1 n.kids.length c1) n.kids) := ⟨hlow.kept hB0⟩
  have hn0 : w.heap.size ≤ W0.heap.size := hB0.size
  have k1 : W0.heap[w.heap.size]? = some (.cells #[.int .i64 n.kind, .int .i64 n.fr, .int .i64 n.to, .string n.text, .slice a1 n.kids.length c1] 24) := by rw [← hW0]; exact heap_alloc_new _ _
  have KS : Hid (∀ w', Below W0.heap.size W0 w' → (w'.cell? ⟨w.heap.size, 0, none⟩ = some (.int .i64 n.kind) ∧ w'.cell? ⟨w.heap.size, 1, none⟩ = some (.int .i64 n.fr) ∧ w'.cell? ⟨w.heap.size, 2, none⟩ = some (.int .i64 n.to) ∧ w'.cell? ⟨w.heap.size, 3, none⟩ = some (.string n.text) ∧ w'.cell? ⟨w.heap.size, 4, none⟩ = some (.slice a1 n.kids.length c1))) := ⟨fun w' h => by
    have j1 := (h.block _ (Array.getElem?_eq_some_iff.1 k1).1).trans k1
    simp [cell_of j1]⟩
  have C8 : Hid (∀ w', Below W0.heap.size W0 w' → _) := ⟨fun w' h => in_any n w' (.slice a1 n.kids.length c1) _ (HA.out.kept h)⟩
  have HB0 : Hid (Below w.heap.size w W0) := ⟨hB0⟩
  have hX : Below W0.heap.size W0 W0 := Below.refl _ _
  have hXd : Below W0.heap.size W0 W0.drew := hX.drew
  obtain ⟨x0, x1, x2, x3, x4⟩ := KS.out W0 hX
  clear ha hlow k1 hB0
  by_cases h1 : n.sz ≤ 300
  · have C20 : Hid (∀ w', Below W0.heap.size W0 w' → _) := ⟨fun w' h => at_any f t n (by omega) w' (.slice a1 n.kids.length c1) _ (HA.out.kept h)⟩
    have C21 : Hid (∀ w', Below W0.heap.size W0 w' → _) := ⟨fun w' h => rat_any f t w.heap.size n w' (.slice a1 n.kids.length c1) (by have := dep_le_sz n; omega) (by have := h.size; omega) (HA.out.kept h)⟩
    have HAL : Hid ((n.atR f t).length ≤ 1000000) := ⟨by have := atR_len f t n; have := dep_le_sz n; omega⟩
    simp only [aggN, encN] at C8 C20 C21 hW0 ⊢
    rw [decide_eq_true h1] at C8
    generalize n.atR f t = R at *
    go_enter Try.func5, Try.ntmps5
    go_wp2
    go_region_held3 (fun w' => w'.cell? ⟨w.heap.size, 0, none⟩ = some (.int .i64 n.kind) ∧ w'.cell? ⟨w.heap.size, 1, none⟩ = some (.int .i64 n.fr) ∧ w'.cell? ⟨w.heap.size, 2, none⟩ = some (.int .i64 n.to) ∧ w'.cell? ⟨w.heap.size, 3, none⟩ = some (.string n.text) ∧ w'.cell? ⟨w.heap.size, 4, none⟩ = some (.slice a1 n.kids.length c1))
      (first | go_keep | exact KS.out _ hX8 | exact KS.out _ hX20 | exact KS.out _ hX21 | exact KS.out _ hX19 | exact KS.out _ hX9)
      (first
        | (go_at_call 8; refine (C8.out _ (by first | exact hX20 | exact hX21 | exact hX19 | exact hX9 | exact hXd)).mono ?_; clear C8; rintro e v8 ⟨rfl, hB8⟩; have hX8 : Below W0.heap.size W0 v8 := bthen (by first | exact hX20 | exact hX21 | exact hX19 | exact hX9 | exact hXd) hB8)
        | (go_at_call 20; refine (C20.out _ (by first | exact hX8 | exact hX21 | exact hX19 | exact hX9 | exact hXd)).mono ?_; clear C20; rintro e v20 ⟨a20, c20, rfl, hS20, hB20⟩; have hX20 : Below W0.heap.size W0 v20 := bthen (by first | exact hX8 | exact hX21 | exact hX19 | exact hX9 | exact hXd) hB20; have HS20 : Hid (SlV _ v20 _ _) := ⟨hS20⟩; clear hS20)
        | (go_at_call 21; refine (C21.out _ (by first | exact hX8 | exact hX20 | exact hX19 | exact hX9 | exact hXd)).mono ?_; clear C21; rintro e v21 ⟨a21, c21, rfl, hS21, hB21⟩; have hX21 : Below W0.heap.size W0 v21 := bthen (by first | exact hX8 | exact hX20 | exact hX19 | exact hX9 | exact hXd) hB21; have HS21 : Hid (SlV _ v21 _ _) := ⟨hS21.read (by have := HAL.out; omega) (fun _ _ _ _ _ => trivial) (fun _ _ _ _ _ => trivial)⟩; clear hS21)
        | (go_at_call 19; refine (rows_any _ _ _ _ _ (fun _ _ _ => True) (by first | exact HS20.out | exact HS20.out.kept hB21) (by first | exact HS21.out | exact HS21.out.kept hB20)).mono ?_; rintro e v19 ⟨rfl, hB19⟩; have hX19 : Below W0.heap.size W0 v19 := bthen (by first | exact hX8 | exact hX20 | exact hX21 | exact hX9 | exact hXd) hB19)
        | (go_at_call 9; refine (awake_any _).mono ?_; rintro e v9 ⟨rfl, hB9⟩; have hX9 : Below W0.heap.size W0 v9 := bthen (by first | exact hX8 | exact hX20 | exact hX21 | exact hX19 | exact hXd) hB9))
    all_goals
      go_wp2
      go_ret
      exact ⟨rfl, bthen HB0.out hX9⟩
  · simp only [aggN, encN] at C8 hW0 ⊢
    rw [decide_eq_false h1] at C8
    go_enter Try.func5, Try.ntmps5
    go_wp2
    refine wp_region_held_drew (S := fun w' => w'.cell? ⟨w.heap.size, 0, none⟩ = some (.int .i64 n.kind) ∧ w'.cell? ⟨w.heap.size, 1, none⟩ = some (.int .i64 n.fr) ∧ w'.cell? ⟨w.heap.size, 2, none⟩ = some (.int .i64 n.to) ∧ w'.cell? ⟨w.heap.size, 3, none⟩ = some (.string n.text) ∧ w'.cell? ⟨w.heap.size, 4, none⟩ = some (.slice a1 n.kids.length c1)) (by kernel_rfl) (KS.out _ hXd) (fun hHeld => ?_)
    clear hHeld
    have kS := KS.out _ hXd
    refine wpAnyH_take (i := 0) (oi := { dst := some 7, op := Op.load 24 (Operand.tmp 3), type := 24, pos := "law.go:72", after := #[], guard := none }) (v := ?_) rfl (by kernel_rfl) (by kernel_rfl) (by kernel_rfl) (fun _ _ _ h => h) (Or.inl ⟨by rfl, ?_⟩) (by exact kS) ?_
    rotate_left
    · intro w hSw; (try dsimp only at hSw); (go_simp <;> with_reducible rfl)
    try simp only [Act.put, List.setIfInBounds_toArray, List.set_cons_zero, List.set_cons_succ]
    refine wpAnyH_ready (rs := [1]) (by kernel_rfl) (by simp) ?_
    refine AllReadyH.cons (o := { dst := some 8, op := Op.call { callee := Callee.value (Operand.func 8), args := #[Operand.tmp 7], argTypes := #[24] }, type := 4, pos := "law.go:72", after := #[{ on := 0, ground := Ground.data }], guard := none }) rfl (fun K hK => ?_) AllReadyH.nil
    go_simp
    refine (C8.out _ hXd).mono ?_
    clear C8
    rintro e v8 ⟨rfl, hB8⟩
    go_wp2_with fail
    have hX8 : Below W0.heap.size W0 v8 := bthen hXd hB8
    clear kS
    have kS := KS.out _ hX8
    refine hK.out _ _ (by exact kS) (fun hHeld => ?_)
    clear hK K hHeld
    try simp only [Act.put, List.setIfInBounds_toArray, List.set_cons_zero, List.set_cons_succ]
    refine wpAnyH_take (i := 2) (oi := { dst := some 9, op := Op.unOp UnOp.not 4 (Operand.tmp 8), type := 4, pos := "law.go:72", after := #[{ on := 1, ground := Ground.data }], guard := none }) (v := ?_) rfl (by kernel_rfl) (by kernel_rfl) (by kernel_rfl) (fun _ _ _ h => h) (Or.inl ⟨by rfl, ?_⟩) (by exact kS) ?_
    rotate_left
    · intro w hSw; (try dsimp only at hSw); (go_simp <;> with_reducible rfl)
    try simp only [Act.put, List.setIfInBounds_toArray, List.set_cons_zero, List.set_cons_succ]
    refine wpAnyH_take (i := 3) (oi := { dst := some 10, op := Op.move (Operand.tmp 9), type := 4, pos := "law.go:72", after := #[{ on := 2, ground := Ground.data }, { on := 1, ground := Ground.chain }], guard := none }) (v := ?_) rfl (by kernel_rfl) (by kernel_rfl) (by kernel_rfl) (fun _ _ _ h => h) (Or.inl ⟨by rfl, ?_⟩) (by exact kS) ?_
    rotate_left
    · intro w hSw; (try dsimp only at hSw); (go_simp <;> with_reducible rfl)
    try simp only [Act.put, List.setIfInBounds_toArray, List.set_cons_zero, List.set_cons_succ]
    refine wpAnyH_take (i := 4) (oi := { dst := some 11, op := Op.load 24 (Operand.tmp 3), type := 24, pos := "law.go:72", after := #[{ on := 3, ground := Ground.guard }], guard := some (3, false) }) (v := undef) rfl (by kernel_rfl) (by kernel_rfl) (by kernel_rfl) (fun _ _ _ h => h) (Or.inr ⟨by rfl, rfl⟩) (by exact kS) ?_
    try simp only [Act.put, List.setIfInBounds_toArray, List.set_cons_zero, List.set_cons_succ]
    refine wpAnyH_take (i := 5) (oi := { dst := some 12, op := Op.move (Operand.tmp 1), type := 3, pos := "law.go:72", after := #[{ on := 3, ground := Ground.guard }], guard := some (3, false) }) (v := undef) rfl (by kernel_rfl) (by kernel_rfl) (by kernel_rfl) (fun _ _ _ h => h) (Or.inr ⟨by rfl, rfl⟩) (by exact kS) ?_
    try simp only [Act.put, List.setIfInBounds_toArray, List.set_cons_zero, List.set_cons_succ]
    refine wpAnyH_take (i := 6) (oi := { dst := some 13, op := Op.move (Operand.tmp 2), type := 3, pos := "law.go:72", after := #[{ on := 3, ground := Ground.guard }], guard := some (3, false) }) (v := undef) rfl (by kernel_rfl) (by kernel_rfl) (by kernel_rfl) (fun _ _ _ h => h) (Or.inr ⟨by rfl, rfl⟩) (by exact kS) ?_
    try simp only [Act.put, List.setIfInBounds_toArray, List.set_cons_zero, List.set_cons_succ]
    refine wpAnyH_take (i := 8) (oi := { dst := some 15, op := Op.load 24 (Operand.tmp 3), type := 24, pos := "law.go:72", after := #[{ on := 3, ground := Ground.guard }], guard := some (3, false) }) (v := undef) rfl (by kernel_rfl) (by kernel_rfl) (by kernel_rfl) (fun _ _ _ h => h) (Or.inr ⟨by rfl, rfl⟩) (by exact kS) ?_
    try simp only [Act.put, List.setIfInBounds_toArray, List.set_cons_zero, List.set_cons_succ]
    refine wpAnyH_take (i := 9) (oi := { dst := some 16, op := Op.move (Operand.tmp 1), type := 3, pos := "law.go:72", after := #[{ on := 3, ground := Ground.guard }], guard := some (3, false) }) (v := undef) rfl (by kernel_rfl) (by kernel_rfl) (by kernel_rfl) (fun _ _ _ h => h) (Or.inr ⟨by rfl, rfl⟩) (by exact kS) ?_
    try simp only [Act.put, List.setIfInBounds_toArray, List.set_cons_zero, List.set_cons_succ]
    refine wpAnyH_take (i := 10) (oi := { dst := some 17, op := Op.move (Operand.tmp 2), type := 3, pos := "law.go:72", after := #[{ on := 3, ground := Ground.guard }], guard := some (3, false) }) (v := undef) rfl (by kernel_rfl) (by kernel_rfl) (by kernel_rfl) (fun _ _ _ h => h) (Or.inr ⟨by rfl, rfl⟩) (by exact kS) ?_
    try simp only [Act.put, List.setIfInBounds_toArray, List.set_cons_zero, List.set_cons_succ]
    refine wpAnyH_ready (rs := [7]) (by kernel_rfl) (by simp) ?_
    refine AllReadyH.cons (o := { dst := some 14, op := Op.call { callee := Callee.value (Operand.func 20), args := #[Operand.tmp 11, Operand.tmp 12, Operand.tmp 13], argTypes := #[24, 3, 3] }, type := 22, pos := "law.go:72", after := #[{ on := 4, ground := Ground.data }, { on := 5, ground := Ground.data }, { on := 6, ground := Ground.data }, { on := 3, ground := Ground.chain }, { on := 3, ground := Ground.guard }], guard := some (3, false) }) rfl (fun K hK => ?_) AllReadyH.nil
    go_simp
    refine hK.out _ _ (by exact kS) (fun hHeld => ?_)
    clear hK K hHeld
    try simp only [Act.put, List.setIfInBounds_toArray, List.set_cons_zero, List.set_cons_succ]
    refine wpAnyH_ready (rs := [11]) (by kernel_rfl) (by simp) ?_
    refine AllReadyH.cons (o := { dst := some 18, op := Op.call { callee := Callee.value (Operand.func 21), args := #[Operand.tmp 15, Operand.tmp 16, Operand.tmp 17], argTypes := #[24, 3, 3] }, type := 22, pos := "law.go:72", after := #[{ on := 8, ground := Ground.data }, { on := 9, ground := Ground.data }, { on := 10, ground := Ground.data }, { on := 7, ground := Ground.chain }, { on := 3, ground := Ground.guard }], guard := some (3, false) }) rfl (fun K hK => ?_) AllReadyH.nil
    go_simp
    refine hK.out _ _ (by exact kS) (fun hHeld => ?_)
    clear hK K hHeld
    try simp only [Act.put, List.setIfInBounds_toArray, List.set_cons_zero, List.set_cons_succ]
    refine wpAnyH_ready (rs := [12]) (by kernel_rfl) (by simp) ?_
    refine AllReadyH.cons (o := { dst := some 19, op := Op.call { callee := Callee.value (Operand.func 19), args := #[Operand.tmp 14, Operand.tmp 18], argTypes := #[22, 22] }, type := 4, pos := "law.go:72", after := #[{ on := 7, ground := Ground.data }, { on := 11, ground := Ground.data }, { on := 11, ground := Ground.chain }, { on := 3, ground := Ground.guard }], guard := some (3, false) }) rfl (fun K hK => ?_) AllReadyH.nil
    go_simp
    refine hK.out _ _ (by exact kS) (fun hHeld => ?_)
    clear hK K hHeld
    try simp only [Act.put, List.setIfInBounds_toArray, List.set_cons_zero, List.set_cons_succ]
    refine wpAnyH_take (i := 13) (oi := { dst := some 20, op := Op.move (Operand.tmp 19), type := 4, pos := "law.go:72", after := #[{ on := 12, ground := Ground.data }, { on := 12, ground := Ground.chain }, { on := 3, ground := Ground.guard }], guard := some (3, false) }) (v := undef) rfl (by kernel_rfl) (by kernel_rfl) (by kernel_rfl) (fun _ _ _ h => h) (Or.inr ⟨by rfl, rfl⟩) (by exact kS) ?_
    try simp only [Act.put, List.setIfInBounds_toArray, List.set_cons_zero, List.set_cons_succ]
    refine wpAnyH_ready (rs := [14]) (by kernel_rfl) (by simp) ?_
    refine AllReadyH.cons (o := { dst := some 21, op := Op.call { callee := Callee.value (Operand.func 9), args := #[], argTypes := #[] }, type := 4, pos := "law.go:72", after := #[{ on := 13, ground := Ground.chain }, { on := 13, ground := Ground.guard }], guard := some (13, true) }) rfl (fun K hK => ?_) AllReadyH.nil
    go_simp
    refine hK.out _ _ (by exact kS) (fun hHeld => ?_)
    clear hK K hHeld
    try simp only [Act.put, List.setIfInBounds_toArray, List.set_cons_zero, List.set_cons_succ]
    refine wpAnyH_take (i := 15) (oi := { dst := some 22, op := Op.pick (Operand.tmp 20) (Operand.tmp 21) (Operand.const (Value.bool false)), type := 4, pos := "law.go:72", after := #[{ on := 13, ground := Ground.data }, { on := 14, ground := Ground.data }, { on := 3, ground := Ground.guard }], guard := some (3, false) }) (v := undef) rfl (by kernel_rfl) (by kernel_rfl) (by kernel_rfl) (fun _ _ _ h => h) (Or.inr ⟨by rfl, rfl⟩) (by exact kS) ?_
    try simp only [Act.put, List.setIfInBounds_toArray, List.set_cons_zero, List.set_cons_succ]
    refine wpAnyH_take (i := 16) (oi := { dst := some 23, op := Op.pick (Operand.tmp 10) (Operand.const (Value.bool true)) (Operand.tmp 22), type := 4, pos := "law.go:72", after := #[{ on := 3, ground := Ground.data }, { on := 15, ground := Ground.data }], guard := none }) (v := ?_) rfl (by kernel_rfl) (by kernel_rfl) (by kernel_rfl) (fun _ _ _ h => h) (Or.inl ⟨by rfl, ?_⟩) (by exact kS) ?_
    rotate_left
    · intro w hSw; (try dsimp only at hSw); (go_simp <;> with_reducible rfl)
    try simp only [Act.put, List.setIfInBounds_toArray, List.set_cons_zero, List.set_cons_succ]
    refine wpAnyH_take (i := 17) (oi := { dst := some 6, op := Op.assign (Operand.tmp 23), type := 4, pos := "law.go:72", after := #[{ on := 16, ground := Ground.data }, { on := 14, ground := Ground.chain }, { on := 0, ground := Ground.phase }, { on := 1, ground := Ground.phase }, { on := 2, ground := Ground.phase }, { on := 3, ground := Ground.phase }, { on := 4, ground := Ground.phase }, { on := 5, ground := Ground.phase }, { on := 6, ground := Ground.phase }, { on := 7, ground := Ground.phase }, { on := 8, ground := Ground.phase }, { on := 9, ground := Ground.phase }, { on := 10, ground := Ground.phase }, { on := 11, ground := Ground.phase }, { on := 12, ground := Ground.phase }, { on := 13, ground := Ground.phase }, { on := 14, ground := Ground.phase }, { on := 15, ground := Ground.phase }, { on := 16, ground := Ground.phase }], guard := none }) (v := ?_) rfl (by kernel_rfl) (by kernel_rfl) (by kernel_rfl) (fun _ _ _ h => h) (Or.inl ⟨by rfl, ?_⟩) (by exact kS) ?_
    rotate_left
    · intro w hSw; (try dsimp only at hSw); (go_simp <;> with_reducible rfl)
    try simp only [Act.put, List.setIfInBounds_toArray, List.set_cons_zero, List.set_cons_succ]
    refine wpAnyH_done (by kernel_rfl) ?_ _
    go_wp2
    go_ret
    exact ⟨rfl, bthen HB0.out hX8⟩
end Go.Proofs.Ytgknigjpdnfkdaa
