/-
  The walk of recastlaw4.TreeAll.
-/
import Derived.Test.YtgknigjpdnfkdaaAll35
import Derived.Test.YtgknigjpdnfkdaaAwake
namespace Go.Proofs.Ytgknigjpdnfkdaa
open Go.RowKit
attribute [local go_sem ↓] Go.wp_at_zero Go.wp_at_succ
def opsR : Array Oper := #[{ dst := some 27, op := Op.load 4 (Operand.tmp 9), type := 4, pos := "law.go:59", after := #[], guard := none },
  { dst := some 28, op := Op.move (Operand.tmp 27), type := 4, pos := "law.go:59", after := #[{ on := 0, ground := Ground.data }], guard := none },
  { dst := some 29, op := Op.load 3 (Operand.tmp 8), type := 3, pos := "law.go:59", after := #[{ on := 1, ground := Ground.guard }], guard := some (1, true) },
  { dst := some 30, op := Op.load 22 (Operand.tmp 5), type := 22, pos := "law.go:59", after := #[{ on := 1, ground := Ground.guard }], guard := some (1, true) },
  { dst := some 31, op := Op.call { callee := Callee.builtin Builtin.len, args := #[Operand.tmp 30], argTypes := #[22] }, type := 3, pos := "law.go:59", after := #[{ on := 3, ground := Ground.data }, { on := 1, ground := Ground.guard }], guard := some (1, true) },
  { dst := some 32, op := Op.binOp BinOp.eql 3 (Operand.tmp 29) (Operand.tmp 31) 3, type := 4, pos := "law.go:59", after := #[{ on := 2, ground := Ground.data }, { on := 4, ground := Ground.data }, { on := 1, ground := Ground.guard }], guard := some (1, true) },
  { dst := some 33, op := Op.move (Operand.tmp 32), type := 4, pos := "law.go:59", after := #[{ on := 5, ground := Ground.data }, { on := 1, ground := Ground.chain }, { on := 1, ground := Ground.guard }], guard := some (1, true) },
  { dst := some 34, op := Op.load 3 (Operand.tmp 3), type := 3, pos := "law.go:59", after := #[{ on := 6, ground := Ground.guard }], guard := some (6, false) },
  { dst := some 35, op := Op.binOp BinOp.gtr 3 (Operand.tmp 34) (Operand.const (Value.int IntKind.i64 0)) 3, type := 4, pos := "law.go:59", after := #[{ on := 7, ground := Ground.data }, { on := 6, ground := Ground.guard }], guard := some (6, false) },
  { dst := some 36, op := Op.move (Operand.tmp 35), type := 4, pos := "law.go:59", after := #[{ on := 8, ground := Ground.data }, { on := 6, ground := Ground.chain }, { on := 6, ground := Ground.guard }], guard := some (6, false) },
  { dst := some 37, op := Op.load 3 (Operand.tmp 8), type := 3, pos := "law.go:59", after := #[{ on := 9, ground := Ground.guard }], guard := some (9, true) },
  { dst := some 38, op := Op.load 3 (Operand.tmp 3), type := 3, pos := "law.go:59", after := #[{ on := 9, ground := Ground.guard }], guard := some (9, true) },
  { dst := some 39, op := Op.binOp BinOp.eql 3 (Operand.tmp 37) (Operand.tmp 38) 3, type := 4, pos := "law.go:59", after := #[{ on := 10, ground := Ground.data }, { on := 11, ground := Ground.data }, { on := 9, ground := Ground.guard }], guard := some (9, true) },
  { dst := some 40, op := Op.pick (Operand.tmp 36) (Operand.tmp 39) (Operand.const (Value.bool false)), type := 4, pos := "law.go:59", after := #[{ on := 9, ground := Ground.data }, { on := 12, ground := Ground.data }, { on := 6, ground := Ground.guard }], guard := some (6, false) },
  { dst := some 41, op := Op.pick (Operand.tmp 33) (Operand.const (Value.bool true)) (Operand.tmp 40), type := 4, pos := "law.go:59", after := #[{ on := 6, ground := Ground.data }, { on := 13, ground := Ground.data }, { on := 1, ground := Ground.guard }], guard := some (1, true) },
  { dst := some 42, op := Op.pick (Operand.tmp 28) (Operand.tmp 41) (Operand.const (Value.bool false)), type := 4, pos := "law.go:59", after := #[{ on := 1, ground := Ground.data }, { on := 14, ground := Ground.data }], guard := none },
  { dst := some 43, op := Op.move (Operand.tmp 42), type := 4, pos := "law.go:59", after := #[{ on := 15, ground := Ground.data }, { on := 9, ground := Ground.chain }], guard := none },
  { dst := some 44, op := Op.load 24 (Operand.tmp 2), type := 24, pos := "law.go:59", after := #[{ on := 16, ground := Ground.guard }], guard := some (16, true) },
  { dst := some 45, op := Op.call { callee := Callee.value (Operand.func 14), args := #[Operand.tmp 44], argTypes := #[24] }, type := 3, pos := "law.go:59", after := #[{ on := 17, ground := Ground.data }, { on := 16, ground := Ground.chain }, { on := 16, ground := Ground.guard }], guard := some (16, true) },
  { dst := some 46, op := Op.load 22 (Operand.tmp 5), type := 22, pos := "law.go:59", after := #[{ on := 16, ground := Ground.guard }], guard := some (16, true) },
  { dst := some 47, op := Op.call { callee := Callee.builtin Builtin.len, args := #[Operand.tmp 46], argTypes := #[22] }, type := 3, pos := "law.go:59", after := #[{ on := 19, ground := Ground.data }, { on := 16, ground := Ground.guard }], guard := some (16, true) },
  { dst := some 48, op := Op.binOp BinOp.eql 3 (Operand.tmp 45) (Operand.tmp 47) 3, type := 4, pos := "law.go:59", after := #[{ on := 18, ground := Ground.data }, { on := 20, ground := Ground.data }, { on := 16, ground := Ground.guard }], guard := some (16, true) },
  { dst := some 49, op := Op.pick (Operand.tmp 43) (Operand.tmp 48) (Operand.const (Value.bool false)), type := 4, pos := "law.go:59", after := #[{ on := 16, ground := Ground.data }, { on := 21, ground := Ground.data }], guard := none },
  { dst := some 50, op := Op.move (Operand.tmp 49), type := 4, pos := "law.go:59", after := #[{ on := 22, ground := Ground.data }, { on := 18, ground := Ground.chain }], guard := none },
  { dst := some 51, op := Op.load 24 (Operand.tmp 2), type := 24, pos := "law.go:59", after := #[{ on := 23, ground := Ground.guard }], guard := some (23, true) },
  { dst := some 52, op := Op.call { callee := Callee.value (Operand.func 15), args := #[Operand.tmp 51], argTypes := #[24] }, type := 3, pos := "law.go:59", after := #[{ on := 24, ground := Ground.data }, { on := 23, ground := Ground.chain }, { on := 23, ground := Ground.guard }], guard := some (23, true) },
  { dst := some 53, op := Op.load 24 (Operand.tmp 2), type := 24, pos := "law.go:59", after := #[{ on := 23, ground := Ground.guard }], guard := some (23, true) },
  { dst := some 54, op := Op.call { callee := Callee.value (Operand.func 16), args := #[Operand.tmp 53], argTypes := #[24] }, type := 3, pos := "law.go:59", after := #[{ on := 26, ground := Ground.data }, { on := 25, ground := Ground.chain }, { on := 23, ground := Ground.guard }], guard := some (23, true) },
  { dst := some 55, op := Op.binOp BinOp.eql 3 (Operand.tmp 52) (Operand.tmp 54) 3, type := 4, pos := "law.go:59", after := #[{ on := 25, ground := Ground.data }, { on := 27, ground := Ground.data }, { on := 23, ground := Ground.guard }], guard := some (23, true) },
  { dst := some 56, op := Op.pick (Operand.tmp 50) (Operand.tmp 55) (Operand.const (Value.bool false)), type := 4, pos := "law.go:59", after := #[{ on := 23, ground := Ground.data }, { on := 28, ground := Ground.data }], guard := none },
  { dst := some 57, op := Op.move (Operand.tmp 56), type := 4, pos := "law.go:59", after := #[{ on := 29, ground := Ground.data }, { on := 27, ground := Ground.chain }], guard := none },
  { dst := some 58, op := Op.call { callee := Callee.value (Operand.func 9), args := #[], argTypes := #[] }, type := 4, pos := "law.go:59", after := #[{ on := 30, ground := Ground.chain }, { on := 30, ground := Ground.guard }], guard := some (30, true) },
  { dst := some 59, op := Op.pick (Operand.tmp 57) (Operand.tmp 58) (Operand.const (Value.bool false)), type := 4, pos := "law.go:59", after := #[{ on := 30, ground := Ground.data }, { on := 31, ground := Ground.data }], guard := none },
  { dst := some 4, op := Op.assign (Operand.tmp 59), type := 4, pos := "law.go:59", after := #[{ on := 32, ground := Ground.data }, { on := 31, ground := Ground.chain }, { on := 0, ground := Ground.phase }, { on := 1, ground := Ground.phase }, { on := 2, ground := Ground.phase }, { on := 3, ground := Ground.phase }, { on := 4, ground := Ground.phase }, { on := 5, ground := Ground.phase }, { on := 6, ground := Ground.phase }, { on := 7, ground := Ground.phase }, { on := 8, ground := Ground.phase }, { on := 9, ground := Ground.phase }, { on := 10, ground := Ground.phase }, { on := 11, ground := Ground.phase }, { on := 12, ground := Ground.phase }, { on := 13, ground := Ground.phase }, { on := 14, ground := Ground.phase }, { on := 15, ground := Ground.phase }, { on := 16, ground := Ground.phase }, { on := 17, ground := Ground.phase }, { on := 18, ground := Ground.phase }, { on := 19, ground := Ground.phase }, { on := 20, ground := Ground.phase }, { on := 21, ground := Ground.phase }, { on := 22, ground := Ground.phase }, { on := 23, ground := Ground.phase }, { on := 24, ground := Ground.phase }, { on := 25, ground := Ground.phase }, { on := 26, ground := Ground.phase }, { on := 27, ground := Ground.phase }, { on := 28, ground := Ground.phase }, { on := 29, ground := Ground.phase }, { on := 30, ground := Ground.phase }, { on := 31, ground := Ground.phase }, { on := 32, ground := Ground.phase }], guard := none }]
def SR (okb kb lb sb b0 : Nat) (k : Nat) (vl : Value) (stop : Int) (cs : Array Value) : World → Prop := fun w' => w'.heap[okb]? = some (.cells #[.bool true] 4 (0, 0)) ∧ w'.heap[kb]? = some (.cells #[.int .i64 k] 3 (0, 0)) ∧ w'.heap[lb]? = some (.cells #[vl] 22 (0, 0)) ∧ w'.heap[sb]? = some (.cells #[.int .i64 stop] 3 (0, 0)) ∧ w'.heap[b0]? = some (.cells cs 24 (0, 0))
set_option maxRecDepth 100000 in
set_option maxHeartbeats 2000000 in
theorem all_rA (Q : Exit → Act → World → Prop) (hpn : ∀ c (a : Act) (d : Option Tmp) (v : Value) w, Q (.panic c) (a.put d v) w → Q (.panic c) a w) (t0 t1 t4 t6 t7 t10 t11 t12 t13 t14 t15 t16 t17 t18 t19 t20 t21 t22 t23 t24 t25 t26 t27 t28 t29 t30 t31 t32 t33 t34 t35 t36 t37 t38 t39 t40 t41 t42 t43 t44 t45 t46 t47 t48 t49 t50 t51 t52 t53 t54 t55 t56 t57 t58 t59 : Value) (n : Nd) (okb kb lb sb b0 k D : Nat) (a1 al : Option Addr) (c1 cl : Nat) (stop : Int) (W : World)
    (hS : SR okb kb lb sb b0 k (.slice al n.sz cl) stop #[.int .i64 n.kind, .int .i64 n.fr, .int .i64 n.to, .string n.text, .slice a1 n.kids.length c1] W) (hk : ((k : Int) == (n.sz : Int)) = true)
    (C14 : ∀ w', Below W.heap.size W w' → Calls Try.prog 14 #[.agg #[.int .i64 n.kind, .int .i64 n.fr, .int .i64 n.to, .string n.text, .slice a1 n.kids.length c1]] w' fun e w2 => e = .returned (.int .i64 n.sz) ∧ Below w'.heap.size w' w2)
    (C15 : ∀ w', Below W.heap.size W w' → Calls Try.prog 15 #[.agg #[.int .i64 n.kind, .int .i64 n.fr, .int .i64 n.to, .string n.text, .slice a1 n.kids.length c1]] w' fun e w2 => e = .returned (.int .i64 D) ∧ Below w'.heap.size w' w2)
    (C16 : ∀ w', Below W.heap.size W w' → Calls Try.prog 16 #[.agg #[.int .i64 n.kind, .int .i64 n.fr, .int .i64 n.to, .string n.text, .slice a1 n.kids.length c1]] w' fun e w2 => e = .returned (.int .i64 D) ∧ Below w'.heap.size w' w2)
    (C9 : ∀ w', Below W.heap.size W w' → Calls Try.prog 9 #[] w' fun e w2 => e = .returned (.bool true) ∧ Below w'.heap.size w' w2)
    (hQ : ∀ (t27 t28 t29 t30 t31 t32 t33 t34 t35 t36 t37 t38 t39 t40 t41 t42 t43 t44 t45 t46 t47 t48 t49 t50 t51 t52 t53 t54 t55 t56 t57 t58 t59 : Value) W', Below W.heap.size W W' → Q .normal { tmps := #[t0, t1, .pointer (some ⟨b0, 0, none⟩), .pointer (some ⟨sb, 0, none⟩), .bool true, .pointer (some ⟨lb, 0, none⟩), t6, t7, .pointer (some ⟨kb, 0, none⟩), .pointer (some ⟨okb, 0, none⟩), t10, t11, t12, t13, t14, t15, t16, t17, t18, t19, t20, t21, t22, t23, t24, t25, t26, t27, t28, t29, t30, t31, t32, t33, t34, t35, t36, t37, t38, t39, t40, t41, t42, t43, t44, t45, t46, t47, t48, t49, t50, t51, t52, t53, t54, t55, t56, t57, t58, t59], defers := [] } W') :
    wpAnyH Try.prog .any opsR Q (SR okb kb lb sb b0 k (.slice al n.sz cl) stop #[.int .i64 n.kind, .int .i64 n.fr, .int .i64 n.to, .string n.text, .slice a1 n.kids.length c1]) 34 #[false, false, false, false, false, false, false, false, false, false, false, false, false, false, false, false, false, false, false, false, false, false, false, false, false, false, false, false, false, false, false, false, false, false] { tmps := #[t0, t1, .pointer (some ⟨b0, 0, none⟩), .pointer (some ⟨sb, 0, none⟩), t4, .pointer (some ⟨lb, 0, none⟩), t6, t7, .pointer (some ⟨kb, 0, none⟩), .pointer (some ⟨okb, 0, none⟩), t10, t11, t12, t13, t14, t15, t16, t17, t18, t19, t20, t21, t22, t23, t24, t25, t26, t27, t28, t29, t30, t31, t32, t33, t34, t35, t36, t37, t38, t39, t40, t41, t42, t43, t44, t45, t46, t47, t48, t49, t50, t51, t52, t53, t54, t55, t56, t57, t58, t59], defers := [] } W.drew := by
  have kS : ∀ w', Below W.heap.size W w' → SR okb kb lb sb b0 k (.slice al n.sz cl) stop #[.int .i64 n.kind, .int .i64 n.fr, .int .i64 n.to, .string n.text, .slice a1 n.kids.length c1] w' := fun w' h => ⟨(h.block _ (Array.getElem?_eq_some_iff.1 hS.1).1).trans hS.1, (h.block _ (Array.getElem?_eq_some_iff.1 hS.2.1).1).trans hS.2.1, (h.block _ (Array.getElem?_eq_some_iff.1 hS.2.2.1).1).trans hS.2.2.1, (h.block _ (Array.getElem?_eq_some_iff.1 hS.2.2.2.1).1).trans hS.2.2.2.1, (h.block _ (Array.getElem?_eq_some_iff.1 hS.2.2.2.2).1).trans hS.2.2.2.2⟩
  obtain ⟨w0, hw0⟩ : ∃ y, W.drew = y := ⟨_, rfl⟩
  have hBw0 : Below W.heap.size W w0 := hw0 ▸ below_drew W
  rw [hw0]
  clear hw0
  have hSw0 := kS w0 hBw0
  clear hS
  refine wpAnyH_take (i := 0) (oi := { dst := some 27, op := Op.load 4 (Operand.tmp 9), type := 4, pos := "law.go:59", after := #[], guard := none }) (v := ?_) rfl (by kernel_rfl) (by kernel_rfl) (by kernel_rfl) (fun _ _ _ h => hpn _ _ _ _ _ h) (Or.inl ⟨by rfl, ?_⟩) (hSw0) ?_
  rotate_left
  · intro w hSw; have q0 := cell_of hSw.1 0; have q1 := cell_of hSw.2.1 0; have q2 := cell_of hSw.2.2.1 0; have q3 := cell_of hSw.2.2.2.1 0; have p0 := cell_of hSw.2.2.2.2 0; have p1 := cell_of hSw.2.2.2.2 1; have p2 := cell_of hSw.2.2.2.2 2; have p3 := cell_of hSw.2.2.2.2 3; have p4 := cell_of hSw.2.2.2.2 4; simp only [List.getElem?_toArray, List.getElem?_cons_zero, List.getElem?_cons_succ] at q0 q1 q2 q3 p0 p1 p2 p3 p4; clear hSw; (go_simp <;> with_reducible rfl)
  simp only [Act.put, List.setIfInBounds_toArray, List.set_cons_zero, List.set_cons_succ]
  refine wpAnyH_take (i := 1) (oi := { dst := some 28, op := Op.move (Operand.tmp 27), type := 4, pos := "law.go:59", after := #[{ on := 0, ground := Ground.data }], guard := none }) (v := ?_) rfl (by kernel_rfl) (by kernel_rfl) (by kernel_rfl) (fun _ _ _ h => hpn _ _ _ _ _ h) (Or.inl ⟨by rfl, ?_⟩) (hSw0) ?_
  rotate_left
  · intro w hSw; (go_simp <;> with_reducible rfl)
  simp only [Act.put, List.setIfInBounds_toArray, List.set_cons_zero, List.set_cons_succ]
  refine wpAnyH_take (i := 2) (oi := { dst := some 29, op := Op.load 3 (Operand.tmp 8), type := 3, pos := "law.go:59", after := #[{ on := 1, ground := Ground.guard }], guard := some (1, true) }) (v := ?_) rfl (by kernel_rfl) (by kernel_rfl) (by kernel_rfl) (fun _ _ _ h => hpn _ _ _ _ _ h) (Or.inl ⟨by rfl, ?_⟩) (hSw0) ?_
  rotate_left
  · intro w hSw; have q0 := cell_of hSw.1 0; have q1 := cell_of hSw.2.1 0; have q2 := cell_of hSw.2.2.1 0; have q3 := cell_of hSw.2.2.2.1 0; have p0 := cell_of hSw.2.2.2.2 0; have p1 := cell_of hSw.2.2.2.2 1; have p2 := cell_of hSw.2.2.2.2 2; have p3 := cell_of hSw.2.2.2.2 3; have p4 := cell_of hSw.2.2.2.2 4; simp only [List.getElem?_toArray, List.getElem?_cons_zero, List.getElem?_cons_succ] at q0 q1 q2 q3 p0 p1 p2 p3 p4; clear hSw; (go_simp <;> with_reducible rfl)
  simp only [Act.put, List.setIfInBounds_toArray, List.set_cons_zero, List.set_cons_succ]
  refine wpAnyH_take (i := 3) (oi := { dst := some 30, op := Op.load 22 (Operand.tmp 5), type := 22, pos := "law.go:59", after := #[{ on := 1, ground := Ground.guard }], guard := some (1, true) }) (v := ?_) rfl (by kernel_rfl) (by kernel_rfl) (by kernel_rfl) (fun _ _ _ h => hpn _ _ _ _ _ h) (Or.inl ⟨by rfl, ?_⟩) (hSw0) ?_
  rotate_left
  · intro w hSw; have q0 := cell_of hSw.1 0; have q1 := cell_of hSw.2.1 0; have q2 := cell_of hSw.2.2.1 0; have q3 := cell_of hSw.2.2.2.1 0; have p0 := cell_of hSw.2.2.2.2 0; have p1 := cell_of hSw.2.2.2.2 1; have p2 := cell_of hSw.2.2.2.2 2; have p3 := cell_of hSw.2.2.2.2 3; have p4 := cell_of hSw.2.2.2.2 4; simp only [List.getElem?_toArray, List.getElem?_cons_zero, List.getElem?_cons_succ] at q0 q1 q2 q3 p0 p1 p2 p3 p4; clear hSw; (go_simp <;> with_reducible rfl)
  simp only [Act.put, List.setIfInBounds_toArray, List.set_cons_zero, List.set_cons_succ]
  refine wpAnyH_take (i := 4) (oi := { dst := some 31, op := Op.call { callee := Callee.builtin Builtin.len, args := #[Operand.tmp 30], argTypes := #[22] }, type := 3, pos := "law.go:59", after := #[{ on := 3, ground := Ground.data }, { on := 1, ground := Ground.guard }], guard := some (1, true) }) (v := ?_) rfl (by kernel_rfl) (by kernel_rfl) (by kernel_rfl) (fun _ _ _ h => hpn _ _ _ _ _ h) (Or.inl ⟨by rfl, ?_⟩) (hSw0) ?_
  rotate_left
  · intro w hSw; (go_simp <;> with_reducible rfl)
  simp only [Act.put, List.setIfInBounds_toArray, List.set_cons_zero, List.set_cons_succ]
  refine wpAnyH_take (i := 5) (oi := { dst := some 32, op := Op.binOp BinOp.eql 3 (Operand.tmp 29) (Operand.tmp 31) 3, type := 4, pos := "law.go:59", after := #[{ on := 2, ground := Ground.data }, { on := 4, ground := Ground.data }, { on := 1, ground := Ground.guard }], guard := some (1, true) }) (v := ?_) rfl (by kernel_rfl) (by kernel_rfl) (by kernel_rfl) (fun _ _ _ h => hpn _ _ _ _ _ h) (Or.inl ⟨by rfl, ?_⟩) (hSw0) ?_
  rotate_left
  · intro w hSw; (go_simp <;> with_reducible rfl)
  simp only [Act.put, List.setIfInBounds_toArray, List.set_cons_zero, List.set_cons_succ]
  refine wpAnyH_take (i := 6) (oi := { dst := some 33, op := Op.move (Operand.tmp 32), type := 4, pos := "law.go:59", after := #[{ on := 5, ground := Ground.data }, { on := 1, ground := Ground.chain }, { on := 1, ground := Ground.guard }], guard := some (1, true) }) (v := ?_) rfl (by kernel_rfl) (by kernel_rfl) (by kernel_rfl) (fun _ _ _ h => hpn _ _ _ _ _ h) (Or.inl ⟨by rfl, ?_⟩) (hSw0) ?_
  rotate_left
  · intro w hSw; (go_simp <;> with_reducible rfl)
  simp only [Act.put, List.setIfInBounds_toArray, List.set_cons_zero, List.set_cons_succ]
  refine wpAnyH_take (i := 7) (oi := { dst := some 34, op := Op.load 3 (Operand.tmp 3), type := 3, pos := "law.go:59", after := #[{ on := 6, ground := Ground.guard }], guard := some (6, false) }) (v := undef) rfl (by kernel_rfl) (by kernel_rfl) (by kernel_rfl) (fun _ _ _ h => hpn _ _ _ _ _ h) (Or.inr ⟨by rfl, rfl⟩) (hSw0) ?_
  simp only [Act.put, List.setIfInBounds_toArray, List.set_cons_zero, List.set_cons_succ]
  refine wpAnyH_take (i := 8) (oi := { dst := some 35, op := Op.binOp BinOp.gtr 3 (Operand.tmp 34) (Operand.const (Value.int IntKind.i64 0)) 3, type := 4, pos := "law.go:59", after := #[{ on := 7, ground := Ground.data }, { on := 6, ground := Ground.guard }], guard := some (6, false) }) (v := undef) rfl (by kernel_rfl) (by kernel_rfl) (by kernel_rfl) (fun _ _ _ h => hpn _ _ _ _ _ h) (Or.inr ⟨by rfl, rfl⟩) (hSw0) ?_
  simp only [Act.put, List.setIfInBounds_toArray, List.set_cons_zero, List.set_cons_succ]
  refine wpAnyH_take (i := 9) (oi := { dst := some 36, op := Op.move (Operand.tmp 35), type := 4, pos := "law.go:59", after := #[{ on := 8, ground := Ground.data }, { on := 6, ground := Ground.chain }, { on := 6, ground := Ground.guard }], guard := some (6, false) }) (v := undef) rfl (by kernel_rfl) (by kernel_rfl) (by kernel_rfl) (fun _ _ _ h => hpn _ _ _ _ _ h) (Or.inr ⟨by rfl, rfl⟩) (hSw0) ?_
  simp only [Act.put, List.setIfInBounds_toArray, List.set_cons_zero, List.set_cons_succ]
  refine wpAnyH_take (i := 10) (oi := { dst := some 37, op := Op.load 3 (Operand.tmp 8), type := 3, pos := "law.go:59", after := #[{ on := 9, ground := Ground.guard }], guard := some (9, true) }) (v := undef) rfl (by kernel_rfl) (by kernel_rfl) (by kernel_rfl) (fun _ _ _ h => hpn _ _ _ _ _ h) (Or.inr ⟨by rfl, rfl⟩) (hSw0) ?_
  simp only [Act.put, List.setIfInBounds_toArray, List.set_cons_zero, List.set_cons_succ]
  refine wpAnyH_take (i := 11) (oi := { dst := some 38, op := Op.load 3 (Operand.tmp 3), type := 3, pos := "law.go:59", after := #[{ on := 9, ground := Ground.guard }], guard := some (9, true) }) (v := undef) rfl (by kernel_rfl) (by kernel_rfl) (by kernel_rfl) (fun _ _ _ h => hpn _ _ _ _ _ h) (Or.inr ⟨by rfl, rfl⟩) (hSw0) ?_
  simp only [Act.put, List.setIfInBounds_toArray, List.set_cons_zero, List.set_cons_succ]
  refine wpAnyH_take (i := 12) (oi := { dst := some 39, op := Op.binOp BinOp.eql 3 (Operand.tmp 37) (Operand.tmp 38) 3, type := 4, pos := "law.go:59", after := #[{ on := 10, ground := Ground.data }, { on := 11, ground := Ground.data }, { on := 9, ground := Ground.guard }], guard := some (9, true) }) (v := undef) rfl (by kernel_rfl) (by kernel_rfl) (by kernel_rfl) (fun _ _ _ h => hpn _ _ _ _ _ h) (Or.inr ⟨by rfl, rfl⟩) (hSw0) ?_
  simp only [Act.put, List.setIfInBounds_toArray, List.set_cons_zero, List.set_cons_succ]
  refine wpAnyH_take (i := 13) (oi := { dst := some 40, op := Op.pick (Operand.tmp 36) (Operand.tmp 39) (Operand.const (Value.bool false)), type := 4, pos := "law.go:59", after := #[{ on := 9, ground := Ground.data }, { on := 12, ground := Ground.data }, { on := 6, ground := Ground.guard }], guard := some (6, false) }) (v := undef) rfl (by kernel_rfl) (by kernel_rfl) (by kernel_rfl) (fun _ _ _ h => hpn _ _ _ _ _ h) (Or.inr ⟨by rfl, rfl⟩) (hSw0) ?_
  simp only [Act.put, List.setIfInBounds_toArray, List.set_cons_zero, List.set_cons_succ]
  refine wpAnyH_take (i := 14) (oi := { dst := some 41, op := Op.pick (Operand.tmp 33) (Operand.const (Value.bool true)) (Operand.tmp 40), type := 4, pos := "law.go:59", after := #[{ on := 6, ground := Ground.data }, { on := 13, ground := Ground.data }, { on := 1, ground := Ground.guard }], guard := some (1, true) }) (v := ?_) rfl (by kernel_rfl) (by kernel_rfl) (by kernel_rfl) (fun _ _ _ h => hpn _ _ _ _ _ h) (Or.inl ⟨by rfl, ?_⟩) (hSw0) ?_
  rotate_left
  · intro w hSw; (go_simp <;> with_reducible rfl)
  simp only [Act.put, List.setIfInBounds_toArray, List.set_cons_zero, List.set_cons_succ]
  refine wpAnyH_take (i := 15) (oi := { dst := some 42, op := Op.pick (Operand.tmp 28) (Operand.tmp 41) (Operand.const (Value.bool false)), type := 4, pos := "law.go:59", after := #[{ on := 1, ground := Ground.data }, { on := 14, ground := Ground.data }], guard := none }) (v := ?_) rfl (by kernel_rfl) (by kernel_rfl) (by kernel_rfl) (fun _ _ _ h => hpn _ _ _ _ _ h) (Or.inl ⟨by rfl, ?_⟩) (hSw0) ?_
  rotate_left
  · intro w hSw; (go_simp <;> with_reducible rfl)
  simp only [Act.put, List.setIfInBounds_toArray, List.set_cons_zero, List.set_cons_succ]
  refine wpAnyH_take (i := 16) (oi := { dst := some 43, op := Op.move (Operand.tmp 42), type := 4, pos := "law.go:59", after := #[{ on := 15, ground := Ground.data }, { on := 9, ground := Ground.chain }], guard := none }) (v := ?_) rfl (by kernel_rfl) (by kernel_rfl) (by kernel_rfl) (fun _ _ _ h => hpn _ _ _ _ _ h) (Or.inl ⟨by rfl, ?_⟩) (hSw0) ?_
  rotate_left
  · intro w hSw; (go_simp <;> with_reducible rfl)
  simp only [Act.put, List.setIfInBounds_toArray, List.set_cons_zero, List.set_cons_succ]
  refine wpAnyH_take (i := 17) (oi := { dst := some 44, op := Op.load 24 (Operand.tmp 2), type := 24, pos := "law.go:59", after := #[{ on := 16, ground := Ground.guard }], guard := some (16, true) }) (v := ?_) rfl (by kernel_rfl) (by kernel_rfl) (by kernel_rfl) (fun _ _ _ h => hpn _ _ _ _ _ h) (Or.inl ⟨by rfl, ?_⟩) (hSw0) ?_
  rotate_left
  · intro w hSw; have q0 := cell_of hSw.1 0; have q1 := cell_of hSw.2.1 0; have q2 := cell_of hSw.2.2.1 0; have q3 := cell_of hSw.2.2.2.1 0; have p0 := cell_of hSw.2.2.2.2 0; have p1 := cell_of hSw.2.2.2.2 1; have p2 := cell_of hSw.2.2.2.2 2; have p3 := cell_of hSw.2.2.2.2 3; have p4 := cell_of hSw.2.2.2.2 4; simp only [List.getElem?_toArray, List.getElem?_cons_zero, List.getElem?_cons_succ] at q0 q1 q2 q3 p0 p1 p2 p3 p4; clear hSw; (go_simp <;> with_reducible rfl)
  simp only [Act.put, List.setIfInBounds_toArray, List.set_cons_zero, List.set_cons_succ]
  refine wpAnyH_take (i := 19) (oi := { dst := some 46, op := Op.load 22 (Operand.tmp 5), type := 22, pos := "law.go:59", after := #[{ on := 16, ground := Ground.guard }], guard := some (16, true) }) (v := ?_) rfl (by kernel_rfl) (by kernel_rfl) (by kernel_rfl) (fun _ _ _ h => hpn _ _ _ _ _ h) (Or.inl ⟨by rfl, ?_⟩) (hSw0) ?_
  rotate_left
  · intro w hSw; have q0 := cell_of hSw.1 0; have q1 := cell_of hSw.2.1 0; have q2 := cell_of hSw.2.2.1 0; have q3 := cell_of hSw.2.2.2.1 0; have p0 := cell_of hSw.2.2.2.2 0; have p1 := cell_of hSw.2.2.2.2 1; have p2 := cell_of hSw.2.2.2.2 2; have p3 := cell_of hSw.2.2.2.2 3; have p4 := cell_of hSw.2.2.2.2 4; simp only [List.getElem?_toArray, List.getElem?_cons_zero, List.getElem?_cons_succ] at q0 q1 q2 q3 p0 p1 p2 p3 p4; clear hSw; (go_simp <;> with_reducible rfl)
  simp only [Act.put, List.setIfInBounds_toArray, List.set_cons_zero, List.set_cons_succ]
  refine wpAnyH_take (i := 20) (oi := { dst := some 47, op := Op.call { callee := Callee.builtin Builtin.len, args := #[Operand.tmp 46], argTypes := #[22] }, type := 3, pos := "law.go:59", after := #[{ on := 19, ground := Ground.data }, { on := 16, ground := Ground.guard }], guard := some (16, true) }) (v := ?_) rfl (by kernel_rfl) (by kernel_rfl) (by kernel_rfl) (fun _ _ _ h => hpn _ _ _ _ _ h) (Or.inl ⟨by rfl, ?_⟩) (hSw0) ?_
  rotate_left
  · intro w hSw; (go_simp <;> with_reducible rfl)
  simp only [Act.put, List.setIfInBounds_toArray, List.set_cons_zero, List.set_cons_succ]
  refine wpAnyH_ready (rs := [18]) (by kernel_rfl) (by simp) ?_
  refine (AllReadyH.cons (o := { dst := some 45, op := Op.call { callee := Callee.value (Operand.func 14), args := #[Operand.tmp 44], argTypes := #[24] }, type := 3, pos := "law.go:59", after := #[{ on := 17, ground := Ground.data }, { on := 16, ground := Ground.chain }, { on := 16, ground := Ground.guard }], guard := some (16, true) }) rfl (fun K hK => ?_) AllReadyH.nil)
  · go_simp
    refine (C14 w0 hBw0).mono ?_
    rintro e w1 ⟨rfl, hC⟩
    go_wp2_with fail
    have hBw1 : Below W.heap.size W w1 := bthen hBw0 hC
    have hSw1 := kS _ hBw1
    refine hK.out _ _ hSw1 (fun _ => ?_)
    clear hK K hC
    simp only [List.setIfInBounds_toArray, List.set_cons_zero, List.set_cons_succ]
    refine wpAnyH_take (i := 21) (oi := { dst := some 48, op := Op.binOp BinOp.eql 3 (Operand.tmp 45) (Operand.tmp 47) 3, type := 4, pos := "law.go:59", after := #[{ on := 18, ground := Ground.data }, { on := 20, ground := Ground.data }, { on := 16, ground := Ground.guard }], guard := some (16, true) }) (v := ?_) rfl (by kernel_rfl) (by kernel_rfl) (by kernel_rfl) (fun _ _ _ h => hpn _ _ _ _ _ h) (Or.inl ⟨by rfl, ?_⟩) (hSw1) ?_
    rotate_left
    · intro w hSw; (go_simp <;> with_reducible rfl)
    simp only [Act.put, List.setIfInBounds_toArray, List.set_cons_zero, List.set_cons_succ]
    refine wpAnyH_take (i := 22) (oi := { dst := some 49, op := Op.pick (Operand.tmp 43) (Operand.tmp 48) (Operand.const (Value.bool false)), type := 4, pos := "law.go:59", after := #[{ on := 16, ground := Ground.data }, { on := 21, ground := Ground.data }], guard := none }) (v := ?_) rfl (by kernel_rfl) (by kernel_rfl) (by kernel_rfl) (fun _ _ _ h => hpn _ _ _ _ _ h) (Or.inl ⟨by rfl, ?_⟩) (hSw1) ?_
    rotate_left
    · intro w hSw; (go_simp <;> with_reducible rfl)
    simp only [Act.put, List.setIfInBounds_toArray, List.set_cons_zero, List.set_cons_succ]
    refine wpAnyH_take (i := 23) (oi := { dst := some 50, op := Op.move (Operand.tmp 49), type := 4, pos := "law.go:59", after := #[{ on := 22, ground := Ground.data }, { on := 18, ground := Ground.chain }], guard := none }) (v := ?_) rfl (by kernel_rfl) (by kernel_rfl) (by kernel_rfl) (fun _ _ _ h => hpn _ _ _ _ _ h) (Or.inl ⟨by rfl, ?_⟩) (hSw1) ?_
    rotate_left
    · intro w hSw; (go_simp <;> with_reducible rfl)
    simp only [Act.put, List.setIfInBounds_toArray, List.set_cons_zero, List.set_cons_succ]
    refine wpAnyH_take (i := 24) (oi := { dst := some 51, op := Op.load 24 (Operand.tmp 2), type := 24, pos := "law.go:59", after := #[{ on := 23, ground := Ground.guard }], guard := some (23, true) }) (v := ?_) rfl (by kernel_rfl) (by kernel_rfl) (by kernel_rfl) (fun _ _ _ h => hpn _ _ _ _ _ h) (Or.inl ⟨by rfl, ?_⟩) (hSw1) ?_
    rotate_left
    · intro w hSw; have q0 := cell_of hSw.1 0; have q1 := cell_of hSw.2.1 0; have q2 := cell_of hSw.2.2.1 0; have q3 := cell_of hSw.2.2.2.1 0; have p0 := cell_of hSw.2.2.2.2 0; have p1 := cell_of hSw.2.2.2.2 1; have p2 := cell_of hSw.2.2.2.2 2; have p3 := cell_of hSw.2.2.2.2 3; have p4 := cell_of hSw.2.2.2.2 4; simp only [List.getElem?_toArray, List.getElem?_cons_zero, List.getElem?_cons_succ] at q0 q1 q2 q3 p0 p1 p2 p3 p4; clear hSw; (go_simp <;> with_reducible rfl)
    simp only [Act.put, List.setIfInBounds_toArray, List.set_cons_zero, List.set_cons_succ]
    refine wpAnyH_take (i := 26) (oi := { dst := some 53, op := Op.load 24 (Operand.tmp 2), type := 24, pos := "law.go:59", after := #[{ on := 23, ground := Ground.guard }], guard := some (23, true) }) (v := ?_) rfl (by kernel_rfl) (by kernel_rfl) (by kernel_rfl) (fun _ _ _ h => hpn _ _ _ _ _ h) (Or.inl ⟨by rfl, ?_⟩) (hSw1) ?_
    rotate_left
    · intro w hSw; have q0 := cell_of hSw.1 0; have q1 := cell_of hSw.2.1 0; have q2 := cell_of hSw.2.2.1 0; have q3 := cell_of hSw.2.2.2.1 0; have p0 := cell_of hSw.2.2.2.2 0; have p1 := cell_of hSw.2.2.2.2 1; have p2 := cell_of hSw.2.2.2.2 2; have p3 := cell_of hSw.2.2.2.2 3; have p4 := cell_of hSw.2.2.2.2 4; simp only [List.getElem?_toArray, List.getElem?_cons_zero, List.getElem?_cons_succ] at q0 q1 q2 q3 p0 p1 p2 p3 p4; clear hSw; (go_simp <;> with_reducible rfl)
    simp only [Act.put, List.setIfInBounds_toArray, List.set_cons_zero, List.set_cons_succ]
    refine wpAnyH_ready (rs := [25]) (by kernel_rfl) (by simp) ?_
    refine (AllReadyH.cons (o := { dst := some 52, op := Op.call { callee := Callee.value (Operand.func 15), args := #[Operand.tmp 51], argTypes := #[24] }, type := 3, pos := "law.go:59", after := #[{ on := 24, ground := Ground.data }, { on := 23, ground := Ground.chain }, { on := 23, ground := Ground.guard }], guard := some (23, true) }) rfl (fun K hK => ?_) AllReadyH.nil)
    · go_simp
      refine (C15 w1 hBw1).mono ?_
      rintro e w2 ⟨rfl, hC⟩
      go_wp2_with fail
      have hBw2 : Below W.heap.size W w2 := bthen hBw1 hC
      have hSw2 := kS _ hBw2
      refine hK.out _ _ hSw2 (fun _ => ?_)
      clear hK K hC
      simp only [List.setIfInBounds_toArray, List.set_cons_zero, List.set_cons_succ]
      refine wpAnyH_ready (rs := [27]) (by kernel_rfl) (by simp) ?_
      refine (AllReadyH.cons (o := { dst := some 54, op := Op.call { callee := Callee.value (Operand.func 16), args := #[Operand.tmp 53], argTypes := #[24] }, type := 3, pos := "law.go:59", after := #[{ on := 26, ground := Ground.data }, { on := 25, ground := Ground.chain }, { on := 23, ground := Ground.guard }], guard := some (23, true) }) rfl (fun K hK => ?_) AllReadyH.nil)
      · go_simp
        refine (C16 w2 hBw2).mono ?_
        rintro e w3 ⟨rfl, hC⟩
        go_wp2_with fail
        have hBw3 : Below W.heap.size W w3 := bthen hBw2 hC
        have hSw3 := kS _ hBw3
        refine hK.out _ _ hSw3 (fun _ => ?_)
        clear hK K hC
        simp only [List.setIfInBounds_toArray, List.set_cons_zero, List.set_cons_succ]
        refine wpAnyH_take (i := 28) (oi := { dst := some 55, op := Op.binOp BinOp.eql 3 (Operand.tmp 52) (Operand.tmp 54) 3, type := 4, pos := "law.go:59", after := #[{ on := 25, ground := Ground.data }, { on := 27, ground := Ground.data }, { on := 23, ground := Ground.guard }], guard := some (23, true) }) (v := ?_) rfl (by kernel_rfl) (by kernel_rfl) (by kernel_rfl) (fun _ _ _ h => hpn _ _ _ _ _ h) (Or.inl ⟨by rfl, ?_⟩) (hSw3) ?_
        rotate_left
        · intro w hSw; (go_simp <;> with_reducible rfl)
        simp only [Act.put, List.setIfInBounds_toArray, List.set_cons_zero, List.set_cons_succ]
        refine wpAnyH_take (i := 29) (oi := { dst := some 56, op := Op.pick (Operand.tmp 50) (Operand.tmp 55) (Operand.const (Value.bool false)), type := 4, pos := "law.go:59", after := #[{ on := 23, ground := Ground.data }, { on := 28, ground := Ground.data }], guard := none }) (v := ?_) rfl (by kernel_rfl) (by kernel_rfl) (by kernel_rfl) (fun _ _ _ h => hpn _ _ _ _ _ h) (Or.inl ⟨by rfl, ?_⟩) (hSw3) ?_
        rotate_left
        · intro w hSw; (go_simp <;> with_reducible rfl)
        simp only [Act.put, List.setIfInBounds_toArray, List.set_cons_zero, List.set_cons_succ]
        refine wpAnyH_take (i := 30) (oi := { dst := some 57, op := Op.move (Operand.tmp 56), type := 4, pos := "law.go:59", after := #[{ on := 29, ground := Ground.data }, { on := 27, ground := Ground.chain }], guard := none }) (v := ?_) rfl (by kernel_rfl) (by kernel_rfl) (by kernel_rfl) (fun _ _ _ h => hpn _ _ _ _ _ h) (Or.inl ⟨by rfl, ?_⟩) (hSw3) ?_
        rotate_left
        · intro w hSw; (go_simp <;> with_reducible rfl)
        simp only [Act.put, List.setIfInBounds_toArray, List.set_cons_zero, List.set_cons_succ]
        refine wpAnyH_ready (rs := [31]) (by kernel_rfl) (by simp) ?_
        refine (AllReadyH.cons (o := { dst := some 58, op := Op.call { callee := Callee.value (Operand.func 9), args := #[], argTypes := #[] }, type := 4, pos := "law.go:59", after := #[{ on := 30, ground := Ground.chain }, { on := 30, ground := Ground.guard }], guard := some (30, true) }) rfl (fun K hK => ?_) AllReadyH.nil)
        · go_simp
          refine (C9 w3 hBw3).mono ?_
          rintro e w4 ⟨rfl, hC⟩
          go_wp2_with fail
          have hBw4 : Below W.heap.size W w4 := bthen hBw3 hC
          have hSw4 := kS _ hBw4
          refine hK.out _ _ hSw4 (fun _ => ?_)
          clear hK K hC
          simp only [List.setIfInBounds_toArray, List.set_cons_zero, List.set_cons_succ]
          refine wpAnyH_take (i := 32) (oi := { dst := some 59, op := Op.pick (Operand.tmp 57) (Operand.tmp 58) (Operand.const (Value.bool false)), type := 4, pos := "law.go:59", after := #[{ on := 30, ground := Ground.data }, { on := 31, ground := Ground.data }], guard := none }) (v := ?_) rfl (by kernel_rfl) (by kernel_rfl) (by kernel_rfl) (fun _ _ _ h => hpn _ _ _ _ _ h) (Or.inl ⟨by rfl, ?_⟩) (hSw4) ?_
          rotate_left
          · intro w hSw; (go_simp <;> with_reducible rfl)
          simp only [Act.put, List.setIfInBounds_toArray, List.set_cons_zero, List.set_cons_succ]
          refine wpAnyH_take (i := 33) (oi := { dst := some 4, op := Op.assign (Operand.tmp 59), type := 4, pos := "law.go:59", after := #[{ on := 32, ground := Ground.data }, { on := 31, ground := Ground.chain }, { on := 0, ground := Ground.phase }, { on := 1, ground := Ground.phase }, { on := 2, ground := Ground.phase }, { on := 3, ground := Ground.phase }, { on := 4, ground := Ground.phase }, { on := 5, ground := Ground.phase }, { on := 6, ground := Ground.phase }, { on := 7, ground := Ground.phase }, { on := 8, ground := Ground.phase }, { on := 9, ground := Ground.phase }, { on := 10, ground := Ground.phase }, { on := 11, ground := Ground.phase }, { on := 12, ground := Ground.phase }, { on := 13, ground := Ground.phase }, { on := 14, ground := Ground.phase }, { on := 15, ground := Ground.phase }, { on := 16, ground := Ground.phase }, { on := 17, ground := Ground.phase }, { on := 18, ground := Ground.phase }, { on := 19, ground := Ground.phase }, { on := 20, ground := Ground.phase }, { on := 21, ground := Ground.phase }, { on := 22, ground := Ground.phase }, { on := 23, ground := Ground.phase }, { on := 24, ground := Ground.phase }, { on := 25, ground := Ground.phase }, { on := 26, ground := Ground.phase }, { on := 27, ground := Ground.phase }, { on := 28, ground := Ground.phase }, { on := 29, ground := Ground.phase }, { on := 30, ground := Ground.phase }, { on := 31, ground := Ground.phase }, { on := 32, ground := Ground.phase }], guard := none }) (v := ?_) rfl (by kernel_rfl) (by kernel_rfl) (by kernel_rfl) (fun _ _ _ h => hpn _ _ _ _ _ h) (Or.inl ⟨by rfl, ?_⟩) (hSw4) ?_
          rotate_left
          · intro w hSw; (go_simp <;> with_reducible rfl)
          simp only [Act.put, List.setIfInBounds_toArray, List.set_cons_zero, List.set_cons_succ]
          refine wpAnyH_done (by kernel_rfl) ?_ _
          exact hQ _ _ _ _ _ _ _ _ _ _ _ _ _ _ _ _ _ _ _ _ _ _ _ _ _ _ _ _ _ _ _ _ _ _ hBw4
set_option maxRecDepth 100000 in
set_option maxHeartbeats 2000000 in
theorem all_rB (Q : Exit → Act → World → Prop) (hpn : ∀ c (a : Act) (d : Option Tmp) (v : Value) w, Q (.panic c) (a.put d v) w → Q (.panic c) a w) (t0 t1 t4 t6 t7 t10 t11 t12 t13 t14 t15 t16 t17 t18 t19 t20 t21 t22 t23 t24 t25 t26 t27 t28 t29 t30 t31 t32 t33 t34 t35 t36 t37 t38 t39 t40 t41 t42 t43 t44 t45 t46 t47 t48 t49 t50 t51 t52 t53 t54 t55 t56 t57 t58 t59 : Value) (n : Nd) (okb kb lb sb b0 k D : Nat) (a1 al : Option Addr) (c1 cl : Nat) (stop : Int) (W : World)
    (hS : SR okb kb lb sb b0 k (.slice al n.sz cl) stop #[.int .i64 n.kind, .int .i64 n.fr, .int .i64 n.to, .string n.text, .slice a1 n.kids.length c1] W) (hk : ((k : Int) == (n.sz : Int)) = false) (hk2 : ((k : Int) == stop) = true) (hp : 0 < stop)
    (C14 : ∀ w', Below W.heap.size W w' → Calls Try.prog 14 #[.agg #[.int .i64 n.kind, .int .i64 n.fr, .int .i64 n.to, .string n.text, .slice a1 n.kids.length c1]] w' fun e w2 => e = .returned (.int .i64 n.sz) ∧ Below w'.heap.size w' w2)
    (C15 : ∀ w', Below W.heap.size W w' → Calls Try.prog 15 #[.agg #[.int .i64 n.kind, .int .i64 n.fr, .int .i64 n.to, .string n.text, .slice a1 n.kids.length c1]] w' fun e w2 => e = .returned (.int .i64 D) ∧ Below w'.heap.size w' w2)
    (C16 : ∀ w', Below W.heap.size W w' → Calls Try.prog 16 #[.agg #[.int .i64 n.kind, .int .i64 n.fr, .int .i64 n.to, .string n.text, .slice a1 n.kids.length c1]] w' fun e w2 => e = .returned (.int .i64 D) ∧ Below w'.heap.size w' w2)
    (C9 : ∀ w', Below W.heap.size W w' → Calls Try.prog 9 #[] w' fun e w2 => e = .returned (.bool true) ∧ Below w'.heap.size w' w2)
    (hQ : ∀ (t27 t28 t29 t30 t31 t32 t33 t34 t35 t36 t37 t38 t39 t40 t41 t42 t43 t44 t45 t46 t47 t48 t49 t50 t51 t52 t53 t54 t55 t56 t57 t58 t59 : Value) W', Below W.heap.size W W' → Q .normal { tmps := #[t0, t1, .pointer (some ⟨b0, 0, none⟩), .pointer (some ⟨sb, 0, none⟩), .bool true, .pointer (some ⟨lb, 0, none⟩), t6, t7, .pointer (some ⟨kb, 0, none⟩), .pointer (some ⟨okb, 0, none⟩), t10, t11, t12, t13, t14, t15, t16, t17, t18, t19, t20, t21, t22, t23, t24, t25, t26, t27, t28, t29, t30, t31, t32, t33, t34, t35, t36, t37, t38, t39, t40, t41, t42, t43, t44, t45, t46, t47, t48, t49, t50, t51, t52, t53, t54, t55, t56, t57, t58, t59], defers := [] } W') :
    wpAnyH Try.prog .any opsR Q (SR okb kb lb sb b0 k (.slice al n.sz cl) stop #[.int .i64 n.kind, .int .i64 n.fr, .int .i64 n.to, .string n.text, .slice a1 n.kids.length c1]) 34 #[false, false, false, false, false, false, false, false, false, false, false, false, false, false, false, false, false, false, false, false, false, false, false, false, false, false, false, false, false, false, false, false, false, false] { tmps := #[t0, t1, .pointer (some ⟨b0, 0, none⟩), .pointer (some ⟨sb, 0, none⟩), t4, .pointer (some ⟨lb, 0, none⟩), t6, t7, .pointer (some ⟨kb, 0, none⟩), .pointer (some ⟨okb, 0, none⟩), t10, t11, t12, t13, t14, t15, t16, t17, t18, t19, t20, t21, t22, t23, t24, t25, t26, t27, t28, t29, t30, t31, t32, t33, t34, t35, t36, t37, t38, t39, t40, t41, t42, t43, t44, t45, t46, t47, t48, t49, t50, t51, t52, t53, t54, t55, t56, t57, t58, t59], defers := [] } W.drew := by
  have kS : ∀ w', Below W.heap.size W w' → SR okb kb lb sb b0 k (.slice al n.sz cl) stop #[.int .i64 n.kind, .int .i64 n.fr, .int .i64 n.to, .string n.text, .slice a1 n.kids.length c1] w' := fun w' h => ⟨(h.block _ (Array.getElem?_eq_some_iff.1 hS.1).1).trans hS.1, (h.block _ (Array.getElem?_eq_some_iff.1 hS.2.1).1).trans hS.2.1, (h.block _ (Array.getElem?_eq_some_iff.1 hS.2.2.1).1).trans hS.2.2.1, (h.block _ (Array.getElem?_eq_some_iff.1 hS.2.2.2.1).1).trans hS.2.2.2.1, (h.block _ (Array.getElem?_eq_some_iff.1 hS.2.2.2.2).1).trans hS.2.2.2.2⟩
  obtain ⟨w0, hw0⟩ : ∃ y, W.drew = y := ⟨_, rfl⟩
  have hBw0 : Below W.heap.size W w0 := hw0 ▸ below_drew W
  rw [hw0]
  clear hw0
  have hSw0 := kS w0 hBw0
  clear hS
  refine wpAnyH_take (i := 0) (oi := { dst := some 27, op := Op.load 4 (Operand.tmp 9), type := 4, pos := "law.go:59", after := #[], guard := none }) (v := ?_) rfl (by kernel_rfl) (by kernel_rfl) (by kernel_rfl) (fun _ _ _ h => hpn _ _ _ _ _ h) (Or.inl ⟨by rfl, ?_⟩) (hSw0) ?_
  rotate_left
  · intro w hSw; have q0 := cell_of hSw.1 0; have q1 := cell_of hSw.2.1 0; have q2 := cell_of hSw.2.2.1 0; have q3 := cell_of hSw.2.2.2.1 0; have p0 := cell_of hSw.2.2.2.2 0; have p1 := cell_of hSw.2.2.2.2 1; have p2 := cell_of hSw.2.2.2.2 2; have p3 := cell_of hSw.2.2.2.2 3; have p4 := cell_of hSw.2.2.2.2 4; simp only [List.getElem?_toArray, List.getElem?_cons_zero, List.getElem?_cons_succ] at q0 q1 q2 q3 p0 p1 p2 p3 p4; clear hSw; (go_simp <;> with_reducible rfl)
  simp only [Act.put, List.setIfInBounds_toArray, List.set_cons_zero, List.set_cons_succ]
  refine wpAnyH_take (i := 1) (oi := { dst := some 28, op := Op.move (Operand.tmp 27), type := 4, pos := "law.go:59", after := #[{ on := 0, ground := Ground.data }], guard := none }) (v := ?_) rfl (by kernel_rfl) (by kernel_rfl) (by kernel_rfl) (fun _ _ _ h => hpn _ _ _ _ _ h) (Or.inl ⟨by rfl, ?_⟩) (hSw0) ?_
  rotate_left
  · intro w hSw; (go_simp <;> with_reducible rfl)
  simp only [Act.put, List.setIfInBounds_toArray, List.set_cons_zero, List.set_cons_succ]
  refine wpAnyH_take (i := 2) (oi := { dst := some 29, op := Op.load 3 (Operand.tmp 8), type := 3, pos := "law.go:59", after := #[{ on := 1, ground := Ground.guard }], guard := some (1, true) }) (v := ?_) rfl (by kernel_rfl) (by kernel_rfl) (by kernel_rfl) (fun _ _ _ h => hpn _ _ _ _ _ h) (Or.inl ⟨by rfl, ?_⟩) (hSw0) ?_
  rotate_left
  · intro w hSw; have q0 := cell_of hSw.1 0; have q1 := cell_of hSw.2.1 0; have q2 := cell_of hSw.2.2.1 0; have q3 := cell_of hSw.2.2.2.1 0; have p0 := cell_of hSw.2.2.2.2 0; have p1 := cell_of hSw.2.2.2.2 1; have p2 := cell_of hSw.2.2.2.2 2; have p3 := cell_of hSw.2.2.2.2 3; have p4 := cell_of hSw.2.2.2.2 4; simp only [List.getElem?_toArray, List.getElem?_cons_zero, List.getElem?_cons_succ] at q0 q1 q2 q3 p0 p1 p2 p3 p4; clear hSw; (go_simp <;> with_reducible rfl)
  simp only [Act.put, List.setIfInBounds_toArray, List.set_cons_zero, List.set_cons_succ]
  refine wpAnyH_take (i := 3) (oi := { dst := some 30, op := Op.load 22 (Operand.tmp 5), type := 22, pos := "law.go:59", after := #[{ on := 1, ground := Ground.guard }], guard := some (1, true) }) (v := ?_) rfl (by kernel_rfl) (by kernel_rfl) (by kernel_rfl) (fun _ _ _ h => hpn _ _ _ _ _ h) (Or.inl ⟨by rfl, ?_⟩) (hSw0) ?_
  rotate_left
  · intro w hSw; have q0 := cell_of hSw.1 0; have q1 := cell_of hSw.2.1 0; have q2 := cell_of hSw.2.2.1 0; have q3 := cell_of hSw.2.2.2.1 0; have p0 := cell_of hSw.2.2.2.2 0; have p1 := cell_of hSw.2.2.2.2 1; have p2 := cell_of hSw.2.2.2.2 2; have p3 := cell_of hSw.2.2.2.2 3; have p4 := cell_of hSw.2.2.2.2 4; simp only [List.getElem?_toArray, List.getElem?_cons_zero, List.getElem?_cons_succ] at q0 q1 q2 q3 p0 p1 p2 p3 p4; clear hSw; (go_simp <;> with_reducible rfl)
  simp only [Act.put, List.setIfInBounds_toArray, List.set_cons_zero, List.set_cons_succ]
  refine wpAnyH_take (i := 4) (oi := { dst := some 31, op := Op.call { callee := Callee.builtin Builtin.len, args := #[Operand.tmp 30], argTypes := #[22] }, type := 3, pos := "law.go:59", after := #[{ on := 3, ground := Ground.data }, { on := 1, ground := Ground.guard }], guard := some (1, true) }) (v := ?_) rfl (by kernel_rfl) (by kernel_rfl) (by kernel_rfl) (fun _ _ _ h => hpn _ _ _ _ _ h) (Or.inl ⟨by rfl, ?_⟩) (hSw0) ?_
  rotate_left
  · intro w hSw; (go_simp <;> with_reducible rfl)
  simp only [Act.put, List.setIfInBounds_toArray, List.set_cons_zero, List.set_cons_succ]
  refine wpAnyH_take (i := 5) (oi := { dst := some 32, op := Op.binOp BinOp.eql 3 (Operand.tmp 29) (Operand.tmp 31) 3, type := 4, pos := "law.go:59", after := #[{ on := 2, ground := Ground.data }, { on := 4, ground := Ground.data }, { on := 1, ground := Ground.guard }], guard := some (1, true) }) (v := ?_) rfl (by kernel_rfl) (by kernel_rfl) (by kernel_rfl) (fun _ _ _ h => hpn _ _ _ _ _ h) (Or.inl ⟨by rfl, ?_⟩) (hSw0) ?_
  rotate_left
  · intro w hSw; (go_simp <;> with_reducible rfl)
  simp only [Act.put, List.setIfInBounds_toArray, List.set_cons_zero, List.set_cons_succ]
  refine wpAnyH_take (i := 6) (oi := { dst := some 33, op := Op.move (Operand.tmp 32), type := 4, pos := "law.go:59", after := #[{ on := 5, ground := Ground.data }, { on := 1, ground := Ground.chain }, { on := 1, ground := Ground.guard }], guard := some (1, true) }) (v := ?_) rfl (by kernel_rfl) (by kernel_rfl) (by kernel_rfl) (fun _ _ _ h => hpn _ _ _ _ _ h) (Or.inl ⟨by rfl, ?_⟩) (hSw0) ?_
  rotate_left
  · intro w hSw; (go_simp <;> with_reducible rfl)
  simp only [Act.put, List.setIfInBounds_toArray, List.set_cons_zero, List.set_cons_succ]
  refine wpAnyH_take (i := 7) (oi := { dst := some 34, op := Op.load 3 (Operand.tmp 3), type := 3, pos := "law.go:59", after := #[{ on := 6, ground := Ground.guard }], guard := some (6, false) }) (v := ?_) rfl (by kernel_rfl) (by kernel_rfl) (by kernel_rfl) (fun _ _ _ h => hpn _ _ _ _ _ h) (Or.inl ⟨by rfl, ?_⟩) (hSw0) ?_
  rotate_left
  · intro w hSw; have q0 := cell_of hSw.1 0; have q1 := cell_of hSw.2.1 0; have q2 := cell_of hSw.2.2.1 0; have q3 := cell_of hSw.2.2.2.1 0; have p0 := cell_of hSw.2.2.2.2 0; have p1 := cell_of hSw.2.2.2.2 1; have p2 := cell_of hSw.2.2.2.2 2; have p3 := cell_of hSw.2.2.2.2 3; have p4 := cell_of hSw.2.2.2.2 4; simp only [List.getElem?_toArray, List.getElem?_cons_zero, List.getElem?_cons_succ] at q0 q1 q2 q3 p0 p1 p2 p3 p4; clear hSw; (go_simp <;> with_reducible rfl)
  simp only [Act.put, List.setIfInBounds_toArray, List.set_cons_zero, List.set_cons_succ]
  refine wpAnyH_take (i := 8) (oi := { dst := some 35, op := Op.binOp BinOp.gtr 3 (Operand.tmp 34) (Operand.const (Value.int IntKind.i64 0)) 3, type := 4, pos := "law.go:59", after := #[{ on := 7, ground := Ground.data }, { on := 6, ground := Ground.guard }], guard := some (6, false) }) (v := ?_) rfl (by kernel_rfl) (by kernel_rfl) (by kernel_rfl) (fun _ _ _ h => hpn _ _ _ _ _ h) (Or.inl ⟨by rfl, ?_⟩) (hSw0) ?_
  rotate_left
  · intro w hSw; (go_simp <;> with_reducible rfl)
  simp only [Act.put, List.setIfInBounds_toArray, List.set_cons_zero, List.set_cons_succ]
  refine wpAnyH_take (i := 9) (oi := { dst := some 36, op := Op.move (Operand.tmp 35), type := 4, pos := "law.go:59", after := #[{ on := 8, ground := Ground.data }, { on := 6, ground := Ground.chain }, { on := 6, ground := Ground.guard }], guard := some (6, false) }) (v := ?_) rfl (by kernel_rfl) (by kernel_rfl) (by kernel_rfl) (fun _ _ _ h => hpn _ _ _ _ _ h) (Or.inl ⟨by rfl, ?_⟩) (hSw0) ?_
  rotate_left
  · intro w hSw; (go_simp <;> with_reducible rfl)
  simp only [Act.put, List.setIfInBounds_toArray, List.set_cons_zero, List.set_cons_succ]
  refine wpAnyH_take (i := 10) (oi := { dst := some 37, op := Op.load 3 (Operand.tmp 8), type := 3, pos := "law.go:59", after := #[{ on := 9, ground := Ground.guard }], guard := some (9, true) }) (v := ?_) rfl (by kernel_rfl) (by kernel_rfl) (by kernel_rfl) (fun _ _ _ h => hpn _ _ _ _ _ h) (Or.inl ⟨by rfl, ?_⟩) (hSw0) ?_
  rotate_left
  · intro w hSw; have q0 := cell_of hSw.1 0; have q1 := cell_of hSw.2.1 0; have q2 := cell_of hSw.2.2.1 0; have q3 := cell_of hSw.2.2.2.1 0; have p0 := cell_of hSw.2.2.2.2 0; have p1 := cell_of hSw.2.2.2.2 1; have p2 := cell_of hSw.2.2.2.2 2; have p3 := cell_of hSw.2.2.2.2 3; have p4 := cell_of hSw.2.2.2.2 4; simp only [List.getElem?_toArray, List.getElem?_cons_zero, List.getElem?_cons_succ] at q0 q1 q2 q3 p0 p1 p2 p3 p4; clear hSw; (go_simp <;> with_reducible rfl)
  simp only [Act.put, List.setIfInBounds_toArray, List.set_cons_zero, List.set_cons_succ]
  refine wpAnyH_take (i := 11) (oi := { dst := some 38, op := Op.load 3 (Operand.tmp 3), type := 3, pos := "law.go:59", after := #[{ on := 9, ground := Ground.guard }], guard := some (9, true) }) (v := ?_) rfl (by kernel_rfl) (by kernel_rfl) (by kernel_rfl) (fun _ _ _ h => hpn _ _ _ _ _ h) (Or.inl ⟨by rfl, ?_⟩) (hSw0) ?_
  rotate_left
  · intro w hSw; have q0 := cell_of hSw.1 0; have q1 := cell_of hSw.2.1 0; have q2 := cell_of hSw.2.2.1 0; have q3 := cell_of hSw.2.2.2.1 0; have p0 := cell_of hSw.2.2.2.2 0; have p1 := cell_of hSw.2.2.2.2 1; have p2 := cell_of hSw.2.2.2.2 2; have p3 := cell_of hSw.2.2.2.2 3; have p4 := cell_of hSw.2.2.2.2 4; simp only [List.getElem?_toArray, List.getElem?_cons_zero, List.getElem?_cons_succ] at q0 q1 q2 q3 p0 p1 p2 p3 p4; clear hSw; (go_simp <;> with_reducible rfl)
  simp only [Act.put, List.setIfInBounds_toArray, List.set_cons_zero, List.set_cons_succ]
  refine wpAnyH_take (i := 12) (oi := { dst := some 39, op := Op.binOp BinOp.eql 3 (Operand.tmp 37) (Operand.tmp 38) 3, type := 4, pos := "law.go:59", after := #[{ on := 10, ground := Ground.data }, { on := 11, ground := Ground.data }, { on := 9, ground := Ground.guard }], guard := some (9, true) }) (v := ?_) rfl (by kernel_rfl) (by kernel_rfl) (by kernel_rfl) (fun _ _ _ h => hpn _ _ _ _ _ h) (Or.inl ⟨by rfl, ?_⟩) (hSw0) ?_
  rotate_left
  · intro w hSw; (go_simp <;> with_reducible rfl)
  simp only [Act.put, List.setIfInBounds_toArray, List.set_cons_zero, List.set_cons_succ]
  refine wpAnyH_take (i := 13) (oi := { dst := some 40, op := Op.pick (Operand.tmp 36) (Operand.tmp 39) (Operand.const (Value.bool false)), type := 4, pos := "law.go:59", after := #[{ on := 9, ground := Ground.data }, { on := 12, ground := Ground.data }, { on := 6, ground := Ground.guard }], guard := some (6, false) }) (v := ?_) rfl (by kernel_rfl) (by kernel_rfl) (by kernel_rfl) (fun _ _ _ h => hpn _ _ _ _ _ h) (Or.inl ⟨by rfl, ?_⟩) (hSw0) ?_
  rotate_left
  · intro w hSw; (go_simp <;> with_reducible rfl)
  simp only [Act.put, List.setIfInBounds_toArray, List.set_cons_zero, List.set_cons_succ]
  refine wpAnyH_take (i := 14) (oi := { dst := some 41, op := Op.pick (Operand.tmp 33) (Operand.const (Value.bool true)) (Operand.tmp 40), type := 4, pos := "law.go:59", after := #[{ on := 6, ground := Ground.data }, { on := 13, ground := Ground.data }, { on := 1, ground := Ground.guard }], guard := some (1, true) }) (v := ?_) rfl (by kernel_rfl) (by kernel_rfl) (by kernel_rfl) (fun _ _ _ h => hpn _ _ _ _ _ h) (Or.inl ⟨by rfl, ?_⟩) (hSw0) ?_
  rotate_left
  · intro w hSw; (go_simp <;> with_reducible rfl)
  simp only [Act.put, List.setIfInBounds_toArray, List.set_cons_zero, List.set_cons_succ]
  refine wpAnyH_take (i := 15) (oi := { dst := some 42, op := Op.pick (Operand.tmp 28) (Operand.tmp 41) (Operand.const (Value.bool false)), type := 4, pos := "law.go:59", after := #[{ on := 1, ground := Ground.data }, { on := 14, ground := Ground.data }], guard := none }) (v := ?_) rfl (by kernel_rfl) (by kernel_rfl) (by kernel_rfl) (fun _ _ _ h => hpn _ _ _ _ _ h) (Or.inl ⟨by rfl, ?_⟩) (hSw0) ?_
  rotate_left
  · intro w hSw; (go_simp <;> with_reducible rfl)
  simp only [Act.put, List.setIfInBounds_toArray, List.set_cons_zero, List.set_cons_succ]
  refine wpAnyH_take (i := 16) (oi := { dst := some 43, op := Op.move (Operand.tmp 42), type := 4, pos := "law.go:59", after := #[{ on := 15, ground := Ground.data }, { on := 9, ground := Ground.chain }], guard := none }) (v := ?_) rfl (by kernel_rfl) (by kernel_rfl) (by kernel_rfl) (fun _ _ _ h => hpn _ _ _ _ _ h) (Or.inl ⟨by rfl, ?_⟩) (hSw0) ?_
  rotate_left
  · intro w hSw; (go_simp <;> with_reducible rfl)
  simp only [Act.put, List.setIfInBounds_toArray, List.set_cons_zero, List.set_cons_succ]
  refine wpAnyH_take (i := 17) (oi := { dst := some 44, op := Op.load 24 (Operand.tmp 2), type := 24, pos := "law.go:59", after := #[{ on := 16, ground := Ground.guard }], guard := some (16, true) }) (v := ?_) rfl (by kernel_rfl) (by kernel_rfl) (by kernel_rfl) (fun _ _ _ h => hpn _ _ _ _ _ h) (Or.inl ⟨by rfl, ?_⟩) (hSw0) ?_
  rotate_left
  · intro w hSw; have q0 := cell_of hSw.1 0; have q1 := cell_of hSw.2.1 0; have q2 := cell_of hSw.2.2.1 0; have q3 := cell_of hSw.2.2.2.1 0; have p0 := cell_of hSw.2.2.2.2 0; have p1 := cell_of hSw.2.2.2.2 1; have p2 := cell_of hSw.2.2.2.2 2; have p3 := cell_of hSw.2.2.2.2 3; have p4 := cell_of hSw.2.2.2.2 4; simp only [List.getElem?_toArray, List.getElem?_cons_zero, List.getElem?_cons_succ] at q0 q1 q2 q3 p0 p1 p2 p3 p4; clear hSw; (go_simp <;> with_reducible rfl)
  simp only [Act.put, List.setIfInBounds_toArray, List.set_cons_zero, List.set_cons_succ]
  refine wpAnyH_take (i := 19) (oi := { dst := some 46, op := Op.load 22 (Operand.tmp 5), type := 22, pos := "law.go:59", after := #[{ on := 16, ground := Ground.guard }], guard := some (16, true) }) (v := ?_) rfl (by kernel_rfl) (by kernel_rfl) (by kernel_rfl) (fun _ _ _ h => hpn _ _ _ _ _ h) (Or.inl ⟨by rfl, ?_⟩) (hSw0) ?_
  rotate_left
  · intro w hSw; have q0 := cell_of hSw.1 0; have q1 := cell_of hSw.2.1 0; have q2 := cell_of hSw.2.2.1 0; have q3 := cell_of hSw.2.2.2.1 0; have p0 := cell_of hSw.2.2.2.2 0; have p1 := cell_of hSw.2.2.2.2 1; have p2 := cell_of hSw.2.2.2.2 2; have p3 := cell_of hSw.2.2.2.2 3; have p4 := cell_of hSw.2.2.2.2 4; simp only [List.getElem?_toArray, List.getElem?_cons_zero, List.getElem?_cons_succ] at q0 q1 q2 q3 p0 p1 p2 p3 p4; clear hSw; (go_simp <;> with_reducible rfl)
  simp only [Act.put, List.setIfInBounds_toArray, List.set_cons_zero, List.set_cons_succ]
  refine wpAnyH_take (i := 20) (oi := { dst := some 47, op := Op.call { callee := Callee.builtin Builtin.len, args := #[Operand.tmp 46], argTypes := #[22] }, type := 3, pos := "law.go:59", after := #[{ on := 19, ground := Ground.data }, { on := 16, ground := Ground.guard }], guard := some (16, true) }) (v := ?_) rfl (by kernel_rfl) (by kernel_rfl) (by kernel_rfl) (fun _ _ _ h => hpn _ _ _ _ _ h) (Or.inl ⟨by rfl, ?_⟩) (hSw0) ?_
  rotate_left
  · intro w hSw; (go_simp <;> with_reducible rfl)
  simp only [Act.put, List.setIfInBounds_toArray, List.set_cons_zero, List.set_cons_succ]
  refine wpAnyH_ready (rs := [18]) (by kernel_rfl) (by simp) ?_
  refine (AllReadyH.cons (o := { dst := some 45, op := Op.call { callee := Callee.value (Operand.func 14), args := #[Operand.tmp 44], argTypes := #[24] }, type := 3, pos := "law.go:59", after := #[{ on := 17, ground := Ground.data }, { on := 16, ground := Ground.chain }, { on := 16, ground := Ground.guard }], guard := some (16, true) }) rfl (fun K hK => ?_) AllReadyH.nil)
  · go_simp
    refine (C14 w0 hBw0).mono ?_
    rintro e w1 ⟨rfl, hC⟩
    go_wp2_with fail
    have hBw1 : Below W.heap.size W w1 := bthen hBw0 hC
    have hSw1 := kS _ hBw1
    refine hK.out _ _ hSw1 (fun _ => ?_)
    clear hK K hC
    simp only [List.setIfInBounds_toArray, List.set_cons_zero, List.set_cons_succ]
    refine wpAnyH_take (i := 21) (oi := { dst := some 48, op := Op.binOp BinOp.eql 3 (Operand.tmp 45) (Operand.tmp 47) 3, type := 4, pos := "law.go:59", after := #[{ on := 18, ground := Ground.data }, { on := 20, ground := Ground.data }, { on := 16, ground := Ground.guard }], guard := some (16, true) }) (v := ?_) rfl (by kernel_rfl) (by kernel_rfl) (by kernel_rfl) (fun _ _ _ h => hpn _ _ _ _ _ h) (Or.inl ⟨by rfl, ?_⟩) (hSw1) ?_
    rotate_left
    · intro w hSw; (go_simp <;> with_reducible rfl)
    simp only [Act.put, List.setIfInBounds_toArray, List.set_cons_zero, List.set_cons_succ]
    refine wpAnyH_take (i := 22) (oi := { dst := some 49, op := Op.pick (Operand.tmp 43) (Operand.tmp 48) (Operand.const (Value.bool false)), type := 4, pos := "law.go:59", after := #[{ on := 16, ground := Ground.data }, { on := 21, ground := Ground.data }], guard := none }) (v := ?_) rfl (by kernel_rfl) (by kernel_rfl) (by kernel_rfl) (fun _ _ _ h => hpn _ _ _ _ _ h) (Or.inl ⟨by rfl, ?_⟩) (hSw1) ?_
    rotate_left
    · intro w hSw; (go_simp <;> with_reducible rfl)
    simp only [Act.put, List.setIfInBounds_toArray, List.set_cons_zero, List.set_cons_succ]
    refine wpAnyH_take (i := 23) (oi := { dst := some 50, op := Op.move (Operand.tmp 49), type := 4, pos := "law.go:59", after := #[{ on := 22, ground := Ground.data }, { on := 18, ground := Ground.chain }], guard := none }) (v := ?_) rfl (by kernel_rfl) (by kernel_rfl) (by kernel_rfl) (fun _ _ _ h => hpn _ _ _ _ _ h) (Or.inl ⟨by rfl, ?_⟩) (hSw1) ?_
    rotate_left
    · intro w hSw; (go_simp <;> with_reducible rfl)
    simp only [Act.put, List.setIfInBounds_toArray, List.set_cons_zero, List.set_cons_succ]
    refine wpAnyH_take (i := 24) (oi := { dst := some 51, op := Op.load 24 (Operand.tmp 2), type := 24, pos := "law.go:59", after := #[{ on := 23, ground := Ground.guard }], guard := some (23, true) }) (v := ?_) rfl (by kernel_rfl) (by kernel_rfl) (by kernel_rfl) (fun _ _ _ h => hpn _ _ _ _ _ h) (Or.inl ⟨by rfl, ?_⟩) (hSw1) ?_
    rotate_left
    · intro w hSw; have q0 := cell_of hSw.1 0; have q1 := cell_of hSw.2.1 0; have q2 := cell_of hSw.2.2.1 0; have q3 := cell_of hSw.2.2.2.1 0; have p0 := cell_of hSw.2.2.2.2 0; have p1 := cell_of hSw.2.2.2.2 1; have p2 := cell_of hSw.2.2.2.2 2; have p3 := cell_of hSw.2.2.2.2 3; have p4 := cell_of hSw.2.2.2.2 4; simp only [List.getElem?_toArray, List.getElem?_cons_zero, List.getElem?_cons_succ] at q0 q1 q2 q3 p0 p1 p2 p3 p4; clear hSw; (go_simp <;> with_reducible rfl)
    simp only [Act.put, List.setIfInBounds_toArray, List.set_cons_zero, List.set_cons_succ]
    refine wpAnyH_take (i := 26) (oi := { dst := some 53, op := Op.load 24 (Operand.tmp 2), type := 24, pos := "law.go:59", after := #[{ on := 23, ground := Ground.guard }], guard := some (23, true) }) (v := ?_) rfl (by kernel_rfl) (by kernel_rfl) (by kernel_rfl) (fun _ _ _ h => hpn _ _ _ _ _ h) (Or.inl ⟨by rfl, ?_⟩) (hSw1) ?_
    rotate_left
    · intro w hSw; have q0 := cell_of hSw.1 0; have q1 := cell_of hSw.2.1 0; have q2 := cell_of hSw.2.2.1 0; have q3 := cell_of hSw.2.2.2.1 0; have p0 := cell_of hSw.2.2.2.2 0; have p1 := cell_of hSw.2.2.2.2 1; have p2 := cell_of hSw.2.2.2.2 2; have p3 := cell_of hSw.2.2.2.2 3; have p4 := cell_of hSw.2.2.2.2 4; simp only [List.getElem?_toArray, List.getElem?_cons_zero, List.getElem?_cons_succ] at q0 q1 q2 q3 p0 p1 p2 p3 p4; clear hSw; (go_simp <;> with_reducible rfl)
    simp only [Act.put, List.setIfInBounds_toArray, List.set_cons_zero, List.set_cons_succ]
    refine wpAnyH_ready (rs := [25]) (by kernel_rfl) (by simp) ?_
    refine (AllReadyH.cons (o := { dst := some 52, op := Op.call { callee := Callee.value (Operand.func 15), args := #[Operand.tmp 51], argTypes := #[24] }, type := 3, pos := "law.go:59", after := #[{ on := 24, ground := Ground.data }, { on := 23, ground := Ground.chain }, { on := 23, ground := Ground.guard }], guard := some (23, true) }) rfl (fun K hK => ?_) AllReadyH.nil)
    · go_simp
      refine (C15 w1 hBw1).mono ?_
      rintro e w2 ⟨rfl, hC⟩
      go_wp2_with fail
      have hBw2 : Below W.heap.size W w2 := bthen hBw1 hC
      have hSw2 := kS _ hBw2
      refine hK.out _ _ hSw2 (fun _ => ?_)
      clear hK K hC
      simp only [List.setIfInBounds_toArray, List.set_cons_zero, List.set_cons_succ]
      refine wpAnyH_ready (rs := [27]) (by kernel_rfl) (by simp) ?_
      refine (AllReadyH.cons (o := { dst := some 54, op := Op.call { callee := Callee.value (Operand.func 16), args := #[Operand.tmp 53], argTypes := #[24] }, type := 3, pos := "law.go:59", after := #[{ on := 26, ground := Ground.data }, { on := 25, ground := Ground.chain }, { on := 23, ground := Ground.guard }], guard := some (23, true) }) rfl (fun K hK => ?_) AllReadyH.nil)
      · go_simp
        refine (C16 w2 hBw2).mono ?_
        rintro e w3 ⟨rfl, hC⟩
        go_wp2_with fail
        have hBw3 : Below W.heap.size W w3 := bthen hBw2 hC
        have hSw3 := kS _ hBw3
        refine hK.out _ _ hSw3 (fun _ => ?_)
        clear hK K hC
        simp only [List.setIfInBounds_toArray, List.set_cons_zero, List.set_cons_succ]
        refine wpAnyH_take (i := 28) (oi := { dst := some 55, op := Op.binOp BinOp.eql 3 (Operand.tmp 52) (Operand.tmp 54) 3, type := 4, pos := "law.go:59", after := #[{ on := 25, ground := Ground.data }, { on := 27, ground := Ground.data }, { on := 23, ground := Ground.guard }], guard := some (23, true) }) (v := ?_) rfl (by kernel_rfl) (by kernel_rfl) (by kernel_rfl) (fun _ _ _ h => hpn _ _ _ _ _ h) (Or.inl ⟨by rfl, ?_⟩) (hSw3) ?_
        rotate_left
        · intro w hSw; (go_simp <;> with_reducible rfl)
        simp only [Act.put, List.setIfInBounds_toArray, List.set_cons_zero, List.set_cons_succ]
        refine wpAnyH_take (i := 29) (oi := { dst := some 56, op := Op.pick (Operand.tmp 50) (Operand.tmp 55) (Operand.const (Value.bool false)), type := 4, pos := "law.go:59", after := #[{ on := 23, ground := Ground.data }, { on := 28, ground := Ground.data }], guard := none }) (v := ?_) rfl (by kernel_rfl) (by kernel_rfl) (by kernel_rfl) (fun _ _ _ h => hpn _ _ _ _ _ h) (Or.inl ⟨by rfl, ?_⟩) (hSw3) ?_
        rotate_left
        · intro w hSw; (go_simp <;> with_reducible rfl)
        simp only [Act.put, List.setIfInBounds_toArray, List.set_cons_zero, List.set_cons_succ]
        refine wpAnyH_take (i := 30) (oi := { dst := some 57, op := Op.move (Operand.tmp 56), type := 4, pos := "law.go:59", after := #[{ on := 29, ground := Ground.data }, { on := 27, ground := Ground.chain }], guard := none }) (v := ?_) rfl (by kernel_rfl) (by kernel_rfl) (by kernel_rfl) (fun _ _ _ h => hpn _ _ _ _ _ h) (Or.inl ⟨by rfl, ?_⟩) (hSw3) ?_
        rotate_left
        · intro w hSw; (go_simp <;> with_reducible rfl)
        simp only [Act.put, List.setIfInBounds_toArray, List.set_cons_zero, List.set_cons_succ]
        refine wpAnyH_ready (rs := [31]) (by kernel_rfl) (by simp) ?_
        refine (AllReadyH.cons (o := { dst := some 58, op := Op.call { callee := Callee.value (Operand.func 9), args := #[], argTypes := #[] }, type := 4, pos := "law.go:59", after := #[{ on := 30, ground := Ground.chain }, { on := 30, ground := Ground.guard }], guard := some (30, true) }) rfl (fun K hK => ?_) AllReadyH.nil)
        · go_simp
          refine (C9 w3 hBw3).mono ?_
          rintro e w4 ⟨rfl, hC⟩
          go_wp2_with fail
          have hBw4 : Below W.heap.size W w4 := bthen hBw3 hC
          have hSw4 := kS _ hBw4
          refine hK.out _ _ hSw4 (fun _ => ?_)
          clear hK K hC
          simp only [List.setIfInBounds_toArray, List.set_cons_zero, List.set_cons_succ]
          refine wpAnyH_take (i := 32) (oi := { dst := some 59, op := Op.pick (Operand.tmp 57) (Operand.tmp 58) (Operand.const (Value.bool false)), type := 4, pos := "law.go:59", after := #[{ on := 30, ground := Ground.data }, { on := 31, ground := Ground.data }], guard := none }) (v := ?_) rfl (by kernel_rfl) (by kernel_rfl) (by kernel_rfl) (fun _ _ _ h => hpn _ _ _ _ _ h) (Or.inl ⟨by rfl, ?_⟩) (hSw4) ?_
          rotate_left
          · intro w hSw; (go_simp <;> with_reducible rfl)
          simp only [Act.put, List.setIfInBounds_toArray, List.set_cons_zero, List.set_cons_succ]
          refine wpAnyH_take (i := 33) (oi := { dst := some 4, op := Op.assign (Operand.tmp 59), type := 4, pos := "law.go:59", after := #[{ on := 32, ground := Ground.data }, { on := 31, ground := Ground.chain }, { on := 0, ground := Ground.phase }, { on := 1, ground := Ground.phase }, { on := 2, ground := Ground.phase }, { on := 3, ground := Ground.phase }, { on := 4, ground := Ground.phase }, { on := 5, ground := Ground.phase }, { on := 6, ground := Ground.phase }, { on := 7, ground := Ground.phase }, { on := 8, ground := Ground.phase }, { on := 9, ground := Ground.phase }, { on := 10, ground := Ground.phase }, { on := 11, ground := Ground.phase }, { on := 12, ground := Ground.phase }, { on := 13, ground := Ground.phase }, { on := 14, ground := Ground.phase }, { on := 15, ground := Ground.phase }, { on := 16, ground := Ground.phase }, { on := 17, ground := Ground.phase }, { on := 18, ground := Ground.phase }, { on := 19, ground := Ground.phase }, { on := 20, ground := Ground.phase }, { on := 21, ground := Ground.phase }, { on := 22, ground := Ground.phase }, { on := 23, ground := Ground.phase }, { on := 24, ground := Ground.phase }, { on := 25, ground := Ground.phase }, { on := 26, ground := Ground.phase }, { on := 27, ground := Ground.phase }, { on := 28, ground := Ground.phase }, { on := 29, ground := Ground.phase }, { on := 30, ground := Ground.phase }, { on := 31, ground := Ground.phase }, { on := 32, ground := Ground.phase }], guard := none }) (v := ?_) rfl (by kernel_rfl) (by kernel_rfl) (by kernel_rfl) (fun _ _ _ h => hpn _ _ _ _ _ h) (Or.inl ⟨by rfl, ?_⟩) (hSw4) ?_
          rotate_left
          · intro w hSw; (go_simp <;> with_reducible rfl)
          simp only [Act.put, List.setIfInBounds_toArray, List.set_cons_zero, List.set_cons_succ]
          refine wpAnyH_done (by kernel_rfl) ?_ _
          exact hQ _ _ _ _ _ _ _ _ _ _ _ _ _ _ _ _ _ _ _ _ _ _ _ _ _ _ _ _ _ _ _ _ _ _ hBw4
end Go.Proofs.Ytgknigjpdnfkdaa
