/- Every sign between two values. -/
import Derived.Test.YtdofhlmffponoaaEvA3
set_option linter.unusedVariables false
set_option linter.unusedSimpArgs false
namespace Go.Proofs.Ytdofhlmffponoaa
namespace Ev
theorem orB_eq (a b : Bool) : orB a b = (a || b) := by cases a <;> cases b <;> rfl
/-- What a sign answers. -/
def BinOk (P : Program) (μ : Mu) (w : World) (op : BinOp) (t : TypeId) (ox oy : Operand) (a b : Value) (v : AV) : Prop :=
  ∃ r, ((do eqGuard op t ox oy a b; binOp op t a b) : Sem Value).run P w = .ok r w ∧ RV μ v r
theorem BinOk.of {P : Program} {μ : Mu} {w : World} {op : BinOp} {t : TypeId} {ox oy : Operand} {a b r : Value} {v : AV} (h : (eqGuard op t ox oy a b).run P w = .ok () w)
    (h' : (binOp op t a b).run P w = .ok r w) (hv : RV μ v r) : BinOk P μ w op t ox oy a b v := ⟨r, by simp [h, h'], hv⟩
theorem guard_int {P : Program} {w : World} {op : BinOp} {t : TypeId} {ox oy : Operand} {k : IntKind} {n : Int} {b : Value} : (eqGuard op t ox oy (.int k n) b).run P w = .ok () w :=
  eqGuard_a (by simp) (by simp)
theorem guard_str {P : Program} {w : World} {op : BinOp} {t : TypeId} {ox oy : Operand} {s : ByteArray} {b : Value} : (eqGuard op t ox oy (.string s) b).run P w = .ok () w :=
  eqGuard_a (by simp) (by simp)
theorem cmp_sound {P : Program} {μ : Mu} {w : World} {t : TypeId} {ox oy : Operand} {a b : Value} {x y v : AV} (op : BinOp) (m : Cm)
    (hi : ∀ k p q, (binOp op t (.int k p) (.int k q)).run P w = .ok (.bool (m.i p q)) w)
    (hs : ∀ p q, (binOp op t (.string p) (.string q)).run P w = .ok (.bool (m.s (bl p) (bl q))) w)
    (h : cmpE m x y = some v) (hx : RV μ x a) (hy : RV μ y b) : BinOk P μ w op t ox oy a b v := by
  rcases oc_or h with ⟨_, h1⟩ | ⟨p, hp, h1⟩
  · obtain ⟨s, h2, h3⟩ := ob_some h1
    obtain ⟨s', h4, h5⟩ := ob_some h3
    cases h5
    rw [asS_some h2] at hx; rw [asS_some h4] at hy
    cases hx with | str e1 => cases hy with | str e2 =>
    subst e1; subst e2
    exact .of guard_str (hs _ _) .bool
  · obtain ⟨q, hq, h3⟩ := ob_some h1
    obtain ⟨h4, h5⟩ := cb_some h3
    cases h5
    have hk := kindEq_true h4
    rw [asI_some hp] at hx; rw [asI_some hq] at hy
    cases hx; cases hy
    rw [hk]
    exact .of guard_int (hi _ _ _) .bool
theorem i_lss (P : Program) (w : World) (t : TypeId) (k : IntKind) (p q : Int) : (binOp .lss t (.int k p) (.int k q)).run P w = .ok (.bool (cmL.i p q)) w := by
  show _ = Result.ok (Value.bool (ltInt p q)) w
  rw [ltInt_eq]; simp [binOp, Op.intCmp]
theorem i_leq (P : Program) (w : World) (t : TypeId) (k : IntKind) (p q : Int) : (binOp .leq t (.int k p) (.int k q)).run P w = .ok (.bool (cmM.i p q)) w := by
  show _ = Result.ok (Value.bool (notB (ltInt q p))) w
  rw [ltInt_eq, notB_eq]; by_cases h : q < p <;> simp [binOp, Op.intCmp, h] <;> omega
theorem i_gtr (P : Program) (w : World) (t : TypeId) (k : IntKind) (p q : Int) : (binOp .gtr t (.int k p) (.int k q)).run P w = .ok (.bool (cmA.i p q)) w := by
  show _ = Result.ok (Value.bool (ltInt q p)) w
  rw [ltInt_eq]; simp [binOp, Op.intCmp]
theorem i_geq (P : Program) (w : World) (t : TypeId) (k : IntKind) (p q : Int) : (binOp .geq t (.int k p) (.int k q)).run P w = .ok (.bool (cmG.i p q)) w := by
  show _ = Result.ok (Value.bool (notB (ltInt p q))) w
  rw [ltInt_eq, notB_eq]; by_cases h : p < q <;> simp [binOp, Op.intCmp, h] <;> omega
theorem s_lss (P : Program) (w : World) (t : TypeId) (p q : ByteArray) : (binOp .lss t (.string p) (.string q)).run P w = .ok (.bool (cmL.s (bl p) (bl q))) w := by
  show _ = Result.ok (Value.bool (ltLN (bl p) (bl q))) w
  rw [← less_toList]; rfl
theorem s_leq (P : Program) (w : World) (t : TypeId) (p q : ByteArray) : (binOp .leq t (.string p) (.string q)).run P w = .ok (.bool (cmM.s (bl p) (bl q))) w := by
  show _ = Result.ok (Value.bool (orB (ltLN (bl p) (bl q)) (eqLN (bl p) (bl q)))) w
  rw [orB_eq, ← less_toList, ← eq_toList]; rfl
theorem s_gtr (P : Program) (w : World) (t : TypeId) (p q : ByteArray) : (binOp .gtr t (.string p) (.string q)).run P w = .ok (.bool (cmA.s (bl p) (bl q))) w := by
  show _ = Result.ok (Value.bool (notB (orB (ltLN (bl p) (bl q)) (eqLN (bl p) (bl q))))) w
  rw [notB_eq, orB_eq, ← less_toList, ← eq_toList]; rfl
theorem s_geq (P : Program) (w : World) (t : TypeId) (p q : ByteArray) : (binOp .geq t (.string p) (.string q)).run P w = .ok (.bool (cmG.s (bl p) (bl q))) w := by
  show _ = Result.ok (Value.bool (notB (ltLN (bl p) (bl q)))) w
  rw [notB_eq, ← less_toList]; rfl
theorem add_sound {P : Program} {μ : Mu} {w : World} {t : TypeId} {ox oy : Operand} {a b : Value} {x y v : AV} (h : addE P t x y = some v) (hx : RV μ x a) (hy : RV μ y b) : BinOk P μ w .add t ox oy a b v := by
  rcases oc_or h with ⟨_, h1⟩ | ⟨p, hp, h1⟩
  · obtain ⟨s, h2, h3⟩ := ob_some h1
    obtain ⟨s', h4, h5⟩ := ob_some h3
    obtain ⟨h6, h7⟩ := cb_some h5
    cases h7
    rw [asS_some h2] at hx; rw [asS_some h4] at hy
    cases hx with | str e1 => cases hy with | str e2 =>
    rename_i s1 s2
    have h6 := ble_true h6
    rw [lenN_eq, lenN_eq, ← e1, ← e2, bl_length, bl_length] at h6
    have h6 : s1.size + s2.size ≤ 1000000 := h6
    refine .of (r := .string (s1 ++ s2)) guard_str ?_ (.str (by rw [appN_eq, bl_append, e1, e2]))
    have : ¬ (((s1.size + s2.size : Nat) : Int) > IntKind.i64.max) := by
      show ¬ (_ > (9223372036854775807 : Int)); omega
    simp only [binOp, Op.stringOp, if_neg this]; rfl
  · obtain ⟨q, hq, h3⟩ := ob_some h1
    rw [asI_some hp] at hx; rw [asI_some hq] at hy
    cases hx; cases hy
    obtain ⟨r, h4, h5⟩ := addQ_sound h3 μ w
    exact .of guard_int h4 h5
theorem sub_sound {P : Program} {μ : Mu} {w : World} {t : TypeId} {ox oy : Operand} {a b : Value} {x y v : AV} (h : subE P t x y = some v) (hx : RV μ x a) (hy : RV μ y b) : BinOk P μ w .sub t ox oy a b v := by
  obtain ⟨p, hp, h1⟩ := ob_some h
  obtain ⟨q, hq, h3⟩ := ob_some h1
  rw [asI_some hp] at hx; rw [asI_some hq] at hy
  cases hx; cases hy
  obtain ⟨r, h4, h5⟩ := subQ_sound h3 μ w
  exact .of guard_int h4 h5
theorem other_sound {P : Program} {μ : Mu} {w : World} {op : BinOp} {t : TypeId} {ox oy : Operand} {a b : Value} {x y v : AV} (h : otherE P op t x y = some v) (hx : RV μ x a) (hy : RV μ y b) : BinOk P μ w op t ox oy a b v := by
  obtain ⟨p, hp, h1⟩ := ob_some h
  obtain ⟨q, hq, h3⟩ := ob_some h1
  rw [asI_some hp] at hx; rw [asI_some hq] at hy
  cases hx; cases hy
  obtain ⟨r, h4, h5⟩ := slowE_sound h3 μ w
  exact .of guard_int h4 h5
theorem bin_sound {T0 : Tab} (hT : TabOk T0) {μ : Mu} {w : World} {op : BinOp} {t : TypeId} {ox oy : Operand} {a b : Value} {x y v : AV}
    (h : (binE op).run T0.P (kindT T0 ox oy t) t x y = some v) (hx : RV μ x a) (hy : RV μ y b) : BinOk T0.P μ w op t ox oy a b v := by
  cases op with
  | add => exact add_sound h hx hy
  | sub => exact sub_sound h hx hy
  | eql => obtain ⟨r, h1, h2, h3⟩ := eqE_sound hT (neg := false) h hx hy (w := w); exact .of h1 h2 h3
  | neq => obtain ⟨r, h1, h2, h3⟩ := eqE_sound hT (neg := true) h hx hy (w := w); exact .of h1 h2 h3
  | lss => exact cmp_sound .lss cmL (i_lss _ _ _) (s_lss _ _ _) h hx hy
  | leq => exact cmp_sound .leq cmM (i_leq _ _ _) (s_leq _ _ _) h hx hy
  | gtr => exact cmp_sound .gtr cmA (i_gtr _ _ _) (s_gtr _ _ _) h hx hy
  | geq => exact cmp_sound .geq cmG (i_geq _ _ _) (s_geq _ _ _) h hx hy
  | _ => exact other_sound h hx hy
end Ev
end Go.Proofs.Ytdofhlmffponoaa
/- One operation of each kind: what the evaluator says is what the world does (values, rows, memory of its own). -/
set_option linter.unusedVariables false
set_option linter.unusedSimpArgs false
namespace Go.Proofs.Ytdofhlmffponoaa
namespace Ev
theorem valE_some {σ : AS} {x : Option AV} {out : Out} (h : valE σ x = some out) : ∃ v, x = some v ∧ out = .pv v := by
  obtain ⟨v, h1, h2⟩ := ob_some h
  cases h2
  exact ⟨v, h1, rfl⟩
theorem RV.bool_inv {μ : Mu} {b : Bool} {x : Value} (h : RV μ (.bool b) x) : x = .bool b := by cases h; rfl
theorem RV.int_inv {μ : Mu} {k : IntKind} {n : Int} {x : Value} (h : RV μ (.int k n) x) : x = .int k n := by cases h; rfl
theorem RV.str_inv {μ : Mu} {l : List Nat} {x : Value} (h : RV μ (.str l) x) : ∃ s, bl s = l ∧ x = .string s := by cases h with | str e => exact ⟨_, e, rfl⟩
section
variable {T0 : Tab} {w0 : Fx} {μ : Mu} {σ : AS} {a : Act} {w : World} {o : Oper}
/-- A value comes out, the world stays. -/
theorem ok_pure (hR : HR w0 μ σ.hp σ.nx w) {r : Result Next} {v : AV} {x : Value} (hr : r = .ok (.value x) w) (hv : RV μ v x) : OutOk T0 w0 μ w r (.pv v) :=
  ⟨x, hr, hv⟩
theorem s_move (hR : HR w0 μ σ.hp σ.nx w) (hA : RT μ σ.tm a.tmps) {x : Operand} (ho : o.op = .move x ∨ o.op = .assign x) {out : Out} (h : valE σ (opnd σ.tm x) = some out) :
    OutOk T0 w0 μ w ((execOp a.eval o).run T0.P w) out := by
  obtain ⟨v, h1, rfl⟩ := valE_some h
  refine ok_pure hR ?_ (opnd_sound hA h1)
  rcases ho with ho | ho <;> simp [execOp, ho]
theorem s_pick (hR : HR w0 μ σ.hp σ.nx w) (hA : RT μ σ.tm a.tmps) {c x y : Operand} (ho : o.op = .pick c x y) {out : Out} (h : opPick σ c x y = some out) :
    OutOk T0 w0 μ w ((execOp a.eval o).run T0.P w) out := by
  obtain ⟨v, h1, h2⟩ := ob_some h
  obtain ⟨b, h3, h4⟩ := ob_some h2
  have hv := opnd_sound hA h1
  rw [asB_some h3] at hv
  have hc : a.eval c = .bool b := hv.bool_inv
  rcases tb_or h4 with ⟨e, h5⟩ | ⟨e, h5⟩ <;> (obtain ⟨u, h6, rfl⟩ := valE_some h5; exact ok_pure hR (by simp [execOp, ho, hc, asBool, e]) (opnd_sound hA h6))
theorem s_bin (hT : TabOk T0) (hR : HR w0 μ σ.hp σ.nx w) (hA : RT μ σ.tm a.tmps) {op : BinOp} {t yt : TypeId} {x y : Operand} (ho : o.op = .binOp op t x y yt) {out : Out}
    (h : opBin T0.P σ (binE op).run (kindT T0 x y t) t x y = some out) : OutOk T0 w0 μ w ((execOp a.eval o).run T0.P w) out := by
  obtain ⟨u, h1, h2⟩ := ob_some h
  obtain ⟨v, h3, h4⟩ := ob_some h2
  obtain ⟨r, h5, rfl⟩ := valE_some h4
  obtain ⟨z, h6, h7⟩ := bin_sound hT (ox := x) (oy := y) (w := w) h5 (opnd_sound hA h1) (opnd_sound hA h3)
  refine ok_pure hR ?_ h7
  simp only [execOp, ho]
  rw [Sem.run_bind, h6]; rfl
theorem s_un (hR : HR w0 μ σ.hp σ.nx w) (hA : RT μ σ.tm a.tmps) {op : UnOp} {t : TypeId} {x : Operand} (ho : o.op = .unOp op t x) {out : Out}
    (h : (ob (opnd σ.tm x) fun v => valE σ (unE T0.P op v)) = some out) : OutOk T0 w0 μ w ((execOp a.eval o).run T0.P w) out := by
  obtain ⟨u, h1, h2⟩ := ob_some h
  obtain ⟨r, h3, rfl⟩ := valE_some h2
  have hv := opnd_sound hA h1
  rcases oc_or h3 with ⟨_, h4⟩ | ⟨b, hb, h4⟩
  · obtain ⟨p, h5, h6⟩ := ob_some h4
    obtain ⟨z, h7, h8⟩ := ob_some h6
    obtain ⟨q, h9, h10⟩ := ob_some h8
    obtain ⟨s, _, h12⟩ := ob_some h10
    cases h12
    rw [asI_some h5] at hv
    have hx : a.eval x = .int p.1 p.2 := hv.int_inv
    exact ok_pure hR (by simp [execOp, ho, hx, pureRun_run h7 w]) (cv1_sound μ h9)
  · obtain ⟨h5, h6⟩ := cb_some h4
    cases h6
    rw [asB_some hb] at hv
    have hx : a.eval x = .bool b := hv.bool_inv
    have hop : op = .not := by cases op <;> first | rfl | cases h5
    subst hop
    exact ok_pure hR (by simp [execOp, ho, hx, Op.unary]; rfl) (by rw [notB_eq]; exact .bool)
/-- A row of cells is made. -/
theorem ok_new (hR : HR w0 μ σ.hp σ.nx w) {r : Result Next} {l : List AV} {xs : List Value} {n es cap : Nat} {el : TypeId} {mk : Bn → AV} {x : Value}
    (hr : r = .ok (.value x) { w with heap := w.heap.push (.cells xs.toArray el (0, 0)) }) (hl : RVs μ l xs) (hn : n = l.length) (hc : cap * es ≤ xs.length ∧ (es = 0 ∨ n ≤ cap * es))
    (hv : ∀ b, RV (μ.put b ⟨w.heap.size, 0, cap⟩) (mk b) x) : OutOk T0 w0 μ w r (.nw mk (mkCells l n es el)) :=
  ⟨x, _, cap, hr, fun b hb => ⟨hv b, RO.new (hl.mono (Mu.le_put hb)) hn hc⟩⟩
theorem run_newRow (P : Program) (w : World) (el : TypeId) (cs : Array Value) : (newRow el cs).run P w = .ok ⟨w.heap.size, 0, none⟩ { w with heap := w.heap.push (.cells cs el (0, 0)) } := by
  simp [newRow, newObj, Sem.run]
theorem s_alloc (hT : TabOk T0) (hR : HR w0 μ σ.hp σ.nx w) {el : TypeId} {i : TyI} (hi : T0.t el = some i) (ho : o.op = .alloc el) {out : Out} (h : opAlloc σ i el = some out) :
    OutOk T0 w0 μ w ((execOp a.eval o).run T0.P w) out := by
  cases h
  obtain ⟨z, h1, h2⟩ := run_zero (w := w) (hT.ty el i hi)
  refine ok_new hR (xs := z.cells.toList) (cap := 0) ?_ h2.any (lenN_eq _) (by simp) (fun b => .ptr (l := ⟨w.heap.size, 0, 0⟩) (Mu.put_same _ _ _))
  simp [execOp, ho, Instr.alloc, h1, newVar, run_newRow]
theorem s_box (hR : HR w0 μ σ.hp σ.nx w) (hA : RT μ σ.tm a.tmps) {el : TypeId} {x : Operand} (ho : o.op = .box el x) {out : Out} (h : opBox σ el x = some out) :
    OutOk T0 w0 μ w ((execOp a.eval o).run T0.P w) out := by
  obtain ⟨v, h1, h2⟩ := ob_some h
  cases h2
  have hv := (opnd_sound hA h1).cells
  refine ok_new hR (cap := 0) ?_ hv (lenN_eq _) (by simp) (fun b => .ptr (l := ⟨w.heap.size, 0, 0⟩) (Mu.put_same _ _ _))
  simp [execOp, ho, Instr.box, newVar, run_newRow]
theorem ptO_some (hA : RT μ σ.tm a.tmps) {x : Operand} {p : Pt} (h : ptO σ x = some p) : ∃ l, μ p.b = some l ∧ a.eval x = .pointer (some ⟨l.blk, l.base + p.off, none⟩) := by
  obtain ⟨v, h1, h2⟩ := ob_some h
  have hv := opnd_sound hA h1
  rw [asPt_some h2] at hv
  generalize hx : a.eval x = y at hv
  cases hv with | ptr e => exact ⟨_, e, rfl⟩
theorem s_load (hT : TabOk T0) (hR : HR w0 μ σ.hp σ.nx w) (hA : RT μ σ.tm a.tmps) {t : TypeId} {i : TyI} {x : Operand} (hi : T0.t t = some i) (ho : o.op = .load t x) {out : Out} (h : opLoad σ i x = some out) :
    OutOk T0 w0 μ w ((execOp a.eval o).run T0.P w) out := by
  obtain ⟨p, h1, h2⟩ := ob_some h
  obtain ⟨v, h3, rfl⟩ := valE_some h2
  obtain ⟨l, h4, h5⟩ := ptO_some hA h1
  obtain ⟨y, h6, h7⟩ := loadE_sound hR (hT.ty t i hi) h3 h4
  exact ok_pure hR (by simp [execOp, ho, Instr.loadAt, h5, Instr.sureAddr, h6]) h7
theorem s_store (hT : TabOk T0) (hR : HR w0 μ σ.hp σ.nx w) (hA : RT μ σ.tm a.tmps) {t : TypeId} {i : TyI} {x y : Operand} (hi : T0.t t = some i) (ho : o.op = .store t x y) {out : Out} (h : opStore σ i x y = some out) :
    OutOk T0 w0 μ w ((execOp a.eval o).run T0.P w) out := by
  obtain ⟨p, h1, h2⟩ := ob_some h
  obtain ⟨v, h3, h4⟩ := ob_some h2
  obtain ⟨c, h5, h6⟩ := ob_some h4
  obtain ⟨h7, h8⟩ := cb_some h6
  obtain ⟨h9, h10⟩ := cb_some h8
  obtain ⟨t', h11, h12⟩ := ob_some h10
  cases h12
  obtain ⟨l, g1, g2⟩ := ptO_some hA h1
  have hv := (opnd_sound hA h3).cells
  have e1 := beq_true h7
  rw [lenN_eq] at e1
  have e2 : p.off + i.size ≤ c.n := ble_true h9
  obtain ⟨w', q1, q2⟩ := store_sound (P := T0.P) hR h5 g1 h11 (by rw [e1]; exact e2) hv
  refine ⟨undef, w', μ, .inr ⟨?_, rfl⟩, .refl μ, q2, .tup .nil⟩
  have hs : (a.eval y).cells.size = i.size := by rw [← Array.length_toList, hv.length, e1]
  simp [execOp, ho, Instr.storeAt, g2, Instr.sureAddr, storeVar, run_size (hT.ty t i hi), hs, q1]
theorem s_nil (hR : HR w0 μ σ.hp σ.nx w) (hA : RT μ σ.tm a.tmps) {x : Operand} (ho : o.op = .nilCheck x) {out : Out} (h : opNil σ x = some out) :
    OutOk T0 w0 μ w ((execOp a.eval o).run T0.P w) out := by
  obtain ⟨v, h1, h2⟩ := ob_some h
  obtain ⟨h3, h4⟩ := cb_some h2
  cases h4
  have hv := opnd_sound hA h1
  refine ok_pure hR ?_ hv
  generalize hx : a.eval x = y at hv
  cases hv with
  | ptr e => simp [execOp, ho, hx]
  | yield e => simp [execOp, ho, hx]
  | iface e => simp [execOp, ho, hx]
  | func e c d =>
    rename_i fn _ _ _ _
    rcases oc_or (x := fnF fn) (r := true) h3 with ⟨_, q⟩ | ⟨f, q, _⟩
    · cases q
    · rw [fnF_some q]; simp [execOp, ho, hx, fnF_some q]
  | _ => cases h3
theorem s_iface (hT : TabOk T0) (hR : HR w0 μ σ.hp σ.nx w) (hA : RT μ σ.tm a.tmps) {t : TypeId} {i : TyI} {x : Operand} (hi : T0.t t = some i) (hd : dIface i.d = none) (ho : o.op = .makeInterface t x) {out : Out}
    (h : (ob (opnd σ.tm x) fun v => some (.pv (.iface t v))) = some out) : OutOk T0 w0 μ w ((execOp a.eval o).run T0.P w) out := by
  obtain ⟨v, h1, h2⟩ := ob_some h
  cases h2
  refine ok_pure hR ?_ (.iface (opnd_sound hA h1))
  have hu := run_und (w := w) (hT.ty t i hi)
  simp only [execOp, ho, Instr.makeInterface, Sem.run_bind, hu, Result.andThen_ok]
  generalize i.d = d at hd
  cases d <;> first | rfl | cases hd
theorem s_func (hR : HR w0 μ σ.hp σ.nx w) (hA : RT μ σ.tm a.tmps) {fn : Fn} {f : Nat} {first cap : Array Operand} (hf : fnF fn = some f) (ho : o.op = .makeFunc fn first cap) {out : Out}
    (h : opFunc σ f first.toList cap.toList = some out) : OutOk T0 w0 μ w ((execOp a.eval o).run T0.P w) out := by
  obtain ⟨u, h1, h2⟩ := ob_some h
  obtain ⟨v, h3, h4⟩ := ob_some h2
  cases h4
  have e := fnF_some hf
  subst e
  refine ok_pure hR ?_ (.func (fun n q => by cases q) (opnds_sound hA h1) (opnds_sound hA h3))
  simp only [execOp, ho, Instr.makeFunc, Sem.run_bind, Sem.run_pure, Result.andThen_ok]
  rw [show Array.map a.eval first = ⟨List.map a.eval first.toList⟩ from Array.ext' (by simp), show Array.map a.eval cap = ⟨List.map a.eval cap.toList⟩ from Array.ext' (by simp)]
theorem s_extract (hR : HR w0 μ σ.hp σ.nx w) (hA : RT μ σ.tm a.tmps) {x : Operand} {i : Nat} (ho : o.op = .extract x i) {out : Out} (h : opExtract σ x i = some out) :
    OutOk T0 w0 μ w ((execOp a.eval o).run T0.P w) out := by
  obtain ⟨v, h1, h2⟩ := ob_some h
  obtain ⟨l, h3, h4⟩ := ob_some h2
  obtain ⟨u, h5, rfl⟩ := valE_some h4
  have hv := opnd_sound hA h1
  rw [asTup_some h3] at hv
  generalize hx : a.eval x = y at hv
  cases hv with | tup r =>
  rw [nthO_eq] at h5
  obtain ⟨z, hz, hr⟩ := r.get h5
  exact ok_pure hR (by simp [execOp, ho, hx, Instr.extract, hz]) hr
theorem s_panic {x : Operand} (hA : RT μ σ.tm a.tmps) (ho : o.op = .panic x) {out : Out} (h : opPanic σ x = some out) : OutOk T0 w0 μ w ((execOp a.eval o).run T0.P w) out := by
  obtain ⟨v, h1, h2⟩ := ob_some h
  obtain ⟨h3, h4⟩ := cb_some h2
  cases h4
  have hv := opnd_sound hA h1
  obtain ⟨t, u, rfl⟩ := isIface_true h3
  refine ⟨a.eval x, ?_, hv⟩
  generalize hx : a.eval x = y at hv
  cases hv
  simp [execOp, ho, hx, Instr.panic, goPanic]
end
end Ev
end Go.Proofs.Ytdofhlmffponoaa
/- Places within rows and structs; lengths; slices. -/
set_option linter.unusedVariables false
set_option linter.unusedSimpArgs false
namespace Go.Proofs.Ytdofhlmffponoaa
namespace Ev
theorem dSlice_some {d : TypeDesc} {e : TypeId} (h : dSlice d = some e) : d = .slice e := by cases d <;> cases h <;> rfl
theorem dArr_some {d : TypeDesc} {p : Nat × TypeId} (h : dArr d = some p) : d = .array p.1 p.2 := by cases d <;> cases h <;> rfl
theorem dStr_true {d : TypeDesc} (h : dStr d = true) : d = .string := by cases d <;> cases h <;> rfl
theorem dMap_some {d : TypeDesc} {e : TypeId} (h : dMap d = some e) : ∃ k, d = .map k e := by cases d <;> cases h <;> exact ⟨_, rfl⟩
theorem dFields_some {d : TypeDesc} {l : List TypeId} (h : dFields d = some l) : ∃ fs, d = .struct fs ∧ l = fs.toList.map (fun f => f.type) := by cases d <;> cases h <;> exact ⟨_, rfl, rfl⟩
theorem mapM_get {α β : Type} {g : α → Option β} : ∀ {l : List α} {r : List β}, l.mapM g = some r → ∀ {k : Nat} {q : β}, r[k]? = some q → ∃ f, l[k]? = some f ∧ g f = some q
  | [], r, h, k, q, e => by simp at h; subst h; simp at e
  | x :: l, r, h, k, q, e => by
    simp only [List.mapM_cons, Option.bind_eq_bind, Option.pure_def] at h
    cases hx : g x with
    | none => simp [hx] at h
    | some y =>
      cases hl : l.mapM g with
      | none => simp [hx, hl] at h
      | some r' =>
        simp [hx, hl] at h
        subst h
        cases k with
        | zero => simp at e; subst e; exact ⟨x, by simp, hx⟩
        | succ k =>
          simp at e
          obtain ⟨f, h1, h2⟩ := mapM_get hl e
          exact ⟨f, by simpa using h1, h2⟩
/-- A field's place. -/
theorem off_some {P : Program} {t : TypeId} {i : TyI} (ht : TyOk P t i) {f : Nat} {q : Nat × Nat} (h : nthO i.offs f = some q) :
    ∃ fs fd, i.d = .struct fs ∧ fs[f]? = some fd ∧ q.1 = fd.offset ∧ ∃ x, P.info? fd.type = some x ∧ q.2 = x.size := by
  rw [nthO_eq] at h
  have ho := ht.off
  cases hd : i.d with
  | struct fs =>
    rw [hd] at ho
    obtain ⟨fd, h1, h2⟩ := mapM_get ho h
    simp only [Option.map_eq_some_iff] at h2
    obtain ⟨x, h3, rfl⟩ := h2
    exact ⟨fs, fd, rfl, by simpa using h1, rfl, x, h3, rfl⟩
  | _ => rw [hd] at ho; simp only [offsD, Option.some.injEq] at ho; rw [← ho] at h; simp at h
section
variable {T0 : Tab} {w0 : Fx} {μ : Mu} {σ : AS} {a : Act} {w : World} {o : Oper}
theorem s_fieldAddr (hT : TabOk T0) (hR : HR w0 μ σ.hp σ.nx w) (hA : RT μ σ.tm a.tmps) {t : TypeId} {i : TyI} {x : Operand} {f : Nat} {q : Nat × Nat} (hi : T0.t t = some i) (hq : nthO i.offs f = some q)
    (ho : o.op = .fieldAddr t x f) {out : Out} (h : opFieldAddr σ q x = some out) : OutOk T0 w0 μ w ((execOp a.eval o).run T0.P w) out := by
  obtain ⟨p, h1, h2⟩ := ob_some h
  rcases tb_or h2 with ⟨_, h3⟩ | ⟨h3, h4⟩
  · cases h3
  cases h4
  obtain ⟨l, g1, g2⟩ := ptO_some hA h1
  have ht := hT.ty t i hi
  obtain ⟨fs, fd, e1, e2, e3, x', hf', e4⟩ := off_some ht hq
  have hz : q.2 ≠ 0 := fun e => by rw [e] at h3; cases h3
  have hs : (sizeOf fd.type).run T0.P w = .ok q.2 w := by simp [sizeOf, typeInfo, program, Sem.run, bind, Sem.bind, hf', pure, e4]
  have hu := run_und (w := w) ht
  rw [e1] at hu
  refine ok_pure hR (x := .pointer (some ⟨l.blk, l.base + (p.off + q.1), none⟩)) ?_ (.ptr g1)
  simp [execOp, ho, Instr.fieldAt, g2, hu, e2, Instr.sureAddr, fieldPlace, hs, hz, addr_add, e3, Nat.add_assoc]
theorem s_field (hT : TabOk T0) (hR : HR w0 μ σ.hp σ.nx w) (hA : RT μ σ.tm a.tmps) {t ft : TypeId} {i fi : TyI} {x : Operand} {f : Nat} {q : Nat × Nat} {l : List TypeId} (hi : T0.t t = some i) (hd : dFields i.d = some l)
    (hf : nthO l f = some ft) (hfi : T0.t ft = some fi) (hq : nthO i.offs f = some q)
    (ho : o.op = .field t x f) {out : Out} (h : opField σ fi q.1 x = some out) : OutOk T0 w0 μ w ((execOp a.eval o).run T0.P w) out := by
  obtain ⟨v, h1, h2⟩ := ob_some h
  obtain ⟨cs, h3, h4⟩ := ob_some h2
  obtain ⟨u, h5, rfl⟩ := valE_some h4
  have ht := hT.ty t i hi
  have hft := hT.ty ft fi hfi
  obtain ⟨fs, fd, e1, e2, e3, _⟩ := off_some ht hq
  obtain ⟨fs', e5, e6⟩ := dFields_some hd
  rw [e1] at e5; cases e5
  have e7 : fd.type = ft := by
    rw [nthO_eq, e6] at hf
    simp only [List.getElem?_map, Option.map_eq_some_iff] at hf
    obtain ⟨fd', g1, g2⟩ := hf
    have g1 : fs[f]? = some fd' := by simpa using g1
    rw [e2] at g1; cases g1; exact g2
  have hu := run_und (w := w) ht
  rw [e1] at hu
  have hv := opnd_sound hA h1
  rw [asAgg_some h3] at hv
  generalize hx : a.eval x = y at hv
  cases hv with | agg r =>
  rename_i xs
  rcases tb_or h5 with ⟨g1, g2⟩ | ⟨g1, g2⟩
  · cases g2
    refine ok_pure hR (x := .agg ⟨(xs.drop q.1).take fi.size⟩) ?_ (.agg (by rw [takeN_eq, dropN_eq]; exact (r.drop _).take _))
    have ea : (⟨xs⟩ : Array Value).extract fd.offset (fd.offset + fi.size) = ⟨(xs.drop fd.offset).take fi.size⟩ := Array.ext' (by simp)
    simp [execOp, ho, hx, Instr.field, hu, e2, Go.asAgg, part, e7, run_agg hft, g1, run_size hft, ← e3] at ea ⊢
  · rw [nthO_eq] at g2
    obtain ⟨z, hz, hr⟩ := r.get g2
    refine ok_pure hR ?_ hr
    simp [execOp, ho, hx, Instr.field, hu, e2, Go.asAgg, part, e7, run_agg hft, g1, ← e3, hz]
theorem natO_some (hA : RT μ σ.tm a.tmps) {x : Operand} {n : Nat} (h : natO σ x = some n) : ∃ k, a.eval x = .int k (.ofNat n) := by
  obtain ⟨v, h1, h2⟩ := ob_some h
  obtain ⟨k, rfl⟩ := intOf_some h2
  exact ⟨k, (opnd_sound hA h1).int_inv⟩
theorem RV.sl_inv {v : AV} {s : Sl} (h : asSl v = some s) {x : Value} (hv : RV μ v x) : ∃ l c, μ s.b = some l ∧ x = .slice (some ⟨l.blk, l.base + s.off, none⟩) s.len c := by
  rcases asSl_some h with ⟨c, rfl⟩ | ⟨c, rfl⟩
  · cases hv with | slk e _ => exact ⟨_, _, e, rfl⟩
  · cases hv with | slu e _ => exact ⟨_, _, e, rfl⟩
theorem s_indexS (hT : TabOk T0) (hR : HR w0 μ σ.hp σ.nx w) (hA : RT μ σ.tm a.tmps) {t e : TypeId} {i ei : TyI} {x y : Operand} (hi : T0.t t = some i) (hd : dSlice i.d = some e) (he : T0.t e = some ei)
    (ho : o.op = .indexAddr t x y) {out : Out} (h : opIndexS σ ei.size x y = some out) : OutOk T0 w0 μ w ((execOp a.eval o).run T0.P w) out := by
  obtain ⟨v, h1, h2⟩ := ob_some h
  obtain ⟨n, h3, h4⟩ := ob_some h2
  obtain ⟨s, h5, h6⟩ := ob_some h4
  obtain ⟨h7, h8⟩ := cb_some h6
  cases h8
  rw [blt_eq] at h7
  have h7 : n < s.len := by simpa using h7
  obtain ⟨l, c, g1, g2⟩ := (opnd_sound hA h1).sl_inv h5
  obtain ⟨k, g3⟩ := natO_some hA h3
  have hu := run_und (w := w) (hT.ty t i hi)
  rw [dSlice_some hd] at hu
  refine ok_pure hR (x := .pointer (some ⟨l.blk, l.base + (s.off + n * ei.size), none⟩)) ?_ (.ptr g1)
  simp [execOp, ho, Instr.indexAt, g2, g3, asIntOf, hu, h7, run_size (hT.ty e ei he), addr_add, Nat.add_assoc]
theorem s_indexA (hT : TabOk T0) (hR : HR w0 μ σ.hp σ.nx w) (hA : RT μ σ.tm a.tmps) {t : TypeId} {i ei : TyI} {p : Nat × TypeId} {x y : Operand} (hi : T0.t t = some i) (hd : dArr i.d = some p) (he : T0.t p.2 = some ei)
    (ho : o.op = .indexAddr t x y) {out : Out} (h : opIndexA σ p.1 ei.size x y = some out) : OutOk T0 w0 μ w ((execOp a.eval o).run T0.P w) out := by
  obtain ⟨q, h1, h2⟩ := ob_some h
  obtain ⟨n, h3, h4⟩ := ob_some h2
  obtain ⟨h7, h8⟩ := cb_some h4
  cases h8
  rw [blt_eq] at h7
  have h7 : n < p.1 := by simpa using h7
  obtain ⟨l, g1, g2⟩ := ptO_some hA h1
  obtain ⟨k, g3⟩ := natO_some hA h3
  have hu := run_und (w := w) (hT.ty t i hi)
  rw [dArr_some hd] at hu
  refine ok_pure hR (x := .pointer (some ⟨l.blk, l.base + (q.off + n * ei.size), none⟩)) ?_ (.ptr g1)
  simp [execOp, ho, Instr.indexAt, Instr.sureAddr, g2, g3, asIntOf, hu, h7, run_size (hT.ty p.2 ei he), addr_add, Nat.add_assoc]
theorem bl_get {s : ByteArray} {n c : Nat} (h : (bl s)[n]? = some c) : ∃ b : UInt8, s[n]? = some b ∧ b.toNat = c := by
  simp only [bl, List.getElem?_map, Option.map_eq_some_iff] at h
  obtain ⟨b, h1, h2⟩ := h
  refine ⟨b, ?_, h2⟩
  have hn : n < s.data.toList.length := by
    rcases Nat.lt_or_ge n s.data.toList.length with q | q
    · exact q
    · simp [List.getElem?_eq_none q] at h1
  have hn' : n < s.size := by
    show n < s.data.size
    rw [← Array.length_toList]; exact hn
  rw [getElem?_pos s n hn']
  rw [List.getElem?_eq_getElem hn] at h1
  rw [← h1]; rfl
theorem s_index (hT : TabOk T0) (hR : HR w0 μ σ.hp σ.nx w) (hA : RT μ σ.tm a.tmps) {t : TypeId} {i : TyI} {x y : Operand} (hi : T0.t t = some i) (hd : dStr i.d = true)
    (ho : o.op = .index t x y) {out : Out} (h : opIndex σ x y = some out) : OutOk T0 w0 μ w ((execOp a.eval o).run T0.P w) out := by
  obtain ⟨v, h1, h2⟩ := ob_some h
  obtain ⟨s, h3, h4⟩ := ob_some h2
  obtain ⟨n, h5, h6⟩ := ob_some h4
  obtain ⟨c, h7, h8⟩ := ob_some h6
  cases h8
  have hv := opnd_sound hA h1
  rw [asS_some h3] at hv
  obtain ⟨s', e1, e2⟩ := hv.str_inv
  obtain ⟨k, g3⟩ := natO_some hA h5
  rw [← e1, chrAt_eq (bl_lt _)] at h7
  obtain ⟨b, e3, e4⟩ := bl_get h7
  have hu := run_und (w := w) (hT.ty t i hi)
  rw [dStr_true hd] at hu
  refine ok_pure hR (x := .int .u8 (.ofNat c)) ?_ .int
  simp [execOp, ho, Instr.index, e2, g3, asIntOf, hu, e3, e4]
/-- A call of a function that the language has. -/
theorem run_builtin {c : Call} {b : Builtin} (hc : c.callee = .builtin b) (ho : o.op = .call c) :
    ∃ cs, (execOp a.eval o).run T0.P w = (builtin b c.argTypes o.type cs (c.args.map a.eval)).run T0.P w := by
  simp only [execOp, ho, resolve, hc, invoke, Sem.run_bind, Sem.run_pure, Result.andThen_ok]
  exact ⟨_, rfl⟩
theorem args_at (hA : RT μ σ.tm a.tmps) {c : Call} {l : List AV} (h : opnds σ.tm c.args.toList = some l) {n : Nat} {v : AV} (hv : nthO l n = some v) :
    ∃ x, (c.args.map a.eval)[n]? = some x ∧ RV μ v x := by
  rw [nthO_eq] at hv
  obtain ⟨x, h1, h2⟩ := (opnds_sound hA h).get hv
  exact ⟨x, by simpa using h1, h2⟩
theorem arg_type {c : Call} {t : TypeId} (h : headL c.argTypes.toList = some t) : c.argTypes[0]? = some t := by
  rw [headL_eq] at h
  cases hl : c.argTypes.toList with
  | nil => rw [hl] at h; cases h
  | cons x r =>
    rw [hl] at h; cases h
    rw [← Array.getElem?_toList, hl]; rfl
theorem s_lenS (hT : TabOk T0) (hR : HR w0 μ σ.hp σ.nx w) (hA : RT μ σ.tm a.tmps) {c : Call} {t : TypeId} {i : TyI} {l : List AV} {v : AV} (hc : c.callee = .builtin .len) (ho : o.op = .call c) (ht : headL c.argTypes.toList = some t)
    (hi : T0.t t = some i) (hd : dStr i.d = true) (hl : opnds σ.tm c.args.toList = some l) (hv : nthO l 0 = some v) {out : Out} (h : lenS σ v = some out) : OutOk T0 w0 μ w ((execOp a.eval o).run T0.P w) out := by
  obtain ⟨s, h1, h2⟩ := ob_some h
  cases h2
  obtain ⟨x, g1, g2⟩ := args_at hA hl hv
  rw [asS_some h1] at g2
  obtain ⟨s', e1, e2⟩ := g2.str_inv
  have hu := run_und (w := w) (hT.ty t i hi)
  rw [dStr_true hd] at hu
  obtain ⟨cs, hb⟩ := run_builtin (T0 := T0) (a := a) (w := w) hc ho
  rw [hb]
  refine ok_pure hR (x := .int .i64 (.ofNat s'.size)) ?_ (by rw [lenN_eq, ← e1, bl_length]; exact .int)
  rw [e2] at g1
  simp only [builtin, Builtin.len_, arg_type ht, g1, Sem.run_bind, hu, Result.andThen_ok]; rfl
theorem s_lenL (hT : TabOk T0) (hR : HR w0 μ σ.hp σ.nx w) (hA : RT μ σ.tm a.tmps) {c : Call} {t e : TypeId} {i : TyI} {l : List AV} {v : AV} (hc : c.callee = .builtin .len) (ho : o.op = .call c) (ht : headL c.argTypes.toList = some t)
    (hi : T0.t t = some i) (hd : dSlice i.d = some e) (hl : opnds σ.tm c.args.toList = some l) (hv : nthO l 0 = some v) {out : Out} (h : lenL σ v = some out) : OutOk T0 w0 μ w ((execOp a.eval o).run T0.P w) out := by
  obtain ⟨n, h1, h2⟩ := ob_some h
  cases h2
  obtain ⟨x, g1, g2⟩ := args_at hA hl hv
  have hx : ∃ b k, x = .slice b n k := by
    rcases oc_or h1 with ⟨_, h3⟩ | ⟨s, h3, h4⟩
    · obtain ⟨h4, h5⟩ := cb_some h3
      cases h5
      cases g2 <;> first | exact ⟨_, _, rfl⟩ | cases h4
    · cases h4
      obtain ⟨q, k, _, e⟩ := g2.sl_inv h3
      exact ⟨_, k, e⟩
  obtain ⟨b, k, rfl⟩ := hx
  have hu := run_und (w := w) (hT.ty t i hi)
  rw [dSlice_some hd] at hu
  obtain ⟨cs, hb⟩ := run_builtin (T0 := T0) (a := a) (w := w) hc ho
  rw [hb]
  refine ok_pure hR (x := .int .i64 (.ofNat n)) ?_ .int
  simp only [builtin, Builtin.len_, arg_type ht, g1, Sem.run_bind, hu, Result.andThen_ok]; rfl
end
end Ev
end Go.Proofs.Ytdofhlmffponoaa
