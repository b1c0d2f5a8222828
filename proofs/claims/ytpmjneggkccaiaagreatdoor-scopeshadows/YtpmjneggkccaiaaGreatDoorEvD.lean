/- One operation of each kind: what the evaluator says is what the world does (values, rows, memory of its own). -/
import Derived.Test.YtpmjneggkccaiaaGreatDoorEvC
set_option linter.unusedVariables false
set_option linter.unusedSimpArgs false
namespace Go.Proofs.YtpmjneggkccaiaaGreatDoor
namespace Ev
theorem valE_some {σ : AS} {x : Option AV} {out : Out} (h : valE σ x = some out) : ∃ v, x = some v ∧ out = .pv v := by
  obtain ⟨v, h1, h2⟩ := ob_some h
  cases h2
  exact ⟨v, h1, rfl⟩
theorem RV.bool_inv {μ : Mu} {b : Bool} {x : Value} (h : RV μ (.bool b) x) : x = .bool b := by cases h; rfl
theorem RV.int_inv {μ : Mu} {k : IntKind} {n : Int} {x : Value} (h : RV μ (.int k n) x) : x = .int k n := by cases h; rfl
theorem RV.str_inv {μ : Mu} {l : List Nat} {x : Value} (h : RV μ (.str l) x) : ∃ s, bl s = l ∧ x = .string s := by cases h with | str e => exact ⟨_, e, rfl⟩
section
variable {T0 : Tab} {w0 : Fx} {μ : Mu} {σ : AS} {a : Act} {w : World} {o : Oper}
/-- A value comes out, the world stays. -/
theorem ok_pure (hR : HR w0 μ σ.hp σ.nx w) {r : Result Next} {v : AV} {x : Value} (hr : r = .ok (.value x) w) (hv : RV μ v x) : OutOk T0 w0 μ w r (.pv v) :=
  ⟨x, hr, hv⟩
theorem s_move (hR : HR w0 μ σ.hp σ.nx w) (hA : RT μ σ.tm a.tmps) {x : Operand} (ho : o.op = .move x ∨ o.op = .assign x) {out : Out} (h : valE σ (opnd σ.tm x) = some out) :
    OutOk T0 w0 μ w ((execOp a.eval o).run T0.P w) out := by
  obtain ⟨v, h1, rfl⟩ := valE_some h
  refine ok_pure hR ?_ (opnd_sound hA h1)
  rcases ho with ho | ho <;> simp [execOp, ho]
theorem s_pick (hR : HR w0 μ σ.hp σ.nx w) (hA : RT μ σ.tm a.tmps) {c x y : Operand} (ho : o.op = .pick c x y) {out : Out} (h : opPick σ c x y = some out) :
    OutOk T0 w0 μ w ((execOp a.eval o).run T0.P w) out := by
  obtain ⟨v, h1, h2⟩ := ob_some h
  obtain ⟨b, h3, h4⟩ := ob_some h2
  have hv := opnd_sound hA h1
  rw [asB_some h3] at hv
  have hc : a.eval c = .bool b := hv.bool_inv
  rcases tb_or h4 with ⟨e, h5⟩ | ⟨e, h5⟩ <;> (obtain ⟨u, h6, rfl⟩ := valE_some h5; exact ok_pure hR (by simp [execOp, ho, hc, asBool, e]) (opnd_sound hA h6))
theorem s_bin (hT : TabOk T0) (hR : HR w0 μ σ.hp σ.nx w) (hA : RT μ σ.tm a.tmps) {op : BinOp} {t yt : TypeId} {x y : Operand} (ho : o.op = .binOp op t x y yt) {out : Out}
    (h : opBin T0.P σ (binE op).run (kindT T0 x y t) t x y = some out) : OutOk T0 w0 μ w ((execOp a.eval o).run T0.P w) out := by
  obtain ⟨u, h1, h2⟩ := ob_some h
  obtain ⟨v, h3, h4⟩ := ob_some h2
  obtain ⟨r, h5, rfl⟩ := valE_some h4
  obtain ⟨z, h6, h7⟩ := bin_sound hT (ox := x) (oy := y) (w := w) h5 (opnd_sound hA h1) (opnd_sound hA h3)
  refine ok_pure hR ?_ h7
  simp only [execOp, ho]
  rw [Sem.run_bind, h6]; rfl
theorem s_un (hR : HR w0 μ σ.hp σ.nx w) (hA : RT μ σ.tm a.tmps) {op : UnOp} {t : TypeId} {x : Operand} (ho : o.op = .unOp op t x) {out : Out}
    (h : (ob (opnd σ.tm x) fun v => valE σ (unE T0.P op v)) = some out) : OutOk T0 w0 μ w ((execOp a.eval o).run T0.P w) out := by
  obtain ⟨u, h1, h2⟩ := ob_some h
  obtain ⟨r, h3, rfl⟩ := valE_some h2
  have hv := opnd_sound hA h1
  rcases oc_or h3 with ⟨_, h4⟩ | ⟨b, hb, h4⟩
  · obtain ⟨p, h5, h6⟩ := ob_some h4
    obtain ⟨z, h7, h8⟩ := ob_some h6
    obtain ⟨q, h9, h10⟩ := ob_some h8
    obtain ⟨s, _, h12⟩ := ob_some h10
    cases h12
    rw [asI_some h5] at hv
    have hx : a.eval x = .int p.1 p.2 := hv.int_inv
    exact ok_pure hR (by simp [execOp, ho, hx, pureRun_run h7 w]) (cv1_sound μ h9)
  · obtain ⟨h5, h6⟩ := cb_some h4
    cases h6
    rw [asB_some hb] at hv
    have hx : a.eval x = .bool b := hv.bool_inv
    have hop : op = .not := by cases op <;> first | rfl | cases h5
    subst hop
    exact ok_pure hR (by simp [execOp, ho, hx, Op.unary]; rfl) (by rw [notB_eq]; exact .bool)
/-- A row of cells is made. -/
theorem ok_new (hR : HR w0 μ σ.hp σ.nx w) {r : Result Next} {l : List AV} {xs : List Value} {n es cap : Nat} {el : TypeId} {mk : Bn → AV} {x : Value}
    (hr : r = .ok (.value x) { w with heap := w.heap.push (.cells xs.toArray el (0, 0)) }) (hl : RVs μ l xs) (hn : n = l.length) (hc : cap * es ≤ xs.length ∧ (es = 0 ∨ n ≤ cap * es))
    (hv : ∀ b, RV (μ.put b ⟨w.heap.size, 0, cap⟩) (mk b) x) : OutOk T0 w0 μ w r (.nw mk (mkCells l n es el)) :=
  ⟨x, _, cap, hr, fun b hb => ⟨hv b, RO.new (hl.mono (Mu.le_put hb)) hn hc⟩⟩
theorem run_newRow (P : Program) (w : World) (el : TypeId) (cs : Array Value) : (newRow el cs).run P w = .ok ⟨w.heap.size, 0, none⟩ { w with heap := w.heap.push (.cells cs el (0, 0)) } := by
  simp [newRow, newObj, Sem.run]
theorem s_alloc (hT : TabOk T0) (hR : HR w0 μ σ.hp σ.nx w) {el : TypeId} {i : TyI} (hi : T0.t el = some i) (ho : o.op = .alloc el) {out : Out} (h : opAlloc σ i el = some out) :
    OutOk T0 w0 μ w ((execOp a.eval o).run T0.P w) out := by
  cases h
  obtain ⟨z, h1, h2⟩ := run_zero (w := w) (hT.ty el i hi)
  refine ok_new hR (xs := z.cells.toList) (cap := 0) ?_ h2.any (lenN_eq _) (by simp) (fun b => .ptr (l := ⟨w.heap.size, 0, 0⟩) (Mu.put_same _ _ _))
  simp [execOp, ho, Instr.alloc, h1, newVar, run_newRow]
theorem s_box (hR : HR w0 μ σ.hp σ.nx w) (hA : RT μ σ.tm a.tmps) {el : TypeId} {x : Operand} (ho : o.op = .box el x) {out : Out} (h : opBox σ el x = some out) :
    OutOk T0 w0 μ w ((execOp a.eval o).run T0.P w) out := by
  obtain ⟨v, h1, h2⟩ := ob_some h
  cases h2
  have hv := (opnd_sound hA h1).cells
  refine ok_new hR (cap := 0) ?_ hv (lenN_eq _) (by simp) (fun b => .ptr (l := ⟨w.heap.size, 0, 0⟩) (Mu.put_same _ _ _))
  simp [execOp, ho, Instr.box, newVar, run_newRow]
theorem ptO_some (hA : RT μ σ.tm a.tmps) {x : Operand} {p : Pt} (h : ptO σ x = some p) : ∃ l, μ p.b = some l ∧ a.eval x = .pointer (some ⟨l.blk, l.base + p.off, none⟩) := by
  obtain ⟨v, h1, h2⟩ := ob_some h
  have hv := opnd_sound hA h1
  rw [asPt_some h2] at hv
  generalize hx : a.eval x = y at hv
  cases hv with | ptr e => exact ⟨_, e, rfl⟩
theorem s_load (hT : TabOk T0) (hR : HR w0 μ σ.hp σ.nx w) (hA : RT μ σ.tm a.tmps) {t : TypeId} {i : TyI} {x : Operand} (hi : T0.t t = some i) (ho : o.op = .load t x) {out : Out} (h : opLoad σ i x = some out) :
    OutOk T0 w0 μ w ((execOp a.eval o).run T0.P w) out := by
  obtain ⟨p, h1, h2⟩ := ob_some h
  obtain ⟨v, h3, rfl⟩ := valE_some h2
  obtain ⟨l, h4, h5⟩ := ptO_some hA h1
  obtain ⟨y, h6, h7⟩ := loadE_sound hR (hT.ty t i hi) h3 h4
  exact ok_pure hR (by simp [execOp, ho, Instr.loadAt, h5, Instr.sureAddr, h6]) h7
theorem s_store (hT : TabOk T0) (hR : HR w0 μ σ.hp σ.nx w) (hA : RT μ σ.tm a.tmps) {t : TypeId} {i : TyI} {x y : Operand} (hi : T0.t t = some i) (ho : o.op = .store t x y) {out : Out} (h : opStore σ i x y = some out) :
    OutOk T0 w0 μ w ((execOp a.eval o).run T0.P w) out := by
  obtain ⟨p, h1, h2⟩ := ob_some h
  obtain ⟨v, h3, h4⟩ := ob_some h2
  obtain ⟨c, h5, h6⟩ := ob_some h4
  obtain ⟨h7, h8⟩ := cb_some h6
  obtain ⟨h9, h10⟩ := cb_some h8
  obtain ⟨t', h11, h12⟩ := ob_some h10
  cases h12
  obtain ⟨l, g1, g2⟩ := ptO_some hA h1
  have hv := (opnd_sound hA h3).cells
  have e1 := beq_true h7
  rw [lenN_eq] at e1
  have e2 : p.off + i.size ≤ c.n := ble_true h9
  obtain ⟨w', q1, q2⟩ := store_sound (P := T0.P) hR h5 g1 h11 (by rw [e1]; exact e2) hv
  refine ⟨undef, w', μ, .inr ⟨?_, rfl⟩, .refl μ, q2, .tup .nil⟩
  have hs : (a.eval y).cells.size = i.size := by rw [← Array.length_toList, hv.length, e1]
  simp [execOp, ho, Instr.storeAt, g2, Instr.sureAddr, storeVar, run_size (hT.ty t i hi), hs, q1]
theorem s_nil (hR : HR w0 μ σ.hp σ.nx w) (hA : RT μ σ.tm a.tmps) {x : Operand} (ho : o.op = .nilCheck x) {out : Out} (h : opNil σ x = some out) :
    OutOk T0 w0 μ w ((execOp a.eval o).run T0.P w) out := by
  obtain ⟨v, h1, h2⟩ := ob_some h
  obtain ⟨h3, h4⟩ := cb_some h2
  cases h4
  have hv := opnd_sound hA h1
  refine ok_pure hR ?_ hv
  generalize hx : a.eval x = y at hv
  cases hv with
  | ptr e => simp [execOp, ho, hx]
  | yield e => simp [execOp, ho, hx]
  | iface e => simp [execOp, ho, hx]
  | func e c d =>
    rename_i fn _ _ _ _
    rcases oc_or (x := fnF fn) (r := true) h3 with ⟨_, q⟩ | ⟨f, q, _⟩
    · cases q
    · rw [fnF_some q]; simp [execOp, ho, hx, fnF_some q]
  | _ => cases h3
theorem s_iface (hT : TabOk T0) (hR : HR w0 μ σ.hp σ.nx w) (hA : RT μ σ.tm a.tmps) {t : TypeId} {i : TyI} {x : Operand} (hi : T0.t t = some i) (hd : dIface i.d = none) (ho : o.op = .makeInterface t x) {out : Out}
    (h : (ob (opnd σ.tm x) fun v => some (.pv (.iface t v))) = some out) : OutOk T0 w0 μ w ((execOp a.eval o).run T0.P w) out := by
  obtain ⟨v, h1, h2⟩ := ob_some h
  cases h2
  refine ok_pure hR ?_ (.iface (opnd_sound hA h1))
  have hu := run_und (w := w) (hT.ty t i hi)
  simp only [execOp, ho, Instr.makeInterface, Sem.run_bind, hu, Result.andThen_ok]
  generalize i.d = d at hd
  cases d <;> first | rfl | cases hd
theorem s_func (hR : HR w0 μ σ.hp σ.nx w) (hA : RT μ σ.tm a.tmps) {fn : Fn} {f : Nat} {first cap : Array Operand} (hf : fnF fn = some f) (ho : o.op = .makeFunc fn first cap) {out : Out}
    (h : opFunc σ f first.toList cap.toList = some out) : OutOk T0 w0 μ w ((execOp a.eval o).run T0.P w) out := by
  obtain ⟨u, h1, h2⟩ := ob_some h
  obtain ⟨v, h3, h4⟩ := ob_some h2
  cases h4
  have e := fnF_some hf
  subst e
  refine ok_pure hR ?_ (.func (fun n q => by cases q) (opnds_sound hA h1) (opnds_sound hA h3))
  simp only [execOp, ho, Instr.makeFunc, Sem.run_bind, Sem.run_pure, Result.andThen_ok]
  rw [show Array.map a.eval first = ⟨List.map a.eval first.toList⟩ from Array.ext' (by simp), show Array.map a.eval cap = ⟨List.map a.eval cap.toList⟩ from Array.ext' (by simp)]
theorem s_extract (hR : HR w0 μ σ.hp σ.nx w) (hA : RT μ σ.tm a.tmps) {x : Operand} {i : Nat} (ho : o.op = .extract x i) {out : Out} (h : opExtract σ x i = some out) :
    OutOk T0 w0 μ w ((execOp a.eval o).run T0.P w) out := by
  obtain ⟨v, h1, h2⟩ := ob_some h
  obtain ⟨l, h3, h4⟩ := ob_some h2
  obtain ⟨u, h5, rfl⟩ := valE_some h4
  have hv := opnd_sound hA h1
  rw [asTup_some h3] at hv
  generalize hx : a.eval x = y at hv
  cases hv with | tup r =>
  rw [nthO_eq] at h5
  obtain ⟨z, hz, hr⟩ := r.get h5
  exact ok_pure hR (by simp [execOp, ho, hx, Instr.extract, hz]) hr
theorem s_panic {x : Operand} (hA : RT μ σ.tm a.tmps) (ho : o.op = .panic x) {out : Out} (h : opPanic σ x = some out) : OutOk T0 w0 μ w ((execOp a.eval o).run T0.P w) out := by
  obtain ⟨v, h1, h2⟩ := ob_some h
  obtain ⟨h3, h4⟩ := cb_some h2
  cases h4
  have hv := opnd_sound hA h1
  obtain ⟨t, u, rfl⟩ := isIface_true h3
  refine ⟨a.eval x, ?_, hv⟩
  generalize hx : a.eval x = y at hv
  cases hv
  simp [execOp, ho, hx, Instr.panic, goPanic]
end
end Ev
end Go.Proofs.YtpmjneggkccaiaaGreatDoor
