/- Literals, 'make', and parts of slices: the operations. -/
import Derived.Test.YtpmjneggkccaiaaGreatDoorEvI
import Derived.Laws.Tables
set_option linter.unusedVariables false
set_option linter.unusedSimpArgs false
namespace Go.Proofs.YtpmjneggkccaiaaGreatDoor
namespace Ev
section
variable {T0 : Tab} {w0 : Fx} {μ : Mu} {σ : AS} {a : Act} {w : World} {o : Oper}
theorem elemI_some (hT : TabOk T0) {t : TypeId} {q : TypeId × TyI} (h : elemI T0 t = some q) : (∃ i, TyOk T0.P t i ∧ i.d = .slice q.1) ∧ TyOk T0.P q.1 q.2 := by
  obtain ⟨i, h1, h2⟩ := ob_some h
  obtain ⟨e, h3, h4⟩ := ob_some h2
  obtain ⟨ei, h5, h6⟩ := ob_some h4
  cases h6
  exact ⟨⟨i, hT.ty t i h1, dSlice_some h3⟩, hT.ty e ei h5⟩
theorem map_parts (a : Act) (ps : Array (Nat × Operand)) : (ps.map fun (i, x) => (i, a.eval x)).toList = ps.toList.map fun p => (p.1, a.eval p.2) := by simp
theorem map_eval (a : Act) (ps : Array (Nat × Operand)) : (ps.map fun p => (p.1, a.eval p.2)).toList = ps.toList.map fun p => (p.1, a.eval p.2) := by simp
theorem s_buildS (hT : TabOk T0) (hR : HR w0 μ σ.hp σ.nx w) (hA : RT μ σ.tm a.tmps) {t : TypeId} {i : TyI} {ps : Array (Nat × Operand)} {l : List TypeId} (hi : T0.t t = some i) (hd : dFields i.d = some l)
    (ho : o.op = .build t ps) {out : Out} (h : opBuildS σ i ps.toList = some out) : OutOk T0 w0 μ w ((execOp a.eval o).run T0.P w) out := by
  obtain ⟨m, h1, h2⟩ := ob_some h
  obtain ⟨cs, h3, h4⟩ := ob_some h2
  cases h4
  have ht := hT.ty t i hi
  obtain ⟨fs, e1, _⟩ := dFields_some hd
  obtain ⟨info, z, g1, g2, g3, g4, g5⟩ := ht.inf
  have hof := ht.off
  have hu := ht.und
  rw [e1] at hof hu
  obtain ⟨xs, q1, q2⟩ := fillA_sound (place' := fun x => (i.offs.toArray)[x]?) (fun j q e => by rw [nthO_eq] at e; simpa using e) (parts_sound hA h1) (g5.any (μ := μ)) h3
  refine ok_pure hR (x := .agg ⟨xs⟩) ?_ (.agg q2)
  have hb : T0.P.built t (ps.map fun (i, x) => (i, a.eval x)).toList = some ⟨xs⟩ := by
    have hof' : fs.toList.mapM (fun f => (T0.P.info? f.type).map fun i => (f.offset, i.size)) = some i.offs := hof
    simp only [Program.built, g1, hu, g4, hof']
    rw [map_parts]
    exact q1
  simp [execOp, ho, run_build w t _ _ hb]
theorem s_buildA (hT : TabOk T0) (hR : HR w0 μ σ.hp σ.nx w) (hA : RT μ σ.tm a.tmps) {t : TypeId} {i ei : TyI} {ps : Array (Nat × Operand)} {p : Nat × TypeId} (hi : T0.t t = some i) (hd : dArr i.d = some p) (he : T0.t p.2 = some ei)
    (ho : o.op = .build t ps) {out : Out} (h : opBuildA σ i ei ps.toList = some out) : OutOk T0 w0 μ w ((execOp a.eval o).run T0.P w) out := by
  obtain ⟨m, h1, h2⟩ := ob_some h
  obtain ⟨cs, h3, h4⟩ := ob_some h2
  cases h4
  have ht := hT.ty t i hi
  have hte := hT.ty p.2 ei he
  obtain ⟨info, z, g1, g2, g3, g4, g5⟩ := ht.inf
  obtain ⟨ie, ze, k1, k2, k3, k4, k5⟩ := hte.inf
  have hu := ht.und
  rw [dArr_some hd] at hu
  obtain ⟨xs, q1, q2⟩ := fillA_sound (place' := fun j => some (j * ie.size, ie.size)) (fun j q e => by rw [k2]; exact e) (parts_sound hA h1) (g5.any (μ := μ)) h3
  refine ok_pure hR (x := .agg ⟨xs⟩) ?_ (.agg q2)
  have hb : T0.P.built t (ps.map fun (i, x) => (i, a.eval x)).toList = some ⟨xs⟩ := by
    simp only [Program.built, g1, hu, g4, k1]
    rw [map_parts]
    exact q1
  simp [execOp, ho, run_build w t _ _ hb]
theorem fillA_len {place : Nat → Option (Nat × Nat)} : ∀ {l : List (Nat × AV)} {cs cs' : List AV}, fillA place l cs = some cs' → cs'.length = cs.length
  | [], _, _, e => by cases e; rfl
  | (i, v) :: l, cs, cs', e => by
    obtain ⟨q, h1, h2⟩ := ob_some (x := place i) e
    obtain ⟨h3, h4⟩ := cb_some h2
    obtain ⟨h5, h6⟩ := cb_some h4
    have h3 : lenN v.cells = q.2 := beq_true h3
    have h5 : q.1 + q.2 ≤ lenN cs := ble_true h5
    rw [lenN_eq] at h3 h5
    have h3 : (v.cells).length = q.2 := h3
    have e := fillA_len h6
    rw [over_eq q.1 cs v.cells (by omega)] at e
    rw [e]; simp; omega
theorem s_buildSlice (hT : TabOk T0) (hR : HR w0 μ σ.hp σ.nx w) (hA : RT μ σ.tm a.tmps) {t : TypeId} {q : TypeId × TyI} {len : Nat} {ps : Array (Nat × Operand)} (hq : elemI T0 t = some q)
    (ho : o.op = .buildSlice t len ps) {out : Out} (h : opBuildSlice σ q.1 q.2 len ps.toList = some out) : OutOk T0 w0 μ w ((execOp a.eval o).run T0.P w) out := by
  obtain ⟨h0, h⟩ := cb_some h
  obtain ⟨m, h1, h2⟩ := ob_some h
  obtain ⟨cs, h3, h4⟩ := ob_some h2
  cases h4
  obtain ⟨⟨i, ht, hd⟩, hte⟩ := elemI_some hT hq
  have hu := run_und (w := w) ht
  rw [hd] at hu
  obtain ⟨z, g1, g2⟩ := run_zero (w := w) hte
  have hzl : z.cells.size = q.2.size := by rw [← Array.length_toList, g2.length, hte.zlen]
  have h0 : len * q.2.size ≤ 16777216 := ble_true h0
  obtain ⟨xs, q1, q2⟩ := fillA_sound (place' := fun j => some (j * q.2.size, q.2.size)) (fun j q e => e) (parts_sound hA h1) ((g2.any (μ := μ)).rep len) h3
  have hzc : ∀ (n : Nat), n = len * q.2.size → ∀ zc : Array Value, (n ≠ 0 → zc = z.cells) → (Array.range n).map (fun j => zc[j % zc.size]!) = ⟨repN z.cells.toList len⟩ := by
    intro n hn zc hz
    by_cases e : n = 0
    · rw [e]
      have : repN z.cells.toList len = [] := List.eq_nil_of_length_eq_zero (by rw [repN_len, Array.length_toList, hzl]; omega)
      rw [this]; exact Array.ext' (by simp)
    · rw [hz e, ← zeros_eq, hzl, hn]
  have hlen : xs.length = len * q.2.size := by rw [q2.length, fillA_len h3, repN_len, hte.zlen]
  refine ok_new hR (xs := xs) (cap := 0) ?_ q2 (lenN_eq _) (by simp) (fun b => .slk (l := ⟨w.heap.size, 0, 0⟩) (Mu.put_same _ _ _) (Nat.le_refl _))
  have hl : ¬ (len * q.2.size > 2 ^ 24) := by omega
  by_cases e : len * q.2.size = 0
  · have hz := hzc (len * q.2.size) rfl #[] (fun k => absurd e k)
    simp only [execOp, ho, Instr.buildSlice, Sem.run_bind, hu, Result.andThen_ok, run_size hte, Sem.run_ite, if_neg hl, Sem.run_pure, if_pos e]
    rw [hz, map_parts, q1]
    simp [run_newRow]
  · have hz := hzc (len * q.2.size) rfl z.cells (fun _ => rfl)
    simp only [execOp, ho, Instr.buildSlice, Sem.run_bind, hu, Result.andThen_ok, run_size hte, Sem.run_ite, if_neg hl, Sem.run_pure, if_neg e, g1]
    rw [hz, map_parts, q1]
    simp [run_newRow]
end
end Ev
end Go.Proofs.YtpmjneggkccaiaaGreatDoor
