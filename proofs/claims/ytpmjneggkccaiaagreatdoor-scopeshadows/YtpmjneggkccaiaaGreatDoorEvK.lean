/- 'make' of slices; parts of texts and slices. -/
import Derived.Test.YtpmjneggkccaiaaGreatDoorEvJ
set_option linter.unusedVariables false
set_option linter.unusedSimpArgs false
namespace Go.Proofs.YtpmjneggkccaiaaGreatDoor
namespace Ev
theorem run_askRoom (P : Program) (w : World) (n : Nat) : (askRoom n).run P w = .ok () w := by
  unfold askRoom; split <;> rfl
section
variable {T0 : Tab} {w0 : Fx} {μ : Mu} {σ : AS} {a : Act} {w : World} {o : Oper}
theorem s_makeSlice (hT : TabOk T0) (hR : HR w0 μ σ.hp σ.nx w) (hA : RT μ σ.tm a.tmps) {t : TypeId} {q : TypeId × TyI} {x y : Operand} (hq : elemI T0 t = some q)
    (ho : o.op = .makeSlice t x y) {out : Out} (h : opMakeSlice σ q.1 q.2 x y = some out) : OutOk T0 w0 μ w ((execOp a.eval o).run T0.P w) out := by
  obtain ⟨m, h1, h2⟩ := ob_some h
  obtain ⟨k, h3, h4⟩ := ob_some h2
  obtain ⟨h5, h6⟩ := cb_some h4
  obtain ⟨h7, h8⟩ := cb_some h6
  cases h8
  have h5 := ble_true h5
  have h7 : k * (q.2.bytes + 1) ≤ 1000000000 := ble_true h7
  obtain ⟨⟨i, ht, hd⟩, hte⟩ := elemI_some hT hq
  have hu := run_und (w := w) ht
  rw [hd] at hu
  obtain ⟨z, g1, g2⟩ := run_zero (w := w) hte
  obtain ⟨info, z', g3, g4, g5, _, _⟩ := run_info (w := w) hte
  have hzl : z.cells.size = q.2.size := by rw [← Array.length_toList, g2.length, hte.zlen]
  obtain ⟨k1, e1⟩ := natO_some hA h1
  obtain ⟨k2, e2⟩ := natO_some hA h3
  have hk : k ≤ 1000000000 := by
    have : k * 1 ≤ k * (q.2.bytes + 1) := Nat.mul_le_mul_left k (by omega)
    omega
  have hkb : k * q.2.bytes ≤ 1000000000 := by
    have : k * q.2.bytes ≤ k * (q.2.bytes + 1) := Nat.mul_le_mul_left k (by omega)
    omega
  have w1 : IntKind.i64.wrap (Int.ofNat m) = (m : Int) := wrap_small _ (by simp) (by simp only [Int.ofNat_eq_natCast]; omega)
  have w2 : IntKind.i64.wrap (Int.ofNat k) = (k : Int) := wrap_small _ (by simp) (by simp only [Int.ofNat_eq_natCast]; omega)
  have hlen : (repN z.cells.toList k).length = k * q.2.size := by rw [repN_len, Array.length_toList, hzl]
  refine ok_new hR (xs := repN z.cells.toList k) (cap := 0) ?_ ((g2.any (μ := μ)).rep k) (by rw [repN_len, hte.zlen]; rfl) (by simp) (fun b => .slk (l := ⟨w.heap.size, 0, 0⟩) (Mu.put_same _ _ _) h5)
  have hb : ((q.2.bytes : Int) * (k : Int)) = ((k * q.2.bytes : Nat) : Int) := by rw [Nat.mul_comm]; simp
  have hbad : ((decide ((k : Int) < 0) || decide ((info.bytes : Int) * (k : Int) > 2 ^ 48) || decide ((m : Int) < 0) || decide ((m : Int) > (k : Int))) = true) = False := by
    rw [g5, hb]
    have a1 : ¬ ((k : Int) < 0) := by omega
    have a3 : ¬ ((m : Int) < 0) := by omega
    have a4 : ¬ ((m : Int) > (k : Int)) := by omega
    simp [a1, a3, a4]
    have hk2 : ((k * q.2.bytes : Nat) : Int) ≤ 1000000000 := Int.ofNat_le.2 hkb
    rw [Int.natCast_mul] at hk2
    exact Int.le_trans hk2 (by decide)
  have hrow : ∀ zc : Array Value, (k * q.2.size ≠ 0 → zc = z.cells) → (Array.range (k * q.2.size)).map (fun j => zc[j % zc.size]!) = (repN z.cells.toList k).toArray := by
    intro zc hz
    by_cases e : k * q.2.size = 0
    · rw [e]
      have : repN z.cells.toList k = [] := List.eq_nil_of_length_eq_zero (by omega)
      rw [this]; exact Array.ext' (by simp)
    · rw [hz e, ← hzl, zeros_eq]
  simp only [execOp, ho, Instr.makeSlice, Sem.run_bind, hu, Result.andThen_ok, e1, e2, asInt, asIntOf, Sem.run_pure, g3, w1, w2, Sem.run_ite]
  rw [if_neg (by rw [hbad]; exact id)]
  simp only [Result.andThen_ok, run_askRoom, run_size hte, Int.toNat_natCast]
  by_cases e : k * q.2.size = 0
  · simp only [if_pos e]
    rw [hrow #[] (fun k => absurd e k)]
    simp [run_newRow]
  · simp only [if_neg e, g1, Result.andThen_ok]
    rw [hrow z.cells (fun _ => rfl)]
    simp [run_newRow]
/-- An operand that may lack. -/
def OV (μ : Mu) : Option AV → Option Value → Prop
  | none, none => True
  | some v, some x => RV μ v x
  | _, _ => False
theorem okO_some (hA : RT μ σ.tm a.tmps) {x : Option Operand} {v : Option AV} (h : okO σ.tm x = some v) : OV μ v (x.map a.eval) := by
  rcases oc_or h with ⟨e, h1⟩ | ⟨y, e, h1⟩
  · cases h1; subst e; trivial
  · obtain ⟨u, h2, h3⟩ := ob_some h1
    cases h3; subst e
    exact opnd_sound hA h2
theorem bound_run {v : AV} {x : Value} {n y : Nat} {c : BoundsCode} (hv : RV μ v x) (hn : intOf v = some n) (hy : n ≤ y) : (Instr.sliceBound x y c).run T0.P w = .ok n w := by
  obtain ⟨k, rfl⟩ := intOf_some hn
  rw [hv.int_inv]
  have : (0 : Int) ≤ Int.ofNat n ∧ Int.ofNat n ≤ (y : Int) := ⟨by simp, by simp only [Int.ofNat_eq_natCast]; omega⟩
  simp only [Instr.sliceBound, asIntOf, Sem.run_bind, Sem.run_pure, Result.andThen_ok, Sem.run_ite, if_pos this]
  rfl
theorem bounds_run {lo hi : Option AV} {xl xh : Option Value} {len cap l h : Nat} {b : Bool} (hl : OV μ lo xl) (hh : OV μ hi xh) (el : bnd lo 0 = some l) (eh : bnd hi len = some h) (h1 : l ≤ h) (h2 : h ≤ cap) :
    (Instr.sliceBounds b len cap xl xh none).run T0.P w = .ok (l, h, cap) w := by
  unfold Instr.sliceBounds
  cases hi with
  | none => cases xh with
    | some x => exact hh.elim
    | none =>
      cases eh
      cases lo with
      | none => cases xl with
        | some x => exact hl.elim
        | none => cases el; simp
      | some v => cases xl with
        | none => exact hl.elim
        | some x => simp [bound_run (T0 := T0) (w := w) (c := .sliceB) hl el h1]
  | some u => cases xh with
    | none => exact hh.elim
    | some y =>
      have q1 : ∀ c, (Instr.sliceBound y cap c).run T0.P w = .ok h w := fun c => bound_run hh eh h2
      cases lo with
      | none => cases xl with
        | some x => exact hl.elim
        | none => cases el; simp [q1]
      | some v => cases xl with
        | none => exact hl.elim
        | some x => simp [q1, bound_run (T0 := T0) (w := w) (c := .sliceB) hl el h1]
end
end Ev
end Go.Proofs.YtpmjneggkccaiaaGreatDoor
