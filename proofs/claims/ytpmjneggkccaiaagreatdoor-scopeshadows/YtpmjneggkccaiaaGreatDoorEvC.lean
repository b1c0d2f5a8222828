/- Every sign between two values. -/
import Derived.Test.YtpmjneggkccaiaaGreatDoorEvB
set_option linter.unusedVariables false
set_option linter.unusedSimpArgs false
namespace Go.Proofs.YtpmjneggkccaiaaGreatDoor
namespace Ev
theorem orB_eq (a b : Bool) : orB a b = (a || b) := by cases a <;> cases b <;> rfl
/-- What a sign answers. -/
def BinOk (P : Program) (μ : Mu) (w : World) (op : BinOp) (t : TypeId) (ox oy : Operand) (a b : Value) (v : AV) : Prop :=
  ∃ r, ((do eqGuard op t ox oy a b; binOp op t a b) : Sem Value).run P w = .ok r w ∧ RV μ v r
theorem BinOk.of {P : Program} {μ : Mu} {w : World} {op : BinOp} {t : TypeId} {ox oy : Operand} {a b r : Value} {v : AV} (h : (eqGuard op t ox oy a b).run P w = .ok () w)
    (h' : (binOp op t a b).run P w = .ok r w) (hv : RV μ v r) : BinOk P μ w op t ox oy a b v := ⟨r, by simp [h, h'], hv⟩
theorem guard_int {P : Program} {w : World} {op : BinOp} {t : TypeId} {ox oy : Operand} {k : IntKind} {n : Int} {b : Value} : (eqGuard op t ox oy (.int k n) b).run P w = .ok () w :=
  eqGuard_a (by simp) (by simp)
theorem guard_str {P : Program} {w : World} {op : BinOp} {t : TypeId} {ox oy : Operand} {s : ByteArray} {b : Value} : (eqGuard op t ox oy (.string s) b).run P w = .ok () w :=
  eqGuard_a (by simp) (by simp)
theorem cmp_sound {P : Program} {μ : Mu} {w : World} {t : TypeId} {ox oy : Operand} {a b : Value} {x y v : AV} (op : BinOp) (m : Cm)
    (hi : ∀ k p q, (binOp op t (.int k p) (.int k q)).run P w = .ok (.bool (m.i p q)) w)
    (hs : ∀ p q, (binOp op t (.string p) (.string q)).run P w = .ok (.bool (m.s (bl p) (bl q))) w)
    (h : cmpE m x y = some v) (hx : RV μ x a) (hy : RV μ y b) : BinOk P μ w op t ox oy a b v := by
  rcases oc_or h with ⟨_, h1⟩ | ⟨p, hp, h1⟩
  · obtain ⟨s, h2, h3⟩ := ob_some h1
    obtain ⟨s', h4, h5⟩ := ob_some h3
    cases h5
    rw [asS_some h2] at hx; rw [asS_some h4] at hy
    cases hx with | str e1 => cases hy with | str e2 =>
    subst e1; subst e2
    exact .of guard_str (hs _ _) .bool
  · obtain ⟨q, hq, h3⟩ := ob_some h1
    obtain ⟨h4, h5⟩ := cb_some h3
    cases h5
    have hk := kindEq_true h4
    rw [asI_some hp] at hx; rw [asI_some hq] at hy
    cases hx; cases hy
    rw [hk]
    exact .of guard_int (hi _ _ _) .bool
theorem i_lss (P : Program) (w : World) (t : TypeId) (k : IntKind) (p q : Int) : (binOp .lss t (.int k p) (.int k q)).run P w = .ok (.bool (cmL.i p q)) w := by
  show _ = Result.ok (Value.bool (ltInt p q)) w
  rw [ltInt_eq]; simp [binOp, Op.intCmp]
theorem i_leq (P : Program) (w : World) (t : TypeId) (k : IntKind) (p q : Int) : (binOp .leq t (.int k p) (.int k q)).run P w = .ok (.bool (cmM.i p q)) w := by
  show _ = Result.ok (Value.bool (notB (ltInt q p))) w
  rw [ltInt_eq, notB_eq]; by_cases h : q < p <;> simp [binOp, Op.intCmp, h] <;> omega
theorem i_gtr (P : Program) (w : World) (t : TypeId) (k : IntKind) (p q : Int) : (binOp .gtr t (.int k p) (.int k q)).run P w = .ok (.bool (cmA.i p q)) w := by
  show _ = Result.ok (Value.bool (ltInt q p)) w
  rw [ltInt_eq]; simp [binOp, Op.intCmp]
theorem i_geq (P : Program) (w : World) (t : TypeId) (k : IntKind) (p q : Int) : (binOp .geq t (.int k p) (.int k q)).run P w = .ok (.bool (cmG.i p q)) w := by
  show _ = Result.ok (Value.bool (notB (ltInt p q))) w
  rw [ltInt_eq, notB_eq]; by_cases h : p < q <;> simp [binOp, Op.intCmp, h] <;> omega
theorem s_lss (P : Program) (w : World) (t : TypeId) (p q : ByteArray) : (binOp .lss t (.string p) (.string q)).run P w = .ok (.bool (cmL.s (bl p) (bl q))) w := by
  show _ = Result.ok (Value.bool (ltLN (bl p) (bl q))) w
  rw [← less_toList]; rfl
theorem s_leq (P : Program) (w : World) (t : TypeId) (p q : ByteArray) : (binOp .leq t (.string p) (.string q)).run P w = .ok (.bool (cmM.s (bl p) (bl q))) w := by
  show _ = Result.ok (Value.bool (orB (ltLN (bl p) (bl q)) (eqLN (bl p) (bl q)))) w
  rw [orB_eq, ← less_toList, ← eq_toList]; rfl
theorem s_gtr (P : Program) (w : World) (t : TypeId) (p q : ByteArray) : (binOp .gtr t (.string p) (.string q)).run P w = .ok (.bool (cmA.s (bl p) (bl q))) w := by
  show _ = Result.ok (Value.bool (notB (orB (ltLN (bl p) (bl q)) (eqLN (bl p) (bl q))))) w
  rw [notB_eq, orB_eq, ← less_toList, ← eq_toList]; rfl
theorem s_geq (P : Program) (w : World) (t : TypeId) (p q : ByteArray) : (binOp .geq t (.string p) (.string q)).run P w = .ok (.bool (cmG.s (bl p) (bl q))) w := by
  show _ = Result.ok (Value.bool (notB (ltLN (bl p) (bl q)))) w
  rw [notB_eq, ← less_toList]; rfl
theorem add_sound {P : Program} {μ : Mu} {w : World} {t : TypeId} {ox oy : Operand} {a b : Value} {x y v : AV} (h : addE P t x y = some v) (hx : RV μ x a) (hy : RV μ y b) : BinOk P μ w .add t ox oy a b v := by
  rcases oc_or h with ⟨_, h1⟩ | ⟨p, hp, h1⟩
  · obtain ⟨s, h2, h3⟩ := ob_some h1
    obtain ⟨s', h4, h5⟩ := ob_some h3
    obtain ⟨h6, h7⟩ := cb_some h5
    cases h7
    rw [asS_some h2] at hx; rw [asS_some h4] at hy
    cases hx with | str e1 => cases hy with | str e2 =>
    rename_i s1 s2
    have h6 := ble_true h6
    rw [lenN_eq, lenN_eq, ← e1, ← e2, bl_length, bl_length] at h6
    have h6 : s1.size + s2.size ≤ 1000000 := h6
    refine .of (r := .string (s1 ++ s2)) guard_str ?_ (.str (by rw [appN_eq, bl_append, e1, e2]))
    have : ¬ (((s1.size + s2.size : Nat) : Int) > IntKind.i64.max) := by
      show ¬ (_ > (9223372036854775807 : Int)); omega
    simp only [binOp, Op.stringOp, if_neg this]; rfl
  · obtain ⟨q, hq, h3⟩ := ob_some h1
    rw [asI_some hp] at hx; rw [asI_some hq] at hy
    cases hx; cases hy
    obtain ⟨r, h4, h5⟩ := addQ_sound h3 μ w
    exact .of guard_int h4 h5
theorem sub_sound {P : Program} {μ : Mu} {w : World} {t : TypeId} {ox oy : Operand} {a b : Value} {x y v : AV} (h : subE P t x y = some v) (hx : RV μ x a) (hy : RV μ y b) : BinOk P μ w .sub t ox oy a b v := by
  obtain ⟨p, hp, h1⟩ := ob_some h
  obtain ⟨q, hq, h3⟩ := ob_some h1
  rw [asI_some hp] at hx; rw [asI_some hq] at hy
  cases hx; cases hy
  obtain ⟨r, h4, h5⟩ := subQ_sound h3 μ w
  exact .of guard_int h4 h5
theorem other_sound {P : Program} {μ : Mu} {w : World} {op : BinOp} {t : TypeId} {ox oy : Operand} {a b : Value} {x y v : AV} (h : otherE P op t x y = some v) (hx : RV μ x a) (hy : RV μ y b) : BinOk P μ w op t ox oy a b v := by
  obtain ⟨p, hp, h1⟩ := ob_some h
  obtain ⟨q, hq, h3⟩ := ob_some h1
  rw [asI_some hp] at hx; rw [asI_some hq] at hy
  cases hx; cases hy
  obtain ⟨r, h4, h5⟩ := slowE_sound h3 μ w
  exact .of guard_int h4 h5
theorem bin_sound {T0 : Tab} (hT : TabOk T0) {μ : Mu} {w : World} {op : BinOp} {t : TypeId} {ox oy : Operand} {a b : Value} {x y v : AV}
    (h : (binE op).run T0.P (kindT T0 ox oy t) t x y = some v) (hx : RV μ x a) (hy : RV μ y b) : BinOk T0.P μ w op t ox oy a b v := by
  cases op with
  | add => exact add_sound h hx hy
  | sub => exact sub_sound h hx hy
  | eql => obtain ⟨r, h1, h2, h3⟩ := eqE_sound hT (neg := false) h hx hy (w := w); exact .of h1 h2 h3
  | neq => obtain ⟨r, h1, h2, h3⟩ := eqE_sound hT (neg := true) h hx hy (w := w); exact .of h1 h2 h3
  | lss => exact cmp_sound .lss cmL (i_lss _ _ _) (s_lss _ _ _) h hx hy
  | leq => exact cmp_sound .leq cmM (i_leq _ _ _) (s_leq _ _ _) h hx hy
  | gtr => exact cmp_sound .gtr cmA (i_gtr _ _ _) (s_gtr _ _ _) h hx hy
  | geq => exact cmp_sound .geq cmG (i_geq _ _ _) (s_geq _ _ _) h hx hy
  | _ => exact other_sound h hx hy
end Ev
end Go.Proofs.YtpmjneggkccaiaaGreatDoor
