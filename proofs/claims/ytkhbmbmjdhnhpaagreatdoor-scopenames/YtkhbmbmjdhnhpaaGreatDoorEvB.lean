/- What signs answer, all together. -/
import Derived.Test.YtkhbmbmjdhnhpaaGreatDoorEvQ
set_option linter.unusedVariables false
set_option linter.unusedSimpArgs false
namespace Go.Proofs.YtkhbmbmjdhnhpaaGreatDoor
namespace Ev
theorem dKind0 {d : TypeDesc} (h : dKind d = 0) : ∃ e, d = .pointer e := by cases d <;> first | exact ⟨_, rfl⟩ | (exact absurd h (by simp [dKind]))
theorem dKind1 {d : TypeDesc} (h : dKind d = 1) : ∃ e, d = .slice e := by cases d <;> first | exact ⟨_, rfl⟩ | (exact absurd h (by simp [dKind]))
theorem dKind2 {d : TypeDesc} (h : dKind d = 2) : ∃ k e, d = .map k e := by cases d <;> first | exact ⟨_, _, rfl⟩ | (exact absurd h (by simp [dKind]))
theorem dKind3 {d : TypeDesc} (h : dKind d = 3) : ∃ p r v, d = .func p r v := by cases d <;> first | exact ⟨_, _, _, rfl⟩ | (exact absurd h (by simp [dKind]))
theorem dKind4 {d : TypeDesc} (h : dKind d = 4) : ∃ m, d = .interface m := by cases d <;> first | exact ⟨_, rfl⟩ | (exact absurd h (by simp [dKind]))
theorem dKind5 {d : TypeDesc} (h : dKind d = 5) : d = .bool := by cases d <;> first | rfl | (exact absurd h (by simp [dKind]))
theorem eqGuard_c {P : Program} {w : World} {op : BinOp} {t : TypeId} {x y : Operand} (h : orB' (isCst x) (isCst y) = true) : (eqGuard op t x y .nilIface .nilIface).run P w = .ok () w := by
  cases x <;> cases y <;> first | (cases op <;> rfl) | cases h
/-- '==' and '!=' of two values that are no numbers and no texts. -/
structure EqOk (P : Program) (t : TypeId) (w : World) (ox oy : Operand) (a b : Value) (r : Bool) : Prop where
  eq : (Op.equal t a b).run P w = .ok r w
  gd : ∀ op, (eqGuard op t ox oy a b).run P w = .ok () w
  e : binOp .eql t a b = (do pure (.bool (← Op.equal t a b)))
  n : binOp .neq t a b = (do pure (.bool (!(← Op.equal t a b))))
theorem eqNil_sound {P : Program} {t : TypeId} {w : World} {μ : Mu} {k : Nat} {x y : AV} {a b : Value} {r : Bool} {d : TypeDesc}
    {ox oy : Operand} (h : eqNil k x y = some r) (hx : RV μ x a) (hy : RV μ y b) (hu : P.underlying t = some d) (hk : dKind d = Nat.mod k 20) (hc : Nat.beq k 4 = false → Nat.mod k 20 = 4 → orB' (isCst ox) (isCst oy) = true) : EqOk P t w ox oy a b r := by
  obtain ⟨p, h1, h⟩ := ob_some h
  obtain ⟨q, h2, h⟩ := ob_some h
  obtain ⟨h3, h⟩ := cb_some h
  obtain ⟨h4, h⟩ := cb_some h
  have h3 := beq_true h3
  have h4 := beq_true h4
  rw [← h4] at hk hc
  have hr : (p.2 = true ∧ q.2 = true ∧ Nat.beq k 4 = false ∧ r = true) ∨ (p.2 = true ∧ q.2 = false ∧ r = false) ∨ (p.2 = false ∧ q.2 = true ∧ r = false) := by
    rcases tb_or h with ⟨e1, h5⟩ | ⟨e1, h5⟩
    · rcases tb_or h5 with ⟨e2, h6⟩ | ⟨e2, h6⟩
      · rcases tb_or h6 with ⟨_, h7⟩ | ⟨e3, h7⟩
        · cases h7
        · cases h7; exact .inl ⟨e1, e2, e3, rfl⟩
      · cases h6; exact .inr (.inl ⟨e1, e2, rfl⟩)
    · rcases tb_or h5 with ⟨e2, h6⟩ | ⟨_, h6⟩
      · cases h6; exact .inr (.inr ⟨e1, e2, rfl⟩)
      · cases h6
  clear h
  cases hx <;> cases h1 <;> cases hy <;> cases h2 <;> first
    | (exact absurd h3 (by decide))
    | (rcases hr with ⟨h5, h6, h7, rfl⟩ | ⟨h5, h6, rfl⟩ | ⟨h5, h6, rfl⟩ <;> first
        | (exact absurd h5 (by decide))
        | (exact absurd h6 (by decide))
        | (obtain ⟨e, rfl⟩ := dKind0 hk; exact ⟨equal_ptr hu _, fun _ => eqGuard_a (by simp) (by simp), rfl, rfl⟩)
        | (obtain ⟨e, rfl⟩ := dKind0 hk; exact ⟨equal_ptr' hu _, fun _ => eqGuard_a (by simp) (by simp), rfl, rfl⟩)
        | (obtain ⟨e, rfl⟩ := dKind1 hk; exact ⟨equal_sl hu _ _ _ _ _, fun _ => eqGuard_a (by simp) (by simp), rfl, rfl⟩)
        | (obtain ⟨e, rfl⟩ := dKind1 hk; exact ⟨equal_sl' hu _ _ _ _ _, fun _ => eqGuard_a (by simp) (by simp), rfl, rfl⟩)
        | (obtain ⟨e, f, rfl⟩ := dKind2 hk; exact ⟨equal_map hu _, fun _ => eqGuard_a (by simp) (by simp), rfl, rfl⟩)
        | (obtain ⟨e, f, rfl⟩ := dKind2 hk; exact ⟨equal_map' hu _, fun _ => eqGuard_a (by simp) (by simp), rfl, rfl⟩)
        | (obtain ⟨e, f, g, rfl⟩ := dKind3 hk; exact ⟨equal_fn hu, fun _ => eqGuard_a (by simp) (by simp), rfl, rfl⟩)
        | (obtain ⟨e, f, g, rfl⟩ := dKind3 hk; exact ⟨equal_fn1 hu _ _ _, fun _ => eqGuard_a (by simp) (by simp), rfl, rfl⟩)
        | (obtain ⟨e, f, g, rfl⟩ := dKind3 hk; exact ⟨equal_fn2 hu _ _ _, fun _ => eqGuard_a (by simp) (by simp), rfl, rfl⟩)
        | (obtain ⟨e, rfl⟩ := dKind4 hk; exact ⟨equal_if0 hu, fun _ => eqGuard_c (hc h7 rfl), rfl, rfl⟩)
        | (obtain ⟨e, rfl⟩ := dKind4 hk; exact ⟨equal_if1 hu _ _, fun _ => eqGuard_n (by simp), rfl, rfl⟩)
        | (obtain ⟨e, rfl⟩ := dKind4 hk; exact ⟨equal_if2 hu _ _, fun _ => eqGuard_a (by simp) (by simp), rfl, rfl⟩))
theorem dKind_lt (d : TypeDesc) : dKind d < 20 := by cases d <;> (simp only [dKind]; decide)
theorem kindT_of {T0 : Tab} (hT : TabOk T0) {t : TypeId} {ox oy : Operand} (hk : kindT T0 ox oy t ≠ 9) : ∃ d, T0.P.underlying t = some d ∧ dKind d = Nat.mod (kindT T0 ox oy t) 20 ∧
    (Nat.beq (kindT T0 ox oy t) 4 = false → Nat.mod (kindT T0 ox oy t) 20 = 4 → orB' (isCst ox) (isCst oy) = true) := by
  rcases oc_or (r := kindT T0 ox oy t) rfl with ⟨_, q⟩ | ⟨i, q, e⟩
  · exact absurd q.symm hk
  · have hl := dKind_lt i.d
    refine ⟨i.d, (hT.ty t i q).und, ?_⟩
    rcases tb_or e with ⟨h1, h2⟩ | ⟨_, h2⟩
    · rw [← h2]
      refine ⟨?_, fun _ _ => h1⟩
      show _ = (dKind i.d + 20) % 20
      omega
    · rw [← h2]
      refine ⟨(Nat.mod_eq_of_lt hl).symm, fun h3 h4 => ?_⟩
      have h4 : dKind i.d % 20 = 4 := h4
      rw [Nat.mod_eq_of_lt hl] at h4
      rw [h4] at h3
      exact absurd h3 (by decide)
theorem nilK_le {x : AV} {p : Nat × Bool} (h : nilK x = some p) : p.1 ≤ 4 := by cases x <;> cases h <;> decide
/-- What '==' ('!=') says. -/
theorem eqE_sound {T0 : Tab} (hT : TabOk T0) {t : TypeId} {w : World} {μ : Mu} {neg : Bool} {x y v : AV} {a b : Value} {ox oy : Operand} (h : eqE neg (kindT T0 ox oy t) x y = some v) (hx : RV μ x a) (hy : RV μ y b) :
    ∃ r, (eqGuard (if neg then .neq else .eql) t ox oy a b).run T0.P w = .ok () w ∧ (binOp (if neg then .neq else .eql) t a b).run T0.P w = .ok r w ∧ RV μ v r := by
  obtain ⟨r, h1, h2⟩ := ob_some h
  cases h2
  rcases oc_or h1 with ⟨_, h3⟩ | ⟨p, hp, h3⟩
  · rcases oc_or h3 with ⟨_, h4⟩ | ⟨s, hs, h4⟩
    · have key : EqOk T0.P t w ox oy a b r := by
        rcases tb_or h4 with ⟨h5, h6⟩ | ⟨h5, h6⟩
        · obtain ⟨_, h7⟩ := cb_some h6
          obtain ⟨m, hm, h8⟩ := ob_some h7
          obtain ⟨n, hn, h9⟩ := ob_some h8
          cases h9
          rw [asB_some hm] at hx; rw [asB_some hn] at hy
          cases hx; cases hy
          have h5 := beq_true h5
          obtain ⟨d, hu, hd, _⟩ := kindT_of (ox := ox) (oy := oy) (t := t) hT (fun e => by rw [e] at h5; exact absurd h5 (by decide))
          rw [dKind5 (hd.trans h5)] at hu
          exact ⟨by rw [equal_bool hu, eqB_eq], fun _ => eqGuard_a (by simp) (by simp), rfl, rfl⟩
        · have hk : kindT T0 ox oy t ≠ 9 := by
            intro e
            obtain ⟨p, q1, q⟩ := ob_some h6
            obtain ⟨q', _, q⟩ := ob_some q
            obtain ⟨_, q⟩ := cb_some q
            obtain ⟨q2, _⟩ := cb_some q
            have q2 := beq_true q2
            have := nilK_le q1
            rw [e] at q2
            have q2 : p.1 = 9 := q2
            omega
          obtain ⟨d, hu, hd, hc⟩ := kindT_of hT hk
          exact eqNil_sound h6 hx hy hu hd hc
      cases neg with
      | false => exact ⟨.bool r, key.gd _, by simp [key.e, key.eq], .bool⟩
      | true => exact ⟨.bool !r, key.gd _, by simp [key.n, key.eq], by rw [notB_eq]; exact .bool⟩
    · obtain ⟨s', hs', h5⟩ := ob_some h4
      cases h5
      rw [asS_some hs] at hx; rw [asS_some hs'] at hy
      cases hx with | str e1 => cases hy with | str e2 =>
      subst e1; subst e2
      cases neg with
      | false => exact ⟨_, eqGuard_a (by simp) (by simp), by simp only [Bool.false_eq_true, if_false, binOp, Op.stringOp]; rfl, by rw [eq_toList]; exact .bool⟩
      | true => exact ⟨_, eqGuard_a (by simp) (by simp), by simp only [if_true, binOp, Op.stringOp]; rfl, by rw [eq_toList, notB_eq]; exact .bool⟩
  · obtain ⟨q, hq, h4⟩ := ob_some h3
    obtain ⟨h5, h6⟩ := cb_some h4
    cases h6
    have hk := kindEq_true h5
    rw [asI_some hp] at hx; rw [asI_some hq] at hy
    cases hx; cases hy
    cases neg with
    | false => exact ⟨_, eqGuard_a (by simp) (by simp), by simp only [Bool.false_eq_true, if_false, binOp, hk, ne_eq, not_true_eq_false, Op.intCmp]; rfl, by rw [eqInt_eq]; exact .bool⟩
    | true => exact ⟨_, eqGuard_a (by simp) (by simp), by simp only [if_true, binOp, hk, ne_eq, not_true_eq_false, if_false, Op.intCmp]; rfl, by rw [eqInt_eq, notB_eq]; exact .bool⟩
end Ev
end Go.Proofs.YtkhbmbmjdhnhpaaGreatDoor
