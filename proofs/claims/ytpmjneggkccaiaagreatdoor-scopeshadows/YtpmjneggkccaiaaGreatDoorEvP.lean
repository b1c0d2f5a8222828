/- The operations that make values out of values. -/
import Derived.Test.YtpmjneggkccaiaaGreatDoorEvO
import Derived.Laws.Runes
set_option linter.unusedVariables false
set_option linter.unusedSimpArgs false
namespace Go.Proofs.YtpmjneggkccaiaaGreatDoor
namespace Ev
/-- What is put off. -/
def RD1 (μ : Mu) (D : Deferred) : AD → Prop
  | .mark b => ∃ l, μ b = some l ∧ D = { target := .collected l.blk, args := #[] }
  | .call fn cap args => ∃ xs ys, RVs μ args xs ∧ RVs μ cap ys ∧ (∀ n, fn ≠ .yield n) ∧ D = { target := .fn fn ⟨ys⟩, args := ⟨xs⟩ }
/-- What the world answers is what the evaluator says. -/
def OutOk (T0 : Tab) (w0 : Fx) (μ : Mu) (w : World) (r : Result Next) : Out → Prop
  | .pv v => ∃ x, r = .ok (.value x) w ∧ RV μ v x
  | .nw mk o => ∃ x obj cap, r = .ok (.value x) { w with heap := w.heap.push obj } ∧ ∀ b, μ b = none → RV (μ.put b ⟨w.heap.size, 0, cap⟩) (mk b) x ∧ RO (μ.put b ⟨w.heap.size, 0, cap⟩) ⟨w.heap.size, 0, cap⟩ { w with heap := w.heap.push obj } o
  | .val v hp nx => ∃ x w' μ', (r = .ok (.value x) w' ∨ (r = .ok .skip w' ∧ x = undef)) ∧ Mu.le μ μ' ∧ HR w0 μ' hp nx w' ∧ RV μ' v x
  | .call f args => ∃ xs, r = (callFunc f ⟨xs⟩).run T0.P w ∧ RVs μ args xs
  | .round b args => ∃ l xs, μ b = some l ∧ r = (Instr.yield l.blk ⟨xs⟩).run T0.P w ∧ RVs μ args xs
  | .pick ls nx => ∃ q ∈ ls, ∃ x w' μ', r = .ok (.value x) w' ∧ Mu.le μ μ' ∧ HR w0 μ' q.2 nx w' ∧ RV μ' q.1 x
  | .pan v => ∃ x, r = .halt (.panic x) w ∧ RV μ v x
  | .dfd d => ∃ D, r = .ok (.defer D) w ∧ RD1 μ D d
  | .rcv => r = .ok .recover w
theorem pureRun_run {P : Program} {α : Type} : ∀ {s : Sem α} {a : α}, pureRun P s = some a → ∀ w, s.run P w = .ok a w
  | .pure _, _, h, w => by simp only [pureRun] at h; cases h; rfl
  | .program k, _, h, w => by
    simp only [pureRun] at h
    simp only [Sem.run]
    exact pureRun_run h w
  | .load .., _, h, _ => by simp [pureRun] at h
  | .store .., _, h, _ => by simp [pureRun] at h
  | .new .., _, h, _ => by simp [pureRun] at h
  | .shape .., _, h, _ => by simp [pureRun] at h
  | .freeze .., _, h, _ => by simp [pureRun] at h
  | .frozen .., _, h, _ => by simp [pureRun] at h
  | .getObj .., _, h, _ => by simp [pureRun] at h
  | .setObj .., _, h, _ => by simp [pureRun] at h
  | .choose .., _, h, _ => by simp [pureRun] at h
  | .sys .., _, h, _ => by simp [pureRun] at h
  | .mark _ k, _, h, w => by
    simp only [pureRun] at h
    simp only [Sem.run]
    exact pureRun_run h w
  | .halt .., _, h, _ => by simp [pureRun] at h
theorem slowE_sound {P : Program} {op : BinOp} {t : TypeId} {a b : IntKind × Int} {v : AV} (h : slowE P op t a b = some v) (μ : Mu) (w : World) :
    ∃ x, (binOp op t (.int a.1 a.2) (.int b.1 b.2)).run P w = .ok x w ∧ RV μ v x := by
  obtain ⟨y, h1, h2⟩ := ob_some h
  obtain ⟨r, h3, h4⟩ := ob_some h2
  obtain ⟨p, h5, h6⟩ := ob_some h4
  cases h6
  exact ⟨y, pureRun_run h1 w, cv1_sound μ h3⟩
theorem natsI_some {a b : IntKind × Int} {q : Nat × Nat} (h : natsI a b = some q) : a = (.i64, .ofNat q.1) ∧ b = (.i64, .ofNat q.2) := by
  obtain ⟨h1, h2⟩ := cb_some h
  obtain ⟨h3, h4⟩ := cb_some h2
  obtain ⟨x, h5, h6⟩ := ob_some h4
  obtain ⟨y, h7, h8⟩ := ob_some h6
  cases h8
  exact ⟨Prod.ext (isI64_true h1) (natI_some h5), Prod.ext (isI64_true h3) (natI_some h7)⟩
theorem bin_add (t : TypeId) (P : Program) (w : World) (m n : Nat) (h : m + n < 9223372036854775808) :
    (binOp .add t (.int .i64 (.ofNat m)) (.int .i64 (.ofNat n))).run P w = .ok (.int .i64 (.ofNat (m + n))) w := by
  have e : IntKind.i64.wrap ((m : Int) + n) = (m : Int) + n := wrap_small _ (by omega) (by omega)
  simp [binOp, Op.intArith, e]
theorem bin_sub (t : TypeId) (P : Program) (w : World) (m n : Nat) (h : n ≤ m) (hm : m < 9223372036854775808) :
    (binOp .sub t (.int .i64 (.ofNat m)) (.int .i64 (.ofNat n))).run P w = .ok (.int .i64 (.ofNat (m - n))) w := by
  have e : IntKind.i64.wrap ((m : Int) - n) = ((m - n : Nat) : Int) := by
    rw [wrap_small _ (by omega) (by omega)]; omega
  simp [binOp, Op.intArith, e]
theorem addQ_sound {P : Program} {t : TypeId} {a b : IntKind × Int} {v : AV} (h : addQ P t a b = some v) (μ : Mu) (w : World) :
    ∃ x, (binOp .add t (.int a.1 a.2) (.int b.1 b.2)).run P w = .ok x w ∧ RV μ v x := by
  rcases oc_or h with ⟨_, h1⟩ | ⟨q, h1, h2⟩
  · exact slowE_sound h1 μ w
  · obtain ⟨e1, e2⟩ := natsI_some h1
    obtain ⟨h3, h4⟩ := cb_some h2
    cases h4
    rw [blt_eq] at h3
    subst e1; subst e2
    exact ⟨_, bin_add t P w q.1 q.2 (by simpa using h3), .int⟩
theorem subQ_sound {P : Program} {t : TypeId} {a b : IntKind × Int} {v : AV} (h : subQ P t a b = some v) (μ : Mu) (w : World) :
    ∃ x, (binOp .sub t (.int a.1 a.2) (.int b.1 b.2)).run P w = .ok x w ∧ RV μ v x := by
  rcases oc_or h with ⟨_, h1⟩ | ⟨q, h1, h2⟩
  · exact slowE_sound h1 μ w
  · obtain ⟨e1, e2⟩ := natsI_some h1
    rcases tb_or h2 with ⟨h3, h4⟩ | ⟨_, h4⟩
    · obtain ⟨h5, h6⟩ := cb_some h4
      cases h6
      rw [blt_eq] at h5
      subst e1; subst e2
      exact ⟨_, bin_sub t P w q.1 q.2 (ble_true h3) (by simpa using h5), .int⟩
    · exact slowE_sound h4 μ w
/-- The guard ahead of '==' says nothing where one of the two is neither nil of an interface nor a struct. -/
theorem eqGuard_a {P : Program} {w : World} {op : BinOp} {t : TypeId} {x y : Operand} {a b : Value} (h : a ≠ .nilIface) (h' : ∀ c, a ≠ .agg c) :
    (eqGuard op t x y a b).run P w = .ok () w := by
  cases a with
  | nilIface => exact absurd rfl h
  | agg c => exact absurd rfl (h' c)
  | _ => cases op <;> rfl
theorem eqGuard_n {P : Program} {w : World} {op : BinOp} {t : TypeId} {x y : Operand} {b : Value} (h : b ≠ .nilIface) :
    (eqGuard op t x y .nilIface b).run P w = .ok () w := by
  cases b with
  | nilIface => exact absurd rfl h
  | _ => cases op <;> rfl
theorem bl_toList (s : ByteArray) : s.toList.map (·.toNat) = bl s := by
  rw [bl, ByteArray.toList_eq]
theorem lt_toList : ∀ (a b : List UInt8), Op.bytesLess a b = ltLN (a.map (·.toNat)) (b.map (·.toNat))
  | [], [] => rfl
  | [], _ :: _ => rfl
  | _ :: _, [] => rfl
  | x :: a, y :: b => by
    have ih := lt_toList a b
    show (decide (x < y) || (x == y && Op.bytesLess a b)) = tb (Nat.blt x.toNat y.toNat) true (tb (Nat.beq x.toNat y.toNat) (ltLN (a.map (·.toNat)) (b.map (·.toNat))) false)
    rw [ih, blt_eq]
    by_cases h : x < y
    · have : x.toNat < y.toNat := UInt8.lt_iff_toNat_lt.1 h
      simp [h, this, tb_true]
    · have hn : ¬ x.toNat < y.toNat := fun q => h (UInt8.lt_iff_toNat_lt.2 q)
      simp only [h, hn, decide_false, tb_false, Bool.false_or]
      cases q : Nat.beq x.toNat y.toNat with
      | true =>
        have e : x = y := UInt8.toNat_inj.1 (Nat.eq_of_beq_eq_true q)
        simp [e, tb_true]
      | false =>
        have e : x ≠ y := fun e => Nat.ne_of_beq_eq_false q (by rw [e])
        simp [e, tb_false]
theorem eq_toList (s t : ByteArray) : (s.toList == t.toList) = eqLN (bl s) (bl t) := by
  rw [eqLN_eq]
  by_cases h : s = t
  · subst h; simp
  · have h1 : bl s ≠ bl t := fun e => h (bl_inj e)
    have h2 : s.toList ≠ t.toList := fun e => h1 (by rw [← bl_toList, ← bl_toList, e])
    simp [h1, h2]
theorem less_toList (s t : ByteArray) : Op.bytesLess s.toList t.toList = ltLN (bl s) (bl t) := by
  rw [lt_toList, bl_toList, bl_toList]
end Ev
end Go.Proofs.YtpmjneggkccaiaaGreatDoor
