/- The operations that make values out of values. -/
import Derived.Test.YtdofhlmffponoaaEvA2
import Derived.Laws.Runes
import Derived.Laws.Entries
import Derived.Laws.StructEq
import Derived.Shelf.Abstract
import Derived.Lib.Builder
set_option linter.unusedVariables false
set_option linter.unusedSimpArgs false
namespace Go.Proofs.Ytdofhlmffponoaa
namespace Ev
/-- What is put off. -/
def RD1 (μ : Mu) (D : Deferred) : AD → Prop
  | .mark b => ∃ l, μ b = some l ∧ D = { target := .collected l.blk, args := #[] }
  | .call fn cap args => ∃ xs ys, RVs μ args xs ∧ RVs μ cap ys ∧ (∀ n, fn ≠ .yield n) ∧ D = { target := .fn fn ⟨ys⟩, args := ⟨xs⟩ }
/-- What the world answers is what the evaluator says. -/
def OutOk (T0 : Tab) (w0 : Fx) (μ : Mu) (w : World) (r : Result Next) : Out → Prop
  | .pv v => ∃ x, r = .ok (.value x) w ∧ RV μ v x
  | .nw mk o => ∃ x obj cap, r = .ok (.value x) { w with heap := w.heap.push obj } ∧ ∀ b, μ b = none → RV (μ.put b ⟨w.heap.size, 0, cap⟩) (mk b) x ∧ RO (μ.put b ⟨w.heap.size, 0, cap⟩) ⟨w.heap.size, 0, cap⟩ { w with heap := w.heap.push obj } o
  | .val v hp nx => ∃ x w' μ', (r = .ok (.value x) w' ∨ (r = .ok .skip w' ∧ x = undef)) ∧ Mu.le μ μ' ∧ HR w0 μ' hp nx w' ∧ RV μ' v x
  | .call f args => ∃ xs, r = (callFunc f ⟨xs⟩).run T0.P w ∧ RVs μ args xs
  | .round b args => ∃ l xs, μ b = some l ∧ r = (Instr.yield l.blk ⟨xs⟩).run T0.P w ∧ RVs μ args xs
  | .pick ls nx => ∃ q ∈ ls, ∃ x w' μ', r = .ok (.value x) w' ∧ Mu.le μ μ' ∧ HR w0 μ' q.2 nx w' ∧ RV μ' q.1 x
  | .pan v => ∃ x, r = .halt (.panic x) w ∧ RV μ v x
  | .dfd d => ∃ D, r = .ok (.defer D) w ∧ RD1 μ D d
  | .rcv => r = .ok .recover w
theorem pureRun_run {P : Program} {α : Type} : ∀ {s : Sem α} {a : α}, pureRun P s = some a → ∀ w, s.run P w = .ok a w
  | .pure _, _, h, w => by simp only [pureRun] at h; cases h; rfl
  | .program k, _, h, w => by
    simp only [pureRun] at h
    simp only [Sem.run]
    exact pureRun_run h w
  | .load .., _, h, _ => by simp [pureRun] at h
  | .store .., _, h, _ => by simp [pureRun] at h
  | .new .., _, h, _ => by simp [pureRun] at h
  | .shape .., _, h, _ => by simp [pureRun] at h
  | .freeze .., _, h, _ => by simp [pureRun] at h
  | .frozen .., _, h, _ => by simp [pureRun] at h
  | .getObj .., _, h, _ => by simp [pureRun] at h
  | .setObj .., _, h, _ => by simp [pureRun] at h
  | .choose .., _, h, _ => by simp [pureRun] at h
  | .sys .., _, h, _ => by simp [pureRun] at h
  | .mark _ k, _, h, w => by
    simp only [pureRun] at h
    simp only [Sem.run]
    exact pureRun_run h w
  | .halt .., _, h, _ => by simp [pureRun] at h
theorem slowE_sound {P : Program} {op : BinOp} {t : TypeId} {a b : IntKind × Int} {v : AV} (h : slowE P op t a b = some v) (μ : Mu) (w : World) :
    ∃ x, (binOp op t (.int a.1 a.2) (.int b.1 b.2)).run P w = .ok x w ∧ RV μ v x := by
  obtain ⟨y, h1, h2⟩ := ob_some h
  obtain ⟨r, h3, h4⟩ := ob_some h2
  obtain ⟨p, h5, h6⟩ := ob_some h4
  cases h6
  exact ⟨y, pureRun_run h1 w, cv1_sound μ h3⟩
theorem natsI_some {a b : IntKind × Int} {q : Nat × Nat} (h : natsI a b = some q) : a = (.i64, .ofNat q.1) ∧ b = (.i64, .ofNat q.2) := by
  obtain ⟨h1, h2⟩ := cb_some h
  obtain ⟨h3, h4⟩ := cb_some h2
  obtain ⟨x, h5, h6⟩ := ob_some h4
  obtain ⟨y, h7, h8⟩ := ob_some h6
  cases h8
  exact ⟨Prod.ext (isI64_true h1) (natI_some h5), Prod.ext (isI64_true h3) (natI_some h7)⟩
theorem bin_add (t : TypeId) (P : Program) (w : World) (m n : Nat) (h : m + n < 9223372036854775808) :
    (binOp .add t (.int .i64 (.ofNat m)) (.int .i64 (.ofNat n))).run P w = .ok (.int .i64 (.ofNat (m + n))) w := by
  have e : IntKind.i64.wrap ((m : Int) + n) = (m : Int) + n := wrap_small _ (by omega) (by omega)
  simp [binOp, Op.intArith, e]
theorem bin_sub (t : TypeId) (P : Program) (w : World) (m n : Nat) (h : n ≤ m) (hm : m < 9223372036854775808) :
    (binOp .sub t (.int .i64 (.ofNat m)) (.int .i64 (.ofNat n))).run P w = .ok (.int .i64 (.ofNat (m - n))) w := by
  have e : IntKind.i64.wrap ((m : Int) - n) = ((m - n : Nat) : Int) := by
    rw [wrap_small _ (by omega) (by omega)]; omega
  simp [binOp, Op.intArith, e]
theorem addQ_sound {P : Program} {t : TypeId} {a b : IntKind × Int} {v : AV} (h : addQ P t a b = some v) (μ : Mu) (w : World) :
    ∃ x, (binOp .add t (.int a.1 a.2) (.int b.1 b.2)).run P w = .ok x w ∧ RV μ v x := by
  rcases oc_or h with ⟨_, h1⟩ | ⟨q, h1, h2⟩
  · exact slowE_sound h1 μ w
  · obtain ⟨e1, e2⟩ := natsI_some h1
    obtain ⟨h3, h4⟩ := cb_some h2
    cases h4
    rw [blt_eq] at h3
    subst e1; subst e2
    exact ⟨_, bin_add t P w q.1 q.2 (by simpa using h3), .int⟩
theorem subQ_sound {P : Program} {t : TypeId} {a b : IntKind × Int} {v : AV} (h : subQ P t a b = some v) (μ : Mu) (w : World) :
    ∃ x, (binOp .sub t (.int a.1 a.2) (.int b.1 b.2)).run P w = .ok x w ∧ RV μ v x := by
  rcases oc_or h with ⟨_, h1⟩ | ⟨q, h1, h2⟩
  · exact slowE_sound h1 μ w
  · obtain ⟨e1, e2⟩ := natsI_some h1
    rcases tb_or h2 with ⟨h3, h4⟩ | ⟨_, h4⟩
    · obtain ⟨h5, h6⟩ := cb_some h4
      cases h6
      rw [blt_eq] at h5
      subst e1; subst e2
      exact ⟨_, bin_sub t P w q.1 q.2 (ble_true h3) (by simpa using h5), .int⟩
    · exact slowE_sound h4 μ w
/-- The guard ahead of '==' says nothing where one of the two is neither nil of an interface nor a struct. -/
theorem eqGuard_a {P : Program} {w : World} {op : BinOp} {t : TypeId} {x y : Operand} {a b : Value} (h : a ≠ .nilIface) (h' : ∀ c, a ≠ .agg c) :
    (eqGuard op t x y a b).run P w = .ok () w := by
  cases a with
  | nilIface => exact absurd rfl h
  | agg c => exact absurd rfl (h' c)
  | _ => cases op <;> rfl
theorem eqGuard_n {P : Program} {w : World} {op : BinOp} {t : TypeId} {x y : Operand} {b : Value} (h : b ≠ .nilIface) :
    (eqGuard op t x y .nilIface b).run P w = .ok () w := by
  cases b with
  | nilIface => exact absurd rfl h
  | _ => cases op <;> rfl
theorem bl_toList (s : ByteArray) : s.toList.map (·.toNat) = bl s := by
  rw [bl, ByteArray.toList_eq]
theorem lt_toList : ∀ (a b : List UInt8), Op.bytesLess a b = ltLN (a.map (·.toNat)) (b.map (·.toNat))
  | [], [] => rfl
  | [], _ :: _ => rfl
  | _ :: _, [] => rfl
  | x :: a, y :: b => by
    have ih := lt_toList a b
    show (decide (x < y) || (x == y && Op.bytesLess a b)) = tb (Nat.blt x.toNat y.toNat) true (tb (Nat.beq x.toNat y.toNat) (ltLN (a.map (·.toNat)) (b.map (·.toNat))) false)
    rw [ih, blt_eq]
    by_cases h : x < y
    · have : x.toNat < y.toNat := UInt8.lt_iff_toNat_lt.1 h
      simp [h, this, tb_true]
    · have hn : ¬ x.toNat < y.toNat := fun q => h (UInt8.lt_iff_toNat_lt.2 q)
      simp only [h, hn, decide_false, tb_false, Bool.false_or]
      cases q : Nat.beq x.toNat y.toNat with
      | true =>
        have e : x = y := UInt8.toNat_inj.1 (Nat.eq_of_beq_eq_true q)
        simp [e, tb_true]
      | false =>
        have e : x ≠ y := fun e => Nat.ne_of_beq_eq_false q (by rw [e])
        simp [e, tb_false]
theorem eq_toList (s t : ByteArray) : (s.toList == t.toList) = eqLN (bl s) (bl t) := by
  rw [eqLN_eq]
  by_cases h : s = t
  · subst h; simp
  · have h1 : bl s ≠ bl t := fun e => h (bl_inj e)
    have h2 : s.toList ≠ t.toList := fun e => h1 (by rw [← bl_toList, ← bl_toList, e])
    simp [h1, h2]
theorem less_toList (s t : ByteArray) : Op.bytesLess s.toList t.toList = ltLN (bl s) (bl t) := by
  rw [lt_toList, bl_toList, bl_toList]
end Ev
end Go.Proofs.Ytdofhlmffponoaa
/- Signs between two values. -/
set_option linter.unusedVariables false
set_option linter.unusedSimpArgs false
namespace Go.Proofs.Ytdofhlmffponoaa
namespace Ev
section
variable {P : Program} {t : TypeId} {w : World}
theorem equal_bool (hu : P.underlying t = some .bool) (a b : Bool) : (Op.equal t (.bool a) (.bool b)).run P w = .ok (a == b) w := by
  show (Op.equalIn (9999 + 1) t _ _).run P w = _
  rw [Op.equalIn]; simp only [Sem.run_bind, run_underlying hu, Result.andThen_ok]; rfl
theorem equal_ptr {e : TypeId} (hu : P.underlying t = some (.pointer e)) (b : Option Addr) : (Op.equal t (.pointer none) (.pointer b)).run P w = .ok b.isNone w := by
  show (Op.equalIn (9999 + 1) t _ _).run P w = _
  rw [Op.equalIn]; simp only [Sem.run_bind, run_underlying hu, Result.andThen_ok]; rfl
theorem equal_ptr' {e : TypeId} (hu : P.underlying t = some (.pointer e)) (a : Addr) : (Op.equal t (.pointer (some a)) (.pointer none)).run P w = .ok false w := by
  show (Op.equalIn (9999 + 1) t _ _).run P w = _
  rw [Op.equalIn]; simp only [Sem.run_bind, run_underlying hu, Result.andThen_ok]; rfl
theorem equal_sl {e : TypeId} (hu : P.underlying t = some (.slice e)) (b : Option Addr) (m n k l : Nat) : (Op.equal t (.slice none m n) (.slice b k l)).run P w = .ok b.isNone w := by
  show (Op.equalIn (9999 + 1) t _ _).run P w = _
  rw [Op.equalIn]; simp only [Sem.run_bind, run_underlying hu, Result.andThen_ok]; rfl
theorem equal_sl' {e : TypeId} (hu : P.underlying t = some (.slice e)) (a : Addr) (m n k l : Nat) : (Op.equal t (.slice (some a) m n) (.slice none k l)).run P w = .ok false w := by
  show (Op.equalIn (9999 + 1) t _ _).run P w = _
  rw [Op.equalIn]; simp only [Sem.run_bind, run_underlying hu, Result.andThen_ok]; rfl
theorem equal_map {k e : TypeId} (hu : P.underlying t = some (.map k e)) (b : Option Nat) : (Op.equal t (.map none) (.map b)).run P w = .ok b.isNone w := by
  show (Op.equalIn (9999 + 1) t _ _).run P w = _
  rw [Op.equalIn]; simp only [Sem.run_bind, run_underlying hu, Result.andThen_ok]; rfl
theorem equal_map' {k e : TypeId} (hu : P.underlying t = some (.map k e)) (a : Nat) : (Op.equal t (.map (some a)) (.map none)).run P w = .ok false w := by
  show (Op.equalIn (9999 + 1) t _ _).run P w = _
  rw [Op.equalIn]; simp only [Sem.run_bind, run_underlying hu, Result.andThen_ok]; rfl
theorem equal_fn {p r : Array TypeId} {v : Bool} (hu : P.underlying t = some (.func p r v)) : (Op.equal t .nilFunc .nilFunc).run P w = .ok true w := by
  show (Op.equalIn (9999 + 1) t _ _).run P w = _
  rw [Op.equalIn]; simp only [Sem.run_bind, run_underlying hu, Result.andThen_ok]; rfl
theorem equal_fn1 {p r : Array TypeId} {v : Bool} (hu : P.underlying t = some (.func p r v)) (f : Fn) (a b : Array Value) : (Op.equal t .nilFunc (.func f a b)).run P w = .ok false w := by
  show (Op.equalIn (9999 + 1) t _ _).run P w = _
  rw [Op.equalIn]; simp only [Sem.run_bind, run_underlying hu, Result.andThen_ok]; rfl
theorem equal_fn2 {p r : Array TypeId} {v : Bool} (hu : P.underlying t = some (.func p r v)) (f : Fn) (a b : Array Value) : (Op.equal t (.func f a b) .nilFunc).run P w = .ok false w := by
  show (Op.equalIn (9999 + 1) t _ _).run P w = _
  rw [Op.equalIn]; simp only [Sem.run_bind, run_underlying hu, Result.andThen_ok]; rfl
theorem equal_if0 {m : Array (String × TypeId)} (hu : P.underlying t = some (.interface m)) : (Op.equal t .nilIface .nilIface).run P w = .ok true w := by
  show (Op.equalIn (9999 + 1) t _ _).run P w = _
  rw [Op.equalIn]; simp only [Sem.run_bind, run_underlying hu, Result.andThen_ok]; rfl
theorem equal_if1 {m : Array (String × TypeId)} (hu : P.underlying t = some (.interface m)) (d : TypeId) (v : Value) : (Op.equal t .nilIface (.iface d v)).run P w = .ok false w := by
  show (Op.equalIn (9999 + 1) t _ _).run P w = _
  rw [Op.equalIn]; simp only [Sem.run_bind, run_underlying hu, Result.andThen_ok]; rfl
theorem equal_if2 {m : Array (String × TypeId)} (hu : P.underlying t = some (.interface m)) (d : TypeId) (v : Value) : (Op.equal t (.iface d v) .nilIface).run P w = .ok false w := by
  show (Op.equalIn (9999 + 1) t _ _).run P w = _
  rw [Op.equalIn]; simp only [Sem.run_bind, run_underlying hu, Result.andThen_ok]; rfl
end
end Ev
end Go.Proofs.Ytdofhlmffponoaa
/- What signs answer, all together. -/
set_option linter.unusedVariables false
set_option linter.unusedSimpArgs false
namespace Go.Proofs.Ytdofhlmffponoaa
namespace Ev
theorem dKind0 {d : TypeDesc} (h : dKind d = 0) : ∃ e, d = .pointer e := by cases d <;> first | exact ⟨_, rfl⟩ | (exact absurd h (by simp [dKind]))
theorem dKind1 {d : TypeDesc} (h : dKind d = 1) : ∃ e, d = .slice e := by cases d <;> first | exact ⟨_, rfl⟩ | (exact absurd h (by simp [dKind]))
theorem dKind2 {d : TypeDesc} (h : dKind d = 2) : ∃ k e, d = .map k e := by cases d <;> first | exact ⟨_, _, rfl⟩ | (exact absurd h (by simp [dKind]))
theorem dKind3 {d : TypeDesc} (h : dKind d = 3) : ∃ p r v, d = .func p r v := by cases d <;> first | exact ⟨_, _, _, rfl⟩ | (exact absurd h (by simp [dKind]))
theorem dKind4 {d : TypeDesc} (h : dKind d = 4) : ∃ m, d = .interface m := by cases d <;> first | exact ⟨_, rfl⟩ | (exact absurd h (by simp [dKind]))
theorem dKind5 {d : TypeDesc} (h : dKind d = 5) : d = .bool := by cases d <;> first | rfl | (exact absurd h (by simp [dKind]))
theorem eqGuard_c {P : Program} {w : World} {op : BinOp} {t : TypeId} {x y : Operand} (h : orB' (isCst x) (isCst y) = true) : (eqGuard op t x y .nilIface .nilIface).run P w = .ok () w := by
  cases x <;> cases y <;> first | (cases op <;> rfl) | cases h
/-- '==' and '!=' of two values that are no numbers and no texts. -/
structure EqOk (P : Program) (t : TypeId) (w : World) (ox oy : Operand) (a b : Value) (r : Bool) : Prop where
  eq : (Op.equal t a b).run P w = .ok r w
  gd : ∀ op, (eqGuard op t ox oy a b).run P w = .ok () w
  e : binOp .eql t a b = (do pure (.bool (← Op.equal t a b)))
  n : binOp .neq t a b = (do pure (.bool (!(← Op.equal t a b))))
theorem eqNil_sound {P : Program} {t : TypeId} {w : World} {μ : Mu} {k : Nat} {x y : AV} {a b : Value} {r : Bool} {d : TypeDesc}
    {ox oy : Operand} (h : eqNil k x y = some r) (hx : RV μ x a) (hy : RV μ y b) (hu : P.underlying t = some d) (hk : dKind d = Nat.mod k 20) (hc : Nat.beq k 4 = false → Nat.mod k 20 = 4 → orB' (isCst ox) (isCst oy) = true) : EqOk P t w ox oy a b r := by
  obtain ⟨p, h1, h⟩ := ob_some h
  obtain ⟨q, h2, h⟩ := ob_some h
  obtain ⟨h3, h⟩ := cb_some h
  obtain ⟨h4, h⟩ := cb_some h
  have h3 := beq_true h3
  have h4 := beq_true h4
  rw [← h4] at hk hc
  have hr : (p.2 = true ∧ q.2 = true ∧ Nat.beq k 4 = false ∧ r = true) ∨ (p.2 = true ∧ q.2 = false ∧ r = false) ∨ (p.2 = false ∧ q.2 = true ∧ r = false) := by
    rcases tb_or h with ⟨e1, h5⟩ | ⟨e1, h5⟩
    · rcases tb_or h5 with ⟨e2, h6⟩ | ⟨e2, h6⟩
      · rcases tb_or h6 with ⟨_, h7⟩ | ⟨e3, h7⟩
        · cases h7
        · cases h7; exact .inl ⟨e1, e2, e3, rfl⟩
      · cases h6; exact .inr (.inl ⟨e1, e2, rfl⟩)
    · rcases tb_or h5 with ⟨e2, h6⟩ | ⟨_, h6⟩
      · cases h6; exact .inr (.inr ⟨e1, e2, rfl⟩)
      · cases h6
  clear h
  cases hx <;> cases h1 <;> cases hy <;> cases h2 <;> first
    | (exact absurd h3 (by decide))
    | (rcases hr with ⟨h5, h6, h7, rfl⟩ | ⟨h5, h6, rfl⟩ | ⟨h5, h6, rfl⟩ <;> first
        | (exact absurd h5 (by decide))
        | (exact absurd h6 (by decide))
        | (obtain ⟨e, rfl⟩ := dKind0 hk; exact ⟨equal_ptr hu _, fun _ => eqGuard_a (by simp) (by simp), rfl, rfl⟩)
        | (obtain ⟨e, rfl⟩ := dKind0 hk; exact ⟨equal_ptr' hu _, fun _ => eqGuard_a (by simp) (by simp), rfl, rfl⟩)
        | (obtain ⟨e, rfl⟩ := dKind1 hk; exact ⟨equal_sl hu _ _ _ _ _, fun _ => eqGuard_a (by simp) (by simp), rfl, rfl⟩)
        | (obtain ⟨e, rfl⟩ := dKind1 hk; exact ⟨equal_sl' hu _ _ _ _ _, fun _ => eqGuard_a (by simp) (by simp), rfl, rfl⟩)
        | (obtain ⟨e, f, rfl⟩ := dKind2 hk; exact ⟨equal_map hu _, fun _ => eqGuard_a (by simp) (by simp), rfl, rfl⟩)
        | (obtain ⟨e, f, rfl⟩ := dKind2 hk; exact ⟨equal_map' hu _, fun _ => eqGuard_a (by simp) (by simp), rfl, rfl⟩)
        | (obtain ⟨e, f, g, rfl⟩ := dKind3 hk; exact ⟨equal_fn hu, fun _ => eqGuard_a (by simp) (by simp), rfl, rfl⟩)
        | (obtain ⟨e, f, g, rfl⟩ := dKind3 hk; exact ⟨equal_fn1 hu _ _ _, fun _ => eqGuard_a (by simp) (by simp), rfl, rfl⟩)
        | (obtain ⟨e, f, g, rfl⟩ := dKind3 hk; exact ⟨equal_fn2 hu _ _ _, fun _ => eqGuard_a (by simp) (by simp), rfl, rfl⟩)
        | (obtain ⟨e, rfl⟩ := dKind4 hk; exact ⟨equal_if0 hu, fun _ => eqGuard_c (hc h7 rfl), rfl, rfl⟩)
        | (obtain ⟨e, rfl⟩ := dKind4 hk; exact ⟨equal_if1 hu _ _, fun _ => eqGuard_n (by simp), rfl, rfl⟩)
        | (obtain ⟨e, rfl⟩ := dKind4 hk; exact ⟨equal_if2 hu _ _, fun _ => eqGuard_a (by simp) (by simp), rfl, rfl⟩))
theorem notB_off {a : Bool} (h : notB a = true) : a = false := by cases a <;> first | rfl | cases h
def lumpD (d : TypeDesc) : Bool := match d with
  | .struct _ | .array _ _ => true
  | _ => false
theorem run_part1 {P : Program} {t : TypeId} {d : TypeDesc} {cs : Array Value} {o : Nat} {v : Value} (h : P.underlying t = some d) (hd : lumpD d = false) (hv : cs[o]? = some v) (w : World) :
    (part t cs o).run P w = .ok v w := by
  have ha : (isAgg t).run P w = .ok false w := by cases d <;> first | (simp_all [isAgg, run_underlying h]; done) | cases hd
  simp only [part, Sem.run_bind, ha, Result.andThen_ok, Bool.false_eq_true, if_false, hv, Sem.run_pure]
theorem eqPl_sound {P : Program} {t : TypeId} {μ : Mu} {x y : AV} {a b : Value} {r : Bool} {w : World} {n : Nat} (h : eqPl (P.underlying t) x y = some r) (hx : RV μ x a) (hy : RV μ y b) :
    (∃ d, P.underlying t = some d ∧ lumpD d = false) ∧ (Op.equalIn (n + 1) t a b).run P w = .ok r w := by
  unfold eqPl at h
  split at h
  · rename_i k hk
    obtain ⟨p, h1, h⟩ := ob_some h
    obtain ⟨q, h2, h⟩ := ob_some h
    obtain ⟨h3, h⟩ := cb_some h
    cases h
    rw [asI_some h1] at hx; rw [asI_some h2] at hy
    cases hx; cases hy
    refine ⟨⟨_, hk, rfl⟩, ?_⟩
    rw [kindEq_true h3, run_equalIn_int w n t _ _ _ _ hk, eqInt_eq]
  · rename_i hk
    obtain ⟨p, h1, h⟩ := ob_some h
    obtain ⟨q, h2, h⟩ := ob_some h
    cases h
    rw [asS_some h1] at hx; rw [asS_some h2] at hy
    cases hx with | str e1 => cases hy with | str e2 =>
    subst e1; subst e2
    refine ⟨⟨_, hk, rfl⟩, ?_⟩
    rw [run_equalIn_string w n t _ _ hk, eq_toList, eqTx_bl]
  · rename_i hk
    obtain ⟨p, h1, h⟩ := ob_some h
    obtain ⟨q, h2, h⟩ := ob_some h
    cases h
    rw [asB_some h1] at hx; rw [asB_some h2] at hy
    cases hx; cases hy
    refine ⟨⟨_, hk, rfl⟩, ?_⟩
    rw [run_equalIn_bool' w n t _ _ hk, eqB_eq]
  · cases h
theorem eqFs_sound {P : Program} {μ : Mu} {xs ys : List AV} {us vs : List Value} {w : World} {n : Nat} (hx : RVs μ xs us) (hy : RVs μ ys vs) :
    ∀ (fs : List Field) (r : Bool), eqFs P xs ys fs = some r → (Op.eqFields (n + 1) ⟨us⟩ ⟨vs⟩ fs).run P w = .ok r w
  | [], r, h => by cases h; rfl
  | f :: fs, r, h => by
    obtain ⟨h1, h⟩ := cb_some h
    obtain ⟨x, h2, h⟩ := ob_some h
    obtain ⟨y, h3, h⟩ := ob_some h
    obtain ⟨q, h4, h⟩ := ob_some h
    rw [nthO_eq] at h2 h3
    obtain ⟨a, ha, ra⟩ := hx.get h2
    obtain ⟨b, hb, rb⟩ := hy.get h3
    obtain ⟨⟨d, hd, hd'⟩, he⟩ := eqPl_sound (w := w) (n := n) h4 ra rb
    unfold Op.eqFields
    rw [if_pos (by simpa using h1)]
    have p1 := run_part1 (w := w) hd hd' (show (⟨us⟩ : Array Value)[f.offset]? = some a by simpa using ha)
    have p2 := run_part1 (w := w) hd hd' (show (⟨vs⟩ : Array Value)[f.offset]? = some b by simpa using hb)
    simp only [Sem.run_bind, p1, p2, Result.andThen_ok, he]
    rcases tb_or h with ⟨h5, h6⟩ | ⟨h5, h6⟩
    · subst h5
      simp only [Bool.not_true, Bool.false_eq_true, if_false]
      exact eqFs_sound hx hy fs r h6
    · subst h5; cases h6
      simp only [Bool.not_false, if_true, Sem.run_pure]
theorem eqSt_sound {P : Program} {t : TypeId} {w : World} {μ : Mu} {xs : List AV} {y : AV} {a b : Value} {r : Bool} {ox oy : Operand} (h : eqSt P t xs y = some r) (hx : RV μ (.agg xs) a) (hy : RV μ y b) : EqOk P t w ox oy a b r := by
  obtain ⟨ys, h1, h⟩ := ob_some h
  split at h
  · rename_i fs hu
    obtain ⟨h2, h⟩ := cb_some h
    obtain ⟨h3, h⟩ := cb_some h
    rw [asAgg_some h1] at hy
    cases hx with | agg rx => cases hy with | agg ry =>
    have hf : P.fieldsOf t = fs := by simp only [Program.fieldsOf, hu]
    refine ⟨?_, fun op => run_eqGuard_agg w op t ox oy _ _ (notB_off h3), rfl, rfl⟩
    show (Op.equalIn (9999 + 1) t _ _).run P w = _
    rw [run_equalIn_struct w 9999 t _ _ (by rw [hf]; exact hu) (notB_off h2), hf]
    exact eqFs_sound (n := 9998) rx ry _ _ h
  · cases h
/-- One pointer held against itself. -/
theorem eqBn_true : ∀ {a b : Bn}, eqBn a b = true → a = b
  | .h, .h, _ => rfl
  | .h, .o q, h => by cases h
  | .h, .i q, h => by cases h
  | .o p, .h, h => by cases h
  | .o p, .o q, h => by rw [eqBn_true (a := p) (b := q) h]
  | .o p, .i q, h => by cases h
  | .i p, .h, h => by cases h
  | .i p, .o q, h => by cases h
  | .i p, .i q, h => by rw [eqBn_true (a := p) (b := q) h]
theorem equal_of_eql {P : Program} {t : TypeId} {w : World} {a b : Value} {r : Bool} (h : (binOp .eql t a b).run P w = .ok (.bool r) w) (he : binOp .eql t a b = (do pure (.bool (← Op.equal t a b))) := by rfl) : (Op.equal t a b).run P w = .ok r w := by
  rw [he, Sem.run_bind] at h
  cases hr : (Op.equal t a b).run P w with
  | ok q w' =>
    rw [hr] at h
    simp only [Result.andThen_ok, Sem.run_pure, Result.ok.injEq, Value.bool.injEq] at h
    rw [h.1, h.2]
  | halt e w' => rw [hr] at h; cases h
theorem eqPt_sound {P : Program} {t : TypeId} {w : World} {μ : Mu} {p q : Pt} {a b : Value} {r : Bool} {ox oy : Operand} (h : eqPt P t p q = some r) (hx : RV μ (.ptr p.b p.off) a) (hy : RV μ (.ptr q.b q.off) b) : EqOk P t w ox oy a b r := by
  obtain ⟨h1, h⟩ := cb_some h
  obtain ⟨h2, h⟩ := cb_some h
  obtain ⟨h3, h⟩ := cb_some h
  cases h
  rw [← eqBn_true h1, ← beq_true h2] at hy
  cases hx with | ptr e1 => cases hy with | ptr e2 =>
  rw [e1] at e2; cases e2
  unfold ptrT at h3
  split at h3
  · rename_i te hu
    obtain ⟨j, hj⟩ := Option.isSome_iff_exists.1 h3
    refine ⟨?_, fun _ => eqGuard_a (by simp) (by simp), rfl, rfl⟩
    exact equal_of_eql (run_eql_ptr_same w _ hu hj)
  · cases h3
theorem dKind_lt (d : TypeDesc) : dKind d < 20 := by cases d <;> (simp only [dKind]; decide)
theorem kindT_of {T0 : Tab} (hT : TabOk T0) {t : TypeId} {ox oy : Operand} (hk : kindT T0 ox oy t ≠ 9) : ∃ d, T0.P.underlying t = some d ∧ dKind d = Nat.mod (kindT T0 ox oy t) 20 ∧
    (Nat.beq (kindT T0 ox oy t) 4 = false → Nat.mod (kindT T0 ox oy t) 20 = 4 → orB' (isCst ox) (isCst oy) = true) := by
  rcases oc_or (r := kindT T0 ox oy t) rfl with ⟨_, q⟩ | ⟨i, q, e⟩
  · exact absurd q.symm hk
  · have hl := dKind_lt i.d
    refine ⟨i.d, (hT.ty t i q).und, ?_⟩
    rcases tb_or e with ⟨h1, h2⟩ | ⟨_, h2⟩
    · rw [← h2]
      refine ⟨?_, fun _ _ => h1⟩
      show _ = (dKind i.d + 20) % 20
      omega
    · rw [← h2]
      refine ⟨(Nat.mod_eq_of_lt hl).symm, fun h3 h4 => ?_⟩
      have h4 : dKind i.d % 20 = 4 := h4
      rw [Nat.mod_eq_of_lt hl] at h4
      rw [h4] at h3
      exact absurd h3 (by decide)
theorem nilK_le {x : AV} {p : Nat × Bool} (h : nilK x = some p) : p.1 ≤ 4 := by cases x <;> cases h <;> decide
/-- What '==' ('!=') says. -/
theorem eqE_sound {T0 : Tab} (hT : TabOk T0) {t : TypeId} {w : World} {μ : Mu} {neg : Bool} {x y v : AV} {a b : Value} {ox oy : Operand} (h : eqE T0.P t neg (kindT T0 ox oy t) x y = some v) (hx : RV μ x a) (hy : RV μ y b) :
    ∃ r, (eqGuard (if neg then .neq else .eql) t ox oy a b).run T0.P w = .ok () w ∧ (binOp (if neg then .neq else .eql) t a b).run T0.P w = .ok r w ∧ RV μ v r := by
  obtain ⟨r, h1, h2⟩ := ob_some h
  cases h2
  rcases oc_or h1 with ⟨_, h3⟩ | ⟨p, hp, h3⟩
  · rcases oc_or h3 with ⟨_, h4⟩ | ⟨s, hs, h4⟩
    · have key : EqOk T0.P t w ox oy a b r := by
        rcases tb_or h4 with ⟨h5, h6⟩ | ⟨h5, h6⟩
        · obtain ⟨_, h7⟩ := cb_some h6
          obtain ⟨m, hm, h8⟩ := ob_some h7
          obtain ⟨n, hn, h9⟩ := ob_some h8
          cases h9
          rw [asB_some hm] at hx; rw [asB_some hn] at hy
          cases hx; cases hy
          have h5 := beq_true h5
          obtain ⟨d, hu, hd, _⟩ := kindT_of (ox := ox) (oy := oy) (t := t) hT (fun e => by rw [e] at h5; exact absurd h5 (by decide))
          rw [dKind5 (hd.trans h5)] at hu
          exact ⟨by rw [equal_bool hu, eqB_eq], fun _ => eqGuard_a (by simp) (by simp), rfl, rfl⟩
        · rcases oc_or h6 with ⟨_, h6⟩ | ⟨l, hl, h6⟩
          case inr => rw [asAgg_some hl] at hx; exact eqSt_sound h6 hx hy
          rcases oc_or h6 with ⟨_, h6⟩ | ⟨q, hq, h6⟩
          case inr =>
            obtain ⟨p1, z1, z2⟩ := ob_some hq
            obtain ⟨p2, z3, z4⟩ := ob_some z2
            cases z4
            rw [asPt_some z1] at hx; rw [asPt_some z3] at hy
            exact eqPt_sound h6 hx hy
          have hk : kindT T0 ox oy t ≠ 9 := by
            intro e
            obtain ⟨p, q1, q⟩ := ob_some h6
            obtain ⟨q', _, q⟩ := ob_some q
            obtain ⟨_, q⟩ := cb_some q
            obtain ⟨q2, _⟩ := cb_some q
            have q2 := beq_true q2
            have := nilK_le q1
            rw [e] at q2
            have q2 : p.1 = 9 := q2
            omega
          obtain ⟨d, hu, hd, hc⟩ := kindT_of hT hk
          exact eqNil_sound h6 hx hy hu hd hc
      cases neg with
      | false => exact ⟨.bool r, key.gd _, by simp [key.e, key.eq], .bool⟩
      | true => exact ⟨.bool !r, key.gd _, by simp [key.n, key.eq], by rw [notB_eq]; exact .bool⟩
    · obtain ⟨s', hs', h5⟩ := ob_some h4
      cases h5
      rw [asS_some hs] at hx; rw [asS_some hs'] at hy
      cases hx with | str e1 => cases hy with | str e2 =>
      subst e1; subst e2
      cases neg with
      | false => exact ⟨_, eqGuard_a (by simp) (by simp), by simp only [Bool.false_eq_true, if_false, binOp, Op.stringOp]; rfl, by rw [eqTx_bl, eq_toList]; exact .bool⟩
      | true => exact ⟨_, eqGuard_a (by simp) (by simp), by simp only [if_true, binOp, Op.stringOp]; rfl, by rw [eqTx_bl, eq_toList, notB_eq]; exact .bool⟩
  · obtain ⟨q, hq, h4⟩ := ob_some h3
    obtain ⟨h5, h6⟩ := cb_some h4
    cases h6
    have hk := kindEq_true h5
    rw [asI_some hp] at hx; rw [asI_some hq] at hy
    cases hx; cases hy
    cases neg with
    | false => exact ⟨_, eqGuard_a (by simp) (by simp), by simp only [Bool.false_eq_true, if_false, binOp, hk, ne_eq, not_true_eq_false, Op.intCmp]; rfl, by rw [eqInt_eq]; exact .bool⟩
    | true => exact ⟨_, eqGuard_a (by simp) (by simp), by simp only [if_true, binOp, hk, ne_eq, not_true_eq_false, if_false, Op.intCmp]; rfl, by rw [eqInt_eq, notB_eq]; exact .bool⟩
end Ev
end Go.Proofs.Ytdofhlmffponoaa
