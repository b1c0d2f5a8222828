/- 'append': the operation. -/
import Derived.Test.YtpmjneggkccaiaaGreatDoorEvM
set_option linter.unusedVariables false
set_option linter.unusedSimpArgs false
namespace Go.Proofs.YtpmjneggkccaiaaGreatDoor
namespace Ev
section
variable {T0 : Tab} {w0 : Fx} {μ : Mu} {σ : AS} {a : Act} {w : World} {o : Oper}
/-- 'append' where there is room, and where there is none: as the model runs it. -/
theorem app_run {ats : Array TypeId} {ty st : TypeId} {el : TypeId} {i ei : TyI} {args : Array Value} {base : Option Addr} {m n cap : Nat} {xv : Value} {ys : List Value} {t2 : TypeId} {d2 : TypeDesc}
    (h0 : ats[0]? = some st) (h1 : args[0]? = some (.slice base m cap)) (h2 : args[1]? = some xv) (ht : TyOk T0.P st i) (hd : i.d = .slice el) (hte : TyOk T0.P el ei)
    (h3 : ats[1]? = some t2) (h4 : T0.P.underlying t2 = some d2) (h5 : (∃ e, d2 = .slice e) ∨ d2 = .string)
    (h6 : ∀ w' : World, w'.heap = w.heap → (Builtin.lenOf xv).run T0.P w' = .ok n w') (h7 : ∀ w' : World, w'.heap = w.heap → (Builtin.firstCells ei.size n xv).run T0.P w' = .ok ys.toArray w') :
    (m + n ≤ cap → (Builtin.append_ ats ty args).run T0.P w = (match base with
      | none => .ok (.slice none (m + n) cap) w
      | some ad => ((storeCells (ad.add (m * ei.size)) ys).run T0.P w).andThen fun _ w' => .ok (.slice (some ad) (m + n) cap) w')) ∧
    (cap < m + n → (m + n) * (ei.bytes + 1) ≤ 1000000000 → ∀ olds : List Value, (∀ w' : World, w'.heap = w.heap → (Builtin.firstCells ei.size m (.slice base m cap)).run T0.P w' = .ok olds.toArray w') →
      ∃ (nc : Nat) (z : Value), m + n ≤ nc ∧ RVs (fun _ => none) ei.zero z.cells.toList ∧
      (Builtin.append_ ats ty args).run T0.P w = .ok (.slice (some ⟨w.heap.size, 0, none⟩) (m + n) nc)
        { w with drawn := w.drawn + 1, heap := w.heap.push (.cells (olds ++ ys ++ repN z.cells.toList (nc - (m + n))).toArray el (0, 0)) }) := by
  have hu : ∀ w' : World, (underlying st).run T0.P w' = .ok (.slice el) w' := fun w' => by rw [run_und ht, hd]
  obtain ⟨info, z, g1, g2, g3, g4, g5⟩ := hte.inf
  have hinf : ∀ w' : World, (typeInfo el).run T0.P w' = .ok info w' := fun w' => by simp [typeInfo, program, Sem.run, bind, Sem.bind, g1, pure]
  have hzv : ∀ w' : World, (zeroValue el).run T0.P w' = .ok z w' := fun w' => by simp [zeroValue, hinf, g4]
  constructor
  · intro hc
    rcases h5 with ⟨e, rfl⟩ | rfl <;>
      (simp only [Builtin.append_, h0, h1, h2, Sem.run_bind, hu, Result.andThen_ok, run_size hte, h3, run_underlying h4, Sem.run_pure, Bool.false_eq_true, if_false, h6 w rfl, if_pos hc, Bool.not_false, if_true, h7 w rfl]
       cases base <;> simp)
  · intro hc hb olds hold
    have hnb : (m + n) * ei.bytes ≤ 1000000000 := Nat.le_trans (Nat.mul_le_mul_left _ (Nat.le_succ _)) hb
    have hmn : m + n ≤ 1000000000 := by
      have : (m + n) * 1 ≤ (m + n) * (ei.bytes + 1) := Nat.mul_le_mul_left _ (by omega)
      omega
    have hbb : ei.bytes ≤ 1000000000 := by
      have : 1 * (ei.bytes + 1) ≤ (m + n) * (ei.bytes + 1) := Nat.mul_le_mul_right _ (by omega)
      omega
    have hn : ¬ (Builtin.nextslicecap (m + n) cap * info.bytes > 2 ^ 48) := by
      have e1 := nextcap_le hc
      have e2 : Builtin.nextslicecap (m + n) cap * info.bytes ≤ (2 * (m + n) + 192) * ei.bytes := by rw [g3]; exact Nat.mul_le_mul_right _ e1
      have e3 : (2 * (m + n) + 192) * ei.bytes = 2 * ((m + n) * ei.bytes) + 192 * ei.bytes := by rw [Nat.add_mul, Nat.mul_assoc]
      omega
    have hi : ¬ (((m + n : Nat) : Int) > IntKind.i64.max ∧ ((false : Bool) = true ∨ info.bytes = 0)) := by
      intro q
      have : ((m + n : Nat) : Int) > 9223372036854775807 := q.1
      omega
    have hi' : ¬ (((m + n : Nat) : Int) > IntKind.i64.max ∧ info.bytes = 0) := fun q => hi ⟨q.1, .inr q.2⟩
    refine ⟨(Question.appendCap (m + n) cap el).cut (w.tape w.drawn (.appendCap (m + n) cap el)), z, Nat.le_add_right _ _, g5, ?_⟩
    generalize hnc : (Question.appendCap (m + n) cap el).cut (w.tape w.drawn (.appendCap (m + n) cap el)) = nc
    have hch : (choose (.appendCap (m + n) cap el)).run T0.P w = .ok nc { w with drawn := w.drawn + 1 } := by
      simp [choose, Sem.run, Question.forced, hnc]
    have hzc : Builtin.zeroCells z.cells (nc - (m + n)) = ⟨repN z.cells.toList (nc - (m + n))⟩ := zeros_eq z.cells _
    rcases h5 with ⟨e, rfl⟩ | rfl <;>
      (simp only [Builtin.append_, h0, h1, h2, Sem.run_bind, hu, Result.andThen_ok, run_size hte, h3, run_underlying h4, Sem.run_pure, Bool.false_eq_true, if_false, h6 w rfl, if_neg (Nat.not_le.2 hc), false_or, hinf, if_neg hi', if_neg hn, hch, run_askRoom, Bool.not_false, if_true, hold { w with drawn := w.drawn + 1 } rfl, h7 { w with drawn := w.drawn + 1 } rfl, hzv, run_newRow, hzc]
       congr 3
       congr 2
       exact Array.ext' (by simp))
/-- .. where so many zero values are appended. -/
theorem app_runZ {ats : Array TypeId} {ty st : TypeId} {el : TypeId} {i ei : TyI} {args : Array Value} {base : Option Addr} {m n cap : Nat} {t2 : TypeId} {kk : IntKind}
    (h0 : ats[0]? = some st) (h1 : args[0]? = some (.slice base m cap)) (h2 : args[1]? = some (.int .i64 (.ofNat n))) (ht : TyOk T0.P st i) (hd : i.d = .slice el) (hte : TyOk T0.P el ei)
    (h3 : ats[1]? = some t2) (h4 : T0.P.underlying t2 = some (.int kk)) (hb : (m + n) * (ei.bytes + 1) ≤ 1000000000) :
    ∃ z : Value, RVs (fun _ => none) ei.zero z.cells.toList ∧
    (m + n ≤ cap → (Builtin.append_ ats ty args).run T0.P w = (match base with
      | none => .ok (.slice none (m + n) cap) w
      | some ad => ((storeCells (ad.add (m * ei.size)) (repN z.cells.toList n)).run T0.P w).andThen fun _ w' => .ok (.slice (some ad) (m + n) cap) w')) ∧
    (cap < m + n → ∀ olds : List Value, (∀ w' : World, w'.heap = w.heap → (Builtin.firstCells ei.size m (.slice base m cap)).run T0.P w' = .ok olds.toArray w') →
      ∃ nc : Nat, m + n ≤ nc ∧
      (Builtin.append_ ats ty args).run T0.P w = .ok (.slice (some ⟨w.heap.size, 0, none⟩) (m + n) nc)
        { w with drawn := w.drawn + 1, heap := w.heap.push (.cells (olds ++ repN z.cells.toList n ++ repN z.cells.toList (nc - (m + n))).toArray el (0, 0)) }) := by
  have hu : ∀ w' : World, (underlying st).run T0.P w' = .ok (.slice el) w' := fun w' => by rw [run_und ht, hd]
  obtain ⟨info, z, g1, g2, g3, g4, g5⟩ := hte.inf
  have hinf : ∀ w' : World, (typeInfo el).run T0.P w' = .ok info w' := fun w' => by simp [typeInfo, program, Sem.run, bind, Sem.bind, g1, pure]
  have hzv : ∀ w' : World, (zeroValue el).run T0.P w' = .ok z w' := fun w' => by simp [zeroValue, hinf, g4]
  have hnb : (m + n) * ei.bytes ≤ 1000000000 := Nat.le_trans (Nat.mul_le_mul_left _ (Nat.le_succ _)) hb
  have hmn : m + n ≤ 1000000000 := by
    have : (m + n) * 1 ≤ (m + n) * (ei.bytes + 1) := Nat.mul_le_mul_left _ (by omega)
    omega
  have hwr : IntKind.i64.wrap (Int.ofNat n) = (n : Int) := wrap_small _ (by show (0 : Int) ≤ (n : Int); omega) (by show (n : Int) < _; omega)
  have hl0 : ¬ ((n : Int) < 0) := by omega
  have hn1 : n * ei.bytes ≤ 1000000000 := Nat.le_trans (Nat.mul_le_mul_right _ (Nat.le_add_left _ _)) hnb
  have hl1 : ¬ ((n : Int) * (info.bytes : Int) > 2 ^ 48) := by
    rw [g3]
    have : ((n * ei.bytes : Nat) : Int) ≤ 1000000000 := by omega
    rw [Int.natCast_mul] at this
    omega
  have hzs : z.cells.size = ei.size := by rw [← Array.length_toList, g5.length, hte.zlen]
  have hzc : ∀ k, Builtin.zeroCells z.cells k = ⟨repN z.cells.toList k⟩ := fun k => zeros_eq z.cells k
  have hz0 : n * ei.size = 0 → repN z.cells.toList n = [] := fun e => List.eq_nil_of_length_eq_zero (by rw [repN_len, Array.length_toList, hzs]; exact e)
  refine ⟨z, g5, fun hc => ?_, fun hc olds hold => ?_⟩
  · simp only [Builtin.append_, h0, h1, h2, Sem.run_bind, hu, Result.andThen_ok, run_size hte, h3, run_underlying h4, Sem.run_pure, if_true, asInt, asIntOf, hwr, if_neg hl0, hinf, if_neg hl1, Int.toNat_natCast, if_pos hc, Bool.not_true, Bool.false_eq_true, if_false]
    by_cases e : n * ei.size = 0
    · simp only [if_pos e, Sem.run_pure, Result.andThen_ok, hz0 e]
      cases base <;> simp
    · simp only [if_neg e, Sem.run_bind, hzv, Result.andThen_ok, Sem.run_pure, hzc]
      cases base <;> simp
  · have hn : ¬ (Builtin.nextslicecap (m + n) cap * info.bytes > 2 ^ 48) := by
      have e1 := nextcap_le hc
      have e2 : Builtin.nextslicecap (m + n) cap * info.bytes ≤ (2 * (m + n) + 192) * ei.bytes := by rw [g3]; exact Nat.mul_le_mul_right _ e1
      have e3 : (2 * (m + n) + 192) * ei.bytes = 2 * ((m + n) * ei.bytes) + 192 * ei.bytes := by rw [Nat.add_mul, Nat.mul_assoc]
      have hbb : ei.bytes ≤ 1000000000 := by
        have : 1 * (ei.bytes + 1) ≤ (m + n) * (ei.bytes + 1) := Nat.mul_le_mul_right _ (by omega)
        omega
      omega
    have hi : ¬ (((m + n : Nat) : Int) > IntKind.i64.max) := by
      intro q
      have : ((m + n : Nat) : Int) > 9223372036854775807 := q
      omega
    refine ⟨(Question.appendCap (m + n) cap el).cut (w.tape w.drawn (.appendCap (m + n) cap el)), Nat.le_add_right _ _, ?_⟩
    generalize hnc : (Question.appendCap (m + n) cap el).cut (w.tape w.drawn (.appendCap (m + n) cap el)) = nc
    have hch : (choose (.appendCap (m + n) cap el)).run T0.P w = .ok nc { w with drawn := w.drawn + 1 } := by
      simp [choose, Sem.run, Question.forced, hnc]
    simp only [Builtin.append_, h0, h1, h2, Sem.run_bind, hu, Result.andThen_ok, run_size hte, h3, run_underlying h4, Sem.run_pure, if_true, asInt, asIntOf, hwr, if_neg hl0, hinf, if_neg hl1, Int.toNat_natCast, if_neg (Nat.not_le.2 hc), Bool.not_true, Bool.false_eq_true, if_false, hi, false_and, if_neg hn, hch, run_askRoom, hold { w with drawn := w.drawn + 1 } rfl]
    by_cases e : n * ei.size = 0
    · simp only [if_pos e, Sem.run_pure, Result.andThen_ok, hz0 e, hzv, run_newRow, hzc]
      congr 3
      congr 2
      exact Array.ext' (by simp)
    · simp only [if_neg e, Sem.run_bind, hzv, Result.andThen_ok, Sem.run_pure, hzc, run_newRow]
      congr 3
      congr 2
      exact Array.ext' (by simp)
end
end Ev
end Go.Proofs.YtpmjneggkccaiaaGreatDoor
