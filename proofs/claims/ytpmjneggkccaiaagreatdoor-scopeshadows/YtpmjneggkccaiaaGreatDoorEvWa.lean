/- A region whose order is drawn: plain facts. -/
import Derived.Test.YtpmjneggkccaiaaGreatDoorEvZd
set_option linter.unusedVariables false
set_option linter.unusedSimpArgs false
namespace Go.Proofs.YtpmjneggkccaiaaGreatDoor
namespace Ev
theorem hasB_eq (m i : Nat) : hasB m i = m.testBit i := by
  unfold hasB
  rw [Nat.testBit_eq_decide_div_mod_eq]
  show Nat.beq ((m >>> i) &&& 1) 1 = _
  rw [Nat.and_one_is_mod, Nat.shiftRight_eq_div_pow]
  cases h : Nat.beq (m / 2 ^ i % 2) 1 with
  | true => simp [Nat.eq_of_beq_eq_true h]
  | false => simp [Nat.ne_of_beq_eq_false h]
theorem oneM_bit (i j : Nat) : (oneM i).testBit j = decide (i = j) := by
  show (1 <<< i).testBit j = _
  rw [Nat.one_shiftLeft, Nat.testBit_two_pow]
theorem subM_sub {a m : Nat} (h : subM a m = true) {i : Nat} (hi : a.testBit i = true) : m.testBit i = true := by
  have e : a &&& m = a := Nat.eq_of_beq_eq_true h
  rw [← e, Nat.testBit_and] at hi
  simp at hi
  exact hi.2
theorem subM_not {a m : Nat} (h : subM a m = false) : ∃ i, a.testBit i = true ∧ m.testBit i = false := by
  rcases Classical.em (∃ i, a.testBit i = true ∧ m.testBit i = false) with q | q
  · exact q
  · exfalso
    have e : a &&& m = a := by
      apply Nat.eq_of_testBit_eq
      intro i
      rw [Nat.testBit_and]
      cases ha : a.testBit i with
      | false => rfl
      | true =>
        cases hm : m.testBit i with
        | true => rfl
        | false => exact absurd ⟨i, ha, hm⟩ q
    have : Nat.beq (a &&& m) a = false := h
    rw [e] at this
    exact Nat.ne_of_beq_eq_false this rfl
theorem restr_get (tm : T AV) : ∀ (l : List Nat) (t : Nat), (restr l tm).get (pOf t) = if t ∈ l then tm.get (pOf t) else none
  | [], t => by
    show (T.leaf : T AV).get (pOf t) = _
    rw [T.get_leaf]; simp
  | s :: l, t => by
    show ((restr l tm).put (pOf s) (tm.get (pOf s))).get (pOf t) = _
    rw [T.put_get, restr_get tm l t]
    by_cases e : t = s
    · subst e; simp
    · rw [if_neg (fun q => e (pOf_inj q))]; simp [e]
theorem tblE_get : ∀ {l : List Dr} {j m : Nat}, (tblE l).get (pOf j) = some m → ∃ e ∈ l, e.i = j ∧ e.bf = m
  | [], j, m, h => by
    have h : (T.leaf : T Nat).get (pOf j) = some m := h
    rw [T.get_leaf] at h; cases h
  | e :: l, j, m, h => by
    have h : ((tblE l).put (pOf e.i) (some e.bf)).get (pOf j) = some m := h
    rw [T.put_get] at h
    split at h
    · rename_i q
      cases h
      exact ⟨e, by simp, (pOf_inj q).symm, rfl⟩
    · obtain ⟨f, h1, h2⟩ := tblE_get h
      exact ⟨f, by simp [h1], h2⟩
theorem bfE_bit {t : T Nat} : ∀ {l : List Edge} {j : Nat}, (bfE t l).testBit j = true → ∃ e ∈ l, bindG e.ground = true ∧ (j = e.on ∨ ∃ m, t.get (pOf e.on) = some m ∧ m.testBit j = true)
  | [], j, h => by
    have h : (0 : Nat).testBit j = true := h
    simp at h
  | e :: l, j, h => by
    have h : (tb (bindG e.ground) (bfE t l ||| (oneM e.on ||| oc (t.get (pOf e.on)) 0 (fun m => m))) (bfE t l)).testBit j = true := h
    cases hb : bindG e.ground with
    | false =>
      rw [hb] at h
      obtain ⟨f, h1, h2⟩ := bfE_bit (l := l) h
      exact ⟨f, by simp [h1], h2⟩
    | true =>
      rw [hb, tb_true, Nat.testBit_or, Nat.testBit_or, oneM_bit] at h
      simp only [Bool.or_eq_true, decide_eq_true_eq] at h
      rcases h with h | h | h
      · obtain ⟨f, h1, h2⟩ := bfE_bit (l := l) h
        exact ⟨f, by simp [h1], h2⟩
      · exact ⟨e, by simp, hb, .inl h.symm⟩
      · cases hg : t.get (pOf e.on) with
        | none => rw [hg] at h; simp [oc_none] at h
        | some m => rw [hg] at h; exact ⟨e, by simp, hb, .inr ⟨m, hg, h⟩⟩
theorem bfE_edge {t : T Nat} : ∀ {l : List Edge} {e : Edge}, e ∈ l → bindG e.ground = true → (bfE t l).testBit e.on = true
  | f :: l, e, h, hb => by
    show (tb (bindG f.ground) (bfE t l ||| (oneM f.on ||| oc (t.get (pOf f.on)) 0 (fun m => m))) (bfE t l)).testBit e.on = true
    cases h with
    | head => rw [hb, tb_true, Nat.testBit_or, Nat.testBit_or, oneM_bit]; simp
    | tail _ m =>
      have ih := bfE_edge (t := t) m hb
      cases bindG f.ground with
      | false => exact ih
      | true => rw [tb_true, Nat.testBit_or, ih]; rfl
theorem binds_eq (e : Edge) : Region.binds .any e = bindG e.ground := by
  unfold Region.binds bindG
  cases e.ground <;> rfl
def dstO (ops : List Oper) (i : Nat) : Option Tmp := (ops[i]?).bind (·.dst)
theorem dstE_eq (ops : List Oper) (e : Dr) : dstE ops e = (dstO ops e.i).toList := by
  unfold dstE dstO
  rw [nthO_eq]
  cases ops[e.i]? with
  | none => rfl
  | some o =>
    show optL o.dst = o.dst.toList
    cases o.dst <;> rfl
theorem wrE_mem {ops : List Oper} : ∀ {l : List Dr} {e : Dr} {t : Nat}, e ∈ l → dstO ops e.i = some t → ∃ ls, (wrE ops l).get (pOf t) = some ls ∧ e ∈ ls
  | f :: l, e, t, h, hd => by
    show ∃ ls, (oc (headL (dstE ops f)) (wrE ops l) (fun t => (wrE ops l).put (pOf t) (some (f :: oc ((wrE ops l).get (pOf t)) [] (fun l => l))))).get (pOf t) = some ls ∧ e ∈ ls
    rw [dstE_eq]
    cases hf : dstO ops f.i with
    | none =>
      cases h with
      | head => rw [hf] at hd; cases hd
      | tail _ m => exact wrE_mem m hd
    | some s =>
      show ∃ ls, ((wrE ops l).put (pOf s) (some (f :: oc ((wrE ops l).get (pOf s)) [] (fun l => l)))).get (pOf t) = some ls ∧ e ∈ ls
      rw [T.put_get]
      by_cases q : t = s
      · subst q
        rw [if_pos rfl]
        refine ⟨_, rfl, ?_⟩
        cases h with
        | head => simp
        | tail _ m =>
          obtain ⟨ls, h1, h2⟩ := wrE_mem m hd
          rw [h1]; simp [oc_some, h2]
      · rw [if_neg (fun z => q (pOf_inj z))]
        cases h with
        | head => rw [hf] at hd; cases hd; exact absurd rfl q
        | tail _ m => exact wrE_mem m hd
end Ev
end Go.Proofs.YtpmjneggkccaiaaGreatDoor
