/- A region whose order is drawn: the order that the evaluator takes; temporaries. -/
import Derived.Test.YtpmjneggkccaiaaGreatDoorEvWa
set_option linter.unusedVariables false
set_option linter.unusedSimpArgs false
namespace Go.Proofs.YtpmjneggkccaiaaGreatDoor
namespace Ev
/-- What is known of the order. -/
structure Ord (ops : List Oper) (L : List Dr) : Prop where
  all : ∀ j, j < ops.length → ∃ x ∈ L, x.i = j
  lt : ∀ x ∈ L, ∃ o, ops[x.i]? = some o ∧ x.cl = kindO o.op ∧ ∀ j, x.bf.testBit j = true → ∃ e ∈ o.after.toList, bindG e.ground = true ∧ (j = e.on ∨ ∃ y ∈ L, y.i = e.on ∧ y.bf.testBit j = true)
  race : ∀ x ∈ L, ∀ t, (t ∈ x.rs ∨ dstO ops x.i = some t) → ∀ y ∈ L, dstO ops y.i = some t → x.i = y.i ∨ x.bf.testBit y.i = true ∨ y.bf.testBit x.i = true
  pre : ∀ C x r, L = C ++ x :: r → (∀ y ∈ C, y.i ≠ x.i) ∧ (∀ j, x.bf.testBit j = true → ∃ y ∈ C, y.i = j) ∧
    (∀ o, ops[x.i]? = some o → ∀ e ∈ o.after.toList, bindG e.ground = true → ∃ y ∈ C, y.i = e.on) ∧
    (isE x = true → ∀ y ∈ r, (isE y = true → y.bf.testBit x.i = true) ∧ (isE y = false → ∃ j, y.bf.testBit j = true ∧ ∀ z ∈ C, z.i ≠ j))
theorem walk_sound {ops : List Oper} {tbl : T Nat} {wr : T (List Dr)} {n : Nat} : ∀ {l : List Dr} {m : Nat}, walkE ops tbl wr n l m = true →
    (∀ j, j < n → m.testBit j = true ∨ ∃ x ∈ l, x.i = j) ∧
    ∀ C x r, l = C ++ x :: r → ∃ m', (∀ j, m'.testBit j = true ↔ (m.testBit j = true ∨ ∃ y ∈ C, y.i = j)) ∧ subM x.bf m' = true ∧ hasB m' x.i = false ∧ okE ops tbl wr x m' = true ∧ (isE x = true → lateE' x m' r = true)
  | [], m, h => by
    have h : Nat.beq m (Nat.sub (oneM n) 1) = true := h
    have e : m = 2 ^ n - 1 := by
      have := Nat.eq_of_beq_eq_true h
      rw [this]; show (1 <<< n) - 1 = _
      rw [Nat.one_shiftLeft]
    refine ⟨fun j hj => .inl (by rw [e, Nat.testBit_two_pow_sub_one]; simpa using hj), fun C x r hl => ?_⟩
    simp at hl
  | e :: l, m, h => by
    have h : andB (subM e.bf m) (andB (notB (hasB m e.i)) (andB (okE ops tbl wr e m) (andB (tb (isE e) (lateE' e m l) true) (walkE ops tbl wr n l (Nat.lor m (oneM e.i)))))) = true := h
    obtain ⟨h1, h⟩ := andB_true h
    obtain ⟨h2, h⟩ := andB_true h
    obtain ⟨h3, h⟩ := andB_true h
    obtain ⟨h4, h⟩ := andB_true h
    obtain ⟨g1, g2⟩ := walk_sound h
    have bit : ∀ j, (Nat.lor m (oneM e.i)).testBit j = true ↔ (m.testBit j = true ∨ e.i = j) := by
      intro j
      show (m ||| oneM e.i).testBit j = true ↔ _
      rw [Nat.testBit_or, oneM_bit]; simp
    constructor
    · intro j hj
      rcases g1 j hj with q | ⟨x, q1, q2⟩
      · rcases (bit j).1 q with q | q
        · exact .inl q
        · exact .inr ⟨e, by simp, q⟩
      · exact .inr ⟨x, by simp [q1], q2⟩
    · intro C x r hl
      cases C with
      | nil =>
        simp at hl
        obtain ⟨rfl, rfl⟩ := hl
        refine ⟨m, fun j => by simp, h1, notB_true h2, h3, fun he => ?_⟩
        rw [he] at h4; exact h4
      | cons c C =>
        simp at hl
        obtain ⟨rfl, hl⟩ := hl
        obtain ⟨m', q1, q2⟩ := g2 C x r hl
        refine ⟨m', fun j => ?_, q2⟩
        rw [q1 j, bit j]
        simp [or_assoc]
theorem vOk_ord {ops : List Oper} {L : List Dr} (h : vOk ops L = true) : Ord ops L := by
  have h : walkE ops (tblE L) (wrE ops L) (lenN ops) L 0 = true := h
  rw [lenN_eq] at h
  obtain ⟨g1, g2⟩ := walk_sound h
  have split : ∀ x ∈ L, ∃ C r, L = C ++ x :: r := fun x hx => List.append_of_mem hx
  have ok : ∀ x ∈ L, ∃ m', okE ops (tblE L) (wrE ops L) x m' = true := fun x hx => by
    obtain ⟨C, r, e⟩ := split x hx
    obtain ⟨m', _, _, _, q, _⟩ := g2 C x r e
    exact ⟨m', q⟩
  refine ⟨fun j hj => ?_, fun x hx => ?_, fun x hx t ht y hy hd => ?_, fun C x r e => ?_⟩
  · rcases g1 j hj with q | q
    · simp at q
    · exact q
  · obtain ⟨m', q⟩ := ok x hx
    obtain ⟨o, q1, q2⟩ := oc_true (x := nthO ops x.i) q
    obtain ⟨q3, q4⟩ := andB_true q2
    obtain ⟨q5, q6⟩ := andB_true q4
    refine ⟨o, by rw [← nthO_eq]; exact q1, beq_true q3, fun j hj => ?_⟩
    obtain ⟨e, e1, e2, e3⟩ := bfE_bit (subM_sub q5 hj)
    refine ⟨e, e1, e2, e3.imp id fun ⟨m, p1, p2⟩ => ?_⟩
    obtain ⟨y, y1, y2, y3⟩ := tblE_get p1
    exact ⟨y, y1, y2, by rw [y3]; exact p2⟩
  · obtain ⟨m', q⟩ := ok x hx
    obtain ⟨o, q1, q2⟩ := oc_true (x := nthO ops x.i) q
    obtain ⟨q3, q4⟩ := andB_true q2
    obtain ⟨q5, q6⟩ := andB_true q4
    obtain ⟨q7, q8⟩ := andB_true q6
    have hin : t ∈ appN (dstE ops x) x.rs := by
      rw [appN_eq, dstE_eq]
      rcases ht with ht | ht
      · exact List.mem_append_right _ ht
      · rw [ht]; simp
    have := allB_true q8 t hin
    obtain ⟨ls, p1, p2⟩ := wrE_mem hy hd
    rw [p1] at this
    have := allB_true (p := fun f => ordE x f) this y p2
    rcases tb_or (b := Nat.beq x.i y.i) this with ⟨z, _⟩ | ⟨_, z⟩
    · exact .inl (beq_true z)
    · rcases tb_or (b := hasB x.bf y.i) z with ⟨z, _⟩ | ⟨_, z⟩
      · exact .inr (.inl (by rw [← hasB_eq]; exact z))
      · exact .inr (.inr (by rw [← hasB_eq]; exact z))
  · obtain ⟨m', p1, p2, p3, p4, p5⟩ := g2 C x r e
    have p1 : ∀ j, m'.testBit j = true ↔ ∃ y ∈ C, y.i = j := fun j => by rw [p1 j]; simp
    rw [hasB_eq] at p3
    refine ⟨fun y hy he => ?_, fun j hj => (p1 j).1 (subM_sub p2 hj), fun o ho ed hed hb => ?_, fun he y hy => ?_⟩
    · rw [(p1 x.i).2 ⟨y, hy, he⟩] at p3; cases p3
    · obtain ⟨o', q1, q2⟩ := oc_true (x := nthO ops x.i) p4
      rw [nthO_eq, ho] at q1; cases q1
      obtain ⟨q3, q4⟩ := andB_true q2
      obtain ⟨q5, q6⟩ := andB_true q4
      obtain ⟨q7, q8⟩ := andB_true q6
      exact (p1 _).1 (subM_sub q7 (bfE_edge hed hb))
    · have := allB_true (p5 he) y hy
      constructor
      · intro hy'
        rw [hy'] at this
        rw [← hasB_eq]; exact this
      · intro hy'
        rw [hy'] at this
        obtain ⟨j, j1, j2⟩ := subM_not (notB_true this)
        refine ⟨j, j1, fun z hz he' => ?_⟩
        rw [(p1 j).2 ⟨z, hz, he'⟩] at j2; cases j2
/-- An index stands once. -/
theorem Ord.uniq {ops : List Oper} {L : List Dr} (h : Ord ops L) {x y : Dr} (hx : x ∈ L) (hy : y ∈ L) (e : x.i = y.i) : x = y := by
  obtain ⟨C, r, e1⟩ := List.append_of_mem hx
  rw [e1] at hy
  rcases List.mem_append.1 hy with q | q
  · exact absurd e.symm ((h.pre C x r e1).1 y q)
  · cases q with
    | head => rfl
    | tail _ q =>
      obtain ⟨C', r', e2⟩ := List.append_of_mem q
      have e3 : L = (C ++ x :: C') ++ y :: r' := by rw [e1, e2]; simp
      exact absurd e ((h.pre _ y r' e3).1 x (by simp))
abbrev Vs := List (Dr × AV)
noncomputable def putT (nt : Nat) (t : T AV) (dst : Option Tmp) (v : AV) : T AV := match dst with
  | none => t
  | some d => t.put (pOf d) (tb (Nat.blt d nt) (some v) none)
/-- The temporaries where those have come up that D says. -/
noncomputable def tmW (ops : List Oper) (nt : Nat) (t0 : T AV) (D : Nat → Bool) (vs : Vs) : T AV :=
  vs.foldl (fun t p => if D p.1.i = true then putT nt t (dstO ops p.1.i) p.2 else t) t0
theorem tmW_snoc (ops : List Oper) (nt : Nat) (t0 : T AV) (D : Nat → Bool) (vs : Vs) (p : Dr × AV) : tmW ops nt t0 D (vs ++ [p]) = (if D p.1.i = true then putT nt (tmW ops nt t0 D vs) (dstO ops p.1.i) p.2 else tmW ops nt t0 D vs) := by
  unfold tmW
  rw [List.foldl_append]; rfl
theorem putT_get (nt : Nat) (t : T AV) (dst : Option Tmp) (v : AV) (j : Nat) : (putT nt t dst v).get (pOf j) = if dst = some j then tb (Nat.blt j nt) (some v) none else t.get (pOf j) := by
  cases dst with
  | none => simp [putT]
  | some d =>
    show (t.put (pOf d) _).get (pOf j) = _
    rw [T.put_get]
    by_cases e : j = d
    · subst e; simp
    · rw [if_neg (fun q => e (pOf_inj q)), if_neg (fun q => e (by cases q; rfl))]
/-- Those alone count that write it. -/
theorem tmW_congr {ops : List Oper} {nt : Nat} {D D' : Nat → Bool} {j : Nat} : ∀ {vs : Vs} {t0 t0' : T AV}, t0.get (pOf j) = t0'.get (pOf j) → (∀ p ∈ vs, dstO ops p.1.i = some j → D p.1.i = D' p.1.i) → (tmW ops nt t0 D vs).get (pOf j) = (tmW ops nt t0' D' vs).get (pOf j)
  | [], _, _, h, _ => h
  | p :: vs, t0, t0', h, hD => by
    show (tmW ops nt (if D p.1.i = true then putT nt t0 (dstO ops p.1.i) p.2 else t0) D vs).get (pOf j) = (tmW ops nt (if D' p.1.i = true then putT nt t0' (dstO ops p.1.i) p.2 else t0') D' vs).get (pOf j)
    refine tmW_congr ?_ (fun q hq => hD q (by simp [hq]))
    by_cases hd : dstO ops p.1.i = some j
    · rw [hD p (by simp) hd]
      split
      · rw [putT_get, putT_get, hd]; simp
      · exact h
    · have e : ∀ (b : Bool) (t : T AV), (if b = true then putT nt t (dstO ops p.1.i) p.2 else t).get (pOf j) = t.get (pOf j) := by
        intro b t
        split
        · rw [putT_get, if_neg hd]
        · rfl
      rw [e, e]; exact h
/-- Those that have not come up, and do not write it, make no difference. -/
theorem tmW_agree {ops : List Oper} {nt : Nat} {t0 : T AV} {D : Nat → Bool} {j : Nat} {vs1 vs2 : Vs} (h1 : ∀ p ∈ vs1, dstO ops p.1.i = some j → D p.1.i = true) (h2 : ∀ p ∈ vs2, dstO ops p.1.i = some j → D p.1.i = false) :
    (tmW ops nt t0 D (vs1 ++ vs2)).get (pOf j) = (tmW ops nt t0 (fun _ => true) vs1).get (pOf j) := by
  have e : tmW ops nt t0 D (vs1 ++ vs2) = tmW ops nt (tmW ops nt t0 D vs1) D vs2 := by unfold tmW; rw [List.foldl_append]
  rw [e]
  have skip : ∀ (vs : Vs) (t : T AV), (∀ p ∈ vs, dstO ops p.1.i = some j → D p.1.i = false) → (tmW ops nt t D vs).get (pOf j) = t.get (pOf j) := by
    intro vs
    induction vs with
    | nil => intro t _; rfl
    | cons p vs ih =>
      intro t h
      show (tmW ops nt (if D p.1.i = true then putT nt t (dstO ops p.1.i) p.2 else t) D vs).get (pOf j) = _
      rw [ih _ (fun q hq => h q (by simp [hq]))]
      split
      · rename_i hd
        rw [putT_get, if_neg (fun q => by rw [h p (by simp) q] at hd; cases hd)]
      · rfl
  rw [skip vs2 _ h2]
  exact tmW_congr rfl (fun p hp hd => h1 p hp hd)
end Ev
end Go.Proofs.YtpmjneggkccaiaaGreatDoor
