/- A region whose order is drawn: plain facts. -/
import Derived.Test.YtdofhlmffponoaaEvZd
set_option linter.unusedVariables false
set_option linter.unusedSimpArgs false
namespace Go.Proofs.Ytdofhlmffponoaa
namespace Ev
theorem hasB_eq (m i : Nat) : hasB m i = m.testBit i := by
  unfold hasB
  rw [Nat.testBit_eq_decide_div_mod_eq]
  show Nat.beq ((m >>> i) &&& 1) 1 = _
  rw [Nat.and_one_is_mod, Nat.shiftRight_eq_div_pow]
  cases h : Nat.beq (m / 2 ^ i % 2) 1 with
  | true => simp [Nat.eq_of_beq_eq_true h]
  | false => simp [Nat.ne_of_beq_eq_false h]
theorem oneM_bit (i j : Nat) : (oneM i).testBit j = decide (i = j) := by
  show (1 <<< i).testBit j = _
  rw [Nat.one_shiftLeft, Nat.testBit_two_pow]
theorem subM_sub {a m : Nat} (h : subM a m = true) {i : Nat} (hi : a.testBit i = true) : m.testBit i = true := by
  have e : a &&& m = a := Nat.eq_of_beq_eq_true h
  rw [← e, Nat.testBit_and] at hi
  simp at hi
  exact hi.2
theorem subM_not {a m : Nat} (h : subM a m = false) : ∃ i, a.testBit i = true ∧ m.testBit i = false := by
  rcases Classical.em (∃ i, a.testBit i = true ∧ m.testBit i = false) with q | q
  · exact q
  · exfalso
    have e : a &&& m = a := by
      apply Nat.eq_of_testBit_eq
      intro i
      rw [Nat.testBit_and]
      cases ha : a.testBit i with
      | false => rfl
      | true =>
        cases hm : m.testBit i with
        | true => rfl
        | false => exact absurd ⟨i, ha, hm⟩ q
    have : Nat.beq (a &&& m) a = false := h
    rw [e] at this
    exact Nat.ne_of_beq_eq_false this rfl
theorem restr_get (tm : T AV) : ∀ (l : List Nat) (t : Nat), (restr l tm).get (pOf t) = if t ∈ l then tm.get (pOf t) else none
  | [], t => by
    show (T.leaf : T AV).get (pOf t) = _
    rw [T.get_leaf]; simp
  | s :: l, t => by
    show ((restr l tm).put (pOf s) (tm.get (pOf s))).get (pOf t) = _
    rw [T.put_get, restr_get tm l t]
    by_cases e : t = s
    · subst e; simp
    · rw [if_neg (fun q => e (pOf_inj q))]; simp [e]
theorem tblE_get : ∀ {l : List Dr} {j m : Nat}, (tblE l).get (pOf j) = some m → ∃ e ∈ l, e.i = j ∧ e.bf = m
  | [], j, m, h => by
    have h : (T.leaf : T Nat).get (pOf j) = some m := h
    rw [T.get_leaf] at h; cases h
  | e :: l, j, m, h => by
    have h : ((tblE l).put (pOf e.i) (some e.bf)).get (pOf j) = some m := h
    rw [T.put_get] at h
    split at h
    · rename_i q
      cases h
      exact ⟨e, by simp, (pOf_inj q).symm, rfl⟩
    · obtain ⟨f, h1, h2⟩ := tblE_get h
      exact ⟨f, by simp [h1], h2⟩
theorem bfE_bit {t : T Nat} : ∀ {l : List Edge} {j : Nat}, (bfE t l).testBit j = true → ∃ e ∈ l, bindG e.ground = true ∧ (j = e.on ∨ ∃ m, t.get (pOf e.on) = some m ∧ m.testBit j = true)
  | [], j, h => by
    have h : (0 : Nat).testBit j = true := h
    simp at h
  | e :: l, j, h => by
    have h : (tb (bindG e.ground) (bfE t l ||| (oneM e.on ||| oc (t.get (pOf e.on)) 0 (fun m => m))) (bfE t l)).testBit j = true := h
    cases hb : bindG e.ground with
    | false =>
      rw [hb] at h
      obtain ⟨f, h1, h2⟩ := bfE_bit (l := l) h
      exact ⟨f, by simp [h1], h2⟩
    | true =>
      rw [hb, tb_true, Nat.testBit_or, Nat.testBit_or, oneM_bit] at h
      simp only [Bool.or_eq_true, decide_eq_true_eq] at h
      rcases h with h | h | h
      · obtain ⟨f, h1, h2⟩ := bfE_bit (l := l) h
        exact ⟨f, by simp [h1], h2⟩
      · exact ⟨e, by simp, hb, .inl h.symm⟩
      · cases hg : t.get (pOf e.on) with
        | none => rw [hg] at h; simp [oc_none] at h
        | some m => rw [hg] at h; exact ⟨e, by simp, hb, .inr ⟨m, hg, h⟩⟩
theorem bfE_edge {t : T Nat} : ∀ {l : List Edge} {e : Edge}, e ∈ l → bindG e.ground = true → (bfE t l).testBit e.on = true
  | f :: l, e, h, hb => by
    show (tb (bindG f.ground) (bfE t l ||| (oneM f.on ||| oc (t.get (pOf f.on)) 0 (fun m => m))) (bfE t l)).testBit e.on = true
    cases h with
    | head => rw [hb, tb_true, Nat.testBit_or, Nat.testBit_or, oneM_bit]; simp
    | tail _ m =>
      have ih := bfE_edge (t := t) m hb
      cases bindG f.ground with
      | false => exact ih
      | true => rw [tb_true, Nat.testBit_or, ih]; rfl
theorem binds_eq (e : Edge) : Region.binds .any e = bindG e.ground := by
  unfold Region.binds bindG
  cases e.ground <;> rfl
def dstO (ops : List Oper) (i : Nat) : Option Tmp := (ops[i]?).bind (·.dst)
theorem dstE_eq (ops : List Oper) (e : Dr) : dstE ops e = (dstO ops e.i).toList := by
  unfold dstE dstO
  rw [nthO_eq]
  cases ops[e.i]? with
  | none => rfl
  | some o =>
    show optL o.dst = o.dst.toList
    cases o.dst <;> rfl
theorem wrE_mem {ops : List Oper} : ∀ {l : List Dr} {e : Dr} {t : Nat}, e ∈ l → dstO ops e.i = some t → ∃ ls, (wrE ops l).get (pOf t) = some ls ∧ e ∈ ls
  | f :: l, e, t, h, hd => by
    show ∃ ls, (oc (headL (dstE ops f)) (wrE ops l) (fun t => (wrE ops l).put (pOf t) (some (f :: oc ((wrE ops l).get (pOf t)) [] (fun l => l))))).get (pOf t) = some ls ∧ e ∈ ls
    rw [dstE_eq]
    cases hf : dstO ops f.i with
    | none =>
      cases h with
      | head => rw [hf] at hd; cases hd
      | tail _ m => exact wrE_mem m hd
    | some s =>
      show ∃ ls, ((wrE ops l).put (pOf s) (some (f :: oc ((wrE ops l).get (pOf s)) [] (fun l => l)))).get (pOf t) = some ls ∧ e ∈ ls
      rw [T.put_get]
      by_cases q : t = s
      · subst q
        rw [if_pos rfl]
        refine ⟨_, rfl, ?_⟩
        cases h with
        | head => simp
        | tail _ m =>
          obtain ⟨ls, h1, h2⟩ := wrE_mem m hd
          rw [h1]; simp [oc_some, h2]
      · rw [if_neg (fun z => q (pOf_inj z))]
        cases h with
        | head => rw [hf] at hd; cases hd; exact absurd rfl q
        | tail _ m => exact wrE_mem m hd
end Ev
end Go.Proofs.Ytdofhlmffponoaa
/- A region whose order is drawn: the order that the evaluator takes; temporaries. -/
set_option linter.unusedVariables false
set_option linter.unusedSimpArgs false
namespace Go.Proofs.Ytdofhlmffponoaa
namespace Ev
/-- What is known of the order. -/
structure Ord (ops : List Oper) (L : List Dr) : Prop where
  all : ∀ j, j < ops.length → ∃ x ∈ L, x.i = j
  lt : ∀ x ∈ L, ∃ o, ops[x.i]? = some o ∧ x.cl = kindO o.op ∧ ∀ j, x.bf.testBit j = true → ∃ e ∈ o.after.toList, bindG e.ground = true ∧ (j = e.on ∨ ∃ y ∈ L, y.i = e.on ∧ y.bf.testBit j = true)
  race : ∀ x ∈ L, ∀ t, (t ∈ x.rs ∨ dstO ops x.i = some t) → ∀ y ∈ L, dstO ops y.i = some t → x.i = y.i ∨ x.bf.testBit y.i = true ∨ y.bf.testBit x.i = true
  pre : ∀ C x r, L = C ++ x :: r → (∀ y ∈ C, y.i ≠ x.i) ∧ (∀ j, x.bf.testBit j = true → ∃ y ∈ C, y.i = j) ∧
    (∀ o, ops[x.i]? = some o → ∀ e ∈ o.after.toList, bindG e.ground = true → ∃ y ∈ C, y.i = e.on) ∧
    (isE x = true → ∀ y ∈ r, (isE y = true → y.bf.testBit x.i = true) ∧ (isE y = false → ∃ j, y.bf.testBit j = true ∧ ∀ z ∈ C, z.i ≠ j))
theorem walk_sound {ops : List Oper} {tbl : T Nat} {wr : T (List Dr)} {n : Nat} : ∀ {l : List Dr} {m : Nat}, walkE ops tbl wr n l m = true →
    (∀ j, j < n → m.testBit j = true ∨ ∃ x ∈ l, x.i = j) ∧
    ∀ C x r, l = C ++ x :: r → ∃ m', (∀ j, m'.testBit j = true ↔ (m.testBit j = true ∨ ∃ y ∈ C, y.i = j)) ∧ subM x.bf m' = true ∧ hasB m' x.i = false ∧ okE ops tbl wr x m' = true ∧ (isE x = true → lateE' x m' r = true)
  | [], m, h => by
    have h : Nat.beq m (Nat.sub (oneM n) 1) = true := h
    have e : m = 2 ^ n - 1 := by
      have := Nat.eq_of_beq_eq_true h
      rw [this]; show (1 <<< n) - 1 = _
      rw [Nat.one_shiftLeft]
    refine ⟨fun j hj => .inl (by rw [e, Nat.testBit_two_pow_sub_one]; simpa using hj), fun C x r hl => ?_⟩
    simp at hl
  | e :: l, m, h => by
    have h : andB (subM e.bf m) (andB (notB (hasB m e.i)) (andB (okE ops tbl wr e m) (andB (tb (isE e) (lateE' e m l) true) (walkE ops tbl wr n l (Nat.lor m (oneM e.i)))))) = true := h
    obtain ⟨h1, h⟩ := andB_true h
    obtain ⟨h2, h⟩ := andB_true h
    obtain ⟨h3, h⟩ := andB_true h
    obtain ⟨h4, h⟩ := andB_true h
    obtain ⟨g1, g2⟩ := walk_sound h
    have bit : ∀ j, (Nat.lor m (oneM e.i)).testBit j = true ↔ (m.testBit j = true ∨ e.i = j) := by
      intro j
      show (m ||| oneM e.i).testBit j = true ↔ _
      rw [Nat.testBit_or, oneM_bit]; simp
    constructor
    · intro j hj
      rcases g1 j hj with q | ⟨x, q1, q2⟩
      · rcases (bit j).1 q with q | q
        · exact .inl q
        · exact .inr ⟨e, by simp, q⟩
      · exact .inr ⟨x, by simp [q1], q2⟩
    · intro C x r hl
      cases C with
      | nil =>
        simp at hl
        obtain ⟨rfl, rfl⟩ := hl
        refine ⟨m, fun j => by simp, h1, notB_true h2, h3, fun he => ?_⟩
        rw [he] at h4; exact h4
      | cons c C =>
        simp at hl
        obtain ⟨rfl, hl⟩ := hl
        obtain ⟨m', q1, q2⟩ := g2 C x r hl
        refine ⟨m', fun j => ?_, q2⟩
        rw [q1 j, bit j]
        simp [or_assoc]
theorem vOk_ord {ops : List Oper} {L : List Dr} (h : vOk ops L = true) : Ord ops L := by
  have h : walkE ops (tblE L) (wrE ops L) (lenN ops) L 0 = true := h
  rw [lenN_eq] at h
  obtain ⟨g1, g2⟩ := walk_sound h
  have split : ∀ x ∈ L, ∃ C r, L = C ++ x :: r := fun x hx => List.append_of_mem hx
  have ok : ∀ x ∈ L, ∃ m', okE ops (tblE L) (wrE ops L) x m' = true := fun x hx => by
    obtain ⟨C, r, e⟩ := split x hx
    obtain ⟨m', _, _, _, q, _⟩ := g2 C x r e
    exact ⟨m', q⟩
  refine ⟨fun j hj => ?_, fun x hx => ?_, fun x hx t ht y hy hd => ?_, fun C x r e => ?_⟩
  · rcases g1 j hj with q | q
    · simp at q
    · exact q
  · obtain ⟨m', q⟩ := ok x hx
    obtain ⟨o, q1, q2⟩ := oc_true (x := nthO ops x.i) q
    obtain ⟨q3, q4⟩ := andB_true q2
    obtain ⟨q5, q6⟩ := andB_true q4
    refine ⟨o, by rw [← nthO_eq]; exact q1, beq_true q3, fun j hj => ?_⟩
    obtain ⟨e, e1, e2, e3⟩ := bfE_bit (subM_sub q5 hj)
    refine ⟨e, e1, e2, e3.imp id fun ⟨m, p1, p2⟩ => ?_⟩
    obtain ⟨y, y1, y2, y3⟩ := tblE_get p1
    exact ⟨y, y1, y2, by rw [y3]; exact p2⟩
  · obtain ⟨m', q⟩ := ok x hx
    obtain ⟨o, q1, q2⟩ := oc_true (x := nthO ops x.i) q
    obtain ⟨q3, q4⟩ := andB_true q2
    obtain ⟨q5, q6⟩ := andB_true q4
    obtain ⟨q7, q8⟩ := andB_true q6
    have hin : t ∈ appN (dstE ops x) x.rs := by
      rw [appN_eq, dstE_eq]
      rcases ht with ht | ht
      · exact List.mem_append_right _ ht
      · rw [ht]; simp
    have := allB_true q8 t hin
    obtain ⟨ls, p1, p2⟩ := wrE_mem hy hd
    rw [p1] at this
    have := allB_true (p := fun f => ordE x f) this y p2
    rcases tb_or (b := Nat.beq x.i y.i) this with ⟨z, _⟩ | ⟨_, z⟩
    · exact .inl (beq_true z)
    · rcases tb_or (b := hasB x.bf y.i) z with ⟨z, _⟩ | ⟨_, z⟩
      · exact .inr (.inl (by rw [← hasB_eq]; exact z))
      · exact .inr (.inr (by rw [← hasB_eq]; exact z))
  · obtain ⟨m', p1, p2, p3, p4, p5⟩ := g2 C x r e
    have p1 : ∀ j, m'.testBit j = true ↔ ∃ y ∈ C, y.i = j := fun j => by rw [p1 j]; simp
    rw [hasB_eq] at p3
    refine ⟨fun y hy he => ?_, fun j hj => (p1 j).1 (subM_sub p2 hj), fun o ho ed hed hb => ?_, fun he y hy => ?_⟩
    · rw [(p1 x.i).2 ⟨y, hy, he⟩] at p3; cases p3
    · obtain ⟨o', q1, q2⟩ := oc_true (x := nthO ops x.i) p4
      rw [nthO_eq, ho] at q1; cases q1
      obtain ⟨q3, q4⟩ := andB_true q2
      obtain ⟨q5, q6⟩ := andB_true q4
      obtain ⟨q7, q8⟩ := andB_true q6
      exact (p1 _).1 (subM_sub q7 (bfE_edge hed hb))
    · have := allB_true (p5 he) y hy
      constructor
      · intro hy'
        rw [hy'] at this
        rw [← hasB_eq]; exact this
      · intro hy'
        rw [hy'] at this
        obtain ⟨j, j1, j2⟩ := subM_not (notB_true this)
        refine ⟨j, j1, fun z hz he' => ?_⟩
        rw [(p1 j).2 ⟨z, hz, he'⟩] at j2; cases j2
/-- An index stands once. -/
theorem Ord.uniq {ops : List Oper} {L : List Dr} (h : Ord ops L) {x y : Dr} (hx : x ∈ L) (hy : y ∈ L) (e : x.i = y.i) : x = y := by
  obtain ⟨C, r, e1⟩ := List.append_of_mem hx
  rw [e1] at hy
  rcases List.mem_append.1 hy with q | q
  · exact absurd e.symm ((h.pre C x r e1).1 y q)
  · cases q with
    | head => rfl
    | tail _ q =>
      obtain ⟨C', r', e2⟩ := List.append_of_mem q
      have e3 : L = (C ++ x :: C') ++ y :: r' := by rw [e1, e2]; simp
      exact absurd e ((h.pre _ y r' e3).1 x (by simp))
abbrev Vs := List (Dr × AV)
noncomputable def putT (nt : Nat) (t : T AV) (dst : Option Tmp) (v : AV) : T AV := match dst with
  | none => t
  | some d => t.put (pOf d) (tb (Nat.blt d nt) (some v) none)
/-- The temporaries where those have come up that D says. -/
noncomputable def tmW (ops : List Oper) (nt : Nat) (t0 : T AV) (D : Nat → Bool) (vs : Vs) : T AV :=
  vs.foldl (fun t p => if D p.1.i = true then putT nt t (dstO ops p.1.i) p.2 else t) t0
theorem tmW_snoc (ops : List Oper) (nt : Nat) (t0 : T AV) (D : Nat → Bool) (vs : Vs) (p : Dr × AV) : tmW ops nt t0 D (vs ++ [p]) = (if D p.1.i = true then putT nt (tmW ops nt t0 D vs) (dstO ops p.1.i) p.2 else tmW ops nt t0 D vs) := by
  unfold tmW
  rw [List.foldl_append]; rfl
theorem putT_get (nt : Nat) (t : T AV) (dst : Option Tmp) (v : AV) (j : Nat) : (putT nt t dst v).get (pOf j) = if dst = some j then tb (Nat.blt j nt) (some v) none else t.get (pOf j) := by
  cases dst with
  | none => simp [putT]
  | some d =>
    show (t.put (pOf d) _).get (pOf j) = _
    rw [T.put_get]
    by_cases e : j = d
    · subst e; simp
    · rw [if_neg (fun q => e (pOf_inj q)), if_neg (fun q => e (by cases q; rfl))]
/-- Those alone count that write it. -/
theorem tmW_congr {ops : List Oper} {nt : Nat} {D D' : Nat → Bool} {j : Nat} : ∀ {vs : Vs} {t0 t0' : T AV}, t0.get (pOf j) = t0'.get (pOf j) → (∀ p ∈ vs, dstO ops p.1.i = some j → D p.1.i = D' p.1.i) → (tmW ops nt t0 D vs).get (pOf j) = (tmW ops nt t0' D' vs).get (pOf j)
  | [], _, _, h, _ => h
  | p :: vs, t0, t0', h, hD => by
    show (tmW ops nt (if D p.1.i = true then putT nt t0 (dstO ops p.1.i) p.2 else t0) D vs).get (pOf j) = (tmW ops nt (if D' p.1.i = true then putT nt t0' (dstO ops p.1.i) p.2 else t0') D' vs).get (pOf j)
    refine tmW_congr ?_ (fun q hq => hD q (by simp [hq]))
    by_cases hd : dstO ops p.1.i = some j
    · rw [hD p (by simp) hd]
      split
      · rw [putT_get, putT_get, hd]; simp
      · exact h
    · have e : ∀ (b : Bool) (t : T AV), (if b = true then putT nt t (dstO ops p.1.i) p.2 else t).get (pOf j) = t.get (pOf j) := by
        intro b t
        split
        · rw [putT_get, if_neg hd]
        · rfl
      rw [e, e]; exact h
/-- Those that have not come up, and do not write it, make no difference. -/
theorem tmW_agree {ops : List Oper} {nt : Nat} {t0 : T AV} {D : Nat → Bool} {j : Nat} {vs1 vs2 : Vs} (h1 : ∀ p ∈ vs1, dstO ops p.1.i = some j → D p.1.i = true) (h2 : ∀ p ∈ vs2, dstO ops p.1.i = some j → D p.1.i = false) :
    (tmW ops nt t0 D (vs1 ++ vs2)).get (pOf j) = (tmW ops nt t0 (fun _ => true) vs1).get (pOf j) := by
  have e : tmW ops nt t0 D (vs1 ++ vs2) = tmW ops nt (tmW ops nt t0 D vs1) D vs2 := by unfold tmW; rw [List.foldl_append]
  rw [e]
  have skip : ∀ (vs : Vs) (t : T AV), (∀ p ∈ vs, dstO ops p.1.i = some j → D p.1.i = false) → (tmW ops nt t D vs).get (pOf j) = t.get (pOf j) := by
    intro vs
    induction vs with
    | nil => intro t _; rfl
    | cons p vs ih =>
      intro t h
      show (tmW ops nt (if D p.1.i = true then putT nt t (dstO ops p.1.i) p.2 else t) D vs).get (pOf j) = _
      rw [ih _ (fun q hq => h q (by simp [hq]))]
      split
      · rename_i hd
        rw [putT_get, if_neg (fun q => by rw [h p (by simp) q] at hd; cases hd)]
      · rfl
  rw [skip vs2 _ h2]
  exact tmW_congr rfl (fun p hp hd => h1 p hp hd)
end Ev
end Go.Proofs.Ytdofhlmffponoaa
/- A region whose order is drawn: what holds while it is carried out. -/
set_option linter.unusedVariables false
set_option linter.unusedSimpArgs false
namespace Go.Proofs.Ytdofhlmffponoaa
namespace Ev
def Pd.tm : Pd → T AV
  | .sk _ tm => tm
  | .rd _ tm _ => tm
  | .al _ tm _ _ _ => tm
def Pd.val : Pd → AV
  | .sk _ _ => .tup []
  | .rd _ _ v => v
  | .al _ _ mk b _ => mk b
/-- What is known of an operation that may not have come up yet. -/
def PF (T0 : Tab) (ops : List Oper) (hp : T AO) (nx : Bn) : Pd → Prop
  | .sk e tm => ∃ o, ops[e.i]? = some o ∧ wantedE ops tm o = some false
  | .rd e tm v => ∃ o, ops[e.i]? = some o ∧ wantedE ops tm o = some true ∧ tryO T0 ops e tm hp nx = some (.pv v)
  | .al e tm mk _ ao => ∃ o, ops[e.i]? = some o ∧ wantedE ops tm o = some true ∧ ∀ hp nx, tryO T0 ops e tm hp nx = some (.nw mk ao)
structure Mem (w0 wD : Fx) (D : Nat → Bool) (pend : List Pd) (μ : Mu) (H : T AO) (nx nm : Bn) (w : World) : Prop where
  hr : HR wD μ H nx w
  wE : wD.w = w0.w
  kE : ∀ i o, w0.k i = some o → wD.k i = some o
  rE : ∀ b, w0.rs b = true → wD.rs b = true
  no : ∀ e tm mk b o, Pd.al e tm mk b o ∈ pend → D e.i = false → wD.rs b = true
  yes : ∀ e tm mk b o, Pd.al e tm mk b o ∈ pend → D e.i = true → ∃ l obj, μ b = some l ∧ wD.k l.blk = some obj ∧ w0.k l.blk = none ∧ ∀ (W : World) ν, Mu.le μ ν → W.heap[l.blk]? = some obj → RO ν l W o
  fr : ∀ e tm mk b o, Pd.al e tm mk b o ∈ pend → b.toN < nm.toN ∧ H.get b = none ∧ w0.rs b = false
  uq : ∀ e tm mk b o e' tm' mk' o', Pd.al e tm mk b o ∈ pend → Pd.al e' tm' mk' b o' ∈ pend → e.i = e'.i ∧ o = o'
  bq : ∀ e tm mk b o e' tm' mk' b' o', Pd.al e tm mk b o ∈ pend → Pd.al e' tm' mk' b' o' ∈ pend → b ≠ b' → D e.i = true → D e'.i = true → ∀ l l', μ b = some l → μ b' = some l' → l.blk ≠ l'.blk
  nmx : nm.toN ≤ nx.toN
  nmf : ∀ b, nm.toN ≤ b.toN → μ b = none
  rlt : ∀ b, w0.rs b = true → b.toN < nm.toN
structure DI (T0 : Tab) (ops : List Oper) (L : List Dr) (nt : Nat) (t0 : T AV) (w0 wD : Fx) (F : Fence) (rc : Option AV) (rd : Bool) (C rest : List Dr) (vs : Vs) (σ : AS) (pend : List Pd) (D : Nat → Bool) (a : Act) (w : World) (μ : Mu) (nm : Bn) : Prop where
  hL : L = C ++ rest
  hv : vs.map (·.1) = C
  tm : σ.tm = tmW ops nt t0 (fun _ => true) vs
  ntE : σ.nt = nt
  dn : ∀ j, D j = true → ∃ x ∈ C, x.i = j
  ef : ∀ x ∈ C, isE x = true → D x.i = true
  cl : ∀ x ∈ C, D x.i = true → ∀ j, x.bf.testBit j = true → D j = true
  pd : ∀ p ∈ vs, D p.1.i = false → ∃ q ∈ pend, q.dr = p.1 ∧ q.val = p.2
  pf : ∀ q ∈ pend, PF T0 ops σ.hp σ.nx q ∧ ∃ vs1 vs2, vs = vs1 ++ (q.dr, q.val) :: vs2 ∧ q.tm = restr q.dr.rs (tmW ops nt t0 (fun _ => true) vs1)
  nd : (pend.map (fun q => q.dr.i)).Nodup
  rt : RT μ (tmW ops nt t0 D vs) a.tmps
  sz : a.tmps.size = nt
  df : RDs μ σ.df a.defers
  fen : Fen μ F σ.ro
  rc : σ.rc = rc
  rd : σ.rd = rd
  mem : Mem w0 wD D pend μ σ.hp σ.nx nm w
section
variable {ops : List Oper} {L : List Dr} {nt : Nat} {t0 : T AV}
/-- Of two the one that stands ahead neither is the other nor waits for it. -/
theorem Ord.before (h : Ord ops L) {A B : List Dr} {x y : Dr} (e : L = A ++ x :: B) (hy : y ∈ B) : x.i ≠ y.i ∧ x.bf.testBit y.i = false := by
  obtain ⟨B1, B2, e2⟩ := List.append_of_mem hy
  have e3 : L = (A ++ x :: B1) ++ y :: B2 := by rw [e, e2]; simp
  have hpre := (h.pre _ y B2 e3).1
  refine ⟨hpre x (by simp), ?_⟩
  cases hb : x.bf.testBit y.i with
  | false => rfl
  | true =>
    obtain ⟨z, z1, z2⟩ := (h.pre A x B e).2.1 y.i hb
    exact absurd z2 (hpre z (by simp [z1]))
theorem map_split {vs vs1 vs2 : Vs} {p : Dr × AV} {C rest : List Dr} (hL : L = C ++ rest) (hv : vs.map (·.1) = C) (e : vs = vs1 ++ p :: vs2) : L = vs1.map (·.1) ++ p.1 :: (vs2.map (·.1) ++ rest) := by
  rw [hL, ← hv, e]; simp
/-- What one reads that has not come up yet stands in its temporaries. -/
theorem reads_rt (hO : Ord ops L) {vs vs1 vs2 : Vs} {x : Dr} {v : AV} {C rest : List Dr} {D : Nat → Bool} {μ : Mu} {tmps : Array Value} (hL : L = C ++ rest) (hv : vs.map (·.1) = C) (e : vs = vs1 ++ (x, v) :: vs2)
    (hrt : RT μ (tmW ops nt t0 D vs) tmps) (hx : D x.i = false) (hb : ∀ j, x.bf.testBit j = true → D j = true) (hcl : ∀ x ∈ C, D x.i = true → ∀ j, x.bf.testBit j = true → D j = true) :
    RT μ (restr x.rs (tmW ops nt t0 (fun _ => true) vs1)) tmps := by
  have hL' := map_split hL hv e
  intro t u hu
  rw [restr_get] at hu
  split at hu
  · rename_i ht
    refine hrt t u ?_
    rw [e, tmW_agree ?_ ?_]
    · exact hu
    · intro p hp hd
      have hpL : p.1 ∈ L := by rw [hL']; exact List.mem_append_left _ (List.mem_map.2 ⟨p, hp, rfl⟩)
      have hxL : x ∈ L := by rw [hL']; simp
      obtain ⟨A, B, e2⟩ := List.append_of_mem (List.mem_map.2 ⟨p, hp, rfl⟩ : p.1 ∈ vs1.map (·.1))
      have hbef := hO.before (A := A) (x := p.1) (B := B ++ x :: (vs2.map (·.1) ++ rest)) (y := x) (by rw [hL', e2]; simp) (by simp)
      rcases hO.race x hxL t (.inl ht) p.1 hpL hd with q | q | q
      · exact absurd q.symm hbef.1
      · exact hb _ q
      · rw [hbef.2] at q; cases q
    · intro p hp hd
      cases hp with
      | head => exact hx
      | tail _ hp =>
        have hpL : p.1 ∈ L := by rw [hL']; exact List.mem_append_right _ (List.mem_cons_of_mem _ (List.mem_append_left _ (List.mem_map.2 ⟨p, hp, rfl⟩)))
        have hxL : x ∈ L := by rw [hL']; simp
        have hbef := hO.before hL' (y := p.1) (List.mem_append_left _ (List.mem_map.2 ⟨p, hp, rfl⟩))
        rcases hO.race x hxL t (.inl ht) p.1 hpL hd with q | q | q
        · exact absurd q hbef.1
        · rw [hbef.2] at q; cases q
        · cases hD : D p.1.i with
          | false => rfl
          | true =>
            have := hcl p.1 (by rw [← hv, e]; simp; exact .inr (.inr ⟨p.2, hp⟩)) hD _ q
            rw [hx] at this; cases this
  · cases hu
/-- Its value is put in. -/
theorem put_rt (hO : Ord ops L) {vs vs1 vs2 : Vs} {x : Dr} {v : AV} {C rest : List Dr} {D D' : Nat → Bool} {μ ν : Mu} {a : Act} {xv : Value} (hL : L = C ++ rest) (hv : vs.map (·.1) = C) (e : vs = vs1 ++ (x, v) :: vs2)
    (hrt : RT μ (tmW ops nt t0 D vs) a.tmps) (hsz : a.tmps.size = nt) (hx : D x.i = false) (hb : ∀ j, x.bf.testBit j = true → D j = true) (hcl : ∀ x ∈ C, D x.i = true → ∀ j, x.bf.testBit j = true → D j = true)
    (hD' : ∀ j, D' j = (D j || decide (j = x.i))) (le : Mu.le μ ν) (hr : RV ν v xv) : RT ν (tmW ops nt t0 D' vs) (a.put (dstO ops x.i) xv).tmps := by
  have hL' := map_split hL hv e
  have hxL : x ∈ L := by rw [hL']; simp
  intro t u hu
  by_cases hd : dstO ops x.i = some t
  · have e' : vs = (vs1 ++ [(x, v)]) ++ vs2 := by rw [e]; simp
    rw [e', tmW_agree ?_ ?_, tmW_snoc] at hu
    · simp only [if_true] at hu
      rw [putT_get, if_pos hd] at hu
      rcases tb_or hu with ⟨h1, h2⟩ | ⟨_, h2⟩
      · cases h2
        rw [blt_eq] at h1
        have ht : t < a.tmps.size := by rw [hsz]; simpa using h1
        rw [hd]
        simp [Act.put, ht]
        exact hr
      · cases h2
    · intro p hp hpd
      rw [hD']
      rcases List.mem_append.1 hp with hp | hp
      · have hpL : p.1 ∈ L := by rw [hL']; exact List.mem_append_left _ (List.mem_map.2 ⟨p, hp, rfl⟩)
        obtain ⟨A, B, e2⟩ := List.append_of_mem (List.mem_map.2 ⟨p, hp, rfl⟩ : p.1 ∈ vs1.map (·.1))
        have hbef := hO.before (A := A) (x := p.1) (B := B ++ x :: (vs2.map (·.1) ++ rest)) (y := x) (by rw [hL', e2]; simp) (by simp)
        rcases hO.race x hxL t (.inr hd) p.1 hpL hpd with q | q | q
        · exact absurd q.symm hbef.1
        · simp [hb _ q]
        · rw [hbef.2] at q; cases q
      · simp at hp; subst hp; simp
    · intro p hp hpd
      have hpL : p.1 ∈ L := by rw [hL']; exact List.mem_append_right _ (List.mem_cons_of_mem _ (List.mem_append_left _ (List.mem_map.2 ⟨p, hp, rfl⟩)))
      have hbef := hO.before hL' (y := p.1) (List.mem_append_left _ (List.mem_map.2 ⟨p, hp, rfl⟩))
      rw [hD']
      have hne : ¬ p.1.i = x.i := fun q => hbef.1 q.symm
      simp only [hne, decide_false, Bool.or_false]
      rcases hO.race x hxL t (.inr hd) p.1 hpL hpd with q | q | q
      · exact absurd q hbef.1
      · rw [hbef.2] at q; cases q
      · cases hDp : D p.1.i with
        | false => rfl
        | true =>
          have := hcl p.1 (by rw [← hv, e]; simp; exact .inr (.inr ⟨p.2, hp⟩)) hDp _ q
          rw [hx] at this; cases this
  · have e2 : (tmW ops nt t0 D' vs).get (pOf t) = (tmW ops nt t0 D vs).get (pOf t) := tmW_congr rfl (fun p hp hpd => by
      rw [hD']
      have hne : ¬ p.1.i = x.i := fun q => hd (by rw [← q]; exact hpd)
      simp [hne])
    rw [e2] at hu
    have := (hrt t u hu).mono le
    cases hdx : dstO ops x.i with
    | none => exact this
    | some d =>
      have hne : d ≠ t := fun q => hd (by rw [hdx, q])
      simp only [Act.put, Array.getD_eq_getD_getElem?, Array.getElem?_setIfInBounds_ne hne] at this ⊢
      exact this
end
end Ev
end Go.Proofs.Ytdofhlmffponoaa
/- A region whose order is drawn: the evaluator goes on; an operation comes up. -/
set_option linter.unusedVariables false
set_option linter.unusedSimpArgs false
namespace Go.Proofs.Ytdofhlmffponoaa
namespace Ev
theorem bumpE_succ : ∀ (r : List Dr) (nm : Bn), (bumpE r nm.succ).toN = (bumpE r nm).toN + 1
  | [], nm => Bn.toN_succ nm
  | e :: r, nm => by
    show (tb (isE e) nm.succ (tb (Nat.beq e.cl 1) (bumpE r nm.succ).succ (bumpE r nm.succ))).toN = (tb (isE e) nm (tb (Nat.beq e.cl 1) (bumpE r nm).succ (bumpE r nm))).toN + 1
    cases isE e with
    | true => exact Bn.toN_succ nm
    | false =>
      simp only [tb_false]
      cases Nat.beq e.cl 1 with
      | true => simp only [tb_true, Bn.toN_succ, bumpE_succ r nm]
      | false => simp only [tb_false]; exact bumpE_succ r nm
theorem bumpE_le : ∀ (r : List Dr) (nm : Bn), nm.toN ≤ (bumpE r nm).toN
  | [], nm => Nat.le_refl _
  | e :: r, nm => by
    show nm.toN ≤ (tb (isE e) nm (tb (Nat.beq e.cl 1) (bumpE r nm).succ (bumpE r nm))).toN
    have ih := bumpE_le r nm
    cases isE e with
    | true => exact Nat.le_refl _
    | false =>
      simp only [tb_false]
      cases Nat.beq e.cl 1 with
      | true => simp only [tb_true, Bn.toN_succ]; omega
      | false => simp only [tb_false]; exact ih
/-- More names are told to be kept for later. -/
def Fx.keep (F : Fx) (b : Bn) : Fx := { F with rs := fun c => F.rs c || decide (c = b) }
theorem HR.keepB {w0 : Fx} {μ : Mu} {H : T AO} {nx : Bn} {w : World} (h : HR w0 μ H nx w) {b : Bn} (h1 : μ b = none) (h2 : b.toN < nx.toN) : HR (w0.keep b) μ H nx w :=
  ⟨⟨h.ext.os, h.ext.tape, h.ext.out, h.ext.kp⟩, h.base, h.live, h.sep, h.new, fun c hc => by
    have hc : (w0.rs c || decide (c = b)) = true := hc
    rw [Bool.or_eq_true] at hc
    rcases hc with hc | hc
    · exact h.res c hc
    · have : c = b := by simpa using hc
      subst this
      exact ⟨h1, h2⟩⟩
theorem asPv_some {r : Out} {v : AV} (h : asPv r = some v) : r = .pv v := by cases r <;> cases h; rfl
theorem asNw_some {r : Out} {q : Nw} (h : asNw r = some q) : r = .nw q.f q.o := by cases r <;> cases h; rfl
theorem kind1 {o : Op} (h : kindO o = 1) : (∃ el, o = .alloc el) ∨ (∃ el x, o = .box el x) ∨ (∃ t n ps, o = .buildSlice t n ps) ∨ (∃ t x y, o = .makeSlice t x y) ∨ (∃ t r, o = .makeMap t r) := by
  cases o <;> first
    | exact .inl ⟨_, rfl⟩
    | exact .inr (.inl ⟨_, _, rfl⟩)
    | exact .inr (.inr (.inl ⟨_, _, _, rfl⟩))
    | exact .inr (.inr (.inr (.inl ⟨_, _, _, rfl⟩)))
    | exact .inr (.inr (.inr (.inr ⟨_, _, rfl⟩)))
    | (exfalso; revert h; simp only [kindO]; decide)
    | (exfalso; revert h; simp only [kindO, callK]; split <;> decide)
/-- Those that make blocks do not look at memory. -/
theorem tryO_any {T0 : Tab} {ops : List Oper} {e : Dr} {o : Oper} {tm : T AV} {hp : T AO} {nx : Bn} {out : Out} (ho : ops[e.i]? = some o) (hk : kindO o.op = 1) (h : tryO T0 ops e tm hp nx = some out) (hp' : T AO) (nx' : Bn) : tryO T0 ops e tm hp' nx' = some out := by
  unfold tryO at h ⊢
  rw [nthO_eq, ho] at h ⊢
  have h : (ob (opE T0 o.op) fun f => f (sigR tm hp nx)) = some out := h
  show (ob (opE T0 o.op) fun f => f (sigR tm hp' nx')) = some out
  obtain ⟨f, h1, h2⟩ := ob_some h
  rw [h1]
  show f (sigR tm hp' nx') = some out
  rcases kind1 hk with ⟨el, e1⟩ | ⟨el, x, e1⟩ | ⟨t, n, ps, e1⟩ | ⟨t, x, y, e1⟩ | ⟨t, r, e1⟩ <;> rw [e1] at h1
  · obtain ⟨i, g1, g2⟩ := ob_some (show (ob (T0.t el) _) = some f from h1)
    cases g2; exact h2
  · cases h1; exact h2
  · obtain ⟨i, g1, g2⟩ := ob_some (show (ob (elemI T0 t) _) = some f from h1)
    cases g2; exact h2
  · obtain ⟨i, g1, g2⟩ := ob_some (show (ob (elemI T0 t) _) = some f from h1)
    cases g2; exact h2
  · obtain ⟨i, g1, g2⟩ := ob_some (show (ob (keyT T0 t) _) = some f from h1)
    cases g2; exact h2
section
variable {T0 : Tab} {ops : List Oper} {L : List Dr} {nt : Nat} {t0 : T AV} {w0 wD : Fx} {F : Fence} {rc : Option AV} {rd : Bool} {C rest : List Dr} {vs : Vs} {σ : AS} {pend : List Pd} {D : Nat → Bool} {a : Act} {w : World} {μ : Mu} {nm : Bn}
theorem putE_put (σ : AS) (dst : Option Tmp) (v : AV) (hp : T AO) (nx : Bn) : (putE σ dst v hp nx).tm = putT σ.nt σ.tm dst v := by
  rw [putE_tm]; cases dst <;> rfl
/-- One operation more has been looked at by the evaluator. -/
theorem DI.more (hO : Ord ops L) {en : Dr} {r : List Dr} (h : DI T0 ops L nt t0 w0 wD F rc rd C (en :: r) vs σ pend D a w μ nm) (hE : isE en = false) {o : Oper} (ho : ops[en.i]? = some o) {q : Pd} {nm' : Bn} {wD' : Fx}
    (hq : q.dr = en) (hqt : q.tm = restr en.rs σ.tm) (hqf : PF T0 ops σ.hp σ.nx q) (hm : Mem w0 wD' D (q :: pend) μ σ.hp σ.nx nm' w) :
    DI T0 ops L nt t0 w0 wD' F rc rd (C ++ [en]) r (vs ++ [(en, q.val)]) (putE σ o.dst q.val σ.hp σ.nx) (q :: pend) D a w μ nm' := by
  have hdst : dstO ops en.i = o.dst := by unfold dstO; rw [ho]; rfl
  have hD : D en.i = false := by
    cases hd : D en.i with
    | false => rfl
    | true =>
      obtain ⟨x, x1, x2⟩ := h.dn _ hd
      exact absurd x2 ((hO.pre C en r h.hL).1 x x1)
  refine ⟨by rw [h.hL]; simp, by rw [List.map_append, h.hv]; rfl, ?_, h.ntE, fun j hj => ?_, fun x hx he => ?_, fun x hx hd => ?_, fun p hp hd => ?_, fun p hp => ?_, ?_, ?_, h.sz, h.df, h.fen, h.rc, h.rd, hm⟩
  · rw [putE_put, tmW_snoc, if_pos rfl, hdst, h.ntE, h.tm]
  · obtain ⟨x, x1, x2⟩ := h.dn j hj
    exact ⟨x, by simp [x1], x2⟩
  · rcases List.mem_append.1 hx with hx | hx
    · exact h.ef x hx he
    · simp at hx; subst hx; rw [hE] at he; cases he
  · rcases List.mem_append.1 hx with hx | hx
    · exact h.cl x hx hd
    · simp at hx; subst hx; rw [hD] at hd; cases hd
  · rcases List.mem_append.1 hp with hp | hp
    · obtain ⟨q', h1, h2⟩ := h.pd p hp hd
      exact ⟨q', by simp [h1], h2⟩
    · simp at hp; subst hp
      exact ⟨q, by simp, hq, rfl⟩
  · cases hp with
    | head => exact ⟨hqf, vs, [], by rw [hq], by rw [hqt, hq, h.tm]⟩
    | tail _ hp =>
      obtain ⟨h1, vs1, vs2, h2, h3⟩ := h.pf p hp
      exact ⟨h1, vs1, vs2 ++ [(en, q.val)], by rw [h2]; simp, h3⟩
  · rw [List.map_cons, List.nodup_cons]
    refine ⟨fun hin => ?_, h.nd⟩
    obtain ⟨q', h1, h2⟩ := List.mem_map.1 hin
    obtain ⟨_, vs1, vs2, h3, _⟩ := h.pf q' h1
    have : q'.dr ∈ C := by rw [← h.hv, h3]; simp
    exact (hO.pre C en r h.hL).1 q'.dr this (by rw [h2, hq])
  · rw [tmW_snoc, if_neg (by rw [hD]; simp)]
    exact h.rt
/-- The evaluator goes on to the next one that may do anything. -/
theorem DI.layer (hO : Ord ops L) {self deep : Self} {k : AEx → AS → R} : ∀ (rest C : List Dr) (vs : Vs) (σ : AS) (pend : List Pd) (nm : Bn) (wD : Fx), DI T0 ops L nt t0 w0 wD F rc rd C rest vs σ pend D a w μ nm → (bumpE rest nm).toN ≤ σ.nx.toN → runD self deep T0 ops k rest σ nm pend = .ok →
    ∃ C' rest' vs' σ' pend' nm' wD', DI T0 ops L nt t0 w0 wD' F rc rd C' rest' vs' σ' pend' D a w μ nm' ∧ runD self deep T0 ops k rest' σ' nm' pend' = .ok ∧ (rest' = [] ∨ ∃ e r, rest' = e :: r ∧ isE e = true)
  | [], C, vs, σ, pend, nm, wD, h, _, hr => ⟨C, [], vs, σ, pend, nm, wD, h, hr, .inl rfl⟩
  | en :: r, C, vs, σ, pend, nm, wD, h, hb, hr => by
    have hr0 := hr
    have hr : oc (nthO ops en.i) (.no "drawn") (fun o => tb (isE en) (effD self deep T0 ops k en o r (runD self deep T0 ops k r) σ pend) (quietD T0 ops en o (runD self deep T0 ops k r) σ nm pend)) = .ok := hr
    obtain ⟨o, h1, h2⟩ := oc_ok hr
    rw [nthO_eq] at h1
    rcases tb_or (b := isE en) h2 with ⟨hE, _⟩ | ⟨hE, h2⟩
    · exact ⟨C, en :: r, vs, σ, pend, nm, wD, h, hr0, .inr ⟨en, r, rfl, hE⟩⟩
    have hbump : (tb (Nat.beq en.cl 1) (bumpE r nm).succ (bumpE r nm)).toN ≤ σ.nx.toN := by
      have e : bumpE (en :: r) nm = tb (isE en) nm (tb (Nat.beq en.cl 1) (bumpE r nm).succ (bumpE r nm)) := rfl
      rw [e, hE] at hb; exact hb
    have hbump0 : (bumpE r nm).toN ≤ σ.nx.toN := by
      cases hc : Nat.beq en.cl 1 with
      | true => rw [hc, tb_true, Bn.toN_succ] at hbump; omega
      | false => rw [hc] at hbump; exact hbump
    obtain ⟨b, h3, h4⟩ := oc_ok h2
    have same : ∀ q : Pd, (∀ e tm mk b o, q ≠ .al e tm mk b o) → Mem w0 wD D (q :: pend) μ σ.hp σ.nx nm w := by
      intro q hq
      have old : ∀ {e tm mk b o}, Pd.al e tm mk b o ∈ q :: pend → Pd.al e tm mk b o ∈ pend := fun {e tm mk b o} hin => by
        cases hin with
        | head => exact absurd rfl (hq e tm mk b o)
        | tail _ m => exact m
      have m := h.mem
      exact ⟨m.hr, m.wE, m.kE, m.rE, fun e tm mk b o hin => m.no e tm mk b o (old hin), fun e tm mk b o hin => m.yes e tm mk b o (old hin), fun e tm mk b o hin => m.fr e tm mk b o (old hin),
        fun e tm mk b o e' tm' mk' o' h1 h2 => m.uq e tm mk b o e' tm' mk' o' (old h1) (old h2), fun e tm mk b o e' tm' mk' b' o' h1 h2 => m.bq e tm mk b o e' tm' mk' b' o' (old h1) (old h2), m.nmx, m.nmf, m.rlt⟩
    have hD : D en.i = false := by
      cases hd : D en.i with
      | false => rfl
      | true =>
        obtain ⟨x, x1, x2⟩ := h.dn _ hd
        exact absurd x2 ((hO.pre C en r h.hL).1 x x1)
    rcases tb_or (b := b) h4 with ⟨rfl, h5⟩ | ⟨rfl, h5⟩
    · obtain ⟨out, h6, h7⟩ := oc_ok h5
      rcases oc_or (x := asPv out) h7 with ⟨_, h8⟩ | ⟨v, h8, h9⟩
      · obtain ⟨q, h9, h10⟩ := oc_ok h8
        obtain ⟨h11, h12⟩ := cb'_ok h10
        rw [asNw_some h9] at h6
        have hcl : en.cl = 1 := beq_true h11
        have henL : en ∈ L := by rw [h.hL]; simp
        have hk : kindO o.op = 1 := by
          obtain ⟨o', q1, q2, _⟩ := hO.lt en henL
          rw [h1] at q1; cases q1
          rw [← q2, hcl]
        rw [h11, tb_true, Bn.toN_succ] at hbump
        have hle := bumpE_le r nm
        have hnm : nm.toN < σ.nx.toN := by omega
        have m := h.mem
        have hμ := m.nmf nm (Nat.le_refl _)
        have hmem : Mem w0 (wD.keep nm) D (.al en (restr en.rs σ.tm) q.f nm q.o :: pend) μ σ.hp σ.nx nm.succ w := by
          refine ⟨m.hr.keepB hμ hnm, m.wE, m.kE, fun b hb => ?_, fun e tm mk b o hin hd => ?_, fun e tm mk b o hin hd => ?_, fun e tm mk b o hin => ?_, fun e tm mk b o e' tm' mk' o' i1 i2 => ?_, fun e tm mk b o e' tm' mk' b' o' i1 i2 hne d1 d2 => ?_, by rw [Bn.toN_succ]; omega, fun b hb => m.nmf b (by rw [Bn.toN_succ] at hb; omega), fun b hb => by have := m.rlt b hb; rw [Bn.toN_succ]; omega⟩
          · show (wD.rs b || decide (b = nm)) = true
            rw [m.rE b hb]; rfl
          · cases hin with
            | head => show (wD.rs nm || decide (nm = nm)) = true; simp
            | tail _ hin => show (wD.rs b || decide (b = nm)) = true; rw [m.no e tm mk b o hin hd]; rfl
          · cases hin with
            | head => rw [hD] at hd; cases hd
            | tail _ hin => exact m.yes e tm mk b o hin hd
          · cases hin with
            | head =>
              refine ⟨by rw [Bn.toN_succ]; omega, ?_, ?_⟩
              · cases hg : σ.hp.get nm with
                | none => rfl
                | some x =>
                  obtain ⟨l, l1, _⟩ := m.hr.live nm x hg
                  rw [hμ] at l1; cases l1
              · cases hg : w0.rs nm with
                | false => rfl
                | true => have := m.rlt nm hg; omega
            | tail _ hin =>
              obtain ⟨f1, f2, f3⟩ := m.fr e tm mk b o hin
              exact ⟨by rw [Bn.toN_succ]; omega, f2, f3⟩
          · cases i1 with
            | head =>
              cases i2 with
              | head => exact ⟨rfl, rfl⟩
              | tail _ i2 => have := (m.fr _ _ _ _ _ i2).1; omega
            | tail _ i1 =>
              cases i2 with
              | head => have := (m.fr _ _ _ _ _ i1).1; omega
              | tail _ i2 => exact m.uq _ _ _ _ _ _ _ _ _ i1 i2
          · cases i1 with
            | head => rw [hD] at d1; cases d1
            | tail _ i1 =>
              cases i2 with
              | head => rw [hD] at d2; cases d2
              | tail _ i2 => exact m.bq _ _ _ _ _ _ _ _ _ _ i1 i2 hne d1 d2
        have hnext := h.more hO hE h1 (q := .al en (restr en.rs σ.tm) q.f nm q.o) rfl rfl ⟨o, h1, h3, fun hp nx => tryO_any h1 hk h6 hp nx⟩ hmem
        exact DI.layer hO r _ _ _ _ _ _ hnext (by rw [bumpE_succ]; exact hbump) h12
      · rw [asPv_some h8] at h6
        have hnext := h.more hO hE h1 (q := .rd en (restr en.rs σ.tm) v) rfl rfl ⟨o, h1, h3, h6⟩ (same _ (fun e tm mk b o hq => by cases hq))
        exact DI.layer hO r _ _ _ _ _ _ hnext hbump0 h9
    · have hnext := h.more hO hE h1 (q := .sk en (restr en.rs σ.tm)) rfl rfl ⟨o, h1, h3⟩ (same _ (fun e tm mk b o hq => by cases hq))
      exact DI.layer hO r _ _ _ _ _ _ hnext hbump0 h5
end
end Ev
end Go.Proofs.Ytdofhlmffponoaa
