/- Maps. -/
import Derived.Test.YtkhbmbmjdhnhpaaGreatDoorEvY
set_option linter.unusedVariables false
set_option linter.unusedSimpArgs false
namespace Go.Proofs.YtkhbmbmjdhnhpaaGreatDoor
namespace Ev
section
variable {T0 : Tab} {w0 : Fx} {μ : Mu} {σ : AS} {a : Act} {w : World} {o : Oper}
theorem keyT_some (hT : TabOk T0) {t : TypeId} {c : Nat} (h : keyT T0 t = some c) : ∃ k e kd, T0.P.underlying t = some (.map k e) ∧ T0.P.underlying k = some kd ∧ keyC kd = some c := by
  obtain ⟨i, h1, h2⟩ := ob_some h
  have ht := (hT.ty t i h1).und
  cases hd : i.d with
  | map k e =>
    rw [hd] at h2 ht
    obtain ⟨ki, h3, h4⟩ := ob_some h2
    exact ⟨k, e, ki.d, ht, (hT.ty k ki h3).und, h4⟩
  | _ => rw [hd] at h2; cases h2
theorem checkKey_ok {P : Program} {emp : Bool} {n : Nat} {k : TypeId} {kd : TypeDesc} {c : Nat} {v : Value} (hu : P.underlying k = some kd) (hc : keyC kd = some c) : (Instr.checkKey emp (n + 1) k v).run P w = .ok () w := by
  unfold Instr.checkKey
  simp only [Sem.run_bind, run_underlying hu, Result.andThen_ok]
  cases kd <;> first | (cases hc; done) | rfl
theorem beq_bytes (s t : ByteArray) : (s == t) = decide (s = t) := by
  show ByteArray.beq s t = _
  unfold ByteArray.beq
  by_cases h : s = t
  · subst h; simp
  · simp only [h, decide_false]
    have : s.data ≠ t.data := fun e => h (by cases s; cases t; simp only at e; rw [e])
    simpa using this
theorem sameNow_sound {kd : TypeDesc} {c : Nat} (hc : keyC kd = some c) {x y : AV} {a b : Value} {r : Bool} (hx : RV μ x a) (hy : RV μ y b) (h : eqKey c x y = some r) : Instr.sameNow kd a b = some r := by
  unfold eqKey at h
  cases kd <;> cases hc
  · obtain ⟨u, h1, h2⟩ := ob_some (show (ob (asB x) fun a => ob (asB y) fun b => some (eqB a b)) = some r from h)
    obtain ⟨v, h3, h4⟩ := ob_some h2
    cases h4
    rw [asB_some h1] at hx; rw [asB_some h3] at hy
    cases hx; cases hy
    rw [eqB_eq]; rfl
  · obtain ⟨u, h1, h2⟩ := ob_some (show (ob (asI x) fun a => ob (asI y) fun b => cb (kindEq a.1 b.1) (some (eqInt a.2 b.2))) = some r from h)
    obtain ⟨v, h3, h4⟩ := ob_some h2
    obtain ⟨h5, h6⟩ := cb_some h4
    cases h6
    rw [asI_some h1] at hx; rw [asI_some h3] at hy
    cases hx; cases hy
    rw [eqInt_eq]
    simp only [Instr.sameNow, kindEq_true h5, if_true]
  · obtain ⟨u, h1, h2⟩ := ob_some (show (ob (asS x) fun a => ob (asS y) fun b => some (eqLN a b)) = some r from h)
    obtain ⟨v, h3, h4⟩ := ob_some h2
    cases h4
    rw [asS_some h1] at hx; rw [asS_some h3] at hy
    obtain ⟨s, e1, rfl⟩ := hx.str_inv
    obtain ⟨s', e2, rfl⟩ := hy.str_inv
    rw [eqLN_eq, ← e1, ← e2]
    show some (s == s') = some (decide (bl s = bl s'))
    congr 1
    rw [beq_bytes]
    by_cases q : s = s'
    · subst q; simp
    · have : bl s ≠ bl s' := fun e => q (bl_inj e)
      simp [q, this]
def FdR (μ : Mu) : Option Fd → Option (Nat × Value) → Prop
  | none, r => r = none
  | some q, r => ∃ x, r = some (q.i, x) ∧ RV μ q.v x
theorem find_sound {kd : TypeDesc} {c : Nat} (hc : keyC kd = some c) {k : AV} {key : Value} (hk : RV μ k key) : ∀ {es : List Me} {E : List MapEntry} {i : Nat} {r : Option Fd}, RE μ es E → findE c k es i = some r →
    ∃ r', Instr.findNow kd key E i = some r' ∧ FdR μ r r'
  | [], _, i, r, .nil, h => by cases h; exact ⟨none, rfl, rfl⟩
  | q :: es, _, i, r, .cons (e := e) (m := m) h1 h2 _ h4, h => by
    obtain ⟨b, g1, g2⟩ := ob_some (x := eqKey c k q.k) h
    have hs := sameNow_sound hc hk h1 g1
    rcases tb_or (b := b) g2 with ⟨rfl, g3⟩ | ⟨rfl, g3⟩
    · cases g3
      exact ⟨some (i, e.val), by simp only [Instr.findNow, hs], _, rfl, h2⟩
    · obtain ⟨r', y1, y2⟩ := find_sound hc hk h4 g3
      exact ⟨r', by simp only [Instr.findNow, hs]; exact y1, y2⟩
theorem findKey_run {P : Program} {kd : TypeDesc} {k : TypeId} {key : Value} {E : List MapEntry} {r : Option (Nat × Value)} (hu : P.underlying k = some kd) (h : Instr.findNow kd key E 0 = some r) : (Instr.findKey k key E).run P w = .ok r w := by
  unfold Instr.findKey
  simp only [Sem.run_bind, run_underlying hu, Result.andThen_ok, h, Sem.run_pure]
theorem run_getMap {P : Program} {g : Nat} {E : Array MapEntry} {c : Nat} (h : w.heap[g]? = some (.map E c)) : (getObj g).run P w = .ok (.map E c) w := by
  simp [getObj, Sem.run, h]
theorem run_setMap {P : Program} {g : Nat} {o : Obj} {E : Array MapEntry} {c : Nat} (h : w.heap[g]? = some (.map E c)) : (setObj g o).run P w = .ok () { w with heap := w.heap.setIfInBounds g o } := by
  simp [setObj, Sem.run, h]
theorem RE.len : ∀ {es : List Me} {E : List MapEntry}, RE μ es E → E.length = es.length
  | _, _, .nil => rfl
  | _, _, .cons _ _ _ d => by simp [d.len]
/-- A map's entries. -/
theorem entries_sound {H : T AO} {nx : Bn} (hR : HR w0 μ H nx w) {v : AV} {x : Value} {es : List Me} (h : entriesE H v = some es) (hv : RV μ v x) :
    (x = .map none ∧ es = []) ∨ ∃ g E clock, x = .map (some g) ∧ w.heap[g]? = some (.map (List.toArray E) clock) ∧ RE μ es E := by
  obtain ⟨m, h1, h2⟩ := ob_some h
  have hm := asMap_some h1
  cases m with
  | none =>
    cases h2
    rw [hm] at hv; cases hv
    exact .inl ⟨rfl, rfl⟩
  | some b =>
    obtain ⟨q, h3, h4⟩ := ob_some (x := mapAt H b) h2
    cases h4
    rw [hm] at hv
    cases hv with | map e =>
    obtain ⟨l, m1, E, r1, r2⟩ := hR.live _ _ (mapAt_some h3)
    rw [e] at m1; cases m1
    exact .inr ⟨_, E, _, rfl, r1, r2⟩
theorem zeroOf_sound {P : Program} {t : TypeId} {i : TyI} (h : TyOk P t i) {z : AV} (hz : zeroOf i = some z) : ∃ x, (zeroValue t).run P w = .ok x w ∧ RV μ z x := by
  cases hz
  obtain ⟨info, z, h1, h2, h3⟩ := h.zval
  refine ⟨z, ?_, h3.mono (fun _ _ e => by cases e)⟩
  simp [zeroValue, typeInfo, program, Sem.run, bind, Sem.bind, h1, h2, pure]
theorem lookup_run {P : Program} {t k e : TypeId} {kd : TypeDesc} {c : Nat} {X K : Value} {E : List MapEntry} {r : Option (Nat × Value)} {ok : Bool} (hu : P.underlying t = some (.map k e)) (hk : P.underlying k = some kd) (hc : keyC kd = some c)
    (hX : (X = .map none ∧ E = []) ∨ ∃ g clock, X = .map (some g) ∧ w.heap[g]? = some (.map E.toArray clock)) (hr : Instr.findNow kd K E 0 = some r) :
    (Instr.lookup t X K ok).run P w = (match r with
      | some (_, v) => .ok (if ok then .tuple #[v, .bool true] else v) w
      | none => ((zeroValue e).run P w).andThen fun v w' => .ok (if ok then .tuple #[v, .bool false] else v) w') := by
  have hck : ∀ emp, (Instr.checkKey emp 10000 k K).run P w = .ok () w := fun emp => checkKey_ok (n := 9999) hk hc
  have hfk := findKey_run (w := w) hk hr
  unfold Instr.lookup
  rcases hX with ⟨rfl, rfl⟩ | ⟨g, clock, rfl, hg⟩
  · simp only [Sem.run_bind, run_underlying hu, Result.andThen_ok, Sem.run_pure, hck]
    rw [hfk]
    cases r with
    | none => simp only [Result.andThen_ok, Sem.run_bind]; cases (zeroValue e).run P w <;> rfl
    | some q => rfl
  · simp only [Sem.run_bind, run_underlying hu, Result.andThen_ok, Sem.run_pure, run_getMap hg, hck, hfk]
    cases r with
    | none => simp only [Result.andThen_ok, Sem.run_bind]; cases (zeroValue e).run P w <;> rfl
    | some q => rfl
theorem s_lookup (hT : TabOk T0) (hR : HR w0 μ σ.hp σ.nx w) (hA : RT μ σ.tm a.tmps) {t e : TypeId} {ti ei : TyI} {c : Nat} {x i : Operand} {ok : Bool} (hc : keyT T0 t = some c) (hi : T0.t t = some ti) (hd : dMap ti.d = some e) (he : T0.t e = some ei)
    (ho : o.op = .lookup t x i ok) {out : Out} (h : opLookup σ c ei x i ok = some out) : OutOk T0 w0 μ w ((execOp a.eval o).run T0.P w) out := by
  obtain ⟨v, h1, h⟩ := ob_some h
  obtain ⟨k, h2, h⟩ := ob_some h
  obtain ⟨es, h3, h⟩ := ob_some h
  obtain ⟨r, h4, h⟩ := ob_some h
  obtain ⟨kt, e', kd, u1, u2, u3⟩ := keyT_some hT hc
  have hti := (hT.ty t ti hi).und
  obtain ⟨k', hd'⟩ := dMap_some hd
  rw [hd', u1] at hti
  have hee : e' = e := by simp at hti; exact hti.2
  subst hee
  have hv := opnd_sound hA h1
  have hk := opnd_sound hA h2
  obtain ⟨E, hX, hE⟩ : ∃ E, ((a.eval x = .map none ∧ E = []) ∨ ∃ g clock, a.eval x = .map (some g) ∧ w.heap[g]? = some (.map (List.toArray E) clock)) ∧ RE μ es E := by
    rcases entries_sound hR h3 hv with ⟨hx, rfl⟩ | ⟨g, E, clock, hx, hg, hE⟩
    · exact ⟨[], .inl ⟨hx, rfl⟩, .nil⟩
    · exact ⟨E, .inr ⟨g, clock, hx, hg⟩, hE⟩
  obtain ⟨r', y1, y2⟩ := find_sound u3 hk hE h4
  have hrun := lookup_run (w := w) (ok := ok) u1 u2 u3 hX y1
  have hex : (execOp a.eval o).run T0.P w = ((Instr.lookup t (a.eval x) (a.eval i) ok).run T0.P w).andThen fun v w' => .ok (.value v) w' := by
    simp only [execOp, ho, Sem.run_bind]; rfl
  rcases oc_or (x := r) h with ⟨rfl, g1⟩ | ⟨q, rfl, g1⟩
  · obtain ⟨z, g2, g3⟩ := ob_some g1
    cases g3
    obtain ⟨xz, z1, z2⟩ := zeroOf_sound (μ := μ) (w := w) (hT.ty e' ei he) g2
    cases y2
    refine ok_pure hR (x := if ok then .tuple #[xz, .bool false] else xz) ?_ ?_
    · rw [hex, hrun]
      simp only [z1, Result.andThen_ok]
    · cases ok with
      | true => exact .tup (.cons z2 (.cons .bool .nil))
      | false => exact z2
  · cases g1
    obtain ⟨xv, rfl, z2⟩ := y2
    refine ok_pure hR (x := if ok then .tuple #[xv, .bool true] else xv) ?_ ?_
    · rw [hex, hrun]
      simp only [Result.andThen_ok]
    · cases ok with
      | true => exact .tup (.cons z2 (.cons .bool .nil))
      | false => exact z2
theorem RE.snoc {q : Me} {e : MapEntry} (h1 : RV μ q.k e.key) (h2 : RV μ q.v e.val) (h3 : q.born = e.born) : ∀ {es : List Me} {E : List MapEntry}, RE μ es E → RE μ (es ++ [q]) (E ++ [e])
  | _, _, .nil => .cons h1 h2 h3 .nil
  | _, _, .cons a b c d => .cons a b c (d.snoc h1 h2 h3)
theorem RE.set {k v : AV} {x y : Value} (h1 : RV μ k x) (h2 : RV μ v y) : ∀ {es : List Me} {E : List MapEntry} {i : Nat}, RE μ es E → RE μ (setE k v es i) (E.modify i fun e => { e with key := x, val := y })
  | _, _, i, .nil => by cases i <;> exact .nil
  | _, _, 0, .cons a b c d => by
    simp only [List.modify_zero_cons]
    exact .cons h1 h2 c d
  | _, _, i + 1, .cons a b c d => by
    simp only [List.modify_succ_cons]
    exact .cons a b c (d.set h1 h2)
theorem find_at {c : Nat} {k : AV} : ∀ {es : List Me} {i : Nat} {q : Fd}, findE c k es i = some (some q) → ∃ j e, q.i = i + j ∧ es[j]? = some e ∧ eqKey c k e.k = some true
  | [], i, q, h => by cases h
  | e :: es, i, q, h => by
    obtain ⟨b, g1, g2⟩ := ob_some (x := eqKey c k e.k) h
    rcases tb_or (b := b) g2 with ⟨rfl, g3⟩ | ⟨rfl, g3⟩
    · cases g3; exact ⟨0, e, rfl, rfl, g1⟩
    · obtain ⟨j, e', h1, h2, h3⟩ := find_at (es := es) g3
      exact ⟨j + 1, e', by rw [h1]; omega, by simpa using h2, h3⟩
theorem RE.get : ∀ {es : List Me} {E : List MapEntry} {j : Nat} {q : Me}, RE μ es E → es[j]? = some q → ∃ e, E[j]? = some e ∧ RV μ q.k e.key
  | _, _, 0, q, .cons a b c d, h => by simp at h; subst h; exact ⟨_, by simp, a⟩
  | _, _, j + 1, q, .cons a b c d, h => by
    simp at h
    obtain ⟨e, h1, h2⟩ := d.get h
    exact ⟨e, by simpa using h1, h2⟩
theorem sameBits_of {kd : TypeDesc} {c : Nat} (hc : keyC kd = some c) {x y : AV} {a b : Value} (hx : RV μ x a) (hy : RV μ y b) (h : eqKey c x y = some true) (n : Nat) : Instr.sameBits (n + 1) b a = true := by
  unfold eqKey at h
  cases kd <;> cases hc
  · obtain ⟨u, h1, h2⟩ := ob_some (show (ob (asB x) fun a => ob (asB y) fun b => some (eqB a b)) = some true from h)
    obtain ⟨v, h3, h4⟩ := ob_some h2
    rw [asB_some h1] at hx; rw [asB_some h3] at hy
    cases hx; cases hy
    simp only [Option.some.injEq] at h4
    rw [eqB_eq] at h4
    unfold Instr.sameBits
    rw [beq_iff_eq] at h4 ⊢
    exact h4.symm
  · obtain ⟨u, h1, h2⟩ := ob_some (show (ob (asI x) fun a => ob (asI y) fun b => cb (kindEq a.1 b.1) (some (eqInt a.2 b.2))) = some true from h)
    obtain ⟨v, h3, h4⟩ := ob_some h2
    obtain ⟨h5, h6⟩ := cb_some h4
    rw [asI_some h1] at hx; rw [asI_some h3] at hy
    cases hx; cases hy
    simp only [Option.some.injEq] at h6
    rw [eqInt_eq] at h6
    unfold Instr.sameBits
    rw [kindEq_true h5]
    rw [beq_iff_eq] at h6
    simp [h6]
  · obtain ⟨u, h1, h2⟩ := ob_some (show (ob (asS x) fun a => ob (asS y) fun b => some (eqLN a b)) = some true from h)
    obtain ⟨v, h3, h4⟩ := ob_some h2
    rw [asS_some h1] at hx; rw [asS_some h3] at hy
    obtain ⟨s, e1, rfl⟩ := hx.str_inv
    obtain ⟨s', e2, rfl⟩ := hy.str_inv
    simp only [Option.some.injEq] at h4
    rw [eqLN_eq, ← e1, ← e2] at h4
    have : s = s' := bl_inj (by simpa using h4)
    subst this
    unfold Instr.sameBits
    rw [beq_bytes]; simp
/-- A map is written. -/
theorem map_write {H : T AO} {nx : Bn} (hR : HR w0 μ H nx w) {b : Bn} {m : Mp} {l : Loc} (h : mapAt H b = some m) (hl : μ b = some l) {es : List Me} {E' : List MapEntry} {clock : Nat} (hE : RE μ es E') :
    HR w0 μ (H.put b (some (.map es clock))) nx { w with heap := w.heap.setIfInBounds l.blk (.map E'.toArray clock) } := by
  have h1 := mapAt_some h
  obtain ⟨l', m', r⟩ := hR.live _ _ h1
  rw [hl] at m'; cases m'
  have hlt := r.lt
  refine hR.write h1 hl rfl rfl rfl (by simp) (fun i hi => by simp [Array.getElem?_setIfInBounds, Ne.symm hi]) ⟨E', ?_, hE⟩
  simp [Array.getElem?_setIfInBounds, hlt]
theorem s_update (hT : TabOk T0) (hR : HR w0 μ σ.hp σ.nx w) (hA : RT μ σ.tm a.tmps) {t : TypeId} {c : Nat} {m k x : Operand} (hc : keyT T0 t = some c) (ho : o.op = .mapUpdate t m k x ∨ o.op = .insert t m k x) {out : Out}
    (h : opUpdate σ c m k x = some out) : OutOk T0 w0 μ w ((execOp a.eval o).run T0.P w) out := by
  obtain ⟨mv, h1, h⟩ := ob_some h
  obtain ⟨mb, h2, h⟩ := ob_some h
  obtain ⟨b, hmb, h⟩ := ob_some (x := mb) h
  rw [hmb] at h2
  obtain ⟨q, h3, h⟩ := ob_some h
  obtain ⟨v, h4, h⟩ := ob_some h
  obtain ⟨mp, h5, h⟩ := ob_some h
  obtain ⟨r, h6, h⟩ := ob_some h
  obtain ⟨kt, e', kd, u1, u2, u3⟩ := keyT_some hT hc
  have hm := opnd_sound hA h1
  have hk := opnd_sound hA h3
  have hv := opnd_sound hA h4
  rw [asMap_some h2] at hm
  generalize hx : a.eval m = mval at hm
  cases hm with | map e =>
  rename_i l
  obtain ⟨l', m1, E, r1, r2⟩ := hR.live _ _ (mapAt_some h5)
  rw [e] at m1; cases m1
  obtain ⟨r', y1, y2⟩ := find_sound u3 hk r2 h6
  have hck : ∀ emp, (Instr.checkKey emp 10000 kt (a.eval k)).run T0.P w = .ok () w := fun emp => checkKey_ok (n := 9999) u2 u3
  have hfk := findKey_run (w := w) u2 y1
  have hex : (execOp a.eval o).run T0.P w = ((Instr.mapUpdate t (.map (some l.blk)) (a.eval k) (a.eval x)).run T0.P w).andThen fun _ w' => .ok .skip w' := by
    rcases ho with ho | ho <;> (simp only [execOp, ho, Sem.run_bind, hx]; rfl)
  have hrun : (Instr.mapUpdate t (.map (some l.blk)) (a.eval k) (a.eval x)).run T0.P w = (match r' with
      | some (i, _) => ((do
          let key ← Instr.keyThatStays (((E.toArray[i]?).map (·.key)).getD (a.eval k)) (a.eval k)
          setObj l.blk (.map (E.toArray.modify i fun e => { e with key, val := a.eval x }) mp.clock) : Sem Unit)).run T0.P w
      | none => (setObj l.blk (.map (E.toArray.push { key := a.eval k, val := a.eval x, born := mp.clock }) (mp.clock + 1))).run T0.P w) := by
    unfold Instr.mapUpdate
    simp only [Sem.run_bind, run_underlying u1, Result.andThen_ok, run_getMap r1, hck, hfk]
    cases r' with
    | none => rfl
    | some q =>
      obtain ⟨i, z⟩ := q
      simp only [Sem.run_bind]
  rcases oc_or (x := r) h with ⟨rfl, g1⟩ | ⟨fd, rfl, g1⟩
  · cases g1
    cases y2
    refine ⟨undef, _, μ, .inr ⟨?_, rfl⟩, .refl μ, map_write hR h5 e (E' := E ++ [{ key := a.eval k, val := a.eval x, born := mp.clock }]) (by rw [appN_eq]; exact r2.snoc hk hv rfl), .tup .nil⟩
    rw [hex, hrun]
    simp only [run_setMap r1, Result.andThen_ok, List.push_toArray]
  · cases g1
    obtain ⟨xv, rfl, z2⟩ := y2
    obtain ⟨j, en, z3, z4, z5⟩ := find_at h6
    have z3 : fd.i = j := by omega
    obtain ⟨en', z6, z7⟩ := r2.get z4
    have hkey : (Instr.keyThatStays (((E.toArray[fd.i]?).map (·.key)).getD (a.eval k)) (a.eval k)).run T0.P w = .ok (a.eval k) w := by
      have e1 : E.toArray[fd.i]? = some en' := by rw [z3]; simpa using z6
      simp only [e1, Option.map_some, Option.getD_some]
      unfold Instr.keyThatStays
      rw [show (10000 : Nat) = 9999 + 1 from rfl, sameBits_of u3 hk z7 z5 9999]
      rfl
    refine ⟨undef, _, μ, .inr ⟨?_, rfl⟩, .refl μ, map_write hR h5 e (E' := E.modify fd.i fun e => { e with key := a.eval k, val := a.eval x }) (r2.set hk hv), .tup .nil⟩
    rw [hex, hrun]
    simp only [Sem.run_bind, hkey, Result.andThen_ok, run_setMap r1]
    rw [List.modify_toArray]
theorem s_makeMap (hR : HR w0 μ σ.hp σ.nx w) (hA : RT μ σ.tm a.tmps) (hT : TabOk T0) {t : TypeId} {r : Option Operand} {c : Nat} (hc : keyT T0 t = some c) (ho : o.op = .makeMap t r) {out : Out} (h : opMap σ r = some out) :
    OutOk T0 w0 μ w ((execOp a.eval o).run T0.P w) out := by
  obtain ⟨kt, e', kd, u1, u2, u3⟩ := keyT_some hT hc
  have fin : out = .nw (fun b => .map b) (.map [] 0) → (execOp a.eval o).run T0.P w = .ok (.value (.map (some w.heap.size))) { w with heap := w.heap.push (.map #[] 0) } → OutOk T0 w0 μ w ((execOp a.eval o).run T0.P w) out := by
    intro e1 e2
    subst e1
    refine ⟨_, _, 0, e2, fun b hb => ⟨.map (l := ⟨w.heap.size, 0, 0⟩) (Mu.put_same _ _ _), ⟨[], by simp, .nil⟩⟩⟩
  rcases oc_or (x := r) h with ⟨rfl, g⟩ | ⟨y, rfl, g⟩
  · cases g
    refine fin rfl ?_
    simp [execOp, ho, Instr.makeMap, newObj, Sem.run, Sem.run_bind, Result.andThen]
  · obtain ⟨v, g1, g2⟩ := ob_some g
    obtain ⟨q, g3, g4⟩ := ob_some g2
    cases g4
    have hv := opnd_sound hA g1
    rw [asI_some g3] at hv
    have hy : a.eval y = .int q.1 q.2 := hv.int_inv
    refine fin rfl ?_
    simp [execOp, ho, Instr.makeMap, newObj, Sem.run_bind, run_underlying u1, hy, asInt, Result.andThen]
    rfl
end
end Ev
end Go.Proofs.YtkhbmbmjdhnhpaaGreatDoor
