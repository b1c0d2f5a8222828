/- Maps. -/
import Derived.Test.YtdofhlmffponoaaEvY
set_option linter.unusedVariables false
set_option linter.unusedSimpArgs false
namespace Go.Proofs.Ytdofhlmffponoaa
namespace Ev
section
variable {T0 : Tab} {w0 : Fx} {μ : Mu} {σ : AS} {a : Act} {w : World} {o : Oper}
/-- What kind of key a type is. -/
inductive KD (P : Program) (k : TypeId) : TypeDesc → Nat → Prop
  | plain {kd : TypeDesc} {c : Nat} : keyC kd = some c → c < 3 → KD P k kd c
  | struct {fs : Array Field} : P.underlying k = some (.struct fs) → fs.toList.map (fun f => f.offset) = List.range fs.size → (∀ f ∈ fs.toList, f.name ≠ "_" ∧ plainT P f.type = true) → KD P k (.struct fs) (3 + k)
theorem KD.of {P : Program} {k : TypeId} {kd : TypeDesc} {c : Nat} (hu : P.underlying k = some kd) (h : keyD P k kd = some c) : KD P k kd c := by
  rcases oc_or h with ⟨_, g⟩ | ⟨c', g1, g2⟩
  · unfold keyS at g
    split at g
    · split at g
      · rename_i hc
        cases g
        simp only [Bool.and_eq_true, beq_iff_eq, List.all_eq_true, bne_iff_ne] at hc
        exact .struct hu hc.1 hc.2
      · cases g
    · cases g
  · cases g2
    refine .plain g1 ?_
    cases kd <;> cases g1 <;> decide
theorem keyT_some (hT : TabOk T0) {t : TypeId} {c : Nat} (h : keyT T0 t = some c) : ∃ k e kd, T0.P.underlying t = some (.map k e) ∧ T0.P.underlying k = some kd ∧ KD T0.P k kd c := by
  obtain ⟨i, h1, h2⟩ := ob_some h
  have ht := (hT.ty t i h1).und
  cases hd : i.d with
  | map k e =>
    rw [hd] at h2 ht
    obtain ⟨ki, h3, h4⟩ := ob_some h2
    exact ⟨k, e, ki.d, ht, (hT.ty k ki h3).und, KD.of (hT.ty k ki h3).und h4⟩
  | _ => rw [hd] at h2; cases h2
theorem checkKey_ok {P : Program} {emp : Bool} {n : Nat} {k : TypeId} {kd : TypeDesc} {c : Nat} {v : Value} (hu : P.underlying k = some kd) (hc : keyC kd = some c) : (Instr.checkKey emp (n + 1) k v).run P w = .ok () w := by
  unfold Instr.checkKey
  simp only [Sem.run_bind, run_underlying hu, Result.andThen_ok]
  cases kd <;> first | (cases hc; done) | rfl
theorem beq_bytes (s t : ByteArray) : (s == t) = decide (s = t) := by
  show ByteArray.beq s t = _
  unfold ByteArray.beq
  by_cases h : s = t
  · subst h; simp
  · simp only [h, decide_false]
    have : s.data ≠ t.data := fun e => h (by cases s; cases t; simp only at e; rw [e])
    simpa using this
theorem sameNow_sound {kd : TypeDesc} {c : Nat} (hc : keyC kd = some c) {x y : AV} {a b : Value} {r : Bool} (hx : RV μ x a) (hy : RV μ y b) (h : eqKey0 c x y = some r) : Instr.sameNow kd a b = some r := by
  unfold eqKey0 at h
  cases kd <;> cases hc
  · obtain ⟨u, h1, h2⟩ := ob_some (show (ob (asB x) fun a => ob (asB y) fun b => some (eqB a b)) = some r from h)
    obtain ⟨v, h3, h4⟩ := ob_some h2
    cases h4
    rw [asB_some h1] at hx; rw [asB_some h3] at hy
    cases hx; cases hy
    rw [eqB_eq]; rfl
  · obtain ⟨u, h1, h2⟩ := ob_some (show (ob (asI x) fun a => ob (asI y) fun b => cb (kindEq a.1 b.1) (some (eqInt a.2 b.2))) = some r from h)
    obtain ⟨v, h3, h4⟩ := ob_some h2
    obtain ⟨h5, h6⟩ := cb_some h4
    cases h6
    rw [asI_some h1] at hx; rw [asI_some h3] at hy
    cases hx; cases hy
    rw [eqInt_eq]
    simp only [Instr.sameNow, kindEq_true h5, if_true]
  · obtain ⟨u, h1, h2⟩ := ob_some (show (ob (asS x) fun a => ob (asS y) fun b => some (eqTx a b)) = some r from h)
    obtain ⟨v, h3, h4⟩ := ob_some h2
    cases h4
    rw [asS_some h1] at hx; rw [asS_some h3] at hy
    obtain ⟨s, e1, rfl⟩ := hx.str_inv
    obtain ⟨s', e2, rfl⟩ := hy.str_inv
    rw [← e1, ← e2, eqTx_bl, eqLN_eq]
    show some (s == s') = some (decide (bl s = bl s'))
    congr 1
    rw [beq_bytes]
    by_cases q : s = s'
    · subst q; simp
    · have : bl s ≠ bl s' := fun e => q (bl_inj e)
      simp [q, this]
theorem eqKey_low {P : Program} {c : Nat} (h : c < 3) {x y : AV} {r : Bool} (e : eqKey P c x y = some r) : eqKey0 c x y = some r := by
  rcases tb_or (b := Nat.blt c 3) e with ⟨_, q⟩ | ⟨q, _⟩
  · exact q
  · rw [blt_eq] at q; exact absurd h (by simpa using q)
theorem eqKey_st {P : Program} {k : Nat} {x y : AV} {r : Bool} (e : eqKey P (3 + k) x y = some r) : ∃ xs ys, x = .agg xs ∧ y = .agg ys ∧ xs.length = nF P k ∧ ys.length = nF P k ∧ eqSt P k xs y = some r := by
  rcases tb_or (b := Nat.blt (3 + k) 3) e with ⟨q, _⟩ | ⟨_, q⟩
  · rw [blt_eq] at q; have q : 3 + k < 3 := by simpa using q
    omega
  · rw [show Nat.sub (3 + k) 3 = k from Nat.add_sub_cancel_left ..] at q
    obtain ⟨xs, h1, q⟩ := ob_some q
    obtain ⟨ys, h2, q⟩ := ob_some q
    obtain ⟨h3, q⟩ := cb_some q
    obtain ⟨h4, q⟩ := cb_some q
    exact ⟨xs, ys, asAgg_some h1, asAgg_some h2, by rw [← lenN_eq]; exact beq_true h3, by rw [← lenN_eq]; exact beq_true h4, q⟩
theorem okKey_of {P : Program} {c : Nat} {k : AV} (h : okKey P c k = true) : c < 3 ∨ eqKey P c k k = some true := by
  rcases tb_or (b := Nat.blt c 3) h with ⟨q, _⟩ | ⟨_, q⟩
  · rw [blt_eq] at q; exact .inl (by simpa using q)
  · rcases oc_or q with ⟨_, q2⟩ | ⟨b, q1, q2⟩
    · cases q2
    · rw [q1, q2]; exact .inr rfl
/-- All fields are alike. -/
theorem eqFs_all {P : Program} {xs ys : List AV} : ∀ (fs : List Field), eqFs P xs ys fs = some true → ∀ f ∈ fs, ∃ a b, xs[f.offset]? = some a ∧ ys[f.offset]? = some b ∧ eqPl (P.underlying f.type) a b = some true
  | [], _, f, hf => by cases hf
  | g :: fs, h, f, hf => by
    obtain ⟨_, h⟩ := cb_some h
    obtain ⟨x, h2, h⟩ := ob_some h
    obtain ⟨y, h3, h⟩ := ob_some h
    obtain ⟨q, h4, h⟩ := ob_some h
    rw [nthO_eq] at h2 h3
    rcases tb_or h with ⟨h5, h6⟩ | ⟨h5, h6⟩
    · subst h5
      cases hf with
      | head => exact ⟨x, y, h2, h3, h4⟩
      | tail _ hf => exact eqFs_all fs h6 f hf
    · cases h6
theorem eqSt_all {P : Program} {k : TypeId} {fs : Array Field} (hu : P.underlying k = some (.struct fs)) {xs : List AV} {y : AV} (h : eqSt P k xs y = some true) : ∃ ys, y = .agg ys ∧ ∀ f ∈ fs.toList, ∃ a b, xs[f.offset]? = some a ∧ ys[f.offset]? = some b ∧ eqPl (P.underlying f.type) a b = some true := by
  obtain ⟨ys, h1, h⟩ := ob_some h
  refine ⟨ys, asAgg_some h1, ?_⟩
  split at h
  · rename_i fs' hu'
    rw [hu] at hu'
    cases hu'
    obtain ⟨_, h⟩ := cb_some h
    obtain ⟨_, h⟩ := cb_some h
    exact eqFs_all _ h
  · cases h
theorem checkPlain {P : Program} {emp : Bool} {n : Nat} {t : TypeId} {v : Value} (h : plainT P t = true) : (Instr.checkKey emp (n + 1) t v).run P w = .ok () w := by
  unfold plainT at h
  split at h
  · rename_i k hu; exact checkKey_ok hu rfl
  · rename_i hu; exact checkKey_ok hu rfl
  · rename_i hu; exact checkKey_ok hu rfl
  · cases h
theorem checkFields {P : Program} {emp : Bool} {n : Nat} {cs : Array Value} : ∀ (fs : List Field), (∀ f ∈ fs, plainT P f.type = true ∧ ∃ v, (part f.type cs f.offset).run P w = .ok v w) →
    ((forIn fs PUnit.unit fun f _ => do
      if f.name ≠ "_" then Instr.checkKey emp (n + 1) f.type (← part f.type cs f.offset)
      pure (ForInStep.yield PUnit.unit) : Sem PUnit)).run P w = .ok () w
  | [], _ => rfl
  | f :: fs, h => by
    obtain ⟨h1, v, h2⟩ := h f (.head _)
    have ih := checkFields (emp := emp) (n := n) fs (fun g hg => h g (.tail _ hg))
    simp only [List.forIn_cons, Sem.run_bind, Sem.run_ite]
    split
    · simp only [Sem.run_bind, h2, Result.andThen_ok, checkPlain h1, Sem.run_pure]
      exact ih
    · simp only [Sem.run_pure, Result.andThen_ok]
      exact ih
theorem eqPl_plain {P : Program} {t : TypeId} {x y : AV} {r : Bool} (h : eqPl (P.underlying t) x y = some r) : ∃ d, P.underlying t = some d ∧ lumpD d = false := by
  unfold eqPl at h
  split at h
  · rename_i k hk; exact ⟨_, hk, rfl⟩
  · rename_i hk; exact ⟨_, hk, rfl⟩
  · rename_i hk; exact ⟨_, hk, rfl⟩
  · cases h
/-- A key is taken. -/
theorem check_any {P : Program} {emp : Bool} {n : Nat} {k : TypeId} {kd : TypeDesc} {c : Nat} {x : AV} {v : Value} (hu : P.underlying k = some kd) (hc : KD P k kd c) (hx : RV μ x v) (ho : okKey P c x = true) : (Instr.checkKey emp (n + 2) k v).run P w = .ok () w := by
  cases hc with
  | plain h _ => exact checkKey_ok (n := n + 1) hu h
  | struct hf hof hpl =>
    rename_i fs
    rcases okKey_of ho with q | q
    · omega
    obtain ⟨xs, ys, e1, e2, _, _, e3⟩ := eqKey_st q
    subst e1
    obtain ⟨ys', e4, e5⟩ := eqSt_all hf e3
    cases hx with | agg hr =>
    rename_i us
    unfold Instr.checkKey
    simp only [Sem.run_bind, run_underlying hu, Result.andThen_ok]
    rw [← Array.forIn_toList]
    have hall : ∀ f ∈ fs.toList, plainT P f.type = true ∧ ∃ v, (part f.type (⟨us⟩ : Array Value) f.offset).run P w = .ok v w := fun f hfm => by
      obtain ⟨a, b, g1, g2, g3⟩ := e5 f hfm
      obtain ⟨z, z1, _⟩ := hr.get g1
      obtain ⟨d, d1, d2⟩ := eqPl_plain g3
      exact ⟨(hpl f hfm).2, z, run_part1 d1 d2 (by simpa using z1) w⟩
    have := checkFields (w := w) (P := P) (emp := emp) (n := n) fs.toList hall
    simp at this ⊢
    rw [this]; rfl
def FdR (μ : Mu) : Option Fd → Option (Nat × Value) → Prop
  | none, r => r = none
  | some q, r => ∃ x, r = some (q.i, x) ∧ RV μ q.v x
theorem find_sound {P : Program} {kd : TypeDesc} {c : Nat} (hc : keyC kd = some c) (hl : c < 3) {k : AV} {key : Value} (hk : RV μ k key) : ∀ {es : List Me} {E : List MapEntry} {i : Nat} {r : Option Fd}, RE μ es E → findE P c k es i = some r →
    ∃ r', Instr.findNow kd key E i = some r' ∧ FdR μ r r'
  | [], _, i, r, .nil, h => by cases h; exact ⟨none, rfl, rfl⟩
  | q :: es, _, i, r, .cons (e := e) (m := m) h1 h2 _ h4, h => by
    obtain ⟨b, g1, g2⟩ := ob_some (x := eqKey P c k q.k) h
    have hs := sameNow_sound hc hk h1 (eqKey_low hl g1)
    rcases tb_or (b := b) g2 with ⟨rfl, g3⟩ | ⟨rfl, g3⟩
    · cases g3
      exact ⟨some (i, e.val), by simp only [Instr.findNow, hs], _, rfl, h2⟩
    · obtain ⟨r', y1, y2⟩ := find_sound hc hl hk h4 g3
      exact ⟨r', by simp only [Instr.findNow, hs]; exact y1, y2⟩
theorem findKey_run {P : Program} {kd : TypeDesc} {k : TypeId} {key : Value} {E : List MapEntry} {r : Option (Nat × Value)} (hu : P.underlying k = some kd) (h : Instr.findNow kd key E 0 = some r) : (Instr.findKey k key E).run P w = .ok r w := by
  unfold Instr.findKey
  simp only [Sem.run_bind, run_underlying hu, Result.andThen_ok, h, Sem.run_pure]
/-- .. of structs. -/
theorem ask_sound {P : Program} {kt : TypeId} {k : AV} {key : Value} (hk : RV μ k key) : ∀ {es : List Me} {E : List MapEntry} {i : Nat} {r : Option Fd}, RE μ es E → findE P (3 + kt) k es i = some r →
    ∃ r', (Instr.findAsking kt key E i).run P w = .ok r' w ∧ FdR μ r r'
  | [], _, i, r, .nil, h => by cases h; exact ⟨none, rfl, rfl⟩
  | q :: es, _, i, r, .cons (e := e) (m := m) h1 h2 _ h4, h => by
    obtain ⟨b, g1, g2⟩ := ob_some (x := eqKey P (3 + kt) k q.k) h
    obtain ⟨xs, ys, e1, e2, _, _, e3⟩ := eqKey_st g1
    have hk' := hk
    rw [e1] at hk'
    have he := (eqSt_sound (w := w) (ox := .tmp 0) (oy := .tmp 0) e3 hk' h1).eq
    rcases tb_or (b := b) g2 with ⟨rfl, g3⟩ | ⟨rfl, g3⟩
    · cases g3
      exact ⟨some (i, e.val), by simp [Instr.findAsking, he], _, rfl, h2⟩
    · obtain ⟨r', y1, y2⟩ := ask_sound hk h4 g3
      exact ⟨r', by simp [Instr.findAsking, he, y1], y2⟩
theorem find_any {P : Program} {kt : TypeId} {kd : TypeDesc} {c : Nat} (hu : P.underlying kt = some kd) (hc : KD P kt kd c) {k : AV} {key : Value} (hk : RV μ k key) {es : List Me} {E : List MapEntry} {r : Option Fd} (hE : RE μ es E) (h : findE P c k es 0 = some r) :
    ∃ r', (Instr.findKey kt key E).run P w = .ok r' w ∧ FdR μ r r' := by
  cases hc with
  | plain h1 h2 =>
    obtain ⟨r', y1, y2⟩ := find_sound h1 h2 hk hE h
    exact ⟨r', findKey_run hu y1, y2⟩
  | struct hf hof hpl =>
    cases hE with
    | nil => cases h; exact ⟨none, findKey_run hu rfl, rfl⟩
    | cons a b c d =>
      rename_i e l m
      obtain ⟨r', y1, y2⟩ := ask_sound (w := w) hk (.cons a b c d) h
      refine ⟨r', ?_, y2⟩
      have hn : ∀ fs' : Array Field, Instr.findNow (.struct fs') key (e :: m) 0 = none := fun fs' => rfl
      unfold Instr.findKey
      simp only [Sem.run_bind, run_underlying hu, Result.andThen_ok, hn]
      exact y1
theorem run_getMap {P : Program} {g : Nat} {E : Array MapEntry} {c : Nat} (h : w.heap[g]? = some (.map E c)) : (getObj g).run P w = .ok (.map E c) w := by
  simp [getObj, Sem.run, h]
theorem run_setMap {P : Program} {g : Nat} {o : Obj} {E : Array MapEntry} {c : Nat} (h : w.heap[g]? = some (.map E c)) : (setObj g o).run P w = .ok () { w with heap := w.heap.setIfInBounds g o } := by
  simp [setObj, Sem.run, h]
theorem RE.len : ∀ {es : List Me} {E : List MapEntry}, RE μ es E → E.length = es.length
  | _, _, .nil => rfl
  | _, _, .cons _ _ _ d => by simp [d.len]
/-- A map's entries. -/
theorem entries_sound {H : T AO} {nx : Bn} (hR : HR w0 μ H nx w) {v : AV} {x : Value} {es : List Me} (h : entriesE H v = some es) (hv : RV μ v x) :
    (x = .map none ∧ es = []) ∨ ∃ g E clock, x = .map (some g) ∧ w.heap[g]? = some (.map (List.toArray E) clock) ∧ RE μ es E := by
  obtain ⟨m, h1, h2⟩ := ob_some h
  have hm := asMap_some h1
  cases m with
  | none =>
    cases h2
    rw [hm] at hv; cases hv
    exact .inl ⟨rfl, rfl⟩
  | some b =>
    obtain ⟨q, h3, h4⟩ := ob_some (x := mapAt H b) h2
    cases h4
    rw [hm] at hv
    cases hv with | map e =>
    obtain ⟨l, m1, E, r1, r2⟩ := hR.live _ _ (mapAt_some h3)
    rw [e] at m1; cases m1
    exact .inr ⟨_, E, _, rfl, r1, r2⟩
theorem zeroOf_sound {P : Program} {t : TypeId} {i : TyI} (h : TyOk P t i) {z : AV} (hz : zeroOf i = some z) : ∃ x, (zeroValue t).run P w = .ok x w ∧ RV μ z x := by
  cases hz
  obtain ⟨info, z, h1, h2, h3⟩ := h.zval
  refine ⟨z, ?_, h3.mono (fun _ _ e => by cases e)⟩
  simp [zeroValue, typeInfo, program, Sem.run, bind, Sem.bind, h1, h2, pure]
theorem lookup_run {P : Program} {t k e : TypeId} {X K : Value} {E : List MapEntry} {r : Option (Nat × Value)} {ok : Bool} (hu : P.underlying t = some (.map k e)) (hck : ∀ emp, (Instr.checkKey emp 10000 k K).run P w = .ok () w)
    (hX : (X = .map none ∧ E = []) ∨ ∃ g clock, X = .map (some g) ∧ w.heap[g]? = some (.map E.toArray clock)) (hfk : (Instr.findKey k K E).run P w = .ok r w) :
    (Instr.lookup t X K ok).run P w = (match (generalizing := false) r with
      | some (_, v) => .ok (if ok then .tuple #[v, .bool true] else v) w
      | none => ((zeroValue e).run P w).andThen fun v w' => .ok (if ok then .tuple #[v, .bool false] else v) w') := by
  unfold Instr.lookup
  rcases hX with ⟨rfl, rfl⟩ | ⟨g, clock, rfl, hg⟩
  · simp only [Sem.run_bind, run_underlying hu, Result.andThen_ok, Sem.run_pure, hck]
    rw [hfk]
    cases r with
    | none => simp only [Result.andThen_ok, Sem.run_bind]; cases (zeroValue e).run P w <;> rfl
    | some q => rfl
  · simp only [Sem.run_bind, run_underlying hu, Result.andThen_ok, Sem.run_pure, run_getMap hg, hck, hfk]
    cases r with
    | none => simp only [Result.andThen_ok, Sem.run_bind]; cases (zeroValue e).run P w <;> rfl
    | some q => rfl
theorem s_lookup (hT : TabOk T0) (hR : HR w0 μ σ.hp σ.nx w) (hA : RT μ σ.tm a.tmps) {t e : TypeId} {ti ei : TyI} {c : Nat} {x i : Operand} {ok : Bool} (hc : keyT T0 t = some c) (hi : T0.t t = some ti) (hd : dMap ti.d = some e) (he : T0.t e = some ei)
    (ho : o.op = .lookup t x i ok) {out : Out} (h : opLookup T0.P σ c ei x i ok = some out) : OutOk T0 w0 μ w ((execOp a.eval o).run T0.P w) out := by
  obtain ⟨v, h1, h⟩ := ob_some h
  obtain ⟨k, h2, h⟩ := ob_some h
  obtain ⟨hok, h⟩ := cb_some h
  obtain ⟨es, h3, h⟩ := ob_some h
  obtain ⟨r, h4, h⟩ := ob_some h
  obtain ⟨kt, e', kd, u1, u2, u3⟩ := keyT_some hT hc
  have hti := (hT.ty t ti hi).und
  obtain ⟨k', hd'⟩ := dMap_some hd
  rw [hd', u1] at hti
  have hee : e' = e := by simp at hti; exact hti.2
  subst hee
  have hv := opnd_sound hA h1
  have hk := opnd_sound hA h2
  obtain ⟨E, hX, hE⟩ : ∃ E, ((a.eval x = .map none ∧ E = []) ∨ ∃ g clock, a.eval x = .map (some g) ∧ w.heap[g]? = some (.map (List.toArray E) clock)) ∧ RE μ es E := by
    rcases entries_sound hR h3 hv with ⟨hx, rfl⟩ | ⟨g, E, clock, hx, hg, hE⟩
    · exact ⟨[], .inl ⟨hx, rfl⟩, .nil⟩
    · exact ⟨E, .inr ⟨g, clock, hx, hg⟩, hE⟩
  obtain ⟨r', y1, y2⟩ := find_any (w := w) u2 u3 hk hE h4
  have hrun := lookup_run (w := w) (ok := ok) u1 (fun emp => check_any (n := 9998) u2 u3 hk hok) hX y1
  have hex : (execOp a.eval o).run T0.P w = ((Instr.lookup t (a.eval x) (a.eval i) ok).run T0.P w).andThen fun v w' => .ok (.value v) w' := by
    simp only [execOp, ho, Sem.run_bind]; rfl
  rcases oc_or (x := r) h with ⟨rfl, g1⟩ | ⟨q, rfl, g1⟩
  · obtain ⟨z, g2, g3⟩ := ob_some g1
    cases g3
    obtain ⟨xz, z1, z2⟩ := zeroOf_sound (μ := μ) (w := w) (hT.ty e' ei he) g2
    cases y2
    refine ok_pure hR (x := if ok then .tuple #[xz, .bool false] else xz) ?_ ?_
    · rw [hex, hrun]
      simp only [z1, Result.andThen_ok]
    · cases ok with
      | true => exact .tup (.cons z2 (.cons .bool .nil))
      | false => exact z2
  · cases g1
    obtain ⟨xv, rfl, z2⟩ := y2
    refine ok_pure hR (x := if ok then .tuple #[xv, .bool true] else xv) ?_ ?_
    · rw [hex, hrun]
      simp only [Result.andThen_ok]
    · cases ok with
      | true => exact .tup (.cons z2 (.cons .bool .nil))
      | false => exact z2
theorem RE.snoc {q : Me} {e : MapEntry} (h1 : RV μ q.k e.key) (h2 : RV μ q.v e.val) (h3 : q.born = e.born) : ∀ {es : List Me} {E : List MapEntry}, RE μ es E → RE μ (es ++ [q]) (E ++ [e])
  | _, _, .nil => .cons h1 h2 h3 .nil
  | _, _, .cons a b c d => .cons a b c (d.snoc h1 h2 h3)
theorem RE.set {k v : AV} {x y : Value} (h1 : RV μ k x) (h2 : RV μ v y) : ∀ {es : List Me} {E : List MapEntry} {i : Nat}, RE μ es E → RE μ (setE k v es i) (E.modify i fun e => { e with key := x, val := y })
  | _, _, i, .nil => by cases i <;> exact .nil
  | _, _, 0, .cons a b c d => by
    simp only [List.modify_zero_cons]
    exact .cons h1 h2 c d
  | _, _, i + 1, .cons a b c d => by
    simp only [List.modify_succ_cons]
    exact .cons a b c (d.set h1 h2)
theorem find_at {P : Program} {c : Nat} {k : AV} : ∀ {es : List Me} {i : Nat} {q : Fd}, findE P c k es i = some (some q) → ∃ j e, q.i = i + j ∧ es[j]? = some e ∧ eqKey P c k e.k = some true
  | [], i, q, h => by cases h
  | e :: es, i, q, h => by
    obtain ⟨b, g1, g2⟩ := ob_some (x := eqKey P c k e.k) h
    rcases tb_or (b := b) g2 with ⟨rfl, g3⟩ | ⟨rfl, g3⟩
    · cases g3; exact ⟨0, e, rfl, rfl, g1⟩
    · obtain ⟨j, e', h1, h2, h3⟩ := find_at (es := es) g3
      exact ⟨j + 1, e', by rw [h1]; omega, by simpa using h2, h3⟩
theorem RE.get : ∀ {es : List Me} {E : List MapEntry} {j : Nat} {q : Me}, RE μ es E → es[j]? = some q → ∃ e, E[j]? = some e ∧ RV μ q.k e.key
  | _, _, 0, q, .cons a b c d, h => by simp at h; subst h; exact ⟨_, by simp, a⟩
  | _, _, j + 1, q, .cons a b c d, h => by
    simp at h
    obtain ⟨e, h1, h2⟩ := d.get h
    exact ⟨e, by simpa using h1, h2⟩
theorem sameBits_of {kd : TypeDesc} {c : Nat} (hc : keyC kd = some c) {x y : AV} {a b : Value} (hx : RV μ x a) (hy : RV μ y b) (h : eqKey0 c x y = some true) (n : Nat) : Instr.sameBits n b a = true := by
  unfold eqKey0 at h
  cases kd <;> cases hc
  · obtain ⟨u, h1, h2⟩ := ob_some (show (ob (asB x) fun a => ob (asB y) fun b => some (eqB a b)) = some true from h)
    obtain ⟨v, h3, h4⟩ := ob_some h2
    rw [asB_some h1] at hx; rw [asB_some h3] at hy
    cases hx; cases hy
    simp only [Option.some.injEq] at h4
    rw [eqB_eq] at h4
    unfold Instr.sameBits
    rw [beq_iff_eq] at h4 ⊢
    exact h4.symm
  · obtain ⟨u, h1, h2⟩ := ob_some (show (ob (asI x) fun a => ob (asI y) fun b => cb (kindEq a.1 b.1) (some (eqInt a.2 b.2))) = some true from h)
    obtain ⟨v, h3, h4⟩ := ob_some h2
    obtain ⟨h5, h6⟩ := cb_some h4
    rw [asI_some h1] at hx; rw [asI_some h3] at hy
    cases hx; cases hy
    simp only [Option.some.injEq] at h6
    rw [eqInt_eq] at h6
    unfold Instr.sameBits
    rw [kindEq_true h5]
    rw [beq_iff_eq] at h6
    simp [h6]
  · obtain ⟨u, h1, h2⟩ := ob_some (show (ob (asS x) fun a => ob (asS y) fun b => some (eqTx a b)) = some true from h)
    obtain ⟨v, h3, h4⟩ := ob_some h2
    rw [asS_some h1] at hx; rw [asS_some h3] at hy
    obtain ⟨s, e1, rfl⟩ := hx.str_inv
    obtain ⟨s', e2, rfl⟩ := hy.str_inv
    simp only [Option.some.injEq] at h4
    rw [← e1, ← e2, eqTx_bl, eqLN_eq] at h4
    have : s = s' := bl_inj (by simpa using h4)
    subst this
    unfold Instr.sameBits
    rw [beq_bytes]; simp
theorem plain_bits {P : Program} {t : TypeId} {x y : AV} {a b : Value} (h : eqPl (P.underlying t) x y = some true) (hx : RV μ x a) (hy : RV μ y b) (n : Nat) : Instr.sameBits n b a = true := by
  unfold eqPl at h
  split at h
  · exact sameBits_of (kd := .int .i64) (c := 0) rfl hx hy h n
  · exact sameBits_of (kd := .string) (c := 1) rfl hx hy h n
  · exact sameBits_of (kd := .bool) (c := 2) rfl hx hy h n
  · cases h
theorem bits_any {P : Program} {kt : TypeId} {kd : TypeDesc} {c : Nat} (hc : KD P kt kd c) {x y : AV} {a b : Value} (hx : RV μ x a) (hy : RV μ y b) (h : eqKey P c x y = some true) (n : Nat) : Instr.sameBits (n + 1) b a = true := by
  cases hc with
  | plain h1 h2 => exact sameBits_of h1 hx hy (eqKey_low h2 h) (n + 1)
  | struct hf hof hpl =>
    rename_i fs
    obtain ⟨xs, ys, e1, e2, e3, e4, e5⟩ := eqKey_st h
    subst e1
    obtain ⟨ys', e6, e7⟩ := eqSt_all hf e5
    rw [e2] at e6
    cases e6
    subst e2
    cases hx with | agg rx =>
    cases hy with | agg ry =>
    rename_i us vs
    have hn : nF P kt = fs.size := by simp only [nF, hf]
    have l1 : us.length = fs.size := by rw [rx.length, e3, hn]
    have l2 : vs.length = fs.size := by rw [ry.length, e4, hn]
    show ((⟨vs⟩ : Array Value).size == (⟨us⟩ : Array Value).size && ((⟨vs⟩ : Array Value).toList.zip (⟨us⟩ : Array Value).toList).all fun (x, y) => Instr.sameBits n x y) = true
    simp only [List.size_toArray, l1, l2, beq_self_eq_true, Bool.true_and, List.all_eq_true]
    rintro ⟨v, u⟩ hm
    obtain ⟨j, hj⟩ := List.getElem?_of_mem hm
    rw [List.getElem?_zip_eq_some] at hj
    obtain ⟨j1, j2⟩ := hj
    have jl : j < fs.size := by
      rcases Nat.lt_or_ge j vs.length with z | z
      · omega
      · rw [List.getElem?_eq_none z] at j1; cases j1
    have hjf : fs.toList[j]? = some fs[j] := by simp [jl]
    have hoj : (fs[j]).offset = j := by
      have := congrArg (fun l => l[j]?) hof
      simp only [List.getElem?_map, hjf, Option.map_some] at this
      rw [List.getElem?_range jl] at this
      simpa using this
    obtain ⟨p, q, z1, z2, z3⟩ := e7 _ (List.mem_of_getElem? hjf)
    rw [hoj] at z1 z2
    obtain ⟨u', w1, w2⟩ := rx.get z1
    obtain ⟨v', w3, w4⟩ := ry.get z2
    have j2 : us[j]? = some u := j2
    have j1 : vs[j]? = some v := j1
    rw [j2] at w1; rw [j1] at w3
    cases w1; cases w3
    exact plain_bits z3 w2 w4 n
/-- A map is written. -/
theorem map_write {H : T AO} {nx : Bn} (hR : HR w0 μ H nx w) {b : Bn} {m : Mp} {l : Loc} (h : mapAt H b = some m) (hl : μ b = some l) {es : List Me} {E' : List MapEntry} {clock : Nat} (hE : RE μ es E') :
    HR w0 μ (H.put b (some (.map es clock))) nx { w with heap := w.heap.setIfInBounds l.blk (.map E'.toArray clock) } := by
  have h1 := mapAt_some h
  obtain ⟨l', m', r⟩ := hR.live _ _ h1
  rw [hl] at m'; cases m'
  have hlt := r.lt
  refine hR.write h1 hl rfl rfl rfl (by simp) (fun i hi => by simp [Array.getElem?_setIfInBounds, Ne.symm hi]) ⟨E', ?_, hE⟩
  simp [Array.getElem?_setIfInBounds, hlt]
theorem s_update (hT : TabOk T0) (hR : HR w0 μ σ.hp σ.nx w) (hA : RT μ σ.tm a.tmps) {t : TypeId} {c : Nat} {m k x : Operand} (hc : keyT T0 t = some c) (ho : o.op = .mapUpdate t m k x ∨ o.op = .insert t m k x) {out : Out}
    (h : opUpdate T0.P σ c m k x = some out) : OutOk T0 w0 μ w ((execOp a.eval o).run T0.P w) out := by
  obtain ⟨mv, h1, h⟩ := ob_some h
  obtain ⟨mb, h2, h⟩ := ob_some h
  obtain ⟨b, hmb, h⟩ := ob_some (x := mb) h
  rw [hmb] at h2
  obtain ⟨q, h3, h⟩ := ob_some h
  obtain ⟨v, h4, h⟩ := ob_some h
  obtain ⟨hok, h⟩ := cb_some h
  obtain ⟨mp, h5, h⟩ := ob_some h
  obtain ⟨r, h6, h⟩ := ob_some h
  obtain ⟨kt, e', kd, u1, u2, u3⟩ := keyT_some hT hc
  have hm := opnd_sound hA h1
  have hk := opnd_sound hA h3
  have hv := opnd_sound hA h4
  rw [asMap_some h2] at hm
  generalize hx : a.eval m = mval at hm
  cases hm with | map e =>
  rename_i l
  obtain ⟨l', m1, E, r1, r2⟩ := hR.live _ _ (mapAt_some h5)
  rw [e] at m1; cases m1
  obtain ⟨r', y1, y2⟩ := find_any (w := w) u2 u3 hk r2 h6
  have hck : ∀ emp, (Instr.checkKey emp 10000 kt (a.eval k)).run T0.P w = .ok () w := fun emp => check_any (n := 9998) u2 u3 hk hok
  have hfk := y1
  have hex : (execOp a.eval o).run T0.P w = ((Instr.mapUpdate t (.map (some l.blk)) (a.eval k) (a.eval x)).run T0.P w).andThen fun _ w' => .ok .skip w' := by
    rcases ho with ho | ho <;> (simp only [execOp, ho, Sem.run_bind, hx]; rfl)
  have hrun : (Instr.mapUpdate t (.map (some l.blk)) (a.eval k) (a.eval x)).run T0.P w = (match r' with
      | some (i, _) => ((do
          let key ← Instr.keyThatStays (((E.toArray[i]?).map (·.key)).getD (a.eval k)) (a.eval k)
          setObj l.blk (.map (E.toArray.modify i fun e => { e with key, val := a.eval x }) mp.clock) : Sem Unit)).run T0.P w
      | none => (setObj l.blk (.map (E.toArray.push { key := a.eval k, val := a.eval x, born := mp.clock }) (mp.clock + 1))).run T0.P w) := by
    unfold Instr.mapUpdate
    simp only [Sem.run_bind, run_underlying u1, Result.andThen_ok, run_getMap r1, hck, hfk]
    cases r' with
    | none => rfl
    | some q =>
      obtain ⟨i, z⟩ := q
      simp only [Sem.run_bind]
  rcases oc_or (x := r) h with ⟨rfl, g1⟩ | ⟨fd, rfl, g1⟩
  · cases g1
    cases y2
    refine ⟨undef, _, μ, .inr ⟨?_, rfl⟩, .refl μ, map_write hR h5 e (E' := E ++ [{ key := a.eval k, val := a.eval x, born := mp.clock }]) (by rw [appN_eq]; exact r2.snoc hk hv rfl), .tup .nil⟩
    rw [hex, hrun]
    simp only [run_setMap r1, Result.andThen_ok, List.push_toArray]
  · cases g1
    obtain ⟨xv, rfl, z2⟩ := y2
    obtain ⟨j, en, z3, z4, z5⟩ := find_at h6
    have z3 : fd.i = j := by omega
    obtain ⟨en', z6, z7⟩ := r2.get z4
    have hkey : (Instr.keyThatStays (((E.toArray[fd.i]?).map (·.key)).getD (a.eval k)) (a.eval k)).run T0.P w = .ok (a.eval k) w := by
      have e1 : E.toArray[fd.i]? = some en' := by rw [z3]; simpa using z6
      simp only [e1, Option.map_some, Option.getD_some]
      unfold Instr.keyThatStays
      rw [show (10000 : Nat) = 9999 + 1 from rfl, bits_any u3 hk z7 z5 9999]
      rfl
    refine ⟨undef, _, μ, .inr ⟨?_, rfl⟩, .refl μ, map_write hR h5 e (E' := E.modify fd.i fun e => { e with key := a.eval k, val := a.eval x }) (r2.set hk hv), .tup .nil⟩
    rw [hex, hrun]
    simp only [Sem.run_bind, hkey, Result.andThen_ok, run_setMap r1]
    rw [List.modify_toArray]
theorem s_makeMap (hR : HR w0 μ σ.hp σ.nx w) (hA : RT μ σ.tm a.tmps) (hT : TabOk T0) {t : TypeId} {r : Option Operand} {c : Nat} (hc : keyT T0 t = some c) (ho : o.op = .makeMap t r) {out : Out} (h : opMap σ r = some out) :
    OutOk T0 w0 μ w ((execOp a.eval o).run T0.P w) out := by
  obtain ⟨kt, e', kd, u1, u2, u3⟩ := keyT_some hT hc
  have fin : out = .nw (fun b => .map b) (.map [] 0) → (execOp a.eval o).run T0.P w = .ok (.value (.map (some w.heap.size))) { w with heap := w.heap.push (.map #[] 0) } → OutOk T0 w0 μ w ((execOp a.eval o).run T0.P w) out := by
    intro e1 e2
    subst e1
    refine ⟨_, _, 0, e2, fun b hb => ⟨.map (l := ⟨w.heap.size, 0, 0⟩) (Mu.put_same _ _ _), ⟨[], by simp, .nil⟩⟩⟩
  rcases oc_or (x := r) h with ⟨rfl, g⟩ | ⟨y, rfl, g⟩
  · cases g
    refine fin rfl ?_
    simp [execOp, ho, Instr.makeMap, newObj, Sem.run, Sem.run_bind, Result.andThen]
  · obtain ⟨v, g1, g2⟩ := ob_some g
    obtain ⟨q, g3, g4⟩ := ob_some g2
    cases g4
    have hv := opnd_sound hA g1
    rw [asI_some g3] at hv
    have hy : a.eval y = .int q.1 q.2 := hv.int_inv
    refine fin rfl ?_
    simp [execOp, ho, Instr.makeMap, newObj, Sem.run_bind, run_underlying u1, hy, asInt, Result.andThen]
    rfl
end
end Ev
end Go.Proofs.Ytdofhlmffponoaa
