/- Operations one behind the other; code; the evaluator is sound. -/
import Derived.Test.YtdofhlmffponoaaEvZc
set_option linter.unusedVariables false
set_option linter.unusedSimpArgs false
namespace Go.Proofs.Ytdofhlmffponoaa
namespace Ev
section
variable {T0 : Tab} {w0 : Fx} {μ : Mu} {F : Fence} {rc : Option AV} {rd : Bool} {σ : AS} {a : Act} {w : World} {Q : Exit → Act → World → Prop} {k : AEx → AS → R}
theorem outVal_some {σ : AS} {r : Out} {q : Vm} (h : outVal σ r = some q) : r = .pv q.v ∧ q.hp = σ.hp ∧ q.nx = σ.nx ∨ (∃ mk o, r = .nw mk o ∧ q = ⟨mk σ.nx, newB σ o, σ.nx.succ⟩) ∨ r = .val q.v q.hp q.nx := by
  cases r <;> cases h
  · exact .inl ⟨rfl, rfl, rfl⟩
  · exact .inr (.inl ⟨_, _, rfl, rfl⟩)
  · exact .inr (.inr rfl)
/-- What a value's operation leaves. -/
theorem val_sound (hR : HR w0 μ σ.hp σ.nx w) {out : Out} {r : Result Next} (ho : OutOk T0 w0 μ w r out) {q : Vm} (h : outVal σ out = some q) :
    ∃ x w' μ', (r = .ok (.value x) w' ∨ (r = .ok .skip w' ∧ x = undef)) ∧ Mu.le μ μ' ∧ HR w0 μ' q.hp q.nx w' ∧ RV μ' q.v x := by
  rcases outVal_some h with ⟨rfl, h1, h2⟩ | ⟨mk, o, rfl, rfl⟩ | rfl
  · obtain ⟨x, h3, h4⟩ := ho
    exact ⟨x, w, μ, .inl h3, .refl μ, by rw [h1, h2]; exact hR, h4⟩
  · obtain ⟨x, obj, cap, h3, h4⟩ := ho
    have hn := hR.new σ.nx (Nat.le_refl _)
    exact ⟨x, _, _, .inl h3, Mu.le_put hn, hR.alloc obj o cap (h4 σ.nx hn).2, (h4 σ.nx hn).1⟩
  · exact ho
theorem semAt_of {P : Program} {o : Oper} {ρ : Operand → Value} {r : Option Nat} (h : r = none ∨ ∀ c, o.op ≠ .defer c) : o.semAt r ρ = execOp ρ o := by
  rcases h with rfl | h
  · rfl
  · unfold Oper.semAt
    split
    · rename_i c e; exact absurd e (h c)
    · rfl
theorem Fen.round_none {ro : Option Bn} (f : Fen μ F ro) (h : ro = none) : F.round = none := by subst h; cases f; rfl
theorem allE_ok : ∀ {l : List (AV × T AO)} {k : AV → T AO → R}, allE l k = .ok → ∀ q ∈ l, k q.1 q.2 = .ok
  | [], _, _, q, hq => by cases hq
  | e :: l, k, h, q, hq => by
    have h' : R.rec (motive := fun _ => R) (allE l k) (fun w => .no w) (k e.1 e.2) = .ok := h
    cases hk : k e.1 e.2 with
    | no s => rw [hk] at h'; cases h'
    | ok =>
      rw [hk] at h'
      cases hq with
      | head => exact hk
      | tail _ m => exact allE_ok h' q m
/-- An operation's outcome, and what comes behind. -/
theorem step_core (hT : TabOk T0) {self deep : Self} (hS : SelfOk T0 self) (hD : DeepOk T0 deep) (hR : HR w0 μ σ.hp σ.nx w) (hdf : RDs μ σ.df a.defers) (hfen : Fen μ F σ.ro) {o : Oper} {next : AS → R} {N : Act → World → Prop}
    (hK : ∀ v x hp nx μ' w', k (.panic v) (withM σ hp nx) = .ok → Mu.le μ μ' → HR w0 μ' hp nx w' → RV μ' v x → Q (.panic [{ v := x, recovered := false }]) a w')
    (hN : ∀ v x hp nx l D μ' w', next (putE ⟨σ.tm, σ.nt, l, σ.ro, σ.rc, σ.rd, σ.hp, σ.nx⟩ o.dst v hp nx) = .ok → Mu.le μ μ' → HR w0 μ' hp nx w' → RV μ' v x → RDs μ' l D → N (({ a with defers := D } : Act).put o.dst x) w') {out : Out} (e : stepE self deep T0 o σ k next (some out) = .ok)
    (ho : OutOk T0 w0 μ w ((execOp a.eval o).run T0.P w) out) (hd : ∀ c, o.op = .defer c → ∃ d, out = .dfd d) : o.uponIn F 0 T0.P a N Q ((o.semAt F.round a.eval).run T0.P w) := by
  have hdep : F.depth.isSome = true → 1 ≤ 0 := fun q => by rw [hfen.depth] at q; cases q
  have hno : (∀ d, out ≠ .dfd d) → o.semAt F.round a.eval = execOp a.eval o := fun q => semAt_of (P := T0.P) (.inr (fun c hc => let ⟨d, hd'⟩ := hd c hc; q d hd'))
  have hck : CK w0 μ (nextE σ o.dst k next) (fun e w' => match e with | .returned v => N (a.put o.dst v) w' | .panicked chain => Q (.panic chain) a w' | .outgrown => LetsOut Q) := by
    intro en hp nx ν w' x q1 le hR' hv
    rcases tb_or (b := en.pan) q1 with ⟨q2, q3⟩ | ⟨q2, q3⟩
    · rw [q2]
      exact hK en.v x hp nx ν w' q3 le hR' hv
    · rw [q2]
      exact hN en.v x hp nx σ.df a.defers ν w' q3 le hR' hv (hdf.mono le)
  have e : (oc (outVal σ out) (oc (outCall out) (stepR self o σ k next out) (fun q => callE self deep T0 q.f q.a σ.hp σ.nx (nextE σ o.dst k next))) (fun q => next (putE σ o.dst q.v q.hp q.nx))) = .ok := e
  rcases oc_or e with ⟨q0, e1⟩ | ⟨q, q1, q2⟩
  · rcases oc_or e1 with ⟨q0', e2⟩ | ⟨q, q1, q2⟩
    · rcases oc_or e2 with ⟨q3, e3⟩ | ⟨q, q1, q2⟩
      · rcases oc_or e3 with ⟨q4, e4⟩ | ⟨q, q1, q2⟩
        · rcases oc_or e4 with ⟨q5, e5⟩ | ⟨v, q1, q2⟩
          · obtain ⟨d, q1, q2⟩ := oc_ok e5
            cases out <;> cases q1
            obtain ⟨D, r1, r2⟩ := ho
            obtain ⟨p1, p2⟩ := oc_no (s := fun _ => "defer in a round") q2
            rw [semAt_of (P := T0.P) (.inl (hfen.round_none p1)), r1]
            exact hN (.tup []) undef σ.hp σ.nx (d :: σ.df) (D :: a.defers) μ w p2 (.refl μ) hR (undef_rv μ) (.cons r2 hdf)
          · cases out <;> cases q1
            obtain ⟨x, r1, r2⟩ := ho
            rw [hno (fun d hq => by cases hq), r1]
            exact hK v x σ.hp σ.nx μ w q2 (.refl μ) hR r2
        · cases out <;> cases q1
          obtain ⟨q, hq, x, w', μ', r1, le, r2, r3⟩ := ho
          rw [hno (fun d hq => by cases hq), r1]
          exact hN q.1 x q.2 _ σ.df a.defers μ' w' (allE_ok q2 q hq) le r2 r3 (hdf.mono le)
      · cases out <;> cases q1
        obtain ⟨l, xs, r1, r2, r3⟩ := ho
        obtain ⟨f, tmps, x, y, r4, r5⟩ := roundE_sound hS q2 r1 hR r3 hck
        rw [hno (fun d hq => by cases hq), r2, r4]
        exact ⟨hdep, RoundIn.mono (round_wide hfen r5) (fun e w' he => by cases e <;> exact he)⟩
    · cases out <;> cases q1
      obtain ⟨xs, r1, r2⟩ := ho
      rw [hno (fun d hq => by cases hq), r1]
      rcases callE_sound hT hS hD q2 hR r2 hck with ⟨x, r3, r4⟩ | ⟨r3, r4⟩
      · rw [r3]; exact r4
      · rw [r3]
        exact ⟨hdep, CallsIn.mono (calls_wide hfen r4) (fun e w' he => by cases e <;> exact he)⟩
  · obtain ⟨x, w', μ', r1, le, r2, r3⟩ := val_sound hR ho q1
    rw [hno (fun d hq => by subst hq; cases q1)]
    have := hN q.v x q.hp q.nx σ.df a.defers μ' w' q2 le r2 r3 (hdf.mono le)
    rcases r1 with r1 | ⟨r1, rfl⟩ <;> (rw [r1]; exact this)
theorem step_ok (hT : TabOk T0) {self deep : Self} (hS : SelfOk T0 self) (hD : DeepOk T0 deep) (h : SR w0 μ F rc rd σ a w) (hK : KOk w0 F μ rc rd k Q) {o : Oper} {next : AS → R} {N : Act → World → Prop}
    (hN : ∀ σ' μ' a' w', next σ' = .ok → Mu.le μ μ' → SR w0 μ' F rc rd σ' a' w' → N a' w') {out : Out} (e : stepE self deep T0 o σ k next (some out) = .ok)
    (ho : OutOk T0 w0 μ w ((execOp a.eval o).run T0.P w) out) (hd : ∀ c, o.op = .defer c → ∃ d, out = .dfd d) : o.uponIn F 0 T0.P a N Q ((o.semAt F.round a.eval).run T0.P w) :=
  step_core hT hS hD h.hr h.df h.fen
    (fun v x hp nx μ' w' g le hR' hv => hK (.panic v) _ μ' _ a w' g le ⟨hR', h.rt.mono le, h.sz, h.df.mono le, h.fen.mono le, h.rc, h.rd⟩ (.panic hv))
    (fun v x hp nx l D μ' w' g le hR' hv hD' => hN _ μ' _ w' g le (SR.put (σ := ⟨σ.tm, σ.nt, l, σ.ro, σ.rc, σ.rd, hp, nx⟩) (a := { a with defers := D }) (w := w')
      (⟨hR', h.rt.mono le, h.sz, hD', h.fen.mono le, h.rc, h.rd⟩ : SR w0 μ' F rc rd ⟨σ.tm, σ.nt, l, σ.ro, σ.rc, σ.rd, hp, nx⟩ { a with defers := D } w') (.refl μ') hR' hv o.dst)) e ho hd
/-- What 'defer' says. -/
theorem defer_out {o : Oper} {f : AS → Option Out} (hf : opE T0 o.op = some f) {out : Out} (h : f σ = some out) : ∀ c, o.op = .defer c → ∃ d, out = .dfd d := by
  intro c hc
  rw [hc] at hf
  simp only [opE] at hf
  split at hf
  · cases hf
    obtain ⟨v, h1, h2⟩ := ob_some h
    obtain ⟨q, h3, h4⟩ := ob_some h2
    obtain ⟨l, h5, h6⟩ := ob_some h4
    cases h6
    exact ⟨_, rfl⟩
  · cases hf
/-- The operations of a region, in the order of the text. -/
theorem reg_sound (hT : TabOk T0) {self deep : Self} (hS : SelfOk T0 self) (hD : DeepOk T0 deep) {ops : Array Oper} : ∀ (l : List Oper) (i : Nat) (σ : AS) (μ : Mu) (a : Act) (w : World), l = ops.toList.drop i → i + l.length = ops.size →
    regE self deep T0 ops.toList k l σ = .ok → SR w0 μ F rc rd σ a w → KOk w0 F μ rc rd k Q → wpOpsIn F 0 T0.P ops Q (List.range' i l.length) a w
  | [], i, σ, μ, a, w, _, _, h, hr, hk => by
    exact hk .normal σ μ .normal a w h (.refl μ) hr .normal
  | o :: l, i, σ, μ, a, w, hl, hn, h, hr, hk => by
    have h : oc (wantedE ops.toList σ.tm o) (.no "guard") (fun b => tb b (oc (opE T0 o.op) (.no o.pos) (fun f => stepE self deep T0 o σ k (regE self deep T0 ops.toList k l) (f σ))) (regE self deep T0 ops.toList k l (putE σ o.dst (.tup []) σ.hp σ.nx))) = .ok := h
    have hi : ops[i]? = some o := by
      have : ops.toList[i]? = some o := by
        have := congrArg (fun m => m[0]?) hl
        simpa [List.getElem?_drop] using this.symm
      simpa using this
    have hl' : l = ops.toList.drop (i + 1) := by
      have := congrArg List.tail hl
      simpa [List.tail_drop] using this
    have hrest : ∀ σ' μ' a' w', regE self deep T0 ops.toList k l σ' = .ok → Mu.le μ μ' → SR w0 μ' F rc rd σ' a' w' → wpOpsIn F 0 T0.P ops Q (List.range' (i + 1) l.length) a' w' := fun σ' μ' a' w' g le hs =>
      reg_sound hT hS hD l (i + 1) σ' μ' a' w' hl' (by simp only [List.length_cons] at hn; omega) g hs (hk.mono le)
    obtain ⟨b, h1, h2⟩ := oc_ok h
    have hw := wantedE_sound hr.rt h1
    show wpOpsIn F 0 T0.P ops Q (i :: List.range' (i + 1) l.length) a w
    simp only [wpOpsIn, hi]
    rcases tb_or (b := b) h2 with ⟨rfl, h3⟩ | ⟨rfl, h3⟩
    · rw [if_pos hw]
      obtain ⟨f, h4, h5⟩ := oc_ok h3
      refine ⟨fun f _ => hr.fen.fn f, ?_⟩
      cases h6 : f σ with
      | none => rw [h6] at h5; cases h5
      | some out =>
        rw [h6] at h5
        exact step_ok hT hS hD hr hk hrest h5 (op_sound hT hr.hr hr.rt h4 h6) (defer_out h4 h6)
    · rw [if_neg (by rw [hw]; simp)]
      exact ⟨fun f _ => hr.fen.fn f, hrest _ μ _ w h3 (.refl μ) (hr.put (.refl μ) hr.hr (undef_rv μ) o.dst)⟩
/-- Ahead of a round of a loop. -/
def loopAt (F : Fence) (P : Program) (c : Code) (Q : Exit → Act → World → Prop) (a : Act) (w : World) : Prop :=
  ∀ (b : Frame) (k : List Item) (cs : List Frame), b.roundOf = F.round → F.fn b.fn → F.room (cs.length + 1 + 0) →
    ∃ e a' w', Q e a' w' ∧ ArrivesIn (Machine.fenced P F) P (lone (b.atR a (.inLoop c :: k)) cs w) b k cs e a' w'
theorem loop_round {P : Program} {c : Code} (h : c.wpIn F 0 P (Exit.then (loopAt F P c Q) Q) a w) {b : Frame} {k : List Item} {cs : List Frame} (hro : b.roundOf = F.round) (hb : F.fn b.fn) (hr : F.room (cs.length + 1 + 0)) :
    ∃ e a' w', Q e a' w' ∧ ArrivesIn (Machine.fenced P F) P (lone (b.atR a (.code c :: .inLoop c :: k)) cs w) b k cs e a' w' := by
  obtain ⟨e, a₁, w₁, hq, harr⟩ := h b (.inLoop c :: k) cs hro hb hr
  cases e with
  | normal =>
    obtain ⟨e₂, a₂, w₂, hq₂, harr₂⟩ := hq b k cs hro hb hr
    exact ⟨e₂, a₂, w₂, hq₂, .of_steps harr harr₂⟩
  | exit id => exact ⟨_, a₁, w₁, hq, .pass (x := .inLoop c) rfl (fun _ _ => .inl (by simp)) harr⟩
  | goto l => exact ⟨_, a₁, w₁, hq, .pass (x := .inLoop c) rfl (fun _ _ => .inl (by simp)) harr⟩
  | ret => exact ⟨_, a₁, w₁, hq, .pass (x := .inLoop c) rfl (fun _ _ => .inl (by simp)) harr⟩
  | panic ch => exact ⟨_, a₁, w₁, hq, .pass (x := .inLoop c) rfl (fun _ _ => .inl (by simp)) harr⟩
  | outgrown => exact ⟨_, a₁, w₁, hq, .pass (x := .inLoop c) rfl (fun _ _ => .inl (by simp)) harr⟩
theorem wpIn_of_round {P : Program} {c : Code} (h : c.wpIn F 0 P (Exit.then (loopAt F P c Q) Q) a w) : (Code.loop c).wpIn F 0 P Q a w := fun b k cs hro hb hr =>
  let ⟨e, a', w', q, r⟩ := loop_round h (b := b) (k := k) hro hb hr
  ⟨e, a', w', q, .of_steps (.one (fenced_calm hb hr rfl) stepR_loop) r⟩
theorem loopAt_of_round {P : Program} {c : Code} (h : c.wpIn F 0 P (Exit.then (loopAt F P c Q) Q) a w) : loopAt F P c Q a w := fun b k cs hro hb hr =>
  let ⟨e, a', w', q, r⟩ := loop_round h (b := b) (k := k) hro hb hr
  ⟨e, a', w', q, .of_steps (.one (fenced_calm hb hr rfl) stepR_inLoop) r⟩
def LoopOk (T0 : Tab) (self : Self) : Prop :=
  ∀ (c : Code) (σ : AS) (k : AEx → AS → R) (w0 : Fx) (μ : Mu) (F : Fence) (rc : Option AV) (rd : Bool) (a : Act) (w : World) (Q : Exit → Act → World → Prop),
    self (.loop c) σ k = .ok → SR w0 μ F rc rd σ a w → KOk w0 F μ rc rd k Q → loopAt F T0.P c Q a w
/-- Behind a normal end comes more. -/
theorem seqK_ok {x : Code} {self : Self} {M : Act → World → Prop} (hS : ∀ σ μ a w, self x σ k = .ok → SR w0 μ F rc rd σ a w → KOk w0 F μ rc rd k Q → M a w) (hk : KOk w0 F μ rc rd k Q) :
    KOk w0 F μ rc rd (seqK self x k) (Exit.then M Q) := by
  intro e σ ν e' a w h le hr re
  rcases tb_or (b := isNormal e) h with ⟨h1, h2⟩ | ⟨h1, h2⟩
  · have he : e' = .normal := by cases re <;> first | rfl | cases h1
    subst he
    exact hS σ ν a w h2 hr (hk.mono le)
  · have := hk e σ ν e' a w h2 le hr re
    cases re <;> first | exact this | cases h1
theorem blockK_ok {id : Nat} (hk : KOk w0 F μ rc rd k Q) : KOk w0 F μ rc rd (blockK id k) (Exit.inBlock id Q) := by
  intro e σ ν e' a w h le hr re
  rcases oc_or (x := exitId e) h with ⟨h1, h2⟩ | ⟨i, h1, h2⟩
  · have := hk e σ ν e' a w h2 le hr re
    cases re <;> first | exact this | cases h1
  · cases re <;> cases h1
    rcases tb_or (b := Nat.beq i id) h2 with ⟨h3, h4⟩ | ⟨h3, h4⟩
    · show if i = id then _ else _
      rw [if_pos (beq_true h3)]
      exact hk .normal σ ν .normal a w h4 le hr .normal
    · show if i = id then _ else _
      rw [if_neg (Nat.ne_of_beq_eq_false h3)]
      exact hk (.exit i) σ ν (.exit i) a w h4 le hr .exit
/-- A scope without a jump. -/
def noG (Q : Exit → Act → World → Prop) : Exit → Act → World → Prop
  | .goto _, _, _ => False
  | e, a, w => Q e a w
theorem stepR_scope {P : Program} {b : Frame} {a : Act} {k : List Item} {cs : List Frame} {w : World} {c : Code} :
    step P (lone (b.atR a (.code (.scope c) :: k)) cs w) = .next (lone (b.atR a (.code c :: .inScope c :: k)) cs w) :=
  step_lone_go (by simp [stepG, stepG.exec, Frame.atR])
theorem stepR_inScope {P : Program} {b : Frame} {a : Act} {k : List Item} {cs : List Frame} {w : World} {c : Code} :
    step P (lone (b.atR a (.inScope c :: k)) cs w) = .next (lone (b.atR a k) cs w) :=
  step_lone_go (by simp [stepG, stepG.exec, Frame.atR])
theorem wpIn_scope {P : Program} {c : Code} (h : c.wpIn F 0 P (noG Q) a w) : (Code.scope c).wpIn F 0 P Q a w := by
  intro b k cs hro hb hr
  have h0 : (lone (b.atR a (.code (.scope c) :: k)) cs w).fenced P F := fenced_calm hb hr rfl
  obtain ⟨e, a₁, w₁, hq, harr⟩ := h b (.inScope c :: k) cs hro hb hr
  cases e with
  | normal => exact ⟨.normal, a₁, w₁, hq, .head h0 stepR_scope (StepsIn.trans harr (.one (fenced_calm hb hr rfl) stepR_inScope))⟩
  | exit id =>
    have hx : exitTo id (.inScope c :: k) = exitTo id k := by simp [exitTo]
    exact ⟨.exit id, a₁, w₁, hq, fun k' hk => .head h0 stepR_scope (harr.1 k' (by rw [hx]; exact hk)),
      fun hr' hk => let ⟨k₁, h1, h2⟩ := harr.2 hr' (by rw [hx]; exact hk); ⟨k₁, h1, .head h0 stepR_scope h2⟩⟩
  | goto l => exact hq.elim
  | ret => exact ⟨_, a₁, w₁, hq, .of_steps (.one h0 stepR_scope) harr⟩
  | panic ch => exact ⟨_, a₁, w₁, hq, .of_steps (.one h0 stepR_scope) harr⟩
  | outgrown => exact ⟨_, a₁, w₁, hq, .of_steps (.one h0 stepR_scope) harr⟩
theorem scopeK_ok (hk : KOk w0 F μ rc rd k Q) : KOk w0 F μ rc rd (scopeK k) (noG Q) := by
  intro e σ ν e' a w h le hr re
  rcases tb_or (b := isGoto e) h with ⟨h1, h2⟩ | ⟨h1, h2⟩
  · cases h2
  · have := hk e σ ν e' a w h2 le hr re
    cases re <;> first | exact this | cases h1
theorem condE_ok {c : Operand} {x y : R} (h : condE (opnd σ.tm c) x y = .ok) (hr : SR w0 μ F rc rd σ a w) : ∃ t, a.eval c = .bool t ∧ (if t then x else y) = .ok := by
  obtain ⟨t, h1, h2⟩ := oc_ok h
  obtain ⟨v, h3, h4⟩ := ob_some h1
  have hv := opnd_sound hr.rt h3
  rw [asB_some h4] at hv
  refine ⟨t, hv.bool_inv, ?_⟩
  rcases tb_or (b := t) h2 with ⟨rfl, q⟩ | ⟨rfl, q⟩
  · exact q
  · exact q
/-- A range over a function. -/
theorem range_call (hT : TabOk T0) {self deep : Self} (hS : SelfOk T0 self) (hD : DeepOk T0 deep) {g : Operand} {ps : Array Tmp} {x y : Code} {v : Fv} {b : Bn} {l : Loc} {hp : T AO} {df : List AD} {mark : List Deferred} {w₁ : World} {fn : FuncId}
    (hr : SR w0 μ F rc rd σ a w) (hk : KOk w0 F μ rc rd k Q) (hv : RV μ (.func v.fn v.first v.cap) (a.eval g)) (h : rangeF self deep T0 v b hp σ df k = .ok) {μ' : Mu} (le : Mu.le μ μ') (hb : μ' b = some l)
    (hR : HR w0 μ' hp b.succ w₁) (hdf : RDs μ' df (mark ++ a.defers)) (he : (Instr.enterLoop fn a.tmps ps x y F.round).run T0.P w = .ok (l.blk, mark) w₁) :
    ∃ (l : Nat) (mark : List Deferred) (w₁ : World) (d : Deferred) (w₁' : World) (f : FuncId) (args : Array Value) (w₂ : World),
      (Instr.enterLoop fn a.tmps ps x y F.round).run T0.P w = .ok (l, mark) w₁ ∧
      (resolve a.eval (rangeCall g l) 0).run T0.P w₁ = .ok d w₁' ∧
      (∀ f', Target.leads T0.P w₁' d.target d.args = some f' → F.fn f') ∧
      (invoke d.target d.args).run T0.P w₁' = .ok (.enter f args) w₂ ∧
      (F.depth.isSome = true → 1 ≤ 0) ∧
      CallsIn F (0 - 1) T0.P f args w₂ (rangePost F 0 T0.P l Q { a with defers := mark ++ a.defers }) := by
  obtain ⟨f, h1, h2⟩ := oc_ok h
  obtain ⟨fi, h3, h4⟩ := oc_ok h2
  have hfn := fnF_some h1
  generalize hav : a.eval g = av at hv
  cases hv with | func e1 e2 e3 =>
  rename_i xs ys
  have hargs : RVs μ' (appN v.first (.yield b :: v.cap)) (xs ++ (.func (.yield l.blk) #[] #[] :: ys)) := by
    rw [appN_eq]; exact (e2.mono le).append (.cons (.yield hb) (e3.mono le))
  refine ⟨l.blk, mark, w₁, { target := .fn v.fn ⟨ys⟩, args := (⟨xs⟩ : Array Value) ++ #[.func (.yield l.blk) #[] #[]] }, w₁, f, ⟨xs ++ (.func (.yield l.blk) #[] #[] :: ys)⟩, w₁, he, ?_, fun f' _ => hr.fen.fn f', ?_, fun q => (by rw [hr.fen.depth] at q; cases q), ?_⟩
  · simp only [resolve, rangeCall, hav, Deferred.ofValue]
    rw [show Array.map a.eval #[Operand.const (.func (.yield l.blk) #[] #[])] = #[.func (.yield l.blk) #[] #[]] from by simp [Act.eval]]
    rfl
  · rw [hfn]
    show (callFunc f (((⟨xs⟩ : Array Value) ++ #[.func (.yield l.blk) #[] #[]]) ++ (⟨ys⟩ : Array Value))).run T0.P w₁ = _
    rw [show ((⟨xs⟩ : Array Value) ++ #[.func (.yield l.blk) #[] #[]]) ++ (⟨ys⟩ : Array Value) = ⟨xs ++ (.func (.yield l.blk) #[] #[] :: ys)⟩ from Array.ext' (by simp)]
    exact run_callFunc hT h3 _
  · refine calls_wide hr.fen (callB_sound hT hS hD h4 h3 hR hargs (fun en hp' nx' ν w' x' q1 le2 hR' hv' => ?_))
    have hsr : ∀ hp'' nx'' w'', HR w0 ν hp'' nx'' w'' → SR w0 ν F rc rd (withDf σ df hp'' nx'') { a with defers := mark ++ a.defers } w'' := fun hp'' nx'' w'' z =>
      ⟨z, hr.rt.mono (le.trans le2), hr.sz, hdf.mono le2, hr.fen.mono (le.trans le2), hr.rc, hr.rd⟩
    rcases tb_or (b := en.pan) q1 with ⟨q2, q3⟩ | ⟨q2, q3⟩
    · rw [q2]
      exact hk (.panic en.v) _ ν _ _ w' q3 (le.trans le2) (hsr _ _ _ hR') (.panic hv')
    · rw [q2]
      obtain ⟨lp, q4, q5⟩ := oc_ok q3
      rcases tb_or (b := isBusy lp.st) q5 with ⟨_, q6⟩ | ⟨q6, q7⟩
      · cases q6
      obtain ⟨e, q8, q9⟩ := oc_ok q7
      obtain ⟨tmps, d, f2, u1, u2, u3, u4, u5⟩ := loop_write hR' q4 (le2 _ _ hb)
      have hsr' := hsr _ _ _ (u5 .exhausted lp.pend)
      refine ⟨lp.pend, { w' with heap := w'.heap.setIfInBounds l.blk (.loop { state := .exhausted, pending := lp.pend, fn := f2, tmps := tmps, params := lp.ps.toArray, assign := lp.assign, body := lp.body, defers := d.blk }) }, ?_, ?_⟩
      · have hnb : (lp.st == LoopState.busy) = false := by cases hq : lp.st <;> rw [hq] at q6 <;> first | rfl | cases q6
        unfold Instr.endLoop Instr.getLoop
        simp only [Sem.run_bind, run_getObj u4, Result.andThen_ok, Sem.run_pure, run_setObj u4, hnb, Bool.false_eq_true, if_false]
      · have fin : ∀ (W : World), (∀ e', REx ν e e' → Q e' { a with defers := mark ++ a.defers } W) → (match lp.pend with
            | none => Q .normal { a with defers := mark ++ a.defers } W
            | some c => c.wpIn F 0 T0.P Q { a with defers := mark ++ a.defers } W) := by
          intro W kk
          cases hj : lp.pend with
          | none => rw [hj] at q8; cases q8; exact kk .normal .normal
          | some c =>
            rw [hj] at q8
            cases c <;> cases q8
            · exact wpIn_exit (kk _ .exit)
            · exact wpIn_goto (kk _ .goto)
            · exact wpIn_ret (kk _ .ret)
        exact fin _ (fun e' re => hk e _ ν e' _ _ q9 (le.trans le2) hsr' re)
theorem range_sound (hT : TabOk T0) {self deep : Self} (hS : SelfOk T0 self) (hD : DeepOk T0 deep) {g : Operand} {ps : Array Tmp} {x y : Code}
    (h : rangeE self deep T0 g ps.toList x y σ k = .ok) (hr : SR w0 μ F rc rd σ a w) (hk : KOk w0 F μ rc rd k Q) : (Code.rangeFunc g ps x y).wpIn F 0 T0.P Q a w := by
  refine wpIn_rangeFunc (fun fn _ => ?_)
  obtain ⟨v, h1, h2⟩ := oc_ok h
  obtain ⟨gv, h3, h4⟩ := ob_some h1
  have hv := opnd_sound hr.rt h3
  rw [asFv_some h4] at hv
  have hn0 := hr.hr.new σ.nx (Nat.le_refl _)
  have loopRO : ∀ (ν : Mu) (W : World) (d : Loc) (dfb : Bn) (fn : FuncId), Mu.le μ ν → ν dfb = some d →
      RO ν ⟨W.heap.size, 0, 0⟩ { W with heap := W.heap.push (.loop { state := .ready, pending := none, fn := fn, tmps := a.tmps, params := ps, assign := x, body := y, defers := d.blk }) } (.loop .ready none 0 σ.tm σ.nt ps.toList x y dfb) :=
    fun ν W d dfb fn le hd => ⟨a.tmps, d, hd, hr.sz, hr.rt.mono le, fn, by simp, rfl⟩
  rcases oc_or h2 with ⟨h5, h6⟩ | ⟨r, h5, h6⟩
  · have hro : F.round = none := hr.fen.round_none h5
    have hR1 := hr.hr.alloc (.deferred (some [])) .dfr 0 (by simp [RO])
    generalize hμ1 : μ.put σ.nx ⟨w.heap.size, 0, 0⟩ = μ1 at hR1
    have le1 : Mu.le μ μ1 := hμ1 ▸ Mu.le_put hn0
    have hb1 : μ1 σ.nx = some ⟨w.heap.size, 0, 0⟩ := hμ1 ▸ Mu.put_same _ _ _
    have hn1 := hR1.new σ.nx.succ (Nat.le_refl _)
    have hR2 := hR1.alloc (.loop { state := .ready, pending := none, fn := fn, tmps := a.tmps, params := ps, assign := x, body := y, defers := w.heap.size }) (.loop .ready none 0 σ.tm σ.nt ps.toList x y σ.nx) 0
      (loopRO _ _ ⟨w.heap.size, 0, 0⟩ σ.nx fn (le1.trans (Mu.le_put hn1)) (Mu.le_put hn1 _ _ hb1))
    have le2 := Mu.le_put (l := ⟨(w.heap.push (.deferred (some []))).size, 0, 0⟩) hn1
    refine range_call (l := ⟨(w.heap.push (.deferred (some []))).size, 0, 0⟩) (mark := [{ target := .collected w.heap.size, args := #[] }]) hT hS hD hr hk hv h6 (le1.trans le2) (Mu.put_same _ _ _) hR2 ?_ ?_
    · exact .cons ⟨_, le2 _ _ hb1, rfl⟩ (hr.df.mono (le1.trans le2))
    · rw [hro]
      unfold Instr.enterLoop
      simp [Sem.run_bind, newObj, Sem.run, Result.andThen]
      exact ⟨rfl, rfl, rfl⟩
  · obtain ⟨lp, h7, h8⟩ := oc_ok h6
    have hfen := hr.fen
    rw [h5] at hfen
    obtain ⟨l0, f1, f2⟩ := hfen
    obtain ⟨tmps, d, f, e1, e2, e3, e4, e5⟩ := loop_write hr.hr h7 f1
    have le1 := Mu.le_put (l := ⟨w.heap.size, 0, 0⟩) hn0
    have hR1 := hr.hr.alloc (.loop { state := .ready, pending := none, fn := fn, tmps := a.tmps, params := ps, assign := x, body := y, defers := d.blk }) (.loop .ready none 0 σ.tm σ.nt ps.toList x y lp.dfb) 0
      (loopRO _ _ d lp.dfb fn le1 (le1 _ _ e1))
    refine range_call (l := ⟨w.heap.size, 0, 0⟩) (mark := []) hT hS hD hr hk hv h8 le1 (Mu.put_same _ _ _) hR1 (hr.df.mono le1) ?_
    have hro : F.round = some l0.blk := by rw [f2]; rfl
    rw [hro]
    unfold Instr.enterLoop Instr.getLoop
    simp only [Sem.run_bind, run_getObj e4, Result.andThen_ok, Sem.run_pure]
    simp [newObj, Sem.run, Result.andThen]
end
end Ev
end Go.Proofs.Ytdofhlmffponoaa
