/- The evaluator, quicker: what a region needs is handed on piece by piece, and what an operation does is told once. It answers what the evaluator answers. -/
import Derived.Test.YtdofhlmffponoaaEvA2
set_option linter.unusedVariables false
set_option linter.unusedSimpArgs false
namespace Go.Proofs.Ytdofhlmffponoaa
namespace Ev
/-- The rest of a region. -/
abbrev Nf := T AV → T AO → Bn → Nat → List AD → Option Bn → Option AV → Bool → R
noncomputable def unS (g : Nf) (σ : AS) : R := AS.rec (motive := fun _ => R) (fun tm nt df ro rc rd hp nx => g tm hp nx nt df ro rc rd) σ
structure Fo where
  run : Self → Self → (AEx → AS → R) → Nf → Nf
/-- One operation as the evaluator does it. -/
noncomputable def stepO (self deep : Self) (T0 : Tab) (ops : List Oper) (k : AEx → AS → R) (o : Oper) (next : AS → R) (σ : AS) : R :=
  oc (wantedE ops σ.tm o) (.no "guard") (fun b => tb b (oc (opE T0 o.op) (.no o.pos) (fun f => stepE self deep T0 o σ k next (f σ))) (next (putE σ o.dst (.tup []) σ.hp σ.nx)))
noncomputable def slowF (T0 : Tab) (ops : List Oper) (o : Oper) : Fo := ⟨fun self deep k next tm hp nx nt df ro rc rd => stepO self deep T0 ops k o (unS next) ⟨tm, nt, df, ro, rc, rd, hp, nx⟩⟩
/-- A value comes to its place; what is without a place changes nothing. -/
noncomputable def putC (dst : Option Tmp) (v : AV) (tm : T AV) (nt : Nat) : T AV := Option.rec (motive := fun _ => T AV) tm (fun d => tm.put (pOf d) (tb (Nat.blt d nt) (some v) none)) dst
/-- What kind of operation it is: it leaves a value; it writes; it makes a block; it calls. -/
inductive Fk where
  | pv (E : T AV → T AO → Option AV)
  | st (S : T AV → T AO → Option (T AO))
  | nw (N : T AV → Option Nw)
  | call (f : Nat) (C : T AV → Option (List AV))
  | no
/-- What to do with the cells of a block. -/
noncomputable def ceK {β : Type} (H : T AO) (b : Bn) (f : T AV → Nat → Nat → TypeId → Option β) : Option β :=
  Option.rec (motive := fun _ => Option β) none (fun o => AO.rec (motive := fun _ => Option β) f (fun _ _ => none) (fun _ _ _ _ => none) (fun _ _ => none) (fun _ _ _ _ _ _ _ _ _ => none) none o) (H.get b)
/-- What to do with a pointer. -/
noncomputable def ptK {β : Type} (v : Option AV) (f : Bn → Nat → Option β) : Option β :=
  Option.rec (motive := fun _ => Option β) none (fun v => AV.rec (motive_1 := fun _ => Option β) (motive_2 := fun _ => Unit) (fun _ => none) (fun _ _ => none) (fun _ => none) none f none (fun _ _ _ _ => none) (fun _ _ _ _ => none) none none (fun _ => none) (fun _ _ _ _ _ => none) (fun _ => none) none (fun _ _ _ => none) none (fun _ _ => none) (fun _ _ => none) none () (fun _ _ _ _ => ()) v) v
noncomputable def ldF (i : TyI) (a : Operand) (tm : T AV) (hp : T AO) : Option AV := ptK (opnd tm a) fun b off => ceK hp b fun t n _ _ =>
  tb i.agg (cb (Nat.ble (Nat.add off i.size) n) (ob (readN t off i.size) fun l => some (.agg l))) (cb (Nat.blt off n) (t.getN off))
noncomputable def stF (size : Nat) (a x : Operand) (tm : T AV) (hp : T AO) : Option (T AO) := ptK (opnd tm a) fun b off => ob (opnd tm x) fun v => ceK hp b fun t n es el =>
  cb (Nat.beq (lenN v.cells) size) (cb (Nat.ble (Nat.add off size) n) (ob (writeN t off v.cells) fun t => some (hp.put b (some (.cells t n es el)))))
noncomputable def faF (q : Nat × Nat) (x : Operand) (tm : T AV) : Option AV := ptK (opnd tm x) fun b off => tb (Nat.beq q.2 0) none (some (.ptr b (Nat.add off q.1)))
noncomputable def fdF (fi : TyI) (o : Nat) (x : Operand) (tm : T AV) : Option AV := ob (opnd tm x) fun v => ob (asAgg v) fun l => partE fi o l
noncomputable def ixF (size : Nat) (x i : Operand) (tm : T AV) : Option AV := ob (opnd tm x) fun v => ob (opnd tm i) fun u => ob (intOf u) fun n => ob (asSl v) fun s => cb (Nat.blt n s.len) (some (.ptr s.b (Nat.add s.off (Nat.mul n size))))
noncomputable def isF (x i : Operand) (tm : T AV) : Option AV := ob (opnd tm x) fun v => ob (asS v) fun s => ob (opnd tm i) fun u => ob (intOf u) fun n => ob (chrAt s n) fun c => some (.int .u8 (.ofNat c))
noncomputable def biF (P : Program) (f : Program → Nat → TypeId → AV → AV → Option AV) (k : Nat) (t : TypeId) (x y : Operand) (tm : T AV) : Option AV := ob (opnd tm x) fun a => ob (opnd tm y) fun b => f P k t a b
noncomputable def fieldF (T0 : Tab) (t : TypeId) (x : Operand) (f : Nat) : Fk := oc (T0.t t) .no fun i => oc (dFields i.d) .no fun fs => oc (nthO fs f) .no fun ft =>
  oc (T0.t ft) .no fun fi => oc (nthO i.offs f) .no fun q => .pv (fun tm _ => fdF fi q.1 x tm)
noncomputable def indexF (T0 : Tab) (t : TypeId) (x i : Operand) : Fk := oc (T0.t t) .no fun ti => oc (dSlice ti.d) .no (fun e => oc (T0.t e) .no fun ei => .pv (fun tm _ => ixF ei.size x i tm))
noncomputable def funO (x : Operand) : Option Nat := Operand.rec (motive := fun _ => Option Nat) (fun _ => none) (fun _ => none) (fun _ => none) (fun f => some f) x
noncomputable def callF (c : Call) : Fk := match c.callee with
  | .value f => oc (funO f) .no (fun n => .call n (fun tm => opnds tm c.args.toList))
  | _ => .no
noncomputable def kindF (T0 : Tab) (o : Op) : Fk := match o with
  | .move x => .pv (fun tm _ => opnd tm x)
  | .assign x => .pv (fun tm _ => opnd tm x)
  | .alloc el => oc (T0.t el) .no (fun i => .nw (fun _ => some ⟨fun b => .ptr b 0, mkCells i.zero (lenN i.zero) 0 el⟩))
  | .box el x => .nw (fun tm => ob (opnd tm x) fun v => some ⟨fun b => .ptr b 0, mkCells v.cells (lenN v.cells) 0 el⟩)
  | .load t a => oc (T0.t t) .no (fun i => .pv (fun tm hp => ldF i a tm hp))
  | .store t a x => oc (T0.t t) .no (fun i => .st (fun tm hp => stF i.size a x tm hp))
  | .nilCheck x => .pv (fun tm _ => ob (opnd tm x) fun v => cb (okNilK v) (some v))
  | .binOp op t x y _ => Bi.rec (motive := fun _ => Fk) (fun f => .pv (fun tm _ => biF T0.P f (kindT T0 x y t) t x y tm)) (binE op)
  | .unOp op _ x => .pv (fun tm _ => ob (opnd tm x) fun v => unE T0.P op v)
  | .makeInterface t x => oc (T0.t t) .no fun i => oc (dIface i.d) (.pv (fun tm _ => ob (opnd tm x) fun v => some (.iface t v))) (fun _ => .no)
  | .fieldAddr t x f => oc (T0.t t) .no fun i => oc (nthO i.offs f) .no fun q => .pv (fun tm _ => faF q x tm)
  | .field t x f => fieldF T0 t x f
  | .indexAddr t x i => indexF T0 t x i
  | .index t x i => oc (T0.t t) .no fun ti => tb (dStr ti.d) (.pv (fun tm _ => isF x i tm)) .no
  | .extract x i => .pv (fun tm _ => ob (opnd tm x) fun v => ob (asTup v) fun l => nthO l i)
  | .call c => callF c
  | _ => .no
noncomputable def compO (T0 : Tab) (ops : List Oper) (o : Oper) : Fo := Fk.rec (motive := fun _ => Fo)
  (fun E => Option.rec (motive := fun _ => Fo)
    ⟨fun self deep k next tm hp nx nt df ro rc rd => Option.rec (motive := fun _ => R) (.no o.pos) (fun v => next tm hp nx nt df ro rc rd) (E tm hp)⟩
    (fun d => ⟨fun self deep k next tm hp nx nt df ro rc rd => Option.rec (motive := fun _ => R) (.no o.pos) (fun v => next (tm.put (pOf d) (tb (Nat.blt d nt) (some v) none)) hp nx nt df ro rc rd) (E tm hp)⟩) o.dst)
  (fun S => Option.rec (motive := fun _ => Fo)
    ⟨fun self deep k next tm hp nx nt df ro rc rd => Option.rec (motive := fun _ => R) (.no o.pos) (fun hp' => next tm hp' nx nt df ro rc rd) (S tm hp)⟩
    (fun d => ⟨fun self deep k next tm hp nx nt df ro rc rd => Option.rec (motive := fun _ => R) (.no o.pos) (fun hp' => next (tm.put (pOf d) (tb (Nat.blt d nt) (some (.tup [])) none)) hp' nx nt df ro rc rd) (S tm hp)⟩) o.dst)
  (fun N => ⟨fun self deep k next tm hp nx nt df ro rc rd => Option.rec (motive := fun _ => R) (.no o.pos) (fun q => Nw.rec (motive := fun _ => R) (fun f b => next (putC o.dst (f nx) tm nt) (hp.put nx (some b)) nx.succ nt df ro rc rd) q) (N tm)⟩)
  (fun f C => ⟨fun self deep k next tm hp nx nt df ro rc rd => Option.rec (motive := fun _ => R) (.no o.pos) (fun l => callE self deep T0 f l hp nx
    (fun e hp nx => En.rec (motive := fun _ => R) (fun v p => tb p (k (.panic v) ⟨tm, nt, df, ro, rc, rd, hp, nx⟩) (next (putC o.dst v tm nt) hp nx nt df ro rc rd)) e)) (C tm)⟩)
  (slowF T0 ops o) (kindF T0 o.op)
noncomputable def compF (T0 : Tab) (ops : List Oper) (o : Oper) : Fo := oc o.guard (compO T0 ops o) (fun _ => slowF T0 ops o)
noncomputable def runF (self deep : Self) (T0 : Tab) (ops : List Oper) (k : AEx → AS → R) (l : List Oper) : Nf :=
  List.rec (motive := fun _ => Nf) (fun tm hp nx nt df ro rc rd => k .normal ⟨tm, nt, df, ro, rc, rd, hp, nx⟩) (fun o _ ih => Fo.rec (motive := fun _ => Nf) (fun g => g self deep k ih) (compF T0 ops o)) l
noncomputable def codeF (T0 : Tab) (c : Code) : Cd := match c with
  | .region _ ops d => ⟨fun self deep σ k => tb d (regD self deep T0 ops.toList k σ) (unS (runF self deep T0 ops.toList k ops.toList) σ)⟩
  | c => codeE T0 c
noncomputable def evF (T0 : Tab) (f : Nat) : Evs :=
  Nat.rec (motive := fun _ => Evs) ⟨fun _ _ _ => .no "fuel", fun _ _ _ => .no "fuel"⟩
    (fun _ ih => ⟨fun c σ k => Cd.rec (motive := fun _ => R) (fun g => g ih.ev ih.dp σ k) (codeF T0 c), fun c σ k => Cd.rec (motive := fun _ => R) (fun g => g ih.ev ih.dp σ k) (deepE T0 c)⟩) f
noncomputable def runEF (T0 : Tab) (f : Nat) (args : List AV) : R :=
  oc (T0.fn.get (pOf f)) (.no "no function") (fun fn => callB (evF T0 1000000000).ev (evF T0 1000000000).dp T0 fn args .leaf .h trueK)
/-! It answers what the evaluator answers. -/
theorem ob_assoc {α β γ : Type} (x : Option α) (f : α → Option β) (g : β → Option γ) : ob (ob x f) g = ob x (fun a => ob (f a) g) := by cases x <;> rfl
theorem ob_cb {α β : Type} (b : Bool) (x : Option α) (g : α → Option β) : ob (cb b x) g = cb b (ob x g) := by cases b <;> rfl
theorem ob_tb {α β : Type} (b : Bool) (x y : Option α) (g : α → Option β) : ob (tb b x y) g = tb b (ob x g) (ob y g) := by cases b <;> rfl
theorem ob_s {α β : Type} (x : α) (g : α → Option β) : ob (some x) g = g x := rfl
theorem ob_n {α β : Type} (g : α → Option β) : ob none g = none := rfl
theorem ptK_eq {β : Type} (v : Option AV) (f : Bn → Nat → Option β) : ptK v f = ob v fun v => ob (asPt v) fun p => f p.b p.off := by
  cases v with
  | none => rfl
  | some v => cases v <;> rfl
theorem ceK_eq {β : Type} (H : T AO) (b : Bn) (f : T AV → Nat → Nat → TypeId → Option β) : ceK H b f = ob (cellsAt H b) fun c => f c.t c.n c.es c.el := by
  unfold ceK cellsAt
  cases H.get b with
  | none => rfl
  | some o => cases o <;> rfl
def KdOk (T0 : Tab) (o : Op) : Fk → Prop
  | .pv E => ∃ f, opE T0 o = some f ∧ ∀ σ, f σ = ob (E σ.tm σ.hp) fun v => some (.pv v)
  | .st S => ∃ f, opE T0 o = some f ∧ ∀ σ, f σ = ob (S σ.tm σ.hp) fun hp => some (.val (.tup []) hp σ.nx)
  | .nw N => ∃ f, opE T0 o = some f ∧ ∀ σ, f σ = ob (N σ.tm) fun q => some (.nw q.f q.o)
  | .call n C => ∃ f, opE T0 o = some f ∧ ∀ σ, f σ = ob (C σ.tm) fun l => some (.call n l)
  | .no => True
theorem K_oc {α : Type} {T0 : Tab} {o : Op} {x : Option α} {g : α → Fk} (h : ∀ a, x = some a → KdOk T0 o (g a)) : KdOk T0 o (oc x .no g) := by
  cases x with
  | none => trivial
  | some a => exact h a rfl
theorem kind_ok (T0 : Tab) (o : Op) : KdOk T0 o (kindF T0 o) := by
  cases o <;> first | trivial | skip
  case move x => exact ⟨_, rfl, fun σ => rfl⟩
  case assign x => exact ⟨_, rfl, fun σ => rfl⟩
  case alloc el => exact K_oc fun i hi => ⟨_, show ob (T0.t el) _ = _ by rw [hi]; rfl, fun σ => rfl⟩
  case box el x => exact ⟨_, rfl, fun σ => by show ob (opnd σ.tm x) _ = _; rw [ob_assoc]; rfl⟩
  case load t a =>
    refine K_oc fun i hi => ⟨_, show ob (T0.t t) _ = _ by rw [hi]; rfl, fun σ => ?_⟩
    show ob (ptO σ a) (fun p => ob (loadE σ.hp i p) fun v => some (Out.pv v)) = ob (ldF i a σ.tm σ.hp) _
    simp only [ldF, ptO, ptK_eq, ceK_eq, ob_assoc, loadE]
  case store t a x =>
    refine K_oc fun i hi => ⟨_, show ob (T0.t t) _ = _ by rw [hi]; rfl, fun σ => ?_⟩
    show ob (ptO σ a) (fun p => ob (opnd σ.tm x) fun v => storeE σ i.size p v.cells) = ob (stF i.size a x σ.tm σ.hp) _
    simp only [stF, ptO, ptK_eq, ceK_eq, ob_assoc, storeE, ob_cb, ob_s]
  case nilCheck x =>
    refine ⟨_, rfl, fun σ => ?_⟩
    show ob (opnd σ.tm x) (fun v => cb (okNilK v) (some (Out.pv v))) = ob (ob (opnd σ.tm x) fun v => cb (okNilK v) (some v)) _
    simp only [ob_assoc, ob_cb, ob_s]
  case binOp op t x y yt =>
    cases hb : binE op with
    | mk f =>
    have e : kindF T0 (.binOp op t x y yt) = .pv (fun tm _ => biF T0.P f (kindT T0 x y t) t x y tm) := by
      show Bi.rec (motive := fun _ => Fk) (fun f => Fk.pv (fun tm _ => biF T0.P f (kindT T0 x y t) t x y tm)) (binE op) = _
      rw [hb]
    rw [e]
    refine ⟨fun σ => opBin T0.P σ f (kindT T0 x y t) t x y, ?_, fun σ => ?_⟩
    · show Bi.rec (motive := fun _ => Option (AS → Option Out)) (fun f => some (fun σ => opBin T0.P σ f (kindT T0 x y t) t x y)) (binE op) = _
      rw [hb]
    · simp only [biF, opBin, valE, ob_assoc]
  case unOp op t x =>
    refine ⟨_, rfl, fun σ => ?_⟩
    show ob (opnd σ.tm x) (fun v => ob (unE T0.P op v) fun v => some (Out.pv v)) = _
    simp only [ob_assoc]
  case makeInterface t x =>
    refine K_oc fun i hi => ?_
    cases hd : dIface i.d with
    | some _ => trivial
    | none =>
      refine ⟨_, show ob (T0.t t) _ = _ by rw [hi]; show oc (dIface i.d) _ _ = _; rw [hd]; rfl, fun σ => ?_⟩
      show ob (opnd σ.tm x) (fun v => some (Out.pv (AV.iface t v))) = ob (ob (opnd σ.tm x) fun v => some (AV.iface t v)) _
      rw [ob_assoc]; rfl
  case fieldAddr t x f =>
    refine K_oc fun i hi => K_oc fun q hq => ⟨_, show ob (T0.t t) _ = _ by rw [hi]; show ob (nthO i.offs f) _ = _; rw [hq]; rfl, fun σ => ?_⟩
    show ob (ptO σ x) (fun p => tb (Nat.beq q.2 0) none (some (Out.pv (AV.ptr p.b (Nat.add p.off q.1))))) = ob (faF q x σ.tm) _
    simp only [faF, ptO, ptK_eq, ob_assoc, ob_tb, ob_s, ob_n]
  case field t x f =>
    refine K_oc fun i hi => K_oc fun fs hfs => K_oc fun ft hft => K_oc fun fi hfi => K_oc fun q hq => ⟨fun σ => opField σ fi q.1 x, ?_, fun σ => ?_⟩
    rotate_left
    · show ob (opnd σ.tm x) (fun v => ob (asAgg v) fun l => ob (partE fi q.1 l) fun v => some (Out.pv v)) = ob (fdF fi q.1 x σ.tm) _
      simp only [fdF, ob_assoc]
    · show ob (T0.t t) _ = _
      rw [hi]; show ob (dFields i.d) _ = _
      rw [hfs]; show ob (nthO fs f) _ = _
      rw [hft]; show ob (T0.t ft) _ = _
      rw [hfi]; show ob (nthO i.offs f) _ = _
      rw [hq]; rfl
  case indexAddr t x i =>
    refine K_oc fun ti hti => K_oc fun e he => K_oc fun ei hei => ⟨fun σ => opIndexS σ ei.size x i, ?_, fun σ => ?_⟩
    rotate_left
    · show ob (opnd σ.tm x) (fun v => ob (natO σ i) fun n => ob (asSl v) fun s => idxAddr σ s.len ei.size n s.b s.off) = ob (ixF ei.size x i σ.tm) _
      simp only [ixF, natO, ob_assoc, ob_cb, ob_s, idxAddr]
    · show ob (T0.t t) _ = _
      rw [hti]; show oc (dSlice ti.d) _ _ = _
      rw [he]; show ob (T0.t e) _ = _
      rw [hei]; rfl
  case index t x i =>
    refine K_oc fun ti hti => ?_
    cases hd : dStr ti.d with
    | false => trivial
    | true =>
      refine ⟨_, show ob (T0.t t) _ = _ by rw [hti]; show cb (dStr ti.d) _ = _; rw [hd]; rfl, fun σ => ?_⟩
      show ob (opnd σ.tm x) (fun v => ob (asS v) fun s => ob (natO σ i) fun n => ob (chrAt s n) fun c => some (Out.pv (AV.int .u8 (.ofNat c)))) = ob (isF x i σ.tm) _
      simp only [isF, natO, ob_assoc, ob_s]
  case extract x i =>
    refine ⟨_, rfl, fun σ => ?_⟩
    show ob (opnd σ.tm x) (fun v => ob (asTup v) fun l => ob (nthO l i) fun v => some (Out.pv v)) = _
    simp only [ob_assoc]
  case call c =>
    show KdOk T0 (.call c) (callF c)
    unfold callF
    split
    · rename_i f hc
      refine K_oc fun n hn => ?_
      have hf : f = .func n := by cases f <;> cases hn; rfl
      subst hf
      refine ⟨fun σ => opCallV σ (.func n) c.args.toList, ?_, fun σ => ?_⟩
      · show callC T0 c = _
        unfold callC
        rw [hc]
      · show ob (opnds σ.tm c.args.toList) (fun l => some (Out.call n (appN [] (appN l [])))) = ob (opnds σ.tm c.args.toList) (fun l => some (Out.call n l))
        congr 1
        funext l
        simp only [appN_eq, List.nil_append, List.append_nil]
    · trivial
def FoOk (T0 : Tab) (ops : List Oper) (o : Oper) (F : Fo) : Prop := ∀ self deep k (next : AS → R) tm hp nx nt df ro rc rd,
  F.run self deep k (fun tm hp nx nt df ro rc rd => next ⟨tm, nt, df, ro, rc, rd, hp, nx⟩) tm hp nx nt df ro rc rd = stepO self deep T0 ops k o next ⟨tm, nt, df, ro, rc, rd, hp, nx⟩
theorem unS_eq (next : AS → R) : unS (fun tm hp nx nt df ro rc rd => next ⟨tm, nt, df, ro, rc, rd, hp, nx⟩) = next := by
  funext σ
  cases σ
  rfl
theorem slow_ok (T0 : Tab) (ops : List Oper) (o : Oper) : FoOk T0 ops o (slowF T0 ops o) := fun self deep k next tm hp nx nt df ro rc rd => by
  show stepO self deep T0 ops k o (unS _) _ = _
  rw [unS_eq]
/-- Without a guard. -/
theorem step_free {self deep : Self} {T0 : Tab} {ops : List Oper} {k : AEx → AS → R} {o : Oper} {next : AS → R} {σ : AS} {f : AS → Option Out} (hg : o.guard = none) (hf : opE T0 o.op = some f) :
    stepO self deep T0 ops k o next σ = stepE self deep T0 o σ k next (f σ) := by
  unfold stepO
  have h1 : wantedE ops σ.tm o = some true := by unfold wantedE; rw [hg]; rfl
  rw [h1, hf]
  rfl
theorem comp_ok (T0 : Tab) (ops : List Oper) (o : Oper) : FoOk T0 ops o (compF T0 ops o) := by
  unfold compF
  cases hg : o.guard with
  | some g => exact slow_ok T0 ops o
  | none =>
    show FoOk T0 ops o (compO T0 ops o)
    have hk := kind_ok T0 o.op
    unfold compO
    cases hq : kindF T0 o.op with
    | pv E =>
      rw [hq] at hk
      obtain ⟨f, h1, h2⟩ := hk
      intro self deep k next tm hp nx nt df ro rc rd
      rw [step_free hg h1, h2]
      cases hd : o.dst with
      | none =>
        show Option.rec (motive := fun _ => R) _ _ (E tm hp) = stepE self deep T0 o _ k next (ob (E tm hp) _)
        cases E tm hp with
        | none => rfl
        | some v => show next _ = next (putE _ o.dst _ _ _); rw [hd]; rfl
      | some d =>
        show Option.rec (motive := fun _ => R) _ _ (E tm hp) = stepE self deep T0 o _ k next (ob (E tm hp) _)
        cases E tm hp with
        | none => rfl
        | some v => show next _ = next (putE _ o.dst _ _ _); rw [hd]; rfl
    | st S =>
      rw [hq] at hk
      obtain ⟨f, h1, h2⟩ := hk
      intro self deep k next tm hp nx nt df ro rc rd
      rw [step_free hg h1, h2]
      cases hd : o.dst with
      | none =>
        show Option.rec (motive := fun _ => R) _ _ (S tm hp) = stepE self deep T0 o _ k next (ob (S tm hp) _)
        cases S tm hp with
        | none => rfl
        | some v => show next _ = next (putE _ o.dst _ _ _); rw [hd]; rfl
      | some d =>
        show Option.rec (motive := fun _ => R) _ _ (S tm hp) = stepE self deep T0 o _ k next (ob (S tm hp) _)
        cases S tm hp with
        | none => rfl
        | some v => show next _ = next (putE _ o.dst _ _ _); rw [hd]; rfl
    | nw N =>
      rw [hq] at hk
      obtain ⟨f, h1, h2⟩ := hk
      intro self deep k next tm hp nx nt df ro rc rd
      rw [step_free hg h1, h2]
      show Option.rec (motive := fun _ => R) _ _ (N tm) = stepE self deep T0 o _ k next (ob (N tm) _)
      cases N tm with
      | none => rfl
      | some q =>
        cases q with | mk g b =>
        show next _ = next (putE _ o.dst _ _ _)
        cases o.dst <;> rfl
    | call n C =>
      rw [hq] at hk
      obtain ⟨f, h1, h2⟩ := hk
      intro self deep k next tm hp nx nt df ro rc rd
      rw [step_free hg h1, h2]
      show Option.rec (motive := fun _ => R) _ _ (C tm) = stepE self deep T0 o _ k next (ob (C tm) _)
      cases C tm with
      | none => rfl
      | some l =>
        show callE self deep T0 n l hp nx _ = callE self deep T0 n l hp nx (nextE _ o.dst k next)
        congr 1
    | no => exact slow_ok T0 ops o
theorem regF_eq (self deep : Self) (T0 : Tab) (ops : List Oper) (k : AEx → AS → R) : ∀ (l : List Oper), runF self deep T0 ops k l = fun tm hp nx nt df ro rc rd => regE self deep T0 ops k l ⟨tm, nt, df, ro, rc, rd, hp, nx⟩
  | [] => rfl
  | o :: l => by
    have ih := regF_eq self deep T0 ops k l
    have hc := comp_ok T0 ops o
    have e : runF self deep T0 ops k (o :: l) = (compF T0 ops o).run self deep k (runF self deep T0 ops k l) := by
      show Fo.rec (motive := fun _ => Nf) (fun g => g self deep k (runF self deep T0 ops k l)) (compF T0 ops o) = _
      cases compF T0 ops o
      rfl
    rw [e, ih]
    funext tm hp nx nt df ro rc rd
    exact hc self deep k _ tm hp nx nt df ro rc rd
theorem codeF_eq (T0 : Tab) (c : Code) : codeF T0 c = codeE T0 c := by
  cases c <;> first | rfl | skip
  case region _ ops d =>
    show Cd.mk _ = Cd.mk _
    congr 1
    funext self deep σ k
    show tb d _ (unS (runF self deep T0 ops.toList k ops.toList) σ) = tb d _ (regE self deep T0 ops.toList k ops.toList σ)
    rw [regF_eq]
    show tb d _ (unS (fun tm hp nx nt df ro rc rd => regE self deep T0 ops.toList k ops.toList ⟨tm, nt, df, ro, rc, rd, hp, nx⟩) σ) = _
    rw [unS_eq]
theorem evF_eq (T0 : Tab) : ∀ f : Nat, evF T0 f = ev2 T0 f
  | 0 => rfl
  | f + 1 => by
    have ih := evF_eq T0 f
    show Evs.mk _ _ = Evs.mk _ _
    congr 1
    · funext c σ k
      show Cd.rec (motive := fun _ => R) (fun g => g (evF T0 f).ev (evF T0 f).dp σ k) (codeF T0 c) = Cd.rec (motive := fun _ => R) (fun g => g (ev2 T0 f).ev (ev2 T0 f).dp σ k) (codeE T0 c)
      rw [ih, codeF_eq]
    · funext c σ k
      show Cd.rec (motive := fun _ => R) (fun g => g (evF T0 f).ev (evF T0 f).dp σ k) (deepE T0 c) = Cd.rec (motive := fun _ => R) (fun g => g (ev2 T0 f).ev (ev2 T0 f).dp σ k) (deepE T0 c)
      rw [ih]
theorem runEF_eq (T0 : Tab) (f : Nat) (args : List AV) : runEF T0 f args = runE T0 f args := by
  unfold runEF runE
  rw [evF_eq]
end Ev
end Go.Proofs.Ytdofhlmffponoaa
