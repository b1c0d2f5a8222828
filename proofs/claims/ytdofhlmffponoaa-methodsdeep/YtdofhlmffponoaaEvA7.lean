/- The machine: what the evaluator says of code, of calls and of rounds is what the machine does. -/
import Derived.Test.YtdofhlmffponoaaEvOp
import Derived.RangeFuncLeaves
import Derived.RecoverIn
import Derived.OrdersIn
set_option linter.unusedVariables false
set_option linter.unusedSimpArgs false
namespace Go.Proofs.Ytdofhlmffponoaa
namespace Ev
/-- What has been put off. -/
inductive RDs (μ : Mu) : List AD → List Deferred → Prop
  | nil : RDs μ [] []
  | cons {d : AD} {D : Deferred} {l : List AD} {m : List Deferred} : RD1 μ D d → RDs μ l m → RDs μ (d :: l) (D :: m)
theorem RD1.mono {μ ν : Mu} (h : Mu.le μ ν) {D : Deferred} {d : AD} (r : RD1 μ D d) : RD1 ν D d := by
  cases d with
  | mark b => obtain ⟨l, h1, h2⟩ := r; exact ⟨l, h _ _ h1, h2⟩
  | call fn cap args => obtain ⟨xs, ys, h1, h2, h3⟩ := r; exact ⟨xs, ys, h1.mono h, h2.mono h, h3⟩
theorem RDs.mono {μ ν : Mu} (h : Mu.le μ ν) : ∀ {l : List AD} {m : List Deferred}, RDs μ l m → RDs ν l m
  | _, _, .nil => .nil
  | _, _, .cons a b => .cons (a.mono h) (b.mono h)
/-- Whose frame it is: a function's, or a round's of a loop. -/
def Fen (μ : Mu) (F : Fence) : Option Bn → Prop
  | none => F = Fence.wide
  | some b => ∃ l, μ b = some l ∧ F = Fence.wide.inRound l.blk
inductive REx (μ : Mu) : AEx → Exit → Prop
  | normal : REx μ .normal .normal
  | exit {id : Nat} : REx μ (.exit id) (.exit id)
  | goto {l : Nat} : REx μ (.goto l) (.goto l)
  | ret : REx μ .ret .ret
  | panic {v : AV} {x : Value} : RV μ v x → REx μ (.panic v) (.panic [{ v := x, recovered := false }])
structure SR (w0 : Fx) (μ : Mu) (F : Fence) (rc : Option AV) (rd : Bool) (σ : AS) (a : Act) (w : World) : Prop where
  hr : HR w0 μ σ.hp σ.nx w
  rt : RT μ σ.tm a.tmps
  sz : a.tmps.size = σ.nt
  df : RDs μ σ.df a.defers
  fen : Fen μ F σ.ro
  rc : σ.rc = rc
  rd : σ.rd = rd
theorem Fen.mono {μ ν : Mu} (h : Mu.le μ ν) {F : Fence} {ro : Option Bn} (f : Fen μ F ro) : Fen ν F ro := by
  cases ro with
  | none => exact f
  | some b => obtain ⟨l, h1, h2⟩ := f; exact ⟨l, h _ _ h1, h2⟩
theorem Fen.fn {μ : Mu} {F : Fence} {ro : Option Bn} (f : Fen μ F ro) (x : FuncId) : F.fn x := by
  cases ro with
  | none => cases f; trivial
  | some b => obtain ⟨l, h1, rfl⟩ := f; trivial
theorem Fen.depth {μ : Mu} {F : Fence} {ro : Option Bn} (f : Fen μ F ro) : F.depth = none := by
  cases ro with
  | none => cases f; rfl
  | some b => obtain ⟨l, h1, rfl⟩ := f; rfl
theorem Fen.wide {μ : Mu} {F : Fence} {ro : Option Bn} (f : Fen μ F ro) : ∃ r, F = { Fence.wide with round := r } := by
  cases ro with
  | none => exact ⟨none, f⟩
  | some b => obtain ⟨l, h1, rfl⟩ := f; exact ⟨some l.blk, rfl⟩
theorem calls_wide {μ : Mu} {F : Fence} {ro : Option Bn} (f : Fen μ F ro) {n : Nat} {P : Program} {g : FuncId} {args : Array Value} {w : World} {R : Ending → World → Prop} (h : CallsIn Fence.wide n P g args w R) : CallsIn F n P g args w R := by
  obtain ⟨r, rfl⟩ := f.wide
  exact h
theorem round_wide {μ : Mu} {F : Fence} {ro : Option Bn} (f : Fen μ F ro) {n : Nat} {P : Program} {l : Nat} {g : FuncId} {tmps : Array Value} {x y : Code} {w : World} {R : Ending → World → Prop}
    (h : RoundIn Fence.wide n P l g tmps x y w R) : RoundIn F n P l g tmps x y w R := by
  obtain ⟨r, rfl⟩ := f.wide
  exact h
/-- What comes behind a piece of code. -/
def KOk (w0 : Fx) (F : Fence) (μ0 : Mu) (rc : Option AV) (rd : Bool) (k : AEx → AS → R) (Q : Exit → Act → World → Prop) : Prop :=
  ∀ e σ μ e' a w, k e σ = .ok → Mu.le μ0 μ → SR w0 μ F rc rd σ a w → REx μ e e' → Q e' a w
theorem KOk.mono {w0 : Fx} {F : Fence} {μ ν : Mu} {rc : Option AV} {rd : Bool} {k : AEx → AS → R} {Q : Exit → Act → World → Prop} (h : Mu.le μ ν) (hk : KOk w0 F μ rc rd k Q) : KOk w0 F ν rc rd k Q :=
  fun e σ ξ e' a w g le => hk e σ ξ e' a w g (h.trans le)
/-- What comes behind a call. -/
def CK (w0 : Fx) (μ0 : Mu) (k : Kc) (R : Ending → World → Prop) : Prop :=
  ∀ en hp nx μ w x, k en hp nx = .ok → Mu.le μ0 μ → HR w0 μ hp nx w → RV μ en.v x → R (tb en.pan (.panicked [{ v := x, recovered := false }]) (.returned x)) w
/-- What is said of code at so much fuel. -/
def SelfOk (T0 : Tab) (self : Self) : Prop :=
  ∀ (c : Code) (σ : AS) (k : AEx → AS → R) (w0 : Fx) (μ : Mu) (F : Fence) (rc : Option AV) (rd : Bool) (a : Act) (w : World) (Q : Exit → Act → World → Prop),
    self c σ k = .ok → SR w0 μ F rc rd σ a w → KOk w0 F μ rc rd k Q → c.wpIn F 0 T0.P Q a w
theorem ok_no {s : String} : (R.no s = R.ok) → False := fun h => by cases h
theorem tb_ok {b : Bool} {x : R} {s : String} (h : tb b x (.no s) = .ok) : b = true ∧ x = .ok := by
  rcases tb_or (b := b) (x := x) (y := .no s) (r := .ok) h with q | ⟨_, q⟩
  · exact q
  · cases q
theorem oc_ok {α : Type} {x : Option α} {s : String} {f : α → R} (h : oc x (.no s) f = .ok) : ∃ a, x = some a ∧ f a = .ok := by
  rcases oc_or h with ⟨_, q⟩ | q
  · cases q
  · exact q
theorem oc_no {α : Type} {x : Option α} {s : α → String} {d : R} (h : oc x d (fun a => .no (s a)) = .ok) : x = none ∧ d = .ok := by
  rcases oc_or h with q | ⟨_, _, q⟩
  · exact q
  · cases q
theorem cb'_ok {b : Bool} {x : R} (h : cb' b x = .ok) : b = true ∧ x = .ok := by
  rcases tb_or (b := b) (x := x) (y := .no "guard") (r := .ok) h with q | ⟨_, q⟩
  · exact q
  · cases q
section
variable {T0 : Tab} {w0 : Fx} {μ : Mu} {F : Fence} {rc : Option AV} {rd : Bool} {σ : AS} {a : Act} {w : World} {Q : Exit → Act → World → Prop} {k : AEx → AS → R}
theorem putE_tm (σ : AS) (dst : Option Tmp) (v : AV) (hp : T AO) (nx : Bn) : (putE σ dst v hp nx).tm = (match dst with | none => σ.tm | some d => σ.tm.put (pOf d) (tb (Nat.blt d σ.nt) (some v) none)) := by
  cases dst <;> rfl
/-- A value is put into its temporary. -/
theorem SR.put (h : SR w0 μ F rc rd σ a w) {ν : Mu} {w' : World} {hp : T AO} {nx : Bn} {v : AV} {x : Value} (le : Mu.le μ ν) (hr : HR w0 ν hp nx w') (r : RV ν v x) (dst : Option Tmp) :
    SR w0 ν F rc rd (putE σ dst v hp nx) (a.put dst x) w' := by
  refine ⟨hr, ?_, ?_, ?_, h.fen.mono le, h.rc, h.rd⟩
  · rw [putE_tm]
    cases dst with
    | none => exact h.rt.mono le
    | some d => exact (h.rt.mono le).put h.sz r
  · cases dst with
    | none => exact h.sz
    | some d => simp only [Act.put, Array.size_setIfInBounds]; exact h.sz
  · cases dst <;> exact h.df.mono le
theorem undef_rv (μ : Mu) : RV μ (.tup []) undef := .tup .nil
/-- Whether an operation is wanted. -/
theorem wantedE_sound {ops : Array Oper} {o : Oper} {tm : T AV} {tmps : Array Value} (h : RT μ tm tmps) {b : Bool} (e : wantedE ops.toList tm o = some b) : Region.wanted o (yielded ops tmps) = b := by
  unfold wantedE at e
  unfold Region.wanted
  rcases oc_or e with ⟨q1, q2⟩ | ⟨g, q1, q2⟩
  · cases q2; simp [q1]
  · obtain ⟨j, want⟩ := g
    simp only [q1]
    unfold guardE at q2
    rcases oc_or q2 with ⟨p1, p2⟩ | ⟨p, p1, p2⟩
    · cases p2
      rw [nthO_eq] at p1
      have : ops[j]? = none := by simpa using p1
      simp [yielded, this]
    · rw [nthO_eq] at p1
      have p1 : ops[j]? = some p := by simpa using p1
      rcases oc_or p2 with ⟨r1, r2⟩ | ⟨d, r1, r2⟩
      · cases r2; simp [yielded, p1, r1]
      · obtain ⟨v, s1, s2⟩ := ob_some r2
        have hv := h d v s1
        have key : yielded ops tmps j = (match tmps.getD d undef with | .bool b => some b | _ => none) := by
          simp only [yielded, p1, Option.bind_some, r1]
          rw [Array.getD_eq_getD_getElem?]
          cases tmps[d]? with
          | none => rfl
          | some x => cases x <;> rfl
        rw [key]
        generalize tmps.getD d undef = x at hv
        rcases oc_or s2 with ⟨t1, t2⟩ | ⟨b0, t1, t2⟩
        · obtain ⟨n1, n2⟩ := cb_some t2
          cases n2
          cases hv <;> first | rfl | (cases n1; done) | (cases t1; done)
        · cases t2
          rw [asB_some t1] at hv
          rw [hv.bool_inv]
          show (some b0 == some want) = eqB b0 want
          rw [eqB_eq]; cases b0 <;> cases want <;> rfl
end
end Ev
end Go.Proofs.Ytdofhlmffponoaa
/- What a call answers; what was put off. -/
set_option linter.unusedVariables false
set_option linter.unusedSimpArgs false
namespace Go.Proofs.Ytdofhlmffponoaa
namespace Ev
/-- The mode of a frame that is on its way out. -/
def UP (μ : Mu) (rd : Bool) : Option AV → FrameMode → Prop
  | none, u => u = .returning
  | some v, u => ∃ x, RV μ v x ∧ u = .panicking [{ v := x, recovered := rd }]
theorem UP.mono {μ ν : Mu} (h : Mu.le μ ν) {rd : Bool} {p : Option AV} {u : FrameMode} (r : UP μ rd p u) : UP ν rd p u := by
  cases p with
  | none => exact r
  | some v => obtain ⟨x, h1, h2⟩ := r; exact ⟨x, h1.mono h, h2⟩
def KS (w0 : Fx) (μ0 : Mu) (rc : Option AV) (c0 : Frame) (cs0 : List Frame) (k : AEx → AS → R) (Q : Exit → Act → List Frame → World → Prop) : Prop :=
  ∀ e σ μ e' a u w, k e σ = .ok → Mu.le μ0 μ → SR w0 μ Fence.wide rc σ.rd σ a w → UP μ σ.rd rc u → REx μ e e' → Q e' a ({ c0 with mode := u } :: cs0) w
/-- What is said of a deferred body at so much fuel. -/
def DeepOk (T0 : Tab) (deep : Self) : Prop :=
  ∀ (c : Code) (σ : AS) (k : AEx → AS → R) (w0 : Fx) (μ : Mu) (rc : Option AV) (a : Act) (w : World) (c0 : Frame) (cs0 : List Frame) (u : FrameMode) (Q : Exit → Act → List Frame → World → Prop),
    deep c σ k = .ok → SR w0 μ Fence.wide rc σ.rd σ a w → UP μ σ.rd rc u → KS w0 μ rc c0 cs0 k Q → c.wpSIn Fence.wide 0 T0.P Q a ({ c0 with mode := u } :: cs0) w
section
variable {T0 : Tab} {w0 : Fx} {μ : Mu} {F : Fence} {rc : Option AV} {rd : Bool} {σ : AS} {a : Act} {w : World} {Q : Exit → Act → World → Prop} {k : AEx → AS → R}
def resF (tmps : Array Value) : ResultVar → Sem Value
  | .tmp t => pure (tmps.getD t undef)
  | .cell a t => do loadVar t (← asAddr (tmps.getD a undef))
theorem res1_sound (hT : TabOk T0) (hR : HR w0 μ σ.hp σ.nx w) {tmps : Array Value} (hA : RT μ σ.tm tmps) {r : ResultVar} {v : AV} (h : res1 T0 σ r = some v) :
    ∃ x, (resF tmps r).run T0.P w = .ok x w ∧ RV μ v x := by
  cases r with
  | tmp t => exact ⟨_, rfl, hA t v h⟩
  | cell b t =>
    obtain ⟨i, h1, h2⟩ := ob_some (x := T0.t t) h
    obtain ⟨u, h3, h4⟩ := ob_some h2
    obtain ⟨p, h5, h6⟩ := ob_some h4
    have hv := hA b u h3
    rw [asPt_some h5] at hv
    generalize hy : tmps.getD b undef = y at hv
    cases hv with | ptr e =>
    obtain ⟨x, h7, h8⟩ := loadE_sound hR (hT.ty t i h1) h6 e
    exact ⟨x, by simp only [resF, hy, asAddr, Sem.run_bind, Sem.run_pure, Result.andThen_ok]; exact h7, h8⟩
theorem resL_sound (hT : TabOk T0) (hR : HR w0 μ σ.hp σ.nx w) {tmps : Array Value} (hA : RT μ σ.tm tmps) : ∀ {rs : List ResultVar} {l : List AV}, resE T0 σ rs = some l →
    ∃ xs, (rs.mapM (resF tmps)).run T0.P w = .ok xs w ∧ RVs μ l xs
  | [], l, h => by cases h; exact ⟨[], rfl, .nil⟩
  | r :: rs, l, h => by
    obtain ⟨v, h1, h2⟩ := ob_some (x := res1 T0 σ r) h
    obtain ⟨q, h3, h4⟩ := ob_some (x := resE T0 σ rs) h2
    cases h4
    obtain ⟨x, g1, g2⟩ := res1_sound hT hR hA h1
    obtain ⟨xs, g3, g4⟩ := resL_sound hT hR hA h3
    refine ⟨x :: xs, ?_, .cons g2 g4⟩
    rw [List.mapM_cons]
    simp only [Sem.run_bind, g1, Result.andThen_ok, g3, Sem.run_pure]
theorem resE_sound (hT : TabOk T0) (hR : HR w0 μ σ.hp σ.nx w) {tmps : Array Value} (hA : RT μ σ.tm tmps) {fn : Func} {l : List AV} (h : resE T0 σ fn.results.toList = some l) :
    ∃ x, (results fn tmps).run T0.P w = .ok x w ∧ RV μ (oneL l) x := by
  obtain ⟨xs, g1, g2⟩ := resL_sound hT hR hA h
  refine ⟨if hx : xs.toArray.size = 1 then xs.toArray[0] else .tuple xs.toArray, ?_, ?_⟩
  · have e : results fn tmps = (do let vs ← fn.results.mapM (resF tmps); pure (if h : vs.size = 1 then vs[0] else .tuple vs)) := by
      unfold results
      congr 1
    rw [e, Array.mapM_eq_mapM_toList]
    simp only [map_eq_pure_bind, Sem.run_bind, g1, Result.andThen_ok, Sem.run_pure]
  · cases g2 with
    | nil => exact .tup .nil
    | cons a b =>
      cases b with
      | nil => exact a
      | cons c d => simp; exact .tup (.cons a (.cons c d))
theorem initTm_get : ∀ (l : List AV) (i : Nat) (t : T AV) (j : Nat), (initTm l i t).get (pOf j) = if i ≤ j ∧ j < i + l.length then l[j - i]? else t.get (pOf j)
  | [], i, t, j => by
    show t.get (pOf j) = _
    rw [if_neg (by simp only [List.length_nil]; omega)]
  | v :: l, i, t, j => by
    show (initTm l (Nat.succ i) (t.put (pOf i) (some v))).get (pOf j) = _
    rw [initTm_get l (Nat.succ i) _ j, T.put_get]
    by_cases a : i + 1 ≤ j ∧ j < i + 1 + l.length
    · rw [if_pos a, if_pos (by simp; omega), show j - i = (j - (i + 1)) + 1 by omega]; simp
    · rw [if_neg a]
      by_cases b : j = i
      · subst b; simp
      · rw [if_neg (fun e => b (pOf_inj e)), if_neg (by simp; omega)]
theorem enter_sr {w0 : Fx} {hp : T AO} {nx : Bn} {fn : FnI} {rc : Option AV} {args : List AV} {xs : List Value} (hR : HR w0 μ hp nx w) (hx : RVs μ args xs) (hn : Nat.ble (lenN args) fn.nt = true) {f : Func} (hf : f.ntmps = fn.nt) :
    SR w0 μ Fence.wide rc false (entE fn rc args hp nx) { tmps := (⟨xs⟩ : Array Value) ++ Array.replicate (f.ntmps - (⟨xs⟩ : Array Value).size) undef, defers := [] } w := by
  have hl : xs.length = args.length := hx.length
  have hn' : args.length ≤ fn.nt := by rw [← lenN_eq]; exact ble_true hn
  refine ⟨hR, fun t v e => ?_, ?_, .nil, rfl, rfl, rfl⟩
  · have e : (initTm args 0 .leaf).get (pOf t) = some v := e
    rw [initTm_get] at e
    split at e
    · rename_i q
      obtain ⟨x, h1, h2⟩ := hx.get e
      simp only [Array.getD_eq_getD_getElem?]
      rw [Array.getElem?_append_left (by simp; omega)]
      simp only [Nat.sub_zero] at h1
      simp only [List.getElem?_toArray, h1]
      exact h2
    · rw [T.get_leaf] at e; cases e
  · simp only [Array.size_append, Array.size_replicate, List.size_toArray, hf]
    show _ = fn.nt
    omega
/-- A mark's block is no longer looked at. -/
theorem HR.wipe {w' : World} {H : T AO} {nx : Bn} (h : HR w0 μ H nx w) {b : Bn} {o : AO} {l : Loc} (hb : H.get b = some o) (hl : μ b = some l)
    (e1 : w'.os = w.os) (e2 : w'.tape = w.tape) (e3 : w'.output = w.output) (hk : ∀ i, i ≠ l.blk → w'.heap[i]? = w.heap[i]?) : HR w0 μ (H.put b none) nx w' := by
  have old : ∀ {c : Bn} {y : AO}, (H.put b none).get c = some y → H.get c = some y ∧ c ≠ b := by
    intro c y g
    rw [T.put_get] at g
    split at g
    · cases g
    · rename_i q; exact ⟨g, q⟩
  refine ⟨h.ext.to e1 e2 e3 (fun i _ hs' => hk i (fun e => by rw [e, h.base b o l hb hl] at hs'; cases hs')), fun c o' l' g => h.base c o' l' (old g).1, fun c y g => ?_,
    fun c c' o o' l l' g g' => h.sep c c' o o' l l' (old g).1 (old g').1, h.new, h.res⟩
  obtain ⟨g1, g2⟩ := old g
  obtain ⟨m, m1, m2⟩ := h.live c y g1
  exact ⟨m, m1, m2.keep (.refl μ) (hk _ (fun e => h.sep c b y o m l g1 hb g2 m1 hl e))⟩
theorem run_callFunc (hT : TabOk T0) {f : Nat} {fi : FnI} (h : T0.fn.get (pOf f) = some fi) (xs : Array Value) : (callFunc f xs).run T0.P w = .ok (.enter f xs) w := by
  obtain ⟨g, t1, t2, t3, t4, t5⟩ := hT.fn f fi h
  have hb : ¬ g.body = none := by rw [t2]; simp
  have hn : ¬ g.name = "runtime.NumGoroutine" := fun e => by rw [e] at t5; cases t5
  unfold callFunc
  simp [program, Sem.run, bind, Sem.bind, t1, pure]
  rw [if_neg hn, if_neg hb]
theorem asDf_some {o : AO} {u : Unit} (h : asDf o = some u) : o = .dfr := by cases o <;> cases h; rfl
theorem dfMark_some {d : AD} {b : Bn} (h : dfMark d = some b) : d = .mark b := by cases d <;> cases h; rfl
theorem dfCall_some {d : AD} {q : Dc} (h : dfCall d = some q) : d = .call q.fn q.cap q.args := by cases d <;> cases h; rfl
theorem run_take {P : Program} {g : Nat} (h : w.heap[g]? = some (.deferred (some []))) : ∃ w', (Instr.takeDeferred g).run P w = .ok [] w' ∧ w'.os = w.os ∧ w'.tape = w.tape ∧ w'.output = w.output ∧ ∀ i, i ≠ g → w'.heap[i]? = w.heap[i]? :=
  ⟨{ w with heap := w.heap.setIfInBounds g (.deferred none) }, by simp [Instr.takeDeferred, getObj, setObj, Sem.run, bind, Sem.bind, h, pure], rfl, rfl, rfl, fun i hi => by simp [Array.getElem?_setIfInBounds, Ne.symm hi]⟩
/-- What was put off, then the answer. -/
theorem unwind_sound (hT : TabOk T0) {deep : Self} (hD : DeepOk T0 deep) {R : Ending → World → Prop} {k : Kc} {fn : Func} {tmps : Array Value} : ∀ (ds : List AD) (Ds : List Deferred) (p : Option AV) (u : FrameMode) (σ : AS) (μ : Mu) (w : World),
    unwindE deep T0 fn.results.toList k ds p σ = .ok → RDs μ ds Ds → HR w0 μ σ.hp σ.nx w → RT μ σ.tm tmps → UP μ false p u → CK w0 μ k R → LeavesInM Fence.wide 0 T0.P fn tmps R Ds u w := by
  intro ds
  induction ds with
  | nil =>
    intro Ds p u σ μ w h hd hR hA hu hk
    cases hd
    rcases oc_or (x := p) (r := Ev.R.ok) h with ⟨rfl, h1⟩ | ⟨v, rfl, h1⟩
    · cases hu
      rcases oc_or h1 with ⟨_, h2⟩ | ⟨l, h2, h3⟩
      · cases h2
      · obtain ⟨x, g1, g2⟩ := resE_sound hT hR hA h2
        exact ⟨x, g1, hk ⟨oneL l, false⟩ σ.hp σ.nx μ w x h3 (.refl μ) hR g2⟩
    · obtain ⟨x, g1, rfl⟩ := hu
      exact hk ⟨v, true⟩ σ.hp σ.nx μ w x h1 (.refl μ) hR g1
  | cons d ds ih =>
    intro Ds p u σ μ w h hd hR hA hu hk
    cases hd with | cons hd1 hd2 =>
    rename_i D m
    have hrun : u ≠ .run := by
      cases p with
      | none => cases hu; simp
      | some v => obtain ⟨x, _, rfl⟩ := hu; simp
    refine ⟨hrun, ?_⟩
    rcases oc_or (x := dfMark d) (r := Ev.R.ok) h with ⟨_, h1⟩ | ⟨b, h1, h2⟩
    · rcases oc_or h1 with ⟨_, h2⟩ | ⟨q, h2, h3⟩
      · cases h2
      rcases oc_or h3 with ⟨_, h4⟩ | ⟨f, h4, h5⟩
      · cases h4
      rcases oc_or h5 with ⟨_, h6⟩ | ⟨fi, h6, h7⟩
      · cases h6
      obtain ⟨h8, h9⟩ := cb'_ok h7
      rw [dfCall_some h2] at hd1
      obtain ⟨xs, ys, r1, r2, _, rfl⟩ := hd1
      have hfn := fnF_some h4
      obtain ⟨g, t1, t2, t3, t4, t5⟩ := hT.fn f fi h6
      refine .inr ⟨fun e => (by cases e), q.fn, ⟨ys⟩, f, ⟨xs ++ ys⟩, rfl, ?_, fun _ _ => trivial, ?_⟩
      · rw [hfn]
        have e : (⟨xs⟩ : Array Value) ++ (⟨ys⟩ : Array Value) = ⟨xs ++ ys⟩ := Array.ext' (by simp)
        show (callFunc f ((⟨xs⟩ : Array Value) ++ (⟨ys⟩ : Array Value))).run T0.P w = _
        rw [e]
        exact run_callFunc hT h6 _
      · refine callsDIn_of_wpSIn t1 t2 trivial (fun c₀ cs hc => ?_)
        have hSR := enter_sr (w := w) (rc := p) hR (r1.append r2) (by rw [appN_eq] at h8; exact h8) t3
        have e0 : c₀ = { c₀ with mode := u } := by subst hc; rfl
        rw [e0]
        rw [appN_eq] at h9
        refine hD fi.body _ _ w0 μ p _ w c₀ cs u _ h9 hSR hu (fun e σ' μ' e' a' u' w' g1 le g2 g3 g4 => ?_)
        obtain ⟨z1, z2⟩ := tb_ok (b := normE e) g1
        obtain ⟨z3, z4⟩ := oc_no z2
        obtain ⟨l, z5, z6⟩ := oc_ok z4
        have hdf : σ'.df = [] := by
          cases hx : σ'.df with
          | nil => rfl
          | cons y ys => rw [hx] at z3; cases z3
        have had : a'.defers = [] := by
          have := g2.df
          rw [hdf] at this
          generalize a'.defers = m at this
          cases this; rfl
        rw [← t4] at z5
        obtain ⟨x, y1, y2⟩ := resE_sound hT g2.hr g2.rt z5
        have hu' : UP μ' false (tb σ'.rd none p) (settle u') := by
          cases p with
          | none =>
            cases g3
            cases σ'.rd <;> exact rfl
          | some v =>
            obtain ⟨x', e1, rfl⟩ := g3
            cases σ'.rd with
            | false => exact ⟨x', e1, rfl⟩
            | true => exact rfl
        have hfin := ih m (tb σ'.rd none p) (settle u') (withM σ σ'.hp σ'.nx) μ' w' z6 (hd2.mono le) g2.hr (hA.mono le) hu' (fun en hp nx ν w'' x'' q1 q2 => hk en hp nx ν w'' x'' q1 (le.trans q2))
        cases g4 with
        | normal => exact ⟨had, u', rfl, x, y1, hfin⟩
        | ret => exact ⟨had, u', rfl, x, y1, hfin⟩
        | _ => cases z1
    · rcases oc_or h2 with ⟨_, h3⟩ | ⟨_, h3, h4⟩
      · cases h3
      obtain ⟨o, h5, h6⟩ := ob_some h3
      have ho := asDf_some h6
      subst ho
      rw [dfMark_some h1] at hd1
      obtain ⟨l, r1, rfl⟩ := hd1
      obtain ⟨l', r2, r3⟩ := hR.live b _ h5
      rw [r1] at r2; cases r2
      obtain ⟨w', t1, t2, t3, t4, t5⟩ := run_take (P := T0.P) r3
      exact .inl ⟨l.blk, w', rfl, t1, ih m p u (withM σ (σ.hp.put b none) σ.nx) μ w' h4 hd2 (hR.wipe h5 r1 t2 t3 t4 t5) hA hu hk⟩
end
end Ev
end Go.Proofs.Ytdofhlmffponoaa
/- Values that are held against one another: what is found the same is the same. -/
set_option linter.unusedVariables false
set_option linter.unusedSimpArgs false
namespace Go.Proofs.Ytdofhlmffponoaa
namespace Ev
theorem andB_true {a b : Bool} (h : andB a b = true) : a = true ∧ b = true := by
  cases a with
  | false => cases h
  | true => exact ⟨rfl, h⟩
theorem notB_true {a : Bool} (h : notB a = true) : a = false := by cases a <;> first | rfl | cases h
theorem allB_true {α : Type} {p : α → Bool} : ∀ {l : List α}, allB p l = true → ∀ x ∈ l, p x = true
  | [], _, x, hx => by cases hx
  | y :: l, h, x, hx => by
    obtain ⟨h1, h2⟩ := andB_true (a := p y) (b := allB p l) h
    cases hx with
    | head => exact h1
    | tail _ m => exact allB_true h2 x m
theorem isK_true {j : Nat} {y : AV} (h : isK j y = true) : nilK y = some (j, true) := by
  rcases oc_or (x := nilK y) h with ⟨_, q⟩ | ⟨p, h1, h2⟩
  · cases q
  · obtain ⟨h3, h4⟩ := andB_true h2
    rw [h1]
    obtain ⟨p1, p2⟩ := p
    have : p1 = j := Nat.eq_of_beq_eq_true h4
    simp only at h3 this
    rw [h3, this]
theorem oc_true {α : Type} {x : Option α} {f : α → Bool} (h : oc x false f = true) : ∃ a, x = some a ∧ f a = true := by
  rcases oc_or h with ⟨_, q⟩ | q
  · cases q
  · exact q
theorem sameV_true (x : AV) : ∀ y, sameV x y = true → x = y := by
  refine AV.rec (motive_1 := fun x => ∀ y, sameV x y = true → x = y) (motive_2 := fun l => ∀ m, sameV (.agg l) (.agg m) = true → l = m)
    ?_ ?_ ?_ ?_ ?_ ?_ ?_ ?_ ?_ ?_ ?_ ?_ ?_ ?_ ?_ ?_ ?_ ?_ ?_ ?_ ?_ x
  · intro b y h
    obtain ⟨c, h1, h2⟩ := oc_true (x := asB y) h
    rw [eqB_eq] at h2
    rw [asB_some h1]; congr 1; simpa using h2
  · intro k n y h
    obtain ⟨p, h1, h2⟩ := oc_true (x := asI y) h
    obtain ⟨h3, h4⟩ := andB_true h2
    rw [eqInt_eq] at h4
    rw [asI_some h1, kindEq_true h3]; congr 1; simpa using h4
  · intro l y h
    obtain ⟨p, h1, h2⟩ := oc_true (x := asS y) h
    rw [eqLN_eq] at h2
    rw [asS_some h1]; congr 1; simpa using h2
  · intro y h
    have := isK_true h
    cases y <;> cases this; rfl
  · intro b off y h
    obtain ⟨p, h1, h2⟩ := oc_true (x := asPt y) h
    obtain ⟨h3, h4⟩ := andB_true h2
    rw [asPt_some h1, eqBn_true h3, beq_true h4]
  · intro y h
    have := isK_true h
    cases y <;> cases this; rfl
  · intro b off len c y h
    obtain ⟨p, h1, h2⟩ := oc_true (x := asSk y) h
    obtain ⟨h3, h4⟩ := andB_true h2
    obtain ⟨h5, h6⟩ := andB_true h4
    obtain ⟨h7, h8⟩ := andB_true h6
    rw [asSk_some h1, eqBn_true h3, beq_true h5, beq_true h7, beq_true h8]
  · intro b off len c y h
    obtain ⟨p, h1, h2⟩ := oc_true (x := asSu y) h
    obtain ⟨h3, h4⟩ := andB_true h2
    obtain ⟨h5, h6⟩ := andB_true h4
    obtain ⟨h7, h8⟩ := andB_true h6
    rw [asSu_some h1, eqBn_true h3, beq_true h5, beq_true h7, beq_true h8]
  · intro y h
    have h : isSle y = true := h
    cases y <;> cases h; rfl
  · intro y h
    have := isK_true h
    cases y <;> cases this; rfl
  · intro b y h
    obtain ⟨m, h1, h2⟩ := oc_true (x := asMap y) h
    obtain ⟨c, h3, h4⟩ := oc_true (x := m) h2
    subst h3
    rw [asMap_some h1, eqBn_true h4]
  · intro fn a b iha ihb y h
    have h : oc (asFv y) false (fun q => andB (eqFn fn q.fn) (andB (sameV (.agg a) (.agg q.first)) (sameV (.agg b) (.agg q.cap)))) = true := h
    obtain ⟨q, h1, h2⟩ := oc_true (x := asFv y) h
    obtain ⟨h3, h4⟩ := andB_true h2
    obtain ⟨h5, h6⟩ := andB_true h4
    obtain ⟨m, h7, h8⟩ := oc_true (x := fnF fn) h3
    obtain ⟨n, h9, h10⟩ := oc_true (x := fnF q.fn) h8
    have e1 := fnF_some h7
    have e2 := fnF_some h9
    rw [asFv_some h1, iha q.first h5, ihb q.cap h6, e1, e2, beq_true h10]
  · intro b y h
    obtain ⟨c, h1, h2⟩ := oc_true (x := asYield y) h
    rw [asYield_some h1, eqBn_true h2]
  · intro y h
    have := isK_true h
    cases y <;> cases this; rfl
  · intro t v ih y h
    obtain ⟨q, h1, h2⟩ := oc_true (x := ifTV y) h
    obtain ⟨h3, h4⟩ := andB_true h2
    have e : y = .iface q.1 q.2 := by
      cases y <;> cases h1 <;> rfl
    rw [e, ih q.2 h4, beq_true h3]
  · intro y h
    have := isK_true h
    cases y <;> cases this; rfl
  · intro l ih y h
    obtain ⟨m, h1, h2⟩ := oc_true (x := asAgg y) h
    rw [asAgg_some h1]
    congr 1
    exact ih m h2
  · intro l ih y h
    obtain ⟨m, h1, h2⟩ := oc_true (x := asTup y) h
    rw [asTup_some h1]
    congr 1
    exact ih m h2
  · intro y h
    have h : isAny y = true := h
    cases y <;> cases h; rfl
  · intro m h
    cases m with
    | nil => rfl
    | cons u r => cases h
  · intro v l ihv ihl m h
    cases m with
    | nil => cases h
    | cons u r =>
      have h : andB (sameV v u) (sameV (.agg l) (.agg r)) = true := h
      obtain ⟨h1, h2⟩ := andB_true h
      rw [ihv u h1, ihl r h2]
end Ev
end Go.Proofs.Ytdofhlmffponoaa
