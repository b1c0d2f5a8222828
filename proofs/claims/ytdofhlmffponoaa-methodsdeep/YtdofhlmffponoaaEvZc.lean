/- Calls, rounds, regions. -/
import Derived.Test.YtdofhlmffponoaaEvA7
import Derived.Laws.Externs
import Derived.KernelRfl
set_option linter.unusedVariables false
set_option linter.unusedSimpArgs false
namespace Go.Proofs.Ytdofhlmffponoaa
namespace Ev
section
variable {T0 : Tab} {w0 : Fx} {μ : Mu} {F : Fence} {rc : Option AV} {rd : Bool} {σ : AS} {a : Act} {w : World} {Q : Exit → Act → World → Prop} {k : AEx → AS → R}
/-- A call of a function with a body. -/
theorem callB_sound (hT : TabOk T0) {self deep : Self} (hS : SelfOk T0 self) (hD : DeepOk T0 deep) {f : Nat} {fn : FnI} {args : List AV} {hp : T AO} {nx : Bn} {k : Kc} {xs : List Value} {R : Ending → World → Prop}
    (h : callB self deep T0 fn args hp nx k = .ok) (hf : T0.fn.get (pOf f) = some fn) (hR : HR w0 μ hp nx w) (hx : RVs μ args xs) (hk : CK w0 μ k R) : CallsIn Fence.wide 0 T0.P f ⟨xs⟩ w R := by
  obtain ⟨h1, h2⟩ := cb'_ok h
  obtain ⟨g, t1, t2, t3, t4, t5⟩ := hT.fn f fn hf
  refine callsIn_of_wp_marks t1 t2 trivial (hS fn.body _ _ w0 μ Fence.wide none false _ w _ h2 (enter_sr (rc := none) hR hx h1 t3) (fun e σ' μ' e' a' w' g1 le g2 g3 => ?_))
  rw [← t4] at g1
  obtain ⟨p, g4, g5⟩ := oc_ok g1
  have fin : ∀ u, UP μ' false p u → LeavesInM Fence.wide 0 T0.P g a'.tmps R a'.defers u w' := fun u hu =>
    unwind_sound hT hD σ'.df a'.defers p u σ' μ' w' g5 g2.df g2.hr g2.rt hu (fun en hp nx ν w'' x'' q1 q2 => hk en hp nx ν w'' x'' q1 (le.trans q2))
  cases g3 with
  | normal => cases g4; exact fin _ rfl
  | ret => cases g4; exact fin _ rfl
  | panic r => cases g4; exact fin _ ⟨_, r, rfl⟩
  | _ => cases g4
theorem tv_sound {v : AV} {x y : Value} (h : tv v = some x) (r : RV μ v y) : y = x := by
  unfold tv at h
  rcases oc_or h with ⟨_, h⟩ | ⟨p, h1, h2⟩
  · rcases oc_or h with ⟨_, h⟩ | ⟨l, h1, h2⟩
    · obtain ⟨b, h1, h2⟩ := ob_some h
      rw [asB_some h1] at r
      cases r; cases h2; rfl
    · rw [asS_some h1] at r
      cases h2
      cases r with | str e =>
      rename_i s
      congr 1
      apply bl_inj
      rw [e]
      have e2 : (s.data.toList.map (·.toNat)) = l := e
      rw [← e2]
      simp [bl]
  · rw [asI_some h1] at r
    cases r; cases h2; rfl
theorem tvs_sound : ∀ {l : List AV} {xs ys : List Value}, tvs l = some xs → RVs μ l ys → ys = xs
  | [], xs, ys, h, r => by cases r; cases h; rfl
  | v :: l, xs, ys, h, r => by
    cases r with | cons r1 r2 =>
    obtain ⟨x, h1, h2⟩ := ob_some (x := tv v) h
    obtain ⟨q, h3, h4⟩ := ob_some (x := tvs l) h2
    cases h4
    rw [tv_sound h1 r1, tvs_sound h3 r2]
theorem hasN_mem {f : Nat} : ∀ {l : List Nat}, hasN f l = true → f ∈ l
  | [], h => by cases h
  | a :: l, h => by
    rcases tb_or (b := Nat.beq a f) h with ⟨h1, _⟩ | ⟨_, h2⟩
    · rw [Nat.eq_of_beq_eq_true h1]; exact .head _
    · exact .tail _ (hasN_mem h2)
theorem HR.grow {hp : T AO} {nx : Bn} {w' : World} (h : HR w0 μ hp nx w) (e : w'.os = w.os ∧ w'.tape = w.tape ∧ w'.output = w.output ∧ w.heap.size ≤ w'.heap.size ∧ ∀ i, i < w.heap.size → w'.heap[i]? = w.heap[i]?) : HR w0 μ hp nx w' := by
  obtain ⟨e1, e2, e3, _, e5⟩ := e
  refine ⟨⟨e1.trans h.ext.os, e2.trans h.ext.tape, e3.trans h.ext.out, fun i o q => ?_⟩, h.base, fun b o q => ?_, h.sep, h.new, h.res⟩
  · have h1 := h.ext.kp i o q
    have h2 : i < w.heap.size := (Array.getElem?_eq_some_iff.1 h1).1
    rw [e5 i h2]; exact h1
  · obtain ⟨l, h1, h2⟩ := h.live b o q
    exact ⟨l, h1, h2.keep (.refl μ) (e5 _ h2.lt)⟩
theorem find_ne {g : Func} (h : g.name = "internal/abi.NoEscape") : Extern.find g = some Extern.AbiNoEscape.same := by
  have e1 : Extern.allGenericRows.lookup "internal/abi.NoEscape" = none := by kernel_rfl
  have e2 : Extern.allTypedRows.lookup "internal/abi.NoEscape" = none := by kernel_rfl
  have e3 : Extern.allRows.lookup "internal/abi.NoEscape" = some Extern.AbiNoEscape.same := by kernel_rfl
  simp [Extern.find, h, e1, e2, e3]
theorem ne_sound {P : Program} {f : Nat} {args : List AV} {v : AV} {xs : List Value} (h : neE P f args = some v) (hx : RVs μ args xs) : ∃ x, (callFunc f ⟨xs⟩).run P w = .ok (.value x) w ∧ RV μ v x := by
  obtain ⟨h1, h⟩ := cb_some h
  obtain ⟨h2, h⟩ := cb_some h
  rw [nthO_eq] at h
  have hl : args.length = 1 := by rw [← lenN_eq]; exact beq_true h2
  obtain ⟨x, e1, e2⟩ := hx.get h
  have hxs : xs = [x] := by
    have := hx.length
    match xs, this, e1 with
    | [y], _, e1 => simp at e1; rw [e1]
    | [], t, _ => rw [hl] at t; cases t
    | _ :: _ :: _, t, _ => rw [hl] at t; simp at t
  subst hxs
  refine ⟨x, ?_, e2⟩
  unfold isNE at h1
  split at h1
  · rename_i g hg
    simp only [Bool.and_eq_true, beq_iff_eq] at h1
    obtain ⟨h3, h4, h5⟩ := h1
    rw [run_callFunc_extern hg (by rw [h3]; rfl) h4 (by simpa using h5) (find_ne h3)]
    rfl
  · cases h1
/-- The blocks that are put down. -/
theorem putL_some {b : Bn} {o : AO} : ∀ {l : List Nb}, (putL l .leaf).get b = some o → ∃ p ∈ l, p.b = b ∧ p.o = o
  | [], h => by
    have h : (T.leaf : T AO).get b = some o := h
    rw [T.get_leaf] at h; cases h
  | p :: l, h => by
    have h : ((putL l .leaf).put p.b (some p.o)).get b = some o := h
    rw [T.put_get] at h
    split at h
    · rename_i e; cases h; exact ⟨p, .head _, e.symm, rfl⟩
    · obtain ⟨q, q1, q2⟩ := putL_some h
      exact ⟨q, .tail _ q1, q2⟩
theorem putL_get {b : Bn} {hp : T AO} : ∀ {l : List Nb}, (putL l hp).get b = (match (putL l .leaf).get b with | some o => some o | none => hp.get b)
  | [] => by
    show hp.get b = (match (T.leaf : T AO).get b with | some o => some o | none => hp.get b)
    rw [T.get_leaf]
  | p :: l => by
    show ((putL l hp).put p.b (some p.o)).get b = (match ((putL l .leaf).put p.b (some p.o)).get b with | some o => some o | none => hp.get b)
    rw [T.put_get, T.put_get]
    split
    · rfl
    · exact putL_get
theorem metE_some {f : Nat} {args : List AV} {nx : Bn} {m : Met} : ∀ {l : List Met}, metE f args nx l = some m → m ∈ l ∧ m.f = f ∧ m.nx = nx ∧ m.args = args
  | [], h => by cases h
  | a :: l, h => by
    rcases tb_or (b := Nat.beq a.f f) h with ⟨h1, h2⟩ | ⟨_, h2⟩
    · rcases tb_or (b := andB (eqBn a.nx nx) (sameV (.agg a.args) (.agg args))) h2 with ⟨h3, h4⟩ | ⟨_, h4⟩
      · cases h4
        obtain ⟨h5, h6⟩ := andB_true h3
        have e := sameV_true _ _ h6
        cases e
        exact ⟨.head _, beq_true h1, eqBn_true h5, rfl⟩
      · obtain ⟨g1, g2⟩ := metE_some h4
        exact ⟨.tail _ g1, g2⟩
    · obtain ⟨g1, g2⟩ := metE_some h2
      exact ⟨.tail _ g1, g2⟩
theorem hasL_mem {hp : T AO} : ∀ {l : List Nb}, hasL hp l = true → ∀ p ∈ l, hasNb hp p = true
  | [], _, p, hp => by cases hp
  | q :: l, h, p, hm => by
    obtain ⟨h1, h2⟩ := andB_true (a := hasNb hp q) (b := hasL hp l) h
    cases hm with
    | head => exact h1
    | tail _ m => exact hasL_mem h2 p m
theorem sameEs_true : ∀ {l m : List Me}, sameEs l m = true → l = m
  | [], [], _ => rfl
  | [], _ :: _, h => by cases h
  | _ :: _, [], h => by cases h
  | e :: l, d :: m, h => by
    have h : andB (sameV e.k d.k) (andB (sameV e.v d.v) (andB (Nat.beq e.born d.born) (sameEs l m))) = true := h
    obtain ⟨h1, h2⟩ := andB_true h
    obtain ⟨h3, h4⟩ := andB_true h2
    obtain ⟨h5, h6⟩ := andB_true h4
    obtain ⟨k, v, b⟩ := e
    obtain ⟨k', v', b'⟩ := d
    have e1 : k = k' := sameV_true _ _ h1
    have e2 : v = v' := sameV_true _ _ h3
    have e3 : b = b' := beq_true h5
    rw [e1, e2, e3, sameEs_true h6]
/-- What a block that is held against what it holds says. -/
theorem hasNb_ro {hp : T AO} {p : Nb} (h : hasNb hp p = true) : ∃ o, hp.get p.b = some o ∧ ∀ (ν : Mu) (k : Loc) (w : World), RO ν k w o → RO ν k w p.o := by
  cases p with
  | cells b pl es el =>
    obtain ⟨c, h1, h2⟩ := oc_true (x := cellsAt hp b) h
    obtain ⟨h3, h2⟩ := andB_true h2
    obtain ⟨h4, h2⟩ := andB_true h2
    obtain ⟨h5, h2⟩ := andB_true h2
    obtain ⟨l, h6, h7⟩ := oc_true (x := readN c.t 0 c.n) h2
    have e := sameV_true _ _ h7
    refine ⟨_, cellsAt_some h1, fun ν k w r => ?_⟩
    obtain ⟨a, r1, r2, r3, r4⟩ := r
    obtain ⟨t, n, es', el'⟩ := c
    have e3 : n = lenN pl := beq_true h3
    have e4 : es' = es := beq_true h4
    have e5 : el' = el := beq_true h5
    have e6 : pl = l := by injection e
    subst e4; subst e5; subst e6; subst e3
    obtain ⟨xs, g1, g2⟩ := readN_sound (b := k.base) r4 _ 0 pl h6 (by simp)
    refine ⟨a, r1, r2, r3, fun i v hi hv => ?_⟩
    rw [ofL_get _ _ (by rw [lenN_eq]; exact Nat.lt_succ_self _)] at hv
    obtain ⟨x, g3, g4⟩ := g1.get hv
    exact ⟨x, by simpa using g2 i x g3, g4⟩
  | map b es clock =>
    obtain ⟨c, h1, h2⟩ := oc_true (x := mapAt hp b) h
    obtain ⟨h3, h4⟩ := andB_true h2
    refine ⟨_, mapAt_some h1, fun ν k w r => ?_⟩
    obtain ⟨es', k'⟩ := c
    have e1 : clock = k' := beq_true h3
    have e2 : es = es' := sameEs_true h4
    subst e1; subst e2
    exact r
theorem HR.narrow {hp : T AO} {nx : Bn} (h : HR w0 μ hp nx w) {l : List Nb} (hl : hasL hp l = true) : HR w0 μ (putL l .leaf) nx w := by
  have up : ∀ {b o}, (putL l .leaf).get b = some o → ∃ o', hp.get b = some o' ∧ ∀ (ν : Mu) (k : Loc) (w : World), RO ν k w o' → RO ν k w o := fun {b o} g => by
    obtain ⟨p, hm, e1, e2⟩ := putL_some g
    subst e1; subst e2
    exact hasNb_ro (hasL_mem hl p hm)
  refine ⟨h.ext, fun b o k g m => ?_, fun b o g => ?_, fun b b' o o' k k' g g' ne m m' => ?_, h.new, h.res⟩
  · obtain ⟨y, g, _⟩ := up g; exact h.base b y k g m
  · obtain ⟨y, g, q⟩ := up g
    obtain ⟨k, m, r⟩ := h.live b y g
    exact ⟨k, m, q _ _ _ r⟩
  · obtain ⟨y, g, _⟩ := up g
    obtain ⟨y', g', _⟩ := up g'
    exact h.sep b b' y y' k k' g g' ne m m'
theorem offL_get {b : Bn} {o : AO} {hp : T AO} : ∀ {l : List Nb}, (offL l hp).get b = some o → hp.get b = some o ∧ ∀ p ∈ l, p.b ≠ b
  | [], h => ⟨h, fun p hp => by cases hp⟩
  | q :: l, h => by
    have h : ((offL l hp).put q.b none).get b = some o := h
    rw [T.put_get] at h
    split at h
    · cases h
    · rename_i ne
      obtain ⟨g1, g2⟩ := offL_get h
      refine ⟨g1, fun p hm => ?_⟩
      cases hm with
      | head => exact fun e => ne e.symm
      | tail _ m => exact g2 p m
/-- Every block of the world is to be left as it is, but for those that the call begins with. -/
def Pre (μ : Mu) (l : List Nb) (i : Nat) : Prop := ∃ p ∈ l, ∃ k, μ p.b = some k ∧ k.blk = i
open Classical in
noncomputable def bareF (w0 : Fx) (μ : Mu) (w : World) (l : List Nb) : Fx := ⟨w0.w, fun i => if Pre μ l i then none else w.heap[i]?, w0.rs⟩
theorem bare_some {w0 : Fx} {μ : Mu} {w : World} {l : List Nb} {i : Nat} {o : Obj} (h : (bareF w0 μ w l).k i = some o) : w.heap[i]? = some o ∧ ¬ Pre μ l i := by
  unfold bareF at h
  simp only at h
  split at h
  · cases h
  · rename_i q; exact ⟨h, q⟩
theorem bare_of {w0 : Fx} {μ : Mu} {w : World} {l : List Nb} {i : Nat} {o : Obj} (h : w.heap[i]? = some o) (q : ¬ Pre μ l i) : (bareF w0 μ w l).k i = some o := by
  unfold bareF
  simp only [if_neg q]
  exact h
theorem HR.bare {hp : T AO} {nx : Bn} (h : HR w0 μ hp nx w) {l : List Nb} (hl : hasL hp l = true) : HR (bareF w0 μ w l) μ (putL l .leaf) nx w := by
  have g := h.narrow hl
  refine ⟨⟨h.ext.os, h.ext.tape, h.ext.out, fun i o e => (bare_some e).1⟩, fun b o k e m => ?_, g.live, g.sep, h.new, h.res⟩
  obtain ⟨p, hm, e1, e2⟩ := putL_some e
  cases q : (bareF w0 μ w l).k k.blk with
  | none => rfl
  | some y => exact absurd ⟨p, hm, k, by rw [e1]; exact m, rfl⟩ (bare_some q).2
/-- What was known ahead of a call, and what the call left. -/
theorem HR.join {hp : T AO} {nx nz : Bn} {ν : Mu} {w' : World} {l pre : List Nb} (h : HR w0 μ hp nx w) (hl : hasL hp pre = true) (le : Mu.le μ ν) (h' : HR (bareF w0 μ w pre) ν (putL l .leaf) nz w') : HR w0 ν (putL l (offL pre hp)) nz w' := by
  have inHp : ∀ {i}, Pre μ pre i → ∃ b o k, hp.get b = some o ∧ μ b = some k ∧ k.blk = i ∧ ∃ p ∈ pre, p.b = b := fun {i} q => by
    obtain ⟨p, hm, k, e1, e2⟩ := q
    obtain ⟨o, g, _⟩ := hasNb_ro (hasL_mem hl p hm)
    exact ⟨p.b, o, k, g, e1, e2, p, hm, rfl⟩
  have fixed : ∀ {i o}, w0.k i = some o → ¬ Pre μ pre i := fun {i o} e q => by
    obtain ⟨b, y, k, g, m, rfl, _⟩ := inHp q
    have := h.base b y k g m
    rw [e] at this; cases this
  have kept : ∀ {i}, i < w.heap.size → ¬ Pre μ pre i → w'.heap[i]? = w.heap[i]? := fun {i} hi q => by
    have e : w.heap[i]? = some w.heap[i] := Array.getElem?_eq_getElem hi
    rw [e]; exact h'.ext.kp i _ (bare_of e q)
  have old : ∀ {b o}, (putL l (offL pre hp)).get b = some o → (putL l .leaf).get b = some o ∨ (hp.get b = some o ∧ ∀ p ∈ pre, p.b ≠ b) := fun {b o} g => by
    rw [putL_get] at g
    split at g
    · rename_i e; exact .inl (e.trans g)
    · exact .inr (offL_get g)
  have oldL : ∀ {b o k}, hp.get b = some o → ν b = some k → μ b = some k ∧ k.blk < w.heap.size := fun {b o k} g m => by
    obtain ⟨k', m', r⟩ := h.live b o g
    have := le _ _ m'
    rw [m] at this; cases this
    exact ⟨m', r.lt⟩
  have far : ∀ {b o k}, hp.get b = some o → (∀ p ∈ pre, p.b ≠ b) → μ b = some k → ¬ Pre μ pre k.blk := fun {b o k} g ne m q => by
    obtain ⟨b', o', k', g', m', e, p, hm, e'⟩ := inHp q
    exact h.sep b' b o' o k' k g' g (fun c => ne p hm (e'.trans c)) m' m e
  have newL : ∀ {b o k}, (putL l .leaf).get b = some o → ν b = some k → (bareF w0 μ w pre).k k.blk = none := fun {b o k} g m => h'.base b o k g m
  have apart : ∀ {b o k b' o' k'}, hp.get b = some o → (∀ p ∈ pre, p.b ≠ b) → ν b = some k → (putL l .leaf).get b' = some o' → ν b' = some k' → k.blk ≠ k'.blk := fun {b o k b' o' k'} g ne m g' m' e => by
    obtain ⟨m1, lt⟩ := oldL g m
    have q := newL g' m'
    rw [← e, bare_of (Array.getElem?_eq_getElem lt) (far g ne m1)] at q; cases q
  refine ⟨⟨h'.ext.os, h'.ext.tape, h'.ext.out, fun i o e => h'.ext.kp i o (bare_of (h.ext.kp i o e) (fixed e))⟩, fun b o k g m => ?_, fun b o g => ?_, fun b b' o o' k k' g g' ne m m' => ?_, h'.new, h'.res⟩
  · rcases old g with g | ⟨g, _⟩
    · cases e : w0.k k.blk with
      | none => rfl
      | some y => have := newL g m; rw [bare_of (h.ext.kp _ _ e) (fixed e)] at this; cases this
    · exact h.base b o k g (oldL g m).1
  · rcases old g with g | ⟨g, ne⟩
    · exact h'.live b o g
    · obtain ⟨k, m, r⟩ := h.live b o g
      exact ⟨k, le _ _ m, r.keep le (kept r.lt (far g ne m))⟩
  · rcases old g with g | ⟨g, n1⟩ <;> rcases old g' with g' | ⟨g', n2⟩
    · exact h'.sep b b' o o' k k' g g' ne m m'
    · exact fun e => apart g' n2 m' g m e.symm
    · exact apart g n1 m g' m'
    · exact h.sep b b' o o' k k' g g' ne (oldL g m).1 (oldL g' m').1
/-- A call. -/
theorem callE_sound (hT : TabOk T0) {self deep : Self} (hS : SelfOk T0 self) (hD : DeepOk T0 deep) {f : Nat} {args : List AV} {hp : T AO} {nx : Bn} {k : Kc} {xs : List Value} {R : Ending → World → Prop}
    (h : callE self deep T0 f args hp nx k = .ok) (hR : HR w0 μ hp nx w) (hx : RVs μ args xs) (hk : CK w0 μ k R) :
    (∃ x, (callFunc f ⟨xs⟩).run T0.P w = .ok (.value x) w ∧ R (.returned x) w) ∨ ((callFunc f ⟨xs⟩).run T0.P w = .ok (.enter f ⟨xs⟩) w ∧ CallsIn Fence.wide 0 T0.P f ⟨xs⟩ w R) := by
  rcases oc_or h with ⟨_, h1⟩ | ⟨fn, h1, h2⟩
  · obtain ⟨v, h2, h3⟩ := oc_ok h1
    rcases oc_or h2 with ⟨_, h2⟩ | ⟨v', g0, h2⟩
    case inr =>
      cases h2
      obtain ⟨x, q1, q2⟩ := ne_sound (w := w) g0 hx
      exact .inl ⟨x, q1, hk ⟨v, false⟩ hp nx μ w x h3 (.refl μ) hR q2⟩
    obtain ⟨l, g1, g2⟩ := ob_some h2
    obtain ⟨n, g3, g4⟩ := ob_some g2
    obtain ⟨x, g5, g6⟩ := ob_some g4
    have e := tvs_sound g1 hx
    subst e
    have hn : n = .value x := by cases n <;> cases g5; rfl
    subst hn
    exact .inl ⟨x, pureRun_run g3 w, hk ⟨v, false⟩ hp nx μ w x h3 (.refl μ) hR (cv_sound μ g6)⟩
  · rcases tb_or (b := tb (isNilL args) (hasN f T0.kn) false) h2 with ⟨h3, h4⟩ | ⟨_, h4⟩
    · obtain ⟨h5, h6⟩ : isNilL args = true ∧ hasN f T0.kn = true := by
        rcases tb_or (b := isNilL args) h3 with q | ⟨_, q⟩
        · exact q
        · cases q
      have ha : args = [] := by cases args <;> first | rfl | cases h5
      subst ha
      cases hx
      refine .inr ⟨run_callFunc hT h1 _, callsIn_wide.2 ((hT.kn f (hasN_mem h6) w).mono fun e w' q => ?_)⟩
      obtain ⟨rfl, q⟩ := q
      exact hk ⟨.bool true, false⟩ hp nx μ w' _ h4 (.refl μ) (hR.grow q) .bool
    · rcases oc_or h4 with ⟨_, h5⟩ | ⟨m, h5, h6⟩
      · exact .inr ⟨run_callFunc hT h1 _, callB_sound hT hS hD h5 h1 hR hx hk⟩
      · rcases tb_or (b := hasL hp m.pre) h6 with ⟨hl, h7⟩ | ⟨_, h7⟩
        · obtain ⟨g1, rfl, rfl, g4⟩ := metE_some h5
          cases g4
          refine .inr ⟨run_callFunc hT h1 _, callsIn_wide.2 ((hT.mt m g1 _ μ w xs (hR.bare hl) hx).mono fun e w' q => ?_)⟩
          obtain ⟨ν, x, le, hR', hv, rfl⟩ := q
          exact hk ⟨m.v, false⟩ (putL m.news (offL m.pre hp)) m.nz ν w' x h7 le (hR.join hl le hR') hv
        · exact .inr ⟨run_callFunc hT h1 _, callB_sound hT hS hD h7 h1 hR hx hk⟩
theorem run_getObj {P : Program} {g : Nat} {o : Loop} (h : w.heap[g]? = some (.loop o)) : (getObj g).run P w = .ok (.loop o) w := by
  simp [getObj, Sem.run, h]
theorem run_setObj {P : Program} {g : Nat} {o : Obj} {x : Loop} (h : w.heap[g]? = some (.loop x)) : (setObj g o).run P w = .ok () { w with heap := w.heap.setIfInBounds g o } := by
  simp [setObj, Sem.run, h]
theorem setPs_sound {nt : Nat} : ∀ {ps : List Nat} {vs : List AV} {t tm : T AV} {tmps : Array Value} {xs : List Value}, setPs nt ps vs t = some tm → RVs μ vs xs → RT μ t tmps → tmps.size = nt →
    ps.length = xs.length ∧ RT μ tm ((ps.zip xs).foldl (fun tmps (p : Nat × Value) => tmps.setIfInBounds p.1 p.2) tmps) ∧ ((ps.zip xs).foldl (fun tmps (p : Nat × Value) => tmps.setIfInBounds p.1 p.2) tmps).size = nt
  | [], vs, t, tm, tmps, xs, h, r, hA, hs => by
    cases r with
    | nil => cases h; exact ⟨rfl, hA, hs⟩
    | cons a b => cases h
  | p :: ps, vs, t, tm, tmps, xs, h, r, hA, hs => by
    cases r with
    | nil => cases h
    | cons a b =>
      obtain ⟨h1, h2, h3⟩ := setPs_sound (ps := ps) h b (hA.put (d := p) hs a) (by simpa using hs)
      exact ⟨by simp [h1], h2, h3⟩
theorem zip_foldl (ps : List Nat) (xs : List Value) (tmps : Array Value) : (ps.toArray.zip (⟨xs⟩ : Array Value)).foldl (fun tmps (t, a) => tmps.setIfInBounds t a) tmps = (ps.zip xs).foldl (fun tmps (p : Nat × Value) => tmps.setIfInBounds p.1 p.2) tmps := by
  rw [← Array.foldl_toList]
  simp
/-- The record of a loop, its state changed. -/
theorem loop_write {H : T AO} {nx : Bn} (hR : HR w0 μ H nx w) {b : Bn} {l : Lp} {c : Loc} (h : lpAt H b = some l) (hb : μ b = some c) :
    ∃ (tmps : Array Value) (d : Loc) (f : FuncId), μ l.dfb = some d ∧ tmps.size = l.nt ∧ RT μ l.tm tmps ∧ w.heap[c.blk]? = some (.loop { state := l.st, pending := l.pend, fn := f, tmps := tmps, params := l.ps.toArray, assign := l.assign, body := l.body, defers := d.blk }) ∧
      ∀ st pend, HR w0 μ (H.put b (some (l.o st pend))) nx { w with heap := w.heap.setIfInBounds c.blk (.loop { state := st, pending := pend, fn := f, tmps := tmps, params := l.ps.toArray, assign := l.assign, body := l.body, defers := d.blk }) } := by
  have h1 := lpAt_some h
  obtain ⟨c', m, r⟩ := hR.live b _ h1
  rw [hb] at m; cases m
  have r' := r
  obtain ⟨tmps, d, e1, e2, e3, f, e4, e5⟩ := r'
  refine ⟨tmps, d, f, e1, e2, e3, e4, fun st pend => hR.write h1 hb rfl rfl rfl (by simp) (fun i hi => by simp [Array.getElem?_setIfInBounds, Ne.symm hi]) ?_⟩
  have hlt := r.lt
  refine ⟨tmps, d, e1, e2, e3, f, ?_, e5⟩
  simp [Array.getElem?_setIfInBounds, hlt]
/-- A round: 'yield' is called. -/
theorem roundE_sound {self : Self} (hS : SelfOk T0 self) {b : Bn} {args : List AV} {hp : T AO} {nx : Bn} {k : Kc} {xs : List Value} {R : Ending → World → Prop} {l : Loc}
    (h : roundE self b args hp nx k = .ok) (hb : μ b = some l) (hR : HR w0 μ hp nx w) (hx : RVs μ args xs) (hk : CK w0 μ k R) :
    ∃ f tmps assign body, (Instr.yield l.blk ⟨xs⟩).run T0.P w = .ok (.round l.blk f tmps assign body) w ∧ RoundIn Fence.wide 0 T0.P l.blk f tmps assign body w R := by
  obtain ⟨lp, h1, h2⟩ := oc_ok h
  obtain ⟨tm, h3, h4⟩ := oc_ok h2
  obtain ⟨tmps, d, f, e1, e2, e3, e4, e5⟩ := loop_write hR h1 hb
  obtain ⟨q1, q2, q3⟩ := setPs_sound h3 hx e3 e2
  refine ⟨f, (lp.ps.zip xs).foldl (fun tmps (p : Nat × Value) => tmps.setIfInBounds p.1 p.2) tmps, lp.assign, lp.body, ?_, ?_⟩
  · have hsz : ¬ (⟨xs⟩ : Array Value).size ≠ lp.ps.toArray.size := by simp [q1]
    unfold Instr.yield Instr.getLoop
    simp only [Sem.run_bind, run_getObj e4, Result.andThen_ok, Sem.run_pure, if_neg hsz, zip_foldl]
  refine roundIn_of_wpIn trivial (hS lp.assign _ _ w0 μ (Fence.wide.inRound l.blk) none false _ w _ h4 ⟨hR, q2, q3, .nil, ⟨l, hb, rfl⟩, rfl, rfl⟩ (fun e σ' μ' e' a' w' g1 le g2 g3 => ?_))
  obtain ⟨g4, g5⟩ := tb_ok (b := isNormal e) g1
  have he : e' = .normal := by cases g3 <;> first | rfl | cases g4
  subst he
  obtain ⟨lp', g6, g7⟩ := oc_ok g5
  obtain ⟨g8, g9⟩ := tb_ok (b := isReady lp'.st) g7
  obtain ⟨tmps', d', f', u1, u2, u3, u4, u5⟩ := loop_write g2.hr g6 (le _ _ hb)
  have hst : lp'.st = .ready := by
    cases hq : lp'.st <;> rw [hq] at g8 <;> first | rfl | cases g8
  refine ⟨_, ?_, hS lp.body _ _ w0 μ' (Fence.wide.inRound l.blk) none false a' _ _ g9 ⟨u5 .busy lp'.pend, g2.rt, g2.sz, g2.df, g2.fen, g2.rc, g2.rd⟩ (fun e2 σ2 μ2 e2' a2 w2 y1 le2 y2 y3 => ?_)⟩
  · unfold Instr.beginRound Instr.getLoop
    simp only [Sem.run_bind, run_getObj u4, Result.andThen_ok, Sem.run_pure, run_setObj u4, hst]
  obtain ⟨j, y4, y5⟩ := oc_ok y1
  obtain ⟨y6, y7⟩ := oc_no y5
  obtain ⟨lp2, y8, y9⟩ := oc_ok y7
  obtain ⟨tmps2, d2, f2, v1, v2, v3, v4, v5⟩ := loop_write y2.hr y8 (le2 _ _ (le _ _ hb))
  have fin : ∀ (jp : Option Code) (st : LoopState) (on : Bool), j = ⟨jp, st, on⟩ → st = (if jp.isNone then .ready else .done) → on = jp.isNone →
      ∃ v w', (Instr.endRound l.blk jp).run T0.P w2 = .ok v w' ∧ R (.returned v) w' := by
    intro jp st on e1 e2 e3
    subst e1
    refine ⟨.bool jp.isNone, _, ?_, hk ⟨.bool on, false⟩ _ _ μ2 _ (.bool jp.isNone) y9 (le.trans le2) (v5 st jp) (by rw [e3]; exact .bool)⟩
    unfold Instr.endRound Instr.getLoop
    simp only [Sem.run_bind, run_getObj v4, Result.andThen_ok, Sem.run_pure, run_setObj v4, e2]
  cases y3 with
  | normal => cases y4; exact fin none .ready true rfl rfl rfl
  | ret => cases y4; exact fin (some .ret) .done false rfl rfl rfl
  | exit => cases y4; exact fin (some (.exit _)) .done false rfl rfl rfl
  | goto => cases y4; exact fin (some (.goto _)) .done false rfl rfl rfl
  | panic r => cases y4
end
end Ev
end Go.Proofs.Ytdofhlmffponoaa
