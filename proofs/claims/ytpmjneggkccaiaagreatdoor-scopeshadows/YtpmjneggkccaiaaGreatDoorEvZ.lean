/- The machine: what the evaluator says of code, of calls and of rounds is what the machine does. -/
import Derived.Test.YtpmjneggkccaiaaGreatDoorEvOp
import Derived.RangeFuncLeaves
import Derived.RecoverIn
import Derived.OrdersIn
set_option linter.unusedVariables false
set_option linter.unusedSimpArgs false
namespace Go.Proofs.YtpmjneggkccaiaaGreatDoor
namespace Ev
/-- What has been put off. -/
inductive RDs (μ : Mu) : List AD → List Deferred → Prop
  | nil : RDs μ [] []
  | cons {d : AD} {D : Deferred} {l : List AD} {m : List Deferred} : RD1 μ D d → RDs μ l m → RDs μ (d :: l) (D :: m)
theorem RD1.mono {μ ν : Mu} (h : Mu.le μ ν) {D : Deferred} {d : AD} (r : RD1 μ D d) : RD1 ν D d := by
  cases d with
  | mark b => obtain ⟨l, h1, h2⟩ := r; exact ⟨l, h _ _ h1, h2⟩
  | call fn cap args => obtain ⟨xs, ys, h1, h2, h3⟩ := r; exact ⟨xs, ys, h1.mono h, h2.mono h, h3⟩
theorem RDs.mono {μ ν : Mu} (h : Mu.le μ ν) : ∀ {l : List AD} {m : List Deferred}, RDs μ l m → RDs ν l m
  | _, _, .nil => .nil
  | _, _, .cons a b => .cons (a.mono h) (b.mono h)
/-- Whose frame it is: a function's, or a round's of a loop. -/
def Fen (μ : Mu) (F : Fence) : Option Bn → Prop
  | none => F = Fence.wide
  | some b => ∃ l, μ b = some l ∧ F = Fence.wide.inRound l.blk
inductive REx (μ : Mu) : AEx → Exit → Prop
  | normal : REx μ .normal .normal
  | exit {id : Nat} : REx μ (.exit id) (.exit id)
  | goto {l : Nat} : REx μ (.goto l) (.goto l)
  | ret : REx μ .ret .ret
  | panic {v : AV} {x : Value} : RV μ v x → REx μ (.panic v) (.panic [{ v := x, recovered := false }])
structure SR (w0 : Fx) (μ : Mu) (F : Fence) (rc : Option AV) (rd : Bool) (σ : AS) (a : Act) (w : World) : Prop where
  hr : HR w0 μ σ.hp σ.nx w
  rt : RT μ σ.tm a.tmps
  sz : a.tmps.size = σ.nt
  df : RDs μ σ.df a.defers
  fen : Fen μ F σ.ro
  rc : σ.rc = rc
  rd : σ.rd = rd
theorem Fen.mono {μ ν : Mu} (h : Mu.le μ ν) {F : Fence} {ro : Option Bn} (f : Fen μ F ro) : Fen ν F ro := by
  cases ro with
  | none => exact f
  | some b => obtain ⟨l, h1, h2⟩ := f; exact ⟨l, h _ _ h1, h2⟩
theorem Fen.fn {μ : Mu} {F : Fence} {ro : Option Bn} (f : Fen μ F ro) (x : FuncId) : F.fn x := by
  cases ro with
  | none => cases f; trivial
  | some b => obtain ⟨l, h1, rfl⟩ := f; trivial
theorem Fen.depth {μ : Mu} {F : Fence} {ro : Option Bn} (f : Fen μ F ro) : F.depth = none := by
  cases ro with
  | none => cases f; rfl
  | some b => obtain ⟨l, h1, rfl⟩ := f; rfl
theorem Fen.wide {μ : Mu} {F : Fence} {ro : Option Bn} (f : Fen μ F ro) : ∃ r, F = { Fence.wide with round := r } := by
  cases ro with
  | none => exact ⟨none, f⟩
  | some b => obtain ⟨l, h1, rfl⟩ := f; exact ⟨some l.blk, rfl⟩
theorem calls_wide {μ : Mu} {F : Fence} {ro : Option Bn} (f : Fen μ F ro) {n : Nat} {P : Program} {g : FuncId} {args : Array Value} {w : World} {R : Ending → World → Prop} (h : CallsIn Fence.wide n P g args w R) : CallsIn F n P g args w R := by
  obtain ⟨r, rfl⟩ := f.wide
  exact h
theorem round_wide {μ : Mu} {F : Fence} {ro : Option Bn} (f : Fen μ F ro) {n : Nat} {P : Program} {l : Nat} {g : FuncId} {tmps : Array Value} {x y : Code} {w : World} {R : Ending → World → Prop}
    (h : RoundIn Fence.wide n P l g tmps x y w R) : RoundIn F n P l g tmps x y w R := by
  obtain ⟨r, rfl⟩ := f.wide
  exact h
/-- What comes behind a piece of code. -/
def KOk (w0 : Fx) (F : Fence) (μ0 : Mu) (rc : Option AV) (rd : Bool) (k : AEx → AS → R) (Q : Exit → Act → World → Prop) : Prop :=
  ∀ e σ μ e' a w, k e σ = .ok → Mu.le μ0 μ → SR w0 μ F rc rd σ a w → REx μ e e' → Q e' a w
theorem KOk.mono {w0 : Fx} {F : Fence} {μ ν : Mu} {rc : Option AV} {rd : Bool} {k : AEx → AS → R} {Q : Exit → Act → World → Prop} (h : Mu.le μ ν) (hk : KOk w0 F μ rc rd k Q) : KOk w0 F ν rc rd k Q :=
  fun e σ ξ e' a w g le => hk e σ ξ e' a w g (h.trans le)
/-- What comes behind a call. -/
def CK (w0 : Fx) (μ0 : Mu) (k : Kc) (R : Ending → World → Prop) : Prop :=
  ∀ en hp nx μ w x, k en hp nx = .ok → Mu.le μ0 μ → HR w0 μ hp nx w → RV μ en.v x → R (tb en.pan (.panicked [{ v := x, recovered := false }]) (.returned x)) w
/-- What is said of code at so much fuel. -/
def SelfOk (T0 : Tab) (self : Self) : Prop :=
  ∀ (c : Code) (σ : AS) (k : AEx → AS → R) (w0 : Fx) (μ : Mu) (F : Fence) (rc : Option AV) (rd : Bool) (a : Act) (w : World) (Q : Exit → Act → World → Prop),
    self c σ k = .ok → SR w0 μ F rc rd σ a w → KOk w0 F μ rc rd k Q → c.wpIn F 0 T0.P Q a w
theorem ok_no {s : String} : (R.no s = R.ok) → False := fun h => by cases h
theorem tb_ok {b : Bool} {x : R} {s : String} (h : tb b x (.no s) = .ok) : b = true ∧ x = .ok := by
  rcases tb_or (b := b) (x := x) (y := .no s) (r := .ok) h with q | ⟨_, q⟩
  · exact q
  · cases q
theorem oc_ok {α : Type} {x : Option α} {s : String} {f : α → R} (h : oc x (.no s) f = .ok) : ∃ a, x = some a ∧ f a = .ok := by
  rcases oc_or h with ⟨_, q⟩ | q
  · cases q
  · exact q
theorem oc_no {α : Type} {x : Option α} {s : α → String} {d : R} (h : oc x d (fun a => .no (s a)) = .ok) : x = none ∧ d = .ok := by
  rcases oc_or h with q | ⟨_, _, q⟩
  · exact q
  · cases q
theorem cb'_ok {b : Bool} {x : R} (h : cb' b x = .ok) : b = true ∧ x = .ok := by
  rcases tb_or (b := b) (x := x) (y := .no "guard") (r := .ok) h with q | ⟨_, q⟩
  · exact q
  · cases q
section
variable {T0 : Tab} {w0 : Fx} {μ : Mu} {F : Fence} {rc : Option AV} {rd : Bool} {σ : AS} {a : Act} {w : World} {Q : Exit → Act → World → Prop} {k : AEx → AS → R}
theorem putE_tm (σ : AS) (dst : Option Tmp) (v : AV) (hp : T AO) (nx : Bn) : (putE σ dst v hp nx).tm = (match dst with | none => σ.tm | some d => σ.tm.put (pOf d) (tb (Nat.blt d σ.nt) (some v) none)) := by
  cases dst <;> rfl
/-- A value is put into its temporary. -/
theorem SR.put (h : SR w0 μ F rc rd σ a w) {ν : Mu} {w' : World} {hp : T AO} {nx : Bn} {v : AV} {x : Value} (le : Mu.le μ ν) (hr : HR w0 ν hp nx w') (r : RV ν v x) (dst : Option Tmp) :
    SR w0 ν F rc rd (putE σ dst v hp nx) (a.put dst x) w' := by
  refine ⟨hr, ?_, ?_, ?_, h.fen.mono le, h.rc, h.rd⟩
  · rw [putE_tm]
    cases dst with
    | none => exact h.rt.mono le
    | some d => exact (h.rt.mono le).put h.sz r
  · cases dst with
    | none => exact h.sz
    | some d => simp only [Act.put, Array.size_setIfInBounds]; exact h.sz
  · cases dst <;> exact h.df.mono le
theorem undef_rv (μ : Mu) : RV μ (.tup []) undef := .tup .nil
/-- Whether an operation is wanted. -/
theorem wantedE_sound {ops : Array Oper} {o : Oper} {tm : T AV} {tmps : Array Value} (h : RT μ tm tmps) {b : Bool} (e : wantedE ops.toList tm o = some b) : Region.wanted o (yielded ops tmps) = b := by
  unfold wantedE at e
  unfold Region.wanted
  rcases oc_or e with ⟨q1, q2⟩ | ⟨g, q1, q2⟩
  · cases q2; simp [q1]
  · obtain ⟨j, want⟩ := g
    simp only [q1]
    unfold guardE at q2
    rcases oc_or q2 with ⟨p1, p2⟩ | ⟨p, p1, p2⟩
    · cases p2
      rw [nthO_eq] at p1
      have : ops[j]? = none := by simpa using p1
      simp [yielded, this]
    · rw [nthO_eq] at p1
      have p1 : ops[j]? = some p := by simpa using p1
      rcases oc_or p2 with ⟨r1, r2⟩ | ⟨d, r1, r2⟩
      · cases r2; simp [yielded, p1, r1]
      · obtain ⟨v, s1, s2⟩ := ob_some r2
        have hv := h d v s1
        have key : yielded ops tmps j = (match tmps.getD d undef with | .bool b => some b | _ => none) := by
          simp only [yielded, p1, Option.bind_some, r1]
          rw [Array.getD_eq_getD_getElem?]
          cases tmps[d]? with
          | none => rfl
          | some x => cases x <;> rfl
        rw [key]
        generalize tmps.getD d undef = x at hv
        rcases oc_or s2 with ⟨t1, t2⟩ | ⟨b0, t1, t2⟩
        · obtain ⟨n1, n2⟩ := cb_some t2
          cases n2
          cases hv <;> first | rfl | (cases n1; done) | (cases t1; done)
        · cases t2
          rw [asB_some t1] at hv
          rw [hv.bool_inv]
          show (some b0 == some want) = eqB b0 want
          rw [eqB_eq]; cases b0 <;> cases want <;> rfl
end
end Ev
end Go.Proofs.YtpmjneggkccaiaaGreatDoor
