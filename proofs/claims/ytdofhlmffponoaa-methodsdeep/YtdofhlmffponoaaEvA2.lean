/- What the evaluator's memory says of the world's. -/
import Derived.Test.YtdofhlmffponoaaEvE
import Derived.Laws.World
import Derived.Extends
import Derived.Laws.Cells
import Derived.Laws.CopyRow
set_option linter.unusedVariables false
set_option linter.unusedSimpArgs false
namespace Go.Proofs.Ytdofhlmffponoaa
namespace Ev
/-- The entries of a map. -/
inductive RE (μ : Mu) : List Me → List MapEntry → Prop
  | nil : RE μ [] []
  | cons {q : Me} {e : MapEntry} {l : List Me} {m : List MapEntry} : RV μ q.k e.key → RV μ q.v e.val → q.born = e.born → RE μ l m → RE μ (q :: l) (e :: m)
def RM (μ : Mu) : Option Bn → Option Nat → Prop
  | none, x => x = none
  | some b, x => ∃ l, μ b = some l ∧ x = some l.blk
theorem RM.mono {μ ν : Mu} (h : Mu.le μ ν) {m : Option Bn} {x : Option Nat} (r : RM μ m x) : RM ν m x := by
  cases m with
  | none => exact r
  | some b => obtain ⟨l, h1, h2⟩ := r; exact ⟨l, h _ _ h1, h2⟩
def RO (μ : Mu) (l : Loc) (w : World) : AO → Prop
  | .cells t n es el => ∃ c : Array Value, w.heap[l.blk]? = some (.cells c el (0, 0)) ∧ l.base + n ≤ c.size ∧ (l.base + l.cap * es ≤ c.size ∧ (es = 0 ∧ l.base = 0 ∧ c.size = n ∨ n ≤ l.cap * es)) ∧
      ∀ i v, i < n → t.getN i = some v → ∃ x, c[l.base + i]? = some x ∧ RV μ v x
  | .map es clock => ∃ (E : List MapEntry), w.heap[l.blk]? = some (.map E.toArray clock) ∧ RE μ es E
  | .miter m since seen last => l.base = 0 ∧ ∃ x, RM μ m x ∧ w.heap[l.blk]? = some (.mapIter x since seen.reverse.toArray last)
  | .siter s pos => l.base = 0 ∧ ∃ s', bl s' = s ∧ w.heap[l.blk]? = some (.stringIter s' pos)
  | .loop st pend fn tm nt ps assign body dfb => ∃ (tmps : Array Value) (d : Loc), μ dfb = some d ∧ tmps.size = nt ∧ (∀ t v, tm.get (pOf t) = some v → RV μ v (tmps.getD t undef)) ∧
      ∃ f, w.heap[l.blk]? = some (.loop { state := st, pending := pend, fn := f, tmps := tmps, params := ps.toArray, assign := assign, body := body, defers := d.blk }) ∧ fn = 0
  | .dfr => w.heap[l.blk]? = some (.deferred (some []))
/-- What is around the evaluator's own memory: the world that it began in, and the blocks that it must leave as they are. -/
structure Fx where
  w : World
  k : Nat → Option Obj
  rs : Bn → Bool
structure Fx.On (F : Fx) (w : World) : Prop where
  os : w.os = F.w.os
  tape : w.tape = F.w.tape
  out : w.output = F.w.output
  kp : ∀ i o, F.k i = some o → w.heap[i]? = some o
theorem Fx.On.none {F : Fx} {w : World} (h : F.On w) {i : Nat} (hi : w.heap.size ≤ i) : F.k i = none := by
  cases e : F.k i with
  | none => rfl
  | some o =>
    have := h.kp i o e
    rw [Array.getElem?_eq_none hi] at this; cases this
theorem Fx.On.to {F : Fx} {w w' : World} (h : F.On w) (e1 : w'.os = w.os) (e2 : w'.tape = w.tape) (e3 : w'.output = w.output)
    (hk : ∀ i, i < w.heap.size → (F.k i).isSome = true → w'.heap[i]? = w.heap[i]?) : F.On w' :=
  ⟨e1.trans h.os, e2.trans h.tape, e3.trans h.out, fun i o e => by
    have q := h.kp i o e
    have hi : i < w.heap.size := by
      rcases Nat.lt_or_ge i w.heap.size with z | z
      · exact z
      · rw [Array.getElem?_eq_none z] at q; cases q
    rw [hk i hi (by rw [e]; rfl)]; exact q⟩
structure HR (w0 : Fx) (μ : Mu) (H : T AO) (nx : Bn) (w : World) : Prop where
  ext : w0.On w
  base : ∀ b o l, H.get b = some o → μ b = some l → w0.k l.blk = none
  live : ∀ b o, H.get b = some o → ∃ l, μ b = some l ∧ RO μ l w o
  sep : ∀ b b' o o' l l', H.get b = some o → H.get b' = some o' → b ≠ b' → μ b = some l → μ b' = some l' → l.blk ≠ l'.blk
  new : ∀ b, nx.toN ≤ b.toN → μ b = none
  res : ∀ b, w0.rs b = true → μ b = none ∧ b.toN < nx.toN
theorem RE.mono {μ ν : Mu} (h : Mu.le μ ν) : ∀ {l : List Me} {m : List MapEntry}, RE μ l m → RE ν l m
  | _, _, .nil => .nil
  | _, _, .cons a b c d => .cons (a.mono h) (b.mono h) c (d.mono h)
/-- A block that keeps its content says what it said. -/
theorem RO.keep {μ ν : Mu} {l : Loc} {w w' : World} {o : AO} (h : Mu.le μ ν) (hk : w'.heap[l.blk]? = w.heap[l.blk]?) (r : RO μ l w o) : RO ν l w' o := by
  cases o with
  | cells t n es el =>
    obtain ⟨c, h1, h2, h3, h4⟩ := r
    exact ⟨c, hk.trans h1, h2, h3, fun i v hi hv => let ⟨x, e, q⟩ := h4 i v hi hv; ⟨x, e, q.mono h⟩⟩
  | map es clock =>
    obtain ⟨E, h1, h2⟩ := r
    exact ⟨E, hk.trans h1, h2.mono h⟩
  | miter m since seen last =>
    obtain ⟨hb, x, h1, h2⟩ := r
    exact ⟨hb, x, h1.mono h, hk.trans h2⟩
  | siter s pos =>
    obtain ⟨hb, s', h1, h2⟩ := r
    exact ⟨hb, s', h1, hk.trans h2⟩
  | loop st pend fn tm nt ps assign body dfb =>
    obtain ⟨tmps, d, h1, h2, h3, f, h4, h5⟩ := r
    exact ⟨tmps, d, h _ _ h1, h2, fun t v e => (h3 t v e).mono h, f, hk.trans h4, h5⟩
  | dfr => exact hk.trans r
theorem RO.lt {μ : Mu} {l : Loc} {w : World} {o : AO} (r : RO μ l w o) : l.blk < w.heap.size := by
  have key : ∀ x : Obj, w.heap[l.blk]? = some x → l.blk < w.heap.size := fun x h => by
    rcases Nat.lt_or_ge l.blk w.heap.size with q | q
    · exact q
    · simp [Array.getElem?_eq_none q] at h
  cases o with
  | cells t n es el => obtain ⟨c, h1, _⟩ := r; exact key _ h1
  | map es clock => obtain ⟨E, h1, _⟩ := r; exact key _ h1
  | miter m since seen last => obtain ⟨_, x, _, h2⟩ := r; exact key _ h2
  | siter s pos => obtain ⟨_, s', _, h2⟩ := r; exact key _ h2
  | loop st pend fn tm nt ps assign body dfb => obtain ⟨tmps, d, _, _, _, f, h4, _⟩ := r; exact key _ h4
  | dfr => exact key _ r
def Mu.put (μ : Mu) (b : Bn) (l : Loc) : Mu := fun c => if c = b then some l else μ c
theorem Mu.le_put {μ : Mu} {b : Bn} {l : Loc} (h : μ b = none) : Mu.le μ (μ.put b l) := fun c m e => by
  unfold Mu.put
  split
  · rename_i q; subst q; rw [h] at e; cases e
  · exact e
theorem Mu.put_same (μ : Mu) (b : Bn) (l : Loc) : μ.put b l b = some l := by simp [Mu.put]
/-- A world whose memory is the same. -/
theorem HR.same {w0 : Fx} {μ : Mu} {H : T AO} {nx : Bn} {w w' : World} (h : HR w0 μ H nx w) (e : w'.heap = w.heap) (e1 : w'.os = w.os) (e2 : w'.tape = w.tape) (e3 : w'.output = w.output) : HR w0 μ H nx w' :=
  ⟨h.ext.to e1 e2 e3 (fun i _ _ => by rw [e]), h.base, fun b o g => let ⟨l, m, r⟩ := h.live b o g; ⟨l, m, r.keep (.refl μ) (by rw [e])⟩, h.sep, h.new, h.res⟩
/-- A block is made. -/
theorem HR.alloc {w0 : Fx} {μ : Mu} {H : T AO} {nx : Bn} {w : World} (h : HR w0 μ H nx w) (o : Obj) (a : AO) (cap : Nat)
    (r : RO (μ.put nx ⟨w.heap.size, 0, cap⟩) ⟨w.heap.size, 0, cap⟩ { w with heap := w.heap.push o } a) :
    HR w0 (μ.put nx ⟨w.heap.size, 0, cap⟩) (H.put nx (some a)) nx.succ { w with heap := w.heap.push o } := by
  have hn : μ nx = none := h.new nx (Nat.le_refl _)
  have hHn : H.get nx = none := by
    cases e : H.get nx with
    | none => rfl
    | some o => obtain ⟨l, m, _⟩ := h.live nx o e; rw [hn] at m; cases m
  have keep : ∀ l : Loc, l.blk < w.heap.size → ({ w with heap := w.heap.push o } : World).heap[l.blk]? = w.heap[l.blk]? := fun l hl => by
    simp [Array.getElem?_push, Nat.ne_of_lt hl]
  refine ⟨h.ext.to rfl rfl rfl (fun i hi _ => keep ⟨i, 0, 0⟩ hi), fun b x l g e => ?_, fun b x g => ?_, fun b b' x x' l l' g g' hne m m' => ?_, fun b hb => ?_, fun b hb => ?_⟩
  · simp only [Mu.put] at e
    rw [T.put_get] at g
    split at e
    · cases e; exact h.ext.none (Nat.le_refl _)
    · rename_i q
      rw [if_neg q] at g
      exact h.base b x l g e
  · rw [T.put_get] at g
    split at g
    · rename_i e; subst e; cases g
      exact ⟨_, Mu.put_same _ _ _, r⟩
    · obtain ⟨l, m, q⟩ := h.live b x g
      exact ⟨l, Mu.le_put hn _ _ m, q.keep (Mu.le_put hn) (keep l q.lt)⟩
  · have old : ∀ {c : Bn} {y : AO} {k : Loc}, c ≠ nx → (H.put nx (some a)).get c = some y → μ.put nx ⟨w.heap.size, 0, cap⟩ c = some k → H.get c = some y ∧ μ c = some k ∧ k.blk < w.heap.size := by
      intro c y k hc hg hm
      rw [T.put_get, if_neg hc] at hg
      simp only [Mu.put, if_neg hc] at hm
      obtain ⟨k', m', q⟩ := h.live c y hg
      rw [hm] at m'; cases m'
      exact ⟨hg, hm, q.lt⟩
    by_cases e1 : b = nx
    · subst e1
      by_cases e2 : b' = b
      · exact absurd e2.symm hne
      · obtain ⟨_, _, q⟩ := old e2 g' m'
        rw [Mu.put_same] at m; cases m
        exact fun e => absurd q (by simp only at e; omega)
    · obtain ⟨g1, m1, q1⟩ := old e1 g m
      by_cases e2 : b' = nx
      · subst e2
        rw [Mu.put_same] at m'; cases m'
        exact fun e => absurd q1 (by simp only at e; omega)
      · obtain ⟨g2, m2, _⟩ := old e2 g' m'
        exact h.sep b b' x x' l l' g1 g2 hne m1 m2
  · have : b ≠ nx := fun e => by subst e; rw [Bn.toN_succ] at hb; omega
    simp only [Mu.put, if_neg this]
    exact h.new b (by rw [Bn.toN_succ] at hb; omega)
  · obtain ⟨h1, h2⟩ := h.res b hb
    have : b ≠ nx := fun e => by subst e; omega
    simp only [Mu.put, if_neg this]
    exact ⟨h1, by rw [Bn.toN_succ]; omega⟩
/-- A block is written: its own content alone changes. -/
theorem HR.write {w0 : Fx} {μ : Mu} {H : T AO} {nx : Bn} {w w' : World} (h : HR w0 μ H nx w) {b : Bn} {o a : AO} {l : Loc} (hb : H.get b = some o) (hl : μ b = some l)
    (e1 : w'.os = w.os) (e2 : w'.tape = w.tape) (e3 : w'.output = w.output) (hs : w'.heap.size = w.heap.size)
    (hk : ∀ i, i ≠ l.blk → w'.heap[i]? = w.heap[i]?) (r : RO μ l w' a) : HR w0 μ (H.put b (some a)) nx w' := by
  refine ⟨h.ext.to e1 e2 e3 (fun i _ hs' => hk i (fun e => by rw [e, h.base b o l hb hl] at hs'; cases hs')), fun c x k g m => ?_, fun c x g => ?_, fun c c' x x' k k' g g' hne m m' => ?_, h.new, h.res⟩
  · rw [T.put_get] at g
    split at g
    · rename_i e; subst e
      rw [hl] at m; cases m; exact h.base _ o _ hb hl
    · exact h.base c x k g m
  · rw [T.put_get] at g
    split at g
    · rename_i e; subst e; cases g; exact ⟨l, hl, r⟩
    · rename_i e
      obtain ⟨k, m, q⟩ := h.live c x g
      exact ⟨k, m, q.keep (.refl μ) (hk _ (fun e' => h.sep c b x o k l g hb e m hl e'))⟩
  · have old : ∀ {c : Bn} {y : AO}, (H.put b (some a)).get c = some y → ∃ z, H.get c = some z := by
      intro c y g
      rw [T.put_get] at g
      split at g
      · rename_i e; subst e; exact ⟨o, hb⟩
      · exact ⟨y, g⟩
    obtain ⟨z, hz⟩ := old g
    obtain ⟨z', hz'⟩ := old g'
    exact h.sep c c' z z' k k' hz hz' hne m m'
end Ev
end Go.Proofs.Ytdofhlmffponoaa
/- The evaluator's choices, as plain facts; operands. -/
set_option linter.unusedVariables false
set_option linter.unusedSimpArgs false
namespace Go.Proofs.Ytdofhlmffponoaa
namespace Ev
theorem ob_some {α β : Type} {x : Option α} {f : α → Option β} {b : β} (h : ob x f = some b) : ∃ a, x = some a ∧ f a = some b := by
  cases x with
  | none => cases h
  | some a => exact ⟨a, rfl, h⟩
theorem cb_some {β : Type} {b : Bool} {x : Option β} {y : β} (h : cb b x = some y) : b = true ∧ x = some y := by
  cases b with
  | false => cases h
  | true => exact ⟨rfl, h⟩
theorem oc_none {α β : Type} (d : β) (f : α → β) : oc none d f = d := rfl
theorem oc_some {α β : Type} (a : α) (d : β) (f : α → β) : oc (some a) d f = f a := rfl
theorem tb_true {β : Type} (x y : β) : tb true x y = x := rfl
theorem tb_false {β : Type} (x y : β) : tb false x y = y := rfl
/-- Which of the two it is. -/
theorem oc_or {α β : Type} {x : Option α} {d : β} {f : α → β} {r : β} (h : oc x d f = r) : (x = none ∧ d = r) ∨ ∃ a, x = some a ∧ f a = r := by
  cases x with
  | none => exact .inl ⟨rfl, h⟩
  | some a => exact .inr ⟨a, rfl, h⟩
theorem tb_or {β : Type} {b : Bool} {x y : β} {r : β} (h : tb b x y = r) : (b = true ∧ x = r) ∨ (b = false ∧ y = r) := by
  cases b with
  | false => exact .inr ⟨rfl, h⟩
  | true => exact .inl ⟨rfl, h⟩
theorem asI_some {v : AV} {p : IntKind × Int} (h : asI v = some p) : v = .int p.1 p.2 := by cases v <;> cases h <;> rfl
theorem asS_some {v : AV} {l : List Nat} (h : asS v = some l) : v = .str l := by cases v <;> cases h <;> rfl
theorem asB_some {v : AV} {b : Bool} (h : asB v = some b) : v = .bool b := by cases v <;> cases h <;> rfl
theorem asAgg_some {v : AV} {l : List AV} (h : asAgg v = some l) : v = .agg l := by cases v <;> cases h <;> rfl
theorem asTup_some {v : AV} {l : List AV} (h : asTup v = some l) : v = .tup l := by cases v <;> cases h <;> rfl
theorem asPt_some {v : AV} {p : Pt} (h : asPt v = some p) : v = .ptr p.b p.off := by cases v <;> cases h <;> rfl
theorem asSk_some {v : AV} {p : Sk} (h : asSk v = some p) : v = .slk p.b p.off p.len p.c := by cases v <;> cases h <;> rfl
theorem asSu_some {v : AV} {p : Sk} (h : asSu v = some p) : v = .slu p.b p.off p.len p.c := by cases v <;> cases h <;> rfl
theorem asSl_some {v : AV} {p : Sl} (h : asSl v = some p) : (∃ c, v = .slk p.b p.off p.len c) ∨ ∃ c, v = .slu p.b p.off p.len c := by
  cases v <;> cases h
  · exact .inl ⟨_, rfl⟩
  · exact .inr ⟨_, rfl⟩
theorem asFv_some {v : AV} {p : Fv} (h : asFv v = some p) : v = .func p.fn p.first p.cap := by cases v <;> cases h <;> rfl
theorem asYield_some {v : AV} {b : Bn} (h : asYield v = some b) : v = .yield b := by cases v <;> cases h <;> rfl
theorem asMap_some {v : AV} {m : Option Bn} (h : asMap v = some m) : v = (match m with | none => .map0 | some b => .map b) := by cases v <;> cases h <;> rfl
theorem isSl0_true {v : AV} (h : isSl0 v = true) : v = .sl0 := by cases v <;> cases h <;> rfl
theorem isIface_true {v : AV} (h : isIface v = true) : ∃ t x, v = .iface t x := by cases v <;> cases h; exact ⟨_, _, rfl⟩
theorem fnF_some {f : Fn} {n : Nat} (h : fnF f = some n) : f = .func n := by cases f <;> cases h <;> rfl
theorem natI_some {n : Int} {m : Nat} (h : natI n = some m) : n = .ofNat m := by cases n <;> cases h <;> rfl
theorem intOf_some {v : AV} {n : Nat} (h : intOf v = some n) : ∃ k, v = .int k (.ofNat n) := by
  cases v with
  | int k i => exact ⟨k, by rw [natI_some h]⟩
  | _ => cases h
theorem isI64_true {k : IntKind} (h : isI64 k = true) : k = .i64 := by cases k <;> cases h <;> rfl
theorem kindEq_true {j k : IntKind} (h : kindEq j k = true) : j = k := by
  cases j <;> cases k <;> first | rfl | (exact absurd h (by decide))
theorem asCe_some {o : AO} {c : Ce} (h : asCe o = some c) : o = .cells c.t c.n c.es c.el := by cases o <;> cases h <;> rfl
theorem asMp_some {o : AO} {c : Mp} (h : asMp o = some c) : o = .map c.es c.clock := by cases o <;> cases h <;> rfl
theorem asMi_some {o : AO} {c : Mi} (h : asMi o = some c) : o = .miter c.m c.since c.seen c.last := by cases o <;> cases h <;> rfl
theorem asLp_some {o : AO} {c : Lp} (h : asLp o = some c) : o = c.o c.st c.pend := by cases o <;> cases h <;> rfl
theorem asSi_some {o : AO} {c : List Nat × Nat} (h : asSi o = some c) : o = .siter c.1 c.2 := by cases o <;> cases h <;> rfl
theorem cellsAt_some {H : T AO} {b : Bn} {c : Ce} (h : cellsAt H b = some c) : H.get b = some (.cells c.t c.n c.es c.el) := by
  obtain ⟨o, h1, h2⟩ := ob_some h
  rw [h1, asCe_some h2]
theorem mapAt_some {H : T AO} {b : Bn} {c : Mp} (h : mapAt H b = some c) : H.get b = some (.map c.es c.clock) := by
  obtain ⟨o, h1, h2⟩ := ob_some h
  rw [h1, asMp_some h2]
theorem lpAt_some {H : T AO} {b : Bn} {c : Lp} (h : lpAt H b = some c) : H.get b = some (c.o c.st c.pend) := by
  obtain ⟨o, h1, h2⟩ := ob_some h
  rw [h1, asLp_some h2]
theorem lenN_eq {α : Type} : ∀ l : List α, lenN l = l.length
  | [] => rfl
  | _ :: l => congrArg Nat.succ (lenN_eq l)
theorem nthO_eq {α : Type} : ∀ (l : List α) (n : Nat), nthO l n = l[n]?
  | [], n => by cases n <;> rfl
  | _ :: _, 0 => rfl
  | _ :: l, n + 1 => by
    show nthO l n = _
    rw [nthO_eq l n]; simp
theorem takeN_eq {α : Type} : ∀ (l : List α) (n : Nat), takeN l n = l.take n
  | [], n => by cases n <;> rfl
  | _ :: _, 0 => rfl
  | x :: l, n + 1 => by
    show x :: takeN l n = _
    rw [takeN_eq l n]; rfl
theorem dropN_eq {α : Type} : ∀ (n : Nat) (l : List α), dropN l n = l.drop n
  | 0, _ => rfl
  | n + 1, [] => by show ([] : List α) = _; simp
  | n + 1, _ :: l => by
    show dropN l n = _
    rw [dropN_eq n l]; rfl
theorem appN_eq {α : Type} : ∀ a b : List α, appN a b = a ++ b
  | [], _ => rfl
  | x :: a, b => by
    show x :: appN a b = _
    rw [appN_eq a b]; rfl
theorem headL_eq {α : Type} (l : List α) : headL l = l.head? := by cases l <;> rfl
theorem notB_eq (b : Bool) : notB b = !b := by cases b <;> rfl
theorem eqB_eq (a b : Bool) : eqB a b = (a == b) := by cases a <;> cases b <;> rfl
theorem eqLN_eq : ∀ a b : List Nat, eqLN a b = decide (a = b)
  | [], [] => rfl
  | [], _ :: _ => rfl
  | _ :: _, [] => rfl
  | x :: a, y :: b => by
    show tb (Nat.beq x y) (eqLN a b) false = _
    rw [eqLN_eq a b]
    cases h : Nat.beq x y with
    | true =>
      have := Nat.eq_of_beq_eq_true h
      simp [tb_true, this]
    | false =>
      have := Nat.ne_of_beq_eq_false h
      simp [tb_false, this]
theorem eqInt_eq (a b : Int) : eqInt a b = (a == b) := by
  cases a with
  | ofNat m => cases b with
    | ofNat n =>
      show Nat.beq m n = _
      cases h : Nat.beq m n with
      | true => rw [Nat.eq_of_beq_eq_true h]; simp
      | false => have := Nat.ne_of_beq_eq_false h; symm; simp; omega
    | negSucc n => rfl
  | negSucc m => cases b with
    | ofNat n => rfl
    | negSucc n =>
      show Nat.beq m n = _
      cases h : Nat.beq m n with
      | true => rw [Nat.eq_of_beq_eq_true h]; simp
      | false => have := Nat.ne_of_beq_eq_false h; symm; simp; omega
theorem blt_eq (m n : Nat) : Nat.blt m n = decide (m < n) := by
  cases h : Nat.blt m n with
  | true => have := Nat.le_of_ble_eq_true h; simp; omega
  | false =>
    have : ¬ Nat.succ m ≤ n := fun q => by rw [Nat.blt, Nat.ble_eq_true_of_le q] at h; cases h
    simp; omega
theorem ltInt_eq (a b : Int) : ltInt a b = decide (a < b) := by
  cases a with
  | ofNat m => cases b with
    | ofNat n => show Nat.blt m n = _; rw [blt_eq]; simp
    | negSucc n => show false = _; symm; simp; omega
  | negSucc m => cases b with
    | ofNat n => show true = _; symm; simp; omega
    | negSucc n => show Nat.blt n m = _; rw [blt_eq]; by_cases q : n < m <;> simp <;> omega
theorem ble_true {m n : Nat} (h : Nat.ble m n = true) : m ≤ n := Nat.le_of_ble_eq_true h
theorem beq_true {m n : Nat} (h : Nat.beq m n = true) : m = n := Nat.eq_of_beq_eq_true h
theorem cells_cv (v : AV) : v.cells = (match v with | .agg l => l | v => [v]) := by cases v <;> rfl
theorem cv1_sound (μ : Mu) {v : Value} {a : AV} (h : cv1 v = some a) : RV μ a v := by
  unfold cv1 at h
  split at h <;> first | (cases h; exact .str rfl) | (cases h; constructor) | cases h
theorem cvs_sound (μ : Mu) : ∀ {l : List Value} {a : List AV}, cvs l = some a → RVs μ a l
  | [], _, h => by cases h; exact .nil
  | v :: l, a, h => by
    obtain ⟨x, h1, h2⟩ := ob_some (x := cv1 v) h
    obtain ⟨y, h3, h4⟩ := ob_some (x := cvs l) h2
    cases h4
    exact .cons (cv1_sound μ h1) (cvs_sound μ h3)
theorem cv_sound (μ : Mu) {v : Value} {a : AV} (h : cv v = some a) : RV μ a v := by
  unfold cv at h
  split at h
  · obtain ⟨l, h1, h2⟩ := ob_some h; cases h2; exact .agg (cvs_sound μ h1)
  · obtain ⟨l, h1, h2⟩ := ob_some h; cases h2; exact .tup (cvs_sound μ h1)
  · exact cv1_sound μ h
/-- The temporaries. -/
def RT (μ : Mu) (tm : T AV) (tmps : Array Value) : Prop := ∀ t v, tm.get (pOf t) = some v → RV μ v (tmps.getD t undef)
theorem opnd_sound {μ : Mu} {tm : T AV} {a : Act} (h : RT μ tm a.tmps) {x : Operand} {v : AV} (e : opnd tm x = some v) : RV μ v (a.eval x) := by
  cases x with
  | tmp t => exact h t v e
  | const c => exact cv_sound μ e
  | global g => cases e
  | func f => cases e; exact .func (fun n q => by cases q) .nil .nil
theorem opnds_sound {μ : Mu} {tm : T AV} {a : Act} (h : RT μ tm a.tmps) : ∀ {l : List Operand} {vs : List AV}, opnds tm l = some vs → RVs μ vs (l.map a.eval)
  | [], _, e => by cases e; exact .nil
  | x :: l, vs, e => by
    obtain ⟨v, h1, h2⟩ := ob_some (x := opnd tm x) e
    obtain ⟨r, h3, h4⟩ := ob_some (x := opnds tm l) h2
    cases h4
    exact .cons (opnd_sound h h1) (opnds_sound h h3)
theorem RT.put {μ : Mu} {tm : T AV} {tmps : Array Value} (h : RT μ tm tmps) {d nt : Nat} {v : AV} {x : Value} (hn : tmps.size = nt) (r : RV μ v x) :
    RT μ (tm.put (pOf d) (tb (Nat.blt d nt) (some v) none)) (tmps.setIfInBounds d x) := by
  intro t u e
  rw [T.put_get] at e
  split at e
  · rename_i q
    have q := pOf_inj q
    subst q
    rcases tb_or e with ⟨h1, h2⟩ | ⟨_, h2⟩
    · cases h2
      rw [blt_eq] at h1
      have : t < tmps.size := by rw [hn]; simpa using h1
      simp [Array.getD, this]; exact r
    · cases h2
  · rename_i q
    have hne : d ≠ t := fun e => q (by rw [e])
    have := h t u e
    simp only [Array.getD_eq_getD_getElem?, Array.getElem?_setIfInBounds_ne hne] at this ⊢
    exact this
theorem RT.mono {μ ν : Mu} (h : Mu.le μ ν) {tm : T AV} {tmps : Array Value} (r : RT μ tm tmps) : RT ν tm tmps := fun t v e => (r t v e).mono h
theorem bl_lt (s : ByteArray) : ∀ x ∈ bl s, x < 256 := by
  intro x hx
  obtain ⟨b, _, rfl⟩ := List.mem_map.1 hx
  exact b.toNat_lt
theorem codeN_cons (x : Nat) (l : List Nat) : codeN (x :: l) = x + 256 * codeN l := rfl
theorem codeN_drop : ∀ (o : Nat) (l : List Nat), (∀ x ∈ l, x < 256) → codeN l / 256 ^ o = codeN (l.drop o)
  | 0, l, _ => by simp
  | o + 1, [], _ => by show 0 / 256 ^ (o + 1) = codeN []; rw [Nat.zero_div]; rfl
  | o + 1, x :: l, h => by
    have hx := h x (.head _)
    have ih := codeN_drop o l (fun y hy => h y (.tail _ hy))
    rw [codeN_cons, Nat.pow_succ, Nat.mul_comm (256 ^ o) 256, ← Nat.div_div_eq_div_mul, show (x + 256 * codeN l) / 256 = codeN l by omega, ih]
    rfl
theorem land255 (c : Nat) : Nat.land c 255 = c % 256 := Nat.and_two_pow_sub_one_eq_mod c 8
theorem shr8 (c n : Nat) : Nat.shiftRight c (Nat.mul 8 n) = c / 256 ^ n := by
  show c >>> (8 * n) = _
  rw [Nat.shiftRight_eq_div_pow, Nat.pow_mul]
theorem chrAt_eq {l : List Nat} (h : ∀ x ∈ l, x < 256) (n : Nat) : chrAt l n = l[n]? := by
  show cb (Nat.blt n (lenN l)) (some (Nat.land (Nat.shiftRight (codeN l) (Nat.mul 8 n)) 255)) = _
  rw [land255, shr8, codeN_drop n l h, lenN_eq, blt_eq]
  by_cases hn : n < l.length
  · simp only [hn, decide_true]
    rw [List.getElem?_eq_getElem hn, List.drop_eq_getElem_cons hn, codeN_cons]
    have := h _ (List.getElem_mem hn)
    show some _ = some _
    congr 1
    omega
  · simp only [hn, decide_false]
    rw [List.getElem?_eq_none (by omega)]
    rfl
theorem unp_take : ∀ (m : Nat) (l : List Nat), (∀ x ∈ l, x < 256) → m ≤ l.length → unp m (codeN l) = l.take m
  | 0, l, _, _ => rfl
  | m + 1, [], _, h => by simp at h
  | m + 1, x :: l, h, hm => by
    have hx := h x (.head _)
    have ih := unp_take m l (fun y hy => h y (.tail _ hy)) (by simpa using hm)
    show Nat.land (codeN (x :: l)) 255 :: unp m (Nat.shiftRight (codeN (x :: l)) 8) = _
    rw [land255, show Nat.shiftRight (codeN (x :: l)) 8 = codeN (x :: l) / 256 by
      show codeN (x :: l) >>> 8 = _
      rw [Nat.shiftRight_eq_div_pow], codeN_cons, show (x + 256 * codeN l) / 256 = codeN l by omega, show (x + 256 * codeN l) % 256 = x by omega, ih]
    rfl
theorem cutN_eq {l : List Nat} (h : ∀ x ∈ l, x < 256) {o m : Nat} (hm : o + m ≤ l.length) : cutN l o m = (l.drop o).take m := by
  show unp m (Nat.shiftRight (codeN l) (Nat.mul 8 o)) = _
  rw [shr8, codeN_drop o l h]
  exact unp_take m _ (fun x hx => h x (List.mem_of_mem_drop hx)) (by rw [List.length_drop]; omega)
theorem codeN_inj : ∀ {a b : List Nat}, (∀ x ∈ a, x < 256) → (∀ x ∈ b, x < 256) → a.length = b.length → codeN a = codeN b → a = b
  | [], [], _, _, _, _ => rfl
  | [], _ :: _, _, _, h, _ => by simp at h
  | _ :: _, [], _, _, h, _ => by simp at h
  | x :: a, y :: b, ha, hb, h, e => by
    rw [codeN_cons, codeN_cons] at e
    have h1 := ha x (.head _)
    have h2 := hb y (.head _)
    rw [codeN_inj (a := a) (b := b) (fun z hz => ha z (.tail _ hz)) (fun z hz => hb z (.tail _ hz)) (by simpa using h) (by omega), show x = y by omega]
theorem eqTx_eq {a b : List Nat} (ha : ∀ x ∈ a, x < 256) (hb : ∀ x ∈ b, x < 256) : eqTx a b = decide (a = b) := by
  show tb (Nat.beq (lenN a) (lenN b)) (Nat.beq (codeN a) (codeN b)) false = _
  rw [lenN_eq, lenN_eq]
  by_cases h : a = b
  · subst h
    rw [show Nat.beq a.length a.length = true from Nat.beq_refl _, show Nat.beq (codeN a) (codeN a) = true from Nat.beq_refl _]
    simp [tb_true]
  · simp only [h, decide_false]
    cases q : Nat.beq a.length b.length with
    | false => rfl
    | true =>
      rw [tb_true]
      cases r : Nat.beq (codeN a) (codeN b) with
      | false => rfl
      | true => exact absurd (codeN_inj ha hb (Nat.eq_of_beq_eq_true q) (Nat.eq_of_beq_eq_true r)) h
theorem eqTx_bl (s t : ByteArray) : eqTx (bl s) (bl t) = eqLN (bl s) (bl t) := by rw [eqTx_eq (bl_lt s) (bl_lt t), eqLN_eq]
end Ev
end Go.Proofs.Ytdofhlmffponoaa
/- The operations that read and write memory, and those that make it: the evaluator's answer is the world's. -/
set_option linter.unusedVariables false
set_option linter.unusedSimpArgs false
namespace Go.Proofs.Ytdofhlmffponoaa
namespace Ev
structure TyOk (P : Program) (t : TypeId) (i : TyI) : Prop where
  und : P.underlying t = some i.d
  agg : i.agg = isAggD i.d
  inf : ∃ info z, P.info? t = some info ∧ info.size = i.size ∧ info.bytes = i.bytes ∧ info.zero = some z ∧ RVs (fun _ => none) i.zero z.cells.toList
  zval : ∃ info z, P.info? t = some info ∧ info.zero = some z ∧ RV (fun _ => none) i.zv z
  off : offsD P i.d = some i.offs
  zlen : i.zero.length = i.size
/-- What a known call means: from any world that holds the blocks it begins with and in which the names from its first on are free, it answers so, and leaves these blocks. -/
def MetOk (P : Program) (m : Met) : Prop :=
  ∀ (w0 : Fx) (μ : Mu) (w : World) (xs : List Value), HR w0 μ (putL m.pre .leaf) m.nx w → RVs μ m.args xs →
    Calls P m.f ⟨xs⟩ w (fun e w' => ∃ μ' x, Mu.le μ μ' ∧ HR w0 μ' (putL m.news .leaf) m.nz w' ∧ RV μ' m.v x ∧ e = .returned x)
structure TabOk (T0 : Tab) : Prop where
  ty : ∀ t i, T0.t t = some i → TyOk T0.P t i
  fn : ∀ f i, T0.fn.get (pOf f) = some i → ∃ fn, T0.P.funcs[f]? = some fn ∧ fn.body = some i.body ∧ fn.ntmps = i.nt ∧ fn.results.toList = i.res ∧ (fn.name == "runtime.NumGoroutine") = false
  mixed : T0.P.follows .mixedOrders = true
  kn : ∀ f, f ∈ T0.kn → ∀ w, Calls T0.P f #[] w (fun e w' => e = .returned (.bool true) ∧ w'.os = w.os ∧ w'.tape = w.tape ∧ w'.output = w.output ∧ w.heap.size ≤ w'.heap.size ∧ ∀ i, i < w.heap.size → w'.heap[i]? = w.heap[i]?)
  mt : ∀ m, m ∈ T0.mt → MetOk T0.P m
section
variable {P : Program} {t : TypeId} {i : TyI} {w : World}
theorem run_info (h : TyOk P t i) : ∃ info z, (typeInfo t).run P w = .ok info w ∧ info.size = i.size ∧ info.bytes = i.bytes ∧ info.zero = some z ∧ RVs (fun _ => none) i.zero z.cells.toList := by
  obtain ⟨info, z, h1, h2, h3, h4, h5⟩ := h.inf
  exact ⟨info, z, by simp [typeInfo, program, Sem.run, bind, Sem.bind, h1, pure], h2, h3, h4, h5⟩
theorem run_und (h : TyOk P t i) : (underlying t).run P w = .ok i.d w := by
  simp [underlying, program, Sem.run, bind, Sem.bind, h.und, pure]
theorem run_size (h : TyOk P t i) : (sizeOf t).run P w = .ok i.size w := by
  obtain ⟨info, z, h1, h2, _⟩ := run_info (w := w) h
  simp [sizeOf, h1, h2]
theorem run_zero (h : TyOk P t i) : ∃ z, (zeroValue t).run P w = .ok z w ∧ RVs (fun _ => none) i.zero z.cells.toList := by
  obtain ⟨info, z, h1, _, _, h4, h5⟩ := run_info (w := w) h
  exact ⟨z, by simp [zeroValue, h1, h4], h5⟩
theorem run_agg (h : TyOk P t i) : (isAgg t).run P w = .ok i.agg w := by
  rw [h.agg]
  simp only [isAgg, Sem.run_bind, run_und h, Result.andThen_ok]
  cases i.d <;> rfl
end
theorem RVs.any {μ : Mu} {l : List AV} {xs : List Value} (h : RVs (fun _ => none) l xs) : RVs μ l xs := h.mono (fun _ _ e => by cases e)
/-- The values of a list, put one behind the other, are found again. -/
theorem alt_get {α : Type} : ∀ (l : List α) (k : Nat), (alt l).1[k]? = l[2 * k]? ∧ (alt l).2[k]? = l[2 * k + 1]?
  | [], k => by simp [alt]
  | x :: l, k => by
    have e : alt (x :: l) = (x :: (alt l).2, (alt l).1) := rfl
    rw [e]
    constructor
    · cases k with
      | zero => simp
      | succ k =>
        have := (alt_get l k).2
        simp only [List.getElem?_cons_succ, this]
        rw [show 2 * (k + 1) = (2 * k + 1) + 1 by omega]; simp
    · have := (alt_get l k).1
      simp only [this]; simp
theorem alt_len {α : Type} : ∀ l : List α, (alt l).1.length ≤ l.length ∧ (alt l).2.length ≤ l.length
  | [] => by simp [alt]
  | x :: l => by
    have e : alt (x :: l) = (x :: (alt l).2, (alt l).1) := rfl
    have := alt_len l
    rw [e]; simp; omega
theorem ofL_get {α : Type} : ∀ (f : Nat) (l : List α), l.length < f → ∀ k, (T.ofL f l).getN k = l[k]?
  | 0, _, h, _ => by omega
  | f + 1, [], _, k => by show (T.leaf : T α).getN k = _; rw [T.getN_leaf]; simp
  | f + 1, x :: l, h, k => by
    show (T.node (T.ofL f (alt l).1) (some x) (T.ofL f (alt l).2)).getN k = _
    have hl := alt_len l
    rw [T.getN_node]
    cases k with
    | zero => simp
    | succ m =>
      simp only []
      have hg := alt_get l (m / 2)
      cases q : Nat.land m 1 with
      | zero =>
        simp only []
        rw [shr_one, ofL_get f _ (by simp at h; omega), hg.1]
        rw [land_one] at q
        rw [show 2 * (m / 2) = m by omega]; simp
      | succ z =>
        simp only []
        rw [shr_one, ofL_get f _ (by simp at h; omega), hg.2]
        rw [land_one] at q
        rw [show 2 * (m / 2) + 1 = m by omega]; simp
/-- A new row of cells. -/
theorem RO.new {μ : Mu} {w : World} {l : List AV} {xs : List Value} {n es cap : Nat} {el : TypeId} (h : RVs μ l xs) (hn : n = l.length) (hc : cap * es ≤ xs.length ∧ (es = 0 ∨ n ≤ cap * es)) :
    RO μ ⟨w.heap.size, 0, cap⟩ { w with heap := w.heap.push (.cells xs.toArray el (0, 0)) } (mkCells l n es el) := by
  refine ⟨xs.toArray, by simp, ?_, ?_, fun i v hi hv => ?_⟩
  · simp [hn, h.length]
  · exact ⟨by simpa using hc.1, hc.2.imp (fun e => ⟨e, rfl, by simp [hn, h.length]⟩) id⟩
  · rw [lenN_eq, ofL_get _ _ (Nat.lt_succ_self _)] at hv
    obtain ⟨x, hx, hr⟩ := h.get hv
    exact ⟨x, by simpa using hx, hr⟩
theorem RV.cells {μ : Mu} {v : AV} {x : Value} (h : RV μ v x) : RVs μ v.cells x.cells.toList := by
  cases h with
  | agg r => exact r
  | bool => exact .cons .bool .nil
  | int => exact .cons .int .nil
  | str e => exact .cons (.str e) .nil
  | ptr0 => exact .cons .ptr0 .nil
  | ptr e => exact .cons (.ptr e) .nil
  | sl0 => exact .cons .sl0 .nil
  | slk e c => exact .cons (.slk e c) .nil
  | slu e c => exact .cons (.slu e c) .nil
  | sle => exact .cons .sle .nil
  | map0 => exact .cons .map0 .nil
  | map e => exact .cons (.map e) .nil
  | func e a b => exact .cons (.func e a b) .nil
  | yield e => exact .cons (.yield e) .nil
  | nilF => exact .cons .nilF .nil
  | iface a => exact .cons (.iface a) .nil
  | nilI => exact .cons .nilI .nil
  | tup a => exact .cons (.tup a) .nil
  | any e =>
    have : x.cells.toList = [x] := by cases x <;> first | rfl | cases e
    rw [this]; exact .cons (.any e) .nil
/-- What is read out of a row. -/
theorem readN_sound {μ : Mu} {t : T AV} {c : Array Value} {b n : Nat} (h : ∀ i v, i < n → t.getN i = some v → ∃ x, c[b + i]? = some x ∧ RV μ v x) :
    ∀ (m o : Nat) (l : List AV), readN t o m = some l → o + m ≤ n → ∃ xs, RVs μ l xs ∧ ∀ j x, xs[j]? = some x → c[b + o + j]? = some x
  | 0, o, l, e, _ => by cases e; exact ⟨[], .nil, fun j x q => by simp at q⟩
  | m + 1, o, l, e, hn => by
    obtain ⟨v, h1, h2⟩ := ob_some (x := t.getN o) e
    obtain ⟨r, h3, h4⟩ := ob_some (x := readN t (Nat.succ o) m) h2
    cases h4
    obtain ⟨x, hx, hr⟩ := h o v (by omega) h1
    obtain ⟨xs, q1, q2⟩ := readN_sound h m (o + 1) r h3 (by omega)
    refine ⟨x :: xs, .cons hr q1, fun j y q => ?_⟩
    cases j with
    | zero => simp at q; subst q; simpa using hx
    | succ j =>
      simp at q
      have := q2 j y q
      rw [show b + (o + 1) + j = b + o + (j + 1) by omega] at this
      exact this
theorem readN_len {t : T AV} : ∀ (m o : Nat) (l : List AV), readN t o m = some l → l.length = m
  | 0, _, _, e => by cases e; rfl
  | m + 1, o, l, e => by
    obtain ⟨v, h1, h2⟩ := ob_some (x := t.getN o) e
    obtain ⟨r, h3, h4⟩ := ob_some (x := readN t (Nat.succ o) m) h2
    cases h4
    simp [readN_len m _ r h3]
theorem addr_add (b o n : Nat) : (⟨b, o, none⟩ : Addr).add n = ⟨b, o + n, none⟩ := by unfold Addr.add; split <;> simp_all
theorem loadE_sound {w0 : Fx} {μ : Mu} {H : T AO} {nx : Bn} {w : World} {P : Program} {t : TypeId} {i : TyI} (hR : HR w0 μ H nx w) (ht : TyOk P t i) {p : Pt} {v : AV} {l : Loc}
    (e : loadE H i p = some v) (hl : μ p.b = some l) : ∃ x, (loadVar t ⟨l.blk, l.base + p.off, none⟩).run P w = .ok x w ∧ RV μ v x := by
  obtain ⟨c, h1, h2⟩ := ob_some e
  have h1 := cellsAt_some h1
  obtain ⟨l', m, r⟩ := hR.live _ _ h1
  rw [hl] at m; cases m
  obtain ⟨cs, g1, g2, _, g4⟩ := r
  have cell : ∀ j x, cs[l.base + p.off + j]? = some x → w.cell? ((⟨l.blk, l.base + p.off, none⟩ : Addr).add j) = some x := fun j x q => by
    rw [addr_add]; simp [World.cell?, g1, q]
  rcases tb_or h2 with ⟨ha, h3⟩ | ⟨ha, h3⟩
  · obtain ⟨hb, h4⟩ := cb_some h3
    obtain ⟨q, h5, h6⟩ := ob_some h4
    cases h6
    obtain ⟨xs, r1, r2⟩ := readN_sound g4 i.size p.off q h5 (ble_true hb)
    have hx : xs.length = i.size := by rw [r1.length, readN_len _ _ _ h5]
    refine ⟨.agg xs.toArray, ?_, .agg r1⟩
    have := run_loadCells_list (P := P) w ⟨l.blk, l.base + p.off, none⟩ xs (fun j y hy => cell j y (r2 j y hy))
    rw [hx] at this
    simp [loadVar, run_agg ht, ha, run_size ht, this]
  · obtain ⟨hb, h4⟩ := cb_some h3
    rw [blt_eq] at hb
    obtain ⟨x, hx, hr⟩ := g4 p.off v (by simpa using hb) h4
    refine ⟨x, ?_, hr⟩
    have := cell 0 x (by simpa using hx)
    rw [addr_add, Nat.add_zero] at this
    simp only [loadVar, Sem.run_bind, run_agg ht, ha, Result.andThen_ok]
    simp [run_load, this]
theorem lone_one {μ : Mu} {v : AV} {x : Value} (h : lone1 v = true) (r : RV μ v x) : x.oneCell' = true := by
  cases r <;> first | rfl | assumption | cases h
/-- What is written into a row. -/
theorem writeN_get {t t' : T AV} : ∀ (l : List AV) (o : Nat), writeN t o l = some t' → (∀ v ∈ l, lone1 v = true) ∧
    ∀ k, t'.getN k = if o ≤ k ∧ k < o + l.length then l[k - o]? else t.getN k := by
  intro l
  induction l generalizing t with
  | nil => intro o e; cases e; exact ⟨fun v h => (by cases h), fun k => (by rw [if_neg (by simp only [List.length_nil]; omega)])⟩
  | cons v l ih =>
    intro o e
    obtain ⟨h1, h2⟩ := cb_some (b := lone1 v) (x := writeN (t.putN o (some v)) (Nat.succ o) l) e
    obtain ⟨q1, q2⟩ := ih (Nat.succ o) h2
    refine ⟨fun u hu => ?_, fun k => ?_⟩
    · cases hu with
      | head => exact h1
      | tail _ hm => exact q1 u hm
    · rw [q2 k, T.putN_get]
      by_cases a : o + 1 ≤ k ∧ k < o + 1 + l.length
      · rw [if_pos a, if_pos (by simp; omega), show k - o = (k - (o + 1)) + 1 by omega]; simp
      · rw [if_neg a]
        by_cases b : k = o
        · subst b; simp
        · rw [if_neg b, if_neg (by simp; omega)]
theorem store_sound {w0 : Fx} {μ : Mu} {H : T AO} {nx : Bn} {w : World} {P : Program} (hR : HR w0 μ H nx w) {b : Bn} {c : Ce} {l : Loc} (hc : cellsAt H b = some c) (hl : μ b = some l)
    {o : Nat} {vs : List AV} {xs : List Value} {t' : T AV} (hw : writeN c.t o vs = some t') (hn : o + vs.length ≤ c.n) (hv : RVs μ vs xs) :
    ∃ w', (storeCells ⟨l.blk, l.base + o, none⟩ xs).run P w = .ok () w' ∧ HR w0 μ (H.put b (some (.cells t' c.n c.es c.el))) nx w' := by
  have h1 := cellsAt_some hc
  obtain ⟨l', m, r⟩ := hR.live _ _ h1
  rw [hl] at m; cases m
  obtain ⟨cs, g1, g2, g3, g4⟩ := r
  obtain ⟨q1, q2⟩ := writeN_get vs o hw
  have hlen := hv.length
  have one : ∀ x ∈ xs, x.oneCell' = true := by
    intro x hx
    obtain ⟨j, hj⟩ := List.getElem?_of_mem hx
    have hj' : j < xs.length := by
      rcases Nat.lt_or_ge j xs.length with q | q
      · exact q
      · simp [List.getElem?_eq_none q] at hj
    have : ∃ v, vs[j]? = some v := ⟨vs[j]'(by omega), by simp⟩
    obtain ⟨v, hv'⟩ := this
    obtain ⟨y, hy, hr⟩ := hv.get hv'
    rw [hj] at hy; cases hy
    exact lone_one (q1 v (List.mem_of_getElem? hv')) hr
  have hrun := run_storeCells_at (P := P) l.blk (l.base + o) c.el xs 0 cs w g1 (by rw [hlen]; omega) one
  simp only [Nat.add_zero] at hrun
  refine ⟨_, hrun, ?_⟩
  have hh := setRow_heap w l.blk cs (cs.toList.take (l.base + o) ++ xs ++ cs.toList.drop (l.base + o + xs.length)).toArray c.el (0, 0) g1
  have hsz : (cs.toList.take (l.base + o) ++ xs ++ cs.toList.drop (l.base + o + xs.length)).length = cs.size := by simp [hlen]; omega
  refine hR.write h1 hl rfl rfl rfl (by simp [World.setRow]) (fun i hi => by simp [World.setRow, Array.getElem?_modify, Ne.symm hi]) ⟨_, hh, by simp only [List.size_toArray, hsz]; exact g2, by simp only [List.size_toArray, hsz]; exact g3, fun i v hi hg => ?_⟩
  rw [q2 i] at hg
  simp only [List.getElem?_toArray]
  split at hg
  · rename_i a
    obtain ⟨x, hx, hr⟩ := hv.get hg
    refine ⟨x, ?_, hr⟩
    rw [List.append_assoc, List.getElem?_append_right (by simp; omega), List.getElem?_append_left (by simp [hlen]; omega)]
    simp only [List.length_take, Array.length_toList]
    rw [show l.base + i - min (l.base + o) cs.size = i - o by omega]; exact hx
  · rename_i a
    obtain ⟨x, hx, hr⟩ := g4 i v hi hg
    refine ⟨x, ?_, hr⟩
    by_cases b1 : i < o
    · rw [List.append_assoc, List.getElem?_append_left (by simp; omega), List.getElem?_take_of_lt (by omega)]
      simpa using hx
    · rw [List.append_assoc, List.getElem?_append_right (by simp; omega), List.getElem?_append_right (by simp [hlen]; omega)]
      simp only [List.length_take, Array.length_toList, List.getElem?_drop]
      rw [show l.base + o + xs.length + (l.base + i - min (l.base + o) cs.size - xs.length) = l.base + i by omega]
      simpa using hx
end Ev
end Go.Proofs.Ytdofhlmffponoaa
