/- What the evaluator's memory says of the world's. -/
import Derived.Test.YtpmjneggkccaiaaGreatDoorEvE
import Derived.Laws.World
import Derived.Extends
import Derived.Laws.Cells
import Derived.Laws.CopyRow
set_option linter.unusedVariables false
set_option linter.unusedSimpArgs false
namespace Go.Proofs.YtpmjneggkccaiaaGreatDoor
namespace Ev
/-- The entries of a map. -/
inductive RE (μ : Mu) : List Me → List MapEntry → Prop
  | nil : RE μ [] []
  | cons {q : Me} {e : MapEntry} {l : List Me} {m : List MapEntry} : RV μ q.k e.key → RV μ q.v e.val → q.born = e.born → RE μ l m → RE μ (q :: l) (e :: m)
def RM (μ : Mu) : Option Bn → Option Nat → Prop
  | none, x => x = none
  | some b, x => ∃ l, μ b = some l ∧ x = some l.blk
theorem RM.mono {μ ν : Mu} (h : Mu.le μ ν) {m : Option Bn} {x : Option Nat} (r : RM μ m x) : RM ν m x := by
  cases m with
  | none => exact r
  | some b => obtain ⟨l, h1, h2⟩ := r; exact ⟨l, h _ _ h1, h2⟩
def RO (μ : Mu) (l : Loc) (w : World) : AO → Prop
  | .cells t n es el => ∃ c : Array Value, w.heap[l.blk]? = some (.cells c el (0, 0)) ∧ l.base + n ≤ c.size ∧ (l.base + l.cap * es ≤ c.size ∧ (es = 0 ∧ l.base = 0 ∧ c.size = n ∨ n ≤ l.cap * es)) ∧
      ∀ i v, i < n → t.getN i = some v → ∃ x, c[l.base + i]? = some x ∧ RV μ v x
  | .map es clock => ∃ (E : List MapEntry), w.heap[l.blk]? = some (.map E.toArray clock) ∧ RE μ es E
  | .miter m since seen last => l.base = 0 ∧ ∃ x, RM μ m x ∧ w.heap[l.blk]? = some (.mapIter x since seen.reverse.toArray last)
  | .siter s pos => l.base = 0 ∧ ∃ s', bl s' = s ∧ w.heap[l.blk]? = some (.stringIter s' pos)
  | .loop st pend fn tm nt ps assign body dfb => ∃ (tmps : Array Value) (d : Loc), μ dfb = some d ∧ tmps.size = nt ∧ (∀ t v, tm.get (pOf t) = some v → RV μ v (tmps.getD t undef)) ∧
      ∃ f, w.heap[l.blk]? = some (.loop { state := st, pending := pend, fn := f, tmps := tmps, params := ps.toArray, assign := assign, body := body, defers := d.blk }) ∧ fn = 0
  | .dfr => w.heap[l.blk]? = some (.deferred (some []))
/-- What is around the evaluator's own memory: the world that it began in, and the blocks that it must leave as they are. -/
structure Fx where
  w : World
  k : Nat → Option Obj
  rs : Bn → Bool
structure Fx.On (F : Fx) (w : World) : Prop where
  os : w.os = F.w.os
  tape : w.tape = F.w.tape
  out : w.output = F.w.output
  kp : ∀ i o, F.k i = some o → w.heap[i]? = some o
theorem Fx.On.none {F : Fx} {w : World} (h : F.On w) {i : Nat} (hi : w.heap.size ≤ i) : F.k i = none := by
  cases e : F.k i with
  | none => rfl
  | some o =>
    have := h.kp i o e
    rw [Array.getElem?_eq_none hi] at this; cases this
theorem Fx.On.to {F : Fx} {w w' : World} (h : F.On w) (e1 : w'.os = w.os) (e2 : w'.tape = w.tape) (e3 : w'.output = w.output)
    (hk : ∀ i, i < w.heap.size → (F.k i).isSome = true → w'.heap[i]? = w.heap[i]?) : F.On w' :=
  ⟨e1.trans h.os, e2.trans h.tape, e3.trans h.out, fun i o e => by
    have q := h.kp i o e
    have hi : i < w.heap.size := by
      rcases Nat.lt_or_ge i w.heap.size with z | z
      · exact z
      · rw [Array.getElem?_eq_none z] at q; cases q
    rw [hk i hi (by rw [e]; rfl)]; exact q⟩
structure HR (w0 : Fx) (μ : Mu) (H : T AO) (nx : Bn) (w : World) : Prop where
  ext : w0.On w
  base : ∀ b o l, H.get b = some o → μ b = some l → w0.k l.blk = none
  live : ∀ b o, H.get b = some o → ∃ l, μ b = some l ∧ RO μ l w o
  sep : ∀ b b' o o' l l', H.get b = some o → H.get b' = some o' → b ≠ b' → μ b = some l → μ b' = some l' → l.blk ≠ l'.blk
  new : ∀ b, nx.toN ≤ b.toN → μ b = none
  res : ∀ b, w0.rs b = true → μ b = none ∧ b.toN < nx.toN
theorem RE.mono {μ ν : Mu} (h : Mu.le μ ν) : ∀ {l : List Me} {m : List MapEntry}, RE μ l m → RE ν l m
  | _, _, .nil => .nil
  | _, _, .cons a b c d => .cons (a.mono h) (b.mono h) c (d.mono h)
/-- A block that keeps its content says what it said. -/
theorem RO.keep {μ ν : Mu} {l : Loc} {w w' : World} {o : AO} (h : Mu.le μ ν) (hk : w'.heap[l.blk]? = w.heap[l.blk]?) (r : RO μ l w o) : RO ν l w' o := by
  cases o with
  | cells t n es el =>
    obtain ⟨c, h1, h2, h3, h4⟩ := r
    exact ⟨c, hk.trans h1, h2, h3, fun i v hi hv => let ⟨x, e, q⟩ := h4 i v hi hv; ⟨x, e, q.mono h⟩⟩
  | map es clock =>
    obtain ⟨E, h1, h2⟩ := r
    exact ⟨E, hk.trans h1, h2.mono h⟩
  | miter m since seen last =>
    obtain ⟨hb, x, h1, h2⟩ := r
    exact ⟨hb, x, h1.mono h, hk.trans h2⟩
  | siter s pos =>
    obtain ⟨hb, s', h1, h2⟩ := r
    exact ⟨hb, s', h1, hk.trans h2⟩
  | loop st pend fn tm nt ps assign body dfb =>
    obtain ⟨tmps, d, h1, h2, h3, f, h4, h5⟩ := r
    exact ⟨tmps, d, h _ _ h1, h2, fun t v e => (h3 t v e).mono h, f, hk.trans h4, h5⟩
  | dfr => exact hk.trans r
theorem RO.lt {μ : Mu} {l : Loc} {w : World} {o : AO} (r : RO μ l w o) : l.blk < w.heap.size := by
  have key : ∀ x : Obj, w.heap[l.blk]? = some x → l.blk < w.heap.size := fun x h => by
    rcases Nat.lt_or_ge l.blk w.heap.size with q | q
    · exact q
    · simp [Array.getElem?_eq_none q] at h
  cases o with
  | cells t n es el => obtain ⟨c, h1, _⟩ := r; exact key _ h1
  | map es clock => obtain ⟨E, h1, _⟩ := r; exact key _ h1
  | miter m since seen last => obtain ⟨_, x, _, h2⟩ := r; exact key _ h2
  | siter s pos => obtain ⟨_, s', _, h2⟩ := r; exact key _ h2
  | loop st pend fn tm nt ps assign body dfb => obtain ⟨tmps, d, _, _, _, f, h4, _⟩ := r; exact key _ h4
  | dfr => exact key _ r
def Mu.put (μ : Mu) (b : Bn) (l : Loc) : Mu := fun c => if c = b then some l else μ c
theorem Mu.le_put {μ : Mu} {b : Bn} {l : Loc} (h : μ b = none) : Mu.le μ (μ.put b l) := fun c m e => by
  unfold Mu.put
  split
  · rename_i q; subst q; rw [h] at e; cases e
  · exact e
theorem Mu.put_same (μ : Mu) (b : Bn) (l : Loc) : μ.put b l b = some l := by simp [Mu.put]
/-- A world whose memory is the same. -/
theorem HR.same {w0 : Fx} {μ : Mu} {H : T AO} {nx : Bn} {w w' : World} (h : HR w0 μ H nx w) (e : w'.heap = w.heap) (e1 : w'.os = w.os) (e2 : w'.tape = w.tape) (e3 : w'.output = w.output) : HR w0 μ H nx w' :=
  ⟨h.ext.to e1 e2 e3 (fun i _ _ => by rw [e]), h.base, fun b o g => let ⟨l, m, r⟩ := h.live b o g; ⟨l, m, r.keep (.refl μ) (by rw [e])⟩, h.sep, h.new, h.res⟩
/-- A block is made. -/
theorem HR.alloc {w0 : Fx} {μ : Mu} {H : T AO} {nx : Bn} {w : World} (h : HR w0 μ H nx w) (o : Obj) (a : AO) (cap : Nat)
    (r : RO (μ.put nx ⟨w.heap.size, 0, cap⟩) ⟨w.heap.size, 0, cap⟩ { w with heap := w.heap.push o } a) :
    HR w0 (μ.put nx ⟨w.heap.size, 0, cap⟩) (H.put nx (some a)) nx.succ { w with heap := w.heap.push o } := by
  have hn : μ nx = none := h.new nx (Nat.le_refl _)
  have hHn : H.get nx = none := by
    cases e : H.get nx with
    | none => rfl
    | some o => obtain ⟨l, m, _⟩ := h.live nx o e; rw [hn] at m; cases m
  have keep : ∀ l : Loc, l.blk < w.heap.size → ({ w with heap := w.heap.push o } : World).heap[l.blk]? = w.heap[l.blk]? := fun l hl => by
    simp [Array.getElem?_push, Nat.ne_of_lt hl]
  refine ⟨h.ext.to rfl rfl rfl (fun i hi _ => keep ⟨i, 0, 0⟩ hi), fun b x l g e => ?_, fun b x g => ?_, fun b b' x x' l l' g g' hne m m' => ?_, fun b hb => ?_, fun b hb => ?_⟩
  · simp only [Mu.put] at e
    rw [T.put_get] at g
    split at e
    · cases e; exact h.ext.none (Nat.le_refl _)
    · rename_i q
      rw [if_neg q] at g
      exact h.base b x l g e
  · rw [T.put_get] at g
    split at g
    · rename_i e; subst e; cases g
      exact ⟨_, Mu.put_same _ _ _, r⟩
    · obtain ⟨l, m, q⟩ := h.live b x g
      exact ⟨l, Mu.le_put hn _ _ m, q.keep (Mu.le_put hn) (keep l q.lt)⟩
  · have old : ∀ {c : Bn} {y : AO} {k : Loc}, c ≠ nx → (H.put nx (some a)).get c = some y → μ.put nx ⟨w.heap.size, 0, cap⟩ c = some k → H.get c = some y ∧ μ c = some k ∧ k.blk < w.heap.size := by
      intro c y k hc hg hm
      rw [T.put_get, if_neg hc] at hg
      simp only [Mu.put, if_neg hc] at hm
      obtain ⟨k', m', q⟩ := h.live c y hg
      rw [hm] at m'; cases m'
      exact ⟨hg, hm, q.lt⟩
    by_cases e1 : b = nx
    · subst e1
      by_cases e2 : b' = b
      · exact absurd e2.symm hne
      · obtain ⟨_, _, q⟩ := old e2 g' m'
        rw [Mu.put_same] at m; cases m
        exact fun e => absurd q (by simp only at e; omega)
    · obtain ⟨g1, m1, q1⟩ := old e1 g m
      by_cases e2 : b' = nx
      · subst e2
        rw [Mu.put_same] at m'; cases m'
        exact fun e => absurd q1 (by simp only at e; omega)
      · obtain ⟨g2, m2, _⟩ := old e2 g' m'
        exact h.sep b b' x x' l l' g1 g2 hne m1 m2
  · have : b ≠ nx := fun e => by subst e; rw [Bn.toN_succ] at hb; omega
    simp only [Mu.put, if_neg this]
    exact h.new b (by rw [Bn.toN_succ] at hb; omega)
  · obtain ⟨h1, h2⟩ := h.res b hb
    have : b ≠ nx := fun e => by subst e; omega
    simp only [Mu.put, if_neg this]
    exact ⟨h1, by rw [Bn.toN_succ]; omega⟩
/-- A block is written: its own content alone changes. -/
theorem HR.write {w0 : Fx} {μ : Mu} {H : T AO} {nx : Bn} {w w' : World} (h : HR w0 μ H nx w) {b : Bn} {o a : AO} {l : Loc} (hb : H.get b = some o) (hl : μ b = some l)
    (e1 : w'.os = w.os) (e2 : w'.tape = w.tape) (e3 : w'.output = w.output) (hs : w'.heap.size = w.heap.size)
    (hk : ∀ i, i ≠ l.blk → w'.heap[i]? = w.heap[i]?) (r : RO μ l w' a) : HR w0 μ (H.put b (some a)) nx w' := by
  refine ⟨h.ext.to e1 e2 e3 (fun i _ hs' => hk i (fun e => by rw [e, h.base b o l hb hl] at hs'; cases hs')), fun c x k g m => ?_, fun c x g => ?_, fun c c' x x' k k' g g' hne m m' => ?_, h.new, h.res⟩
  · rw [T.put_get] at g
    split at g
    · rename_i e; subst e
      rw [hl] at m; cases m; exact h.base _ o _ hb hl
    · exact h.base c x k g m
  · rw [T.put_get] at g
    split at g
    · rename_i e; subst e; cases g; exact ⟨l, hl, r⟩
    · rename_i e
      obtain ⟨k, m, q⟩ := h.live c x g
      exact ⟨k, m, q.keep (.refl μ) (hk _ (fun e' => h.sep c b x o k l g hb e m hl e'))⟩
  · have old : ∀ {c : Bn} {y : AO}, (H.put b (some a)).get c = some y → ∃ z, H.get c = some z := by
      intro c y g
      rw [T.put_get] at g
      split at g
      · rename_i e; subst e; exact ⟨o, hb⟩
      · exact ⟨y, g⟩
    obtain ⟨z, hz⟩ := old g
    obtain ⟨z', hz'⟩ := old g'
    exact h.sep c c' z z' k k' hz hz' hne m m'
end Ev
end Go.Proofs.YtpmjneggkccaiaaGreatDoor
