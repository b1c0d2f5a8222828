/-
  The law of a loop over tree.nodes: what its body owes, and what lies behind it.
-/
import Derived.Test.YtgknigjpdnfkdaaLoop
namespace Go.Proofs.Ytgknigjpdnfkdaa
open Go.RowKit
/-- all that is cells lies as it lay -/
structure Kc (A B : World) : Prop where
  os : B.os = A.os
  tape : B.tape = A.tape
  output : B.output = A.output
  size : A.heap.size ≤ B.heap.size
  keep : ∀ (b : Nat) cs t fz, A.heap[b]? = some (.cells cs t fz) → B.heap[b]? = some (.cells cs t fz)
theorem Kc.of_below {A B : World} (h : Below A.heap.size A B) : Kc A B :=
  ⟨h.os, h.tape, h.output, h.size, fun b _ _ _ hb => (h.block b (Array.getElem?_eq_some_iff.1 hb).1).trans hb⟩
theorem Kc.trans {A B C : World} (h : Kc A B) (k : Kc B C) : Kc A C :=
  ⟨k.os.trans h.os, k.tape.trans h.tape, k.output.trans h.output, Nat.le_trans h.size k.size, fun b cs t fz hb => k.keep b cs t fz (h.keep b cs t fz hb)⟩
theorem Kc.put {W : World} {l : Nat} {o o' : Obj} (h : W.heap[l]? = some o) (ho : ∀ cs t fz, o ≠ .cells cs t fz) : Kc W (W.putObj l o') :=
  ⟨rfl, rfl, rfl, by simp [World.putObj], fun b cs t fz hb => by
    rw [World.putObj_heap_other]
    · exact hb
    · rintro rfl
      rw [h] at hb
      exact ho cs t fz (by simpa using hb)⟩
theorem kx_put (W : World) (l : Nat) (o' : Obj) : Kx (fun b => b = l) W (W.putObj l o') :=
  ⟨rfl, rfl, rfl, by simp [World.putObj], fun b _ hb hne => (World.putObj_heap_other hne).trans hb⟩
theorem below_putl {n l : Nat} (W : World) (o : Obj) (h : n ≤ l) : Below n W (W.putObj l o) :=
  ⟨rfl, rfl, rfl, by simp [World.putObj], fun _ hk => World.putObj_heap_other (by omega)⟩
def lay (W : World) : Option Obj → World
  | none => W
  | some o => W.alloc o
theorem below_lay (W : World) (o : Option Obj) : Below W.heap.size W (lay W o) := by
  cases o
  · exact Below.refl _ _
  · exact below_alloc _ _
/-- how the body of a round may be left -/
def RpP (I : List El → (Nat → Prop) → World → Prop) (Ix : Code → List El → World → Prop) (pre' : List El) (X : Nat → Prop) (W : World) : Exit → Act → World → Prop
  | .normal, _, W' => ∃ X', I pre' X' W' ∧ Kx X W W' ∧ ∀ b, b < W.heap.size → X' b → X b
  | .ret, _, W' => Ix .ret pre' W' ∧ Kx X W W'
  | .exit id, _, W' => Ix (.exit id) pre' W' ∧ Kx X W W'
  | .goto _, _, _ => False
  | .panic _, _, _ => False
  | .outgrown, _, _ => False
set_option maxRecDepth 100000 in
set_option maxHeartbeats 2000000 in
theorem range_any {g : Operand} {ps : Array Tmp} {assign body : Code} {Q : Exit → Act → World → Prop} {a : Act} {w : World} {m : Nat} (n : Nd) (v : Value) (B : BP) (X0 : Nat → Prop) (Bn : Nat)
    (hg : a.eval g = .func (.func 41) #[] #[.pointer (some ⟨Bn, 0, none⟩)]) (hps : ps.size = 2) (hbn : w.heap[Bn]? = some (.cells (encN n v) 24)) (hS : SlV B w v n.kids) (hd : n.dep ≤ 1000000) (hBX : ∀ b o ob, B b o ob → b < w.heap.size ∧ ¬ X0 b)
    (I : List El → (Nat → Prop) → World → Prop) (Ix : Code → List El → World → Prop) (hI : ∀ pre X A A', I pre X A → Kc A A' → Below w.heap.size A A' → I pre X A') (hIx : ∀ c pre A A', Ix c pre A → Kc A A' → Below w.heap.size A A' → Ix c pre A')
    (hIX : ∀ pre X A, I pre X A → ∀ b, X b → ∃ cs t fz, A.heap[b]? = some (.cells cs t fz)) (h0 : I [] X0 w) (ob : El → Option Obj) (a₁ : El → Nat → Act)
    (hassign : ∀ (m l : Nat) (x : El) (W : World) (K : Act → World → Prop), K (a₁ x W.heap.size) (lay W (ob x)) → assign.wpIn (Fence.wide.inRound l) m Try.prog (Exit.then K (fun _ _ _ => False)) { tmps := (ps.zip x.args).foldl (fun t (p, v) => t.setIfInBounds p v) a.tmps, defers := [] } W)
    (hbody : ∀ (m l : Nat) (pre : List El) (x : El) (X : Nat → Prop) (bk : Nat) (W : World), I pre X W → (pre ++ [x]).map El.key <+: n.flat 0 → SlV B W x.v x.nd.kids → (∀ b o ob, B b o ob → ¬ X b) → (∀ o, ob x = some o → W.heap[bk]? = some o ∧ ¬ X bk) → body.wpIn (Fence.wide.inRound l) m Try.prog (RpP I Ix (pre ++ [x]) X W) (a₁ x bk) W)
    (hdone : ∀ (D : Nat) (pre : List El) (X : Nat → Prop) (W : World), pre.map El.key = n.flat 0 → I pre X W → Kx X0 w W → w.heap.size ≤ D → W.heap[D]? = some (.deferred (some [])) → Q .normal { a with defers := { target := .collected D, args := #[] } :: a.defers } W)
    (hstop : ∀ (D : Nat) (c : Code) (pre : List El) (W : World), pre.map El.key <+: n.flat 0 → Ix c pre W → Kx X0 w W → w.heap.size ≤ D → W.heap[D]? = some (.deferred (some [])) → c.wpIn Fence.wide m Try.prog Q { a with defers := { target := .collected D, args := #[] } :: a.defers } W) :
    (Code.rangeFunc g ps assign body).wpIn Fence.wide m Try.prog Q a w := by
  refine wpIn_rangeFunc ?_
  intro fn hfn
  obtain ⟨rc, hrc⟩ : ∃ rc : LoopState → Option Code → Loop, rc = fun st pe => { state := st, pending := pe, fn, tmps := a.tmps, params := ps, assign, body, defers := w.heap.size } := ⟨_, rfl⟩
  obtain ⟨D, hD⟩ : ∃ D, D = w.heap.size := ⟨_, rfl⟩
  obtain ⟨l, hl⟩ : ∃ l, l = w.heap.size + 1 := ⟨_, rfl⟩
  obtain ⟨W1, hW1⟩ : ∃ W1, (w.alloc (.deferred (some []))).alloc (.loop (rc .ready none)) = W1 := ⟨_, rfl⟩
  have hB1 : Below w.heap.size w W1 := hW1 ▸ below_alloc2 _ _ _
  have hL1 : W1.heap[l]? = some (.loop (rc .ready none)) := by
    rw [← hW1, hl]; have := heap_alloc_new (w.alloc (.deferred (some []))) (.loop (rc .ready none)); rwa [World.size_alloc] at this
  have hK1 : W1.heap[D]? = some (.deferred (some [])) := by
    rw [← hW1, hD]; exact (Below.heap_alloc _ _ _ (by simp)).trans (heap_alloc_new w _)
  refine ⟨l, [{ target := .collected D, args := #[] }], W1, { target := .fn (.func 41) #[.pointer (some ⟨Bn, 0, none⟩)], args := #[.func (.yield l) #[] #[]] }, W1, 41,
    #[.func (.yield l) #[] #[], .pointer (some ⟨Bn, 0, none⟩)], W1, ?_, ?_, fun _ _ => trivial, ?_, fun h => by simp [Fence.wide] at h, ?_⟩
  · rw [← hW1, hrc, hl, hD]; exact run_enterLoop_outer _ _ _ _ _
  · simp only [resolve, hg]
    simp [go_sem]
  · rfl
  · have hnl : ∀ {X : Nat → Prop} {A : World} {pre : List El} {r : Loop}, I pre X A → A.heap[l]? = some (.loop r) → ¬ X l := fun hi h hx => by
      obtain ⟨cs, t, fz, e⟩ := hIX _ _ _ hi l hx
      rw [h] at e; simp at e
    have hnD : ∀ {X : Nat → Prop} {A : World} {pre : List El}, I pre X A → A.heap[D]? = some (.deferred (some [])) → ¬ X D := fun hi h hx => by
      obtain ⟨cs, t, fz, e⟩ := hIX _ _ _ hi D hx
      rw [h] at e; simp at e
    have hDl : D ≠ l := by omega
    refine (iter_any l w.heap.size Bn B n v
      (fun pre X W => ∃ X₁ : Nat → Prop, (∀ b, X b ↔ X₁ b ∨ b = l) ∧ I pre X₁ W ∧ W.heap[l]? = some (.loop (rc .ready none)) ∧ W.heap[D]? = some (.deferred (some [])) ∧ Kx X0 w W ∧ ∀ b, b < w.heap.size → X₁ b → X0 b)
      (fun pre W => ∃ c, Ix c pre W ∧ W.heap[l]? = some (.loop (rc .done (some c))) ∧ W.heap[D]? = some (.deferred (some [])) ∧ Kx X0 w W)
      ?_ ?_ ?_ (m - 1) (fun b => X0 b ∨ b = l) W1 ?_ ?_ hB1.size ((hB1.block _ (Array.getElem?_eq_some_iff.1 hbn).1).trans hbn) (hS.kept hB1) hd).mono ?_
    · rintro pre X W W' ⟨X₁, h1, h2, h3, h4, h5, h6⟩ hb
      exact ⟨X₁, h1, hI _ _ _ _ h2 (Kc.of_below hb) (hb.mono h5.size), (hb.block _ (Array.getElem?_eq_some_iff.1 h3).1).trans h3, (hb.block _ (Array.getElem?_eq_some_iff.1 h4).1).trans h4, h5.trans (Kx.of_whole hb), h6⟩
    · rintro pre X W ⟨X₁, h1, h2, h3, h4, h5, h6⟩ b hb
      rcases (h1 b).1 hb with h | h
      · obtain ⟨cs, t, fz, e⟩ := hIX _ _ _ h2 b h
        exact (Array.getElem?_eq_some_iff.1 e).1
      · rw [h]; exact (Array.getElem?_eq_some_iff.1 h3).1
    · -- one round
      rintro k pre x X W ⟨X₁, h1, h2, h3, h4, h5, h6⟩ hpre hsx
      have hy := run_yield (P := Try.prog) (args := x.args) h3 (by rw [hrc]; simp [El.args, hps])
      rw [hrc] at hy
      refine ⟨fn, _, assign, body, hy, roundIn_of_wpIn hfn (hassign k l x W _ ?_)⟩
      have hbl := below_lay W (ob x)
      have h3' : (lay W (ob x)).heap[l]? = some (.loop (rc .ready none)) := (hbl.block _ (Array.getElem?_eq_some_iff.1 h3).1).trans h3
      have h4' : (lay W (ob x)).heap[D]? = some (.deferred (some [])) := (hbl.block _ (Array.getElem?_eq_some_iff.1 h4).1).trans h4
      refine ⟨_, run_beginRound h3' (by rw [hrc]), ?_⟩
      obtain ⟨W2, hW2⟩ : ∃ W2, (lay W (ob x)).putObj l (.loop { rc .ready none with state := .busy }) = W2 := ⟨_, rfl⟩
      rw [hW2]
      have hl2 : W2.heap[l]? = some (.loop { rc .ready none with state := .busy }) := by rw [← hW2]; exact World.putObj_heap_same (Array.getElem?_eq_some_iff.1 h3').1
      have hk2 : W2.heap[D]? = some (.deferred (some [])) := by rw [← hW2]; exact (World.putObj_heap_other hDl).trans h4'
      have hc2 : Kc W W2 := (Kc.of_below hbl).trans (hW2 ▸ Kc.put h3' (by simp))
      have hx2 : Kx (fun b => b = l) W W2 := (Kx.of_whole hbl).trans (hW2 ▸ kx_put _ _ _)
      have hi2 := hI _ _ _ _ h2 hc2 ((hbl.mono h5.size).trans (hW2 ▸ below_putl _ _ (by omega)))
      have hB' : ∀ b o ob, B b o ob → ¬ X₁ b := fun b o ob hb hx => (hBX b o ob hb).2 (h6 b (hBX b o ob hb).1 hx)
      have hs2 : SlV B W2 x.v x.nd.kids := hsx.to hx2 (fun _ _ _ h => h) (fun b o ob hb e => by have := (hBX b o ob hb).1; omega)
      have hnx := hnl hi2 hl2
      have hob2 : ∀ o, ob x = some o → W2.heap[W.heap.size]? = some o ∧ ¬ X₁ W.heap.size := fun o e => by
        constructor
        · rw [← hW2, World.putObj_heap_other (by have := (Array.getElem?_eq_some_iff.1 h3).1; omega), e]
          exact heap_alloc_new _ _
        · intro hx
          obtain ⟨cs, t, fz, e⟩ := hIX _ _ _ h2 _ hx
          have := (Array.getElem?_eq_some_iff.1 e).1
          omega
      refine Code.wpIn_mono ?_ (hbody k l pre x X₁ W.heap.size W2 hi2 hpre hs2 hB' hob2)
      have hx02 : Kx X0 w W2 := h5.andThen hx2 (fun _ _ h => h) (fun b hb e => by omega)
      have fin : ∀ (jump : Option Code) (W3 : World), Kx X₁ W2 W3 →
          (Instr.endRound l jump).run Try.prog W3 = .ok (.bool jump.isNone) (W3.putObj l (.loop (rc (if jump.isNone then .ready else .done) jump))) ∧
          W3.heap[l]? = some (.loop { rc .ready none with state := .busy }) ∧
          (W3.putObj l (.loop (rc (if jump.isNone then .ready else .done) jump))).heap[l]? = some (.loop (rc (if jump.isNone then .ready else .done) jump)) ∧
          (W3.putObj l (.loop (rc (if jump.isNone then .ready else .done) jump))).heap[D]? = some (.deferred (some [])) ∧
          Kx X0 w (W3.putObj l (.loop (rc (if jump.isNone then .ready else .done) jump))) := fun jump W3 hk3 => by
        have hl3 := hk3.keep _ _ hl2 hnx
        have hr := run_endRound (P := Try.prog) jump hl3
        refine ⟨by rw [hr, hrc], hl3, World.putObj_heap_same (Array.getElem?_eq_some_iff.1 hl3).1, (World.putObj_heap_other hDl).trans (hk3.keep _ _ hk2 (hnD hi2 hk2)), ?_⟩
        exact (hx02.andThen hk3 (fun _ _ h => h) (fun b hb e => h6 b hb e)).andThen (kx_put _ _ _) (fun _ _ h => h) (fun b hb e => by omega)
      rintro e a3 W3 hp
      cases e with
      | normal =>
        obtain ⟨X', hi3, hk3, hs3⟩ := hp
        obtain ⟨hr, hl3, hl4, hk4, hx4⟩ := fin none W3 hk3
        refine ⟨_, _, hr, .inl ⟨rfl, fun b => X' b ∨ b = l, ⟨X', fun b => Iff.rfl, hI _ _ _ _ hi3 (Kc.put hl3 (by simp)) (below_putl _ _ (by omega)), hl4, hk4, hx4, fun b hb h => h6 b hb (hs3 b ?_ h)⟩, ?_, ?_⟩⟩
        · have := h5.size; have := hc2.size; omega
        · have e1 := hx2.andThen hk3 (Z := X) (fun b _ e => (h1 b).2 (.inr e)) (fun b _ e => (h1 b).2 (.inl e))
          exact e1.andThen (kx_put _ _ _) (fun _ _ h => h) (fun b _ e => (h1 b).2 (.inr e))
        · intro b hb h
          rcases h with h | h
          · exact (h1 b).2 (.inl (hs3 b (by have := hc2.size; omega) h))
          · exact (h1 b).2 (.inr h)
      | ret =>
        obtain ⟨hi3, hk3⟩ := hp
        obtain ⟨hr, hl3, hl4, hk4, hx4⟩ := fin (some .ret) W3 hk3
        exact ⟨_, _, hr, .inr ⟨rfl, .ret, hIx _ _ _ _ hi3 (Kc.put hl3 (by simp)) (below_putl _ _ (by omega)), hl4, hk4, hx4⟩⟩
      | exit id =>
        obtain ⟨hi3, hk3⟩ := hp
        obtain ⟨hr, hl3, hl4, hk4, hx4⟩ := fin (some (.exit id)) W3 hk3
        exact ⟨_, _, hr, .inr ⟨rfl, .exit id, hIx _ _ _ _ hi3 (Kc.put hl3 (by simp)) (below_putl _ _ (by omega)), hl4, hk4, hx4⟩⟩
      | goto t => exact hp.elim
      | panic ch => exact hp.elim
      | outgrown => exact hp.elim
    · exact ⟨X0, fun b => Iff.rfl, hI _ _ _ _ h0 (Kc.of_below hB1) hB1, hL1, hK1, Kx.of_whole hB1, fun _ _ h => h⟩
    · intro b o ob hb
      have h := hBX b o ob hb
      exact ⟨h.1, fun e => e.elim h.2 (fun e => by omega)⟩
    · -- behind the iterator
      rintro e W2 ⟨⟨u, rfl⟩, (⟨pre, X', hp, X₁, h1, h2, h3, h4, h5, h6⟩ | ⟨pre, hp, c, h2, h3, h4, h5⟩)⟩
      · have hend := run_endLoop (P := Try.prog) h3 (by rw [hrc]; simp)
        rw [hrc] at hend
        exact ⟨none, _, hend, hdone D pre X₁ _ hp (hI _ _ _ _ h2 (Kc.put h3 (by simp)) (below_putl _ _ (by omega))) (h5.andThen (kx_put _ _ _) (fun _ _ h => h) (fun b hb e => by omega)) (by omega) ((World.putObj_heap_other hDl).trans h4)⟩
      · have hend := run_endLoop (P := Try.prog) h3 (by rw [hrc]; simp)
        rw [hrc] at hend
        exact ⟨some c, _, hend, hstop D c pre _ hp (hIx _ _ _ _ h2 (Kc.put h3 (by simp)) (below_putl _ _ (by omega))) (h5.andThen (kx_put _ _ _) (fun _ _ h => h) (fun b hb e => by omega)) (by omega) ((World.putObj_heap_other hDl).trans h4)⟩
end Go.Proofs.Ytgknigjpdnfkdaa
