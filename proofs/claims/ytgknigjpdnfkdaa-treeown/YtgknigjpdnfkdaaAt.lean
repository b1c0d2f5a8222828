/-
  tree.At.
-/
import Derived.Test.YtgknigjpdnfkdaaAtReg
import Derived.Test.YtgknigjpdnfkdaaIdents
namespace Go.Proofs.Ytgknigjpdnfkdaa
open Go.RowKit
attribute [local go_sem] Oper.semAt_some
/-- between two rounds of At -/
structure AtI (f t : Int) (n0 b1 b2 b3 b4 : Nat) (pre : List El) (X : Nat → Prop) (W : World) (wv fv : Value) : Prop where
  c1 : W.heap[b1]? = some (.cells #[.int .i64 f] 3 (0, 0))
  c2 : W.heap[b2]? = some (.cells #[.int .i64 t] 3 (0, 0))
  c3 : W.heap[b3]? = some (.cells #[wv] 22 (0, 0))
  c4 : W.heap[b4]? = some (.cells #[fv] 22 (0, 0))
  st : (runW f t (pre.map El.key) ⟨[], [], false⟩).stop = false
  rw_ : RowN n0 (Bl n0) W wv (runW f t (pre.map El.key) ⟨[], [], false⟩).way
  rf : RowN n0 (Bl n0) W fv (runW f t (pre.map El.key) ⟨[], [], false⟩).found
  ap : wv.ownBlock = none ∨ wv.ownBlock ≠ fv.ownBlock
  x : ∀ b, X b ↔ b = b3 ∨ b = b4 ∨ wv.ownBlock = some b ∨ fv.ownBlock = some b
/-- a round has left the loop -/
def AtX (f t : Int) (n : Nd) (n0 b4 : Nat) (c : Code) (W : World) : Prop :=
  c = .exit 0 ∧ ∃ fv, W.heap[b4]? = some (.cells #[fv] 22 (0, 0)) ∧ RowN n0 (Bl n0) W fv (n.atR f t)
theorem RowN.kcl {base : Nat} {W W' : World} {v : Value} {l : List Nd} (h : RowN base (Bl base) W v l) (hk : Kc W W') (hb : Below base W W') : RowN base (Bl base) W' v l := by
  obtain ⟨vs, hl, ho, hs⟩ := h.ex
  refine ⟨vs, hl, ?_, fun i hi => (hs i hi).to' (X := fun b => base ≤ b) (Kx.of_below hb) (fun _ _ _ _ h => h) (fun b o ob _ h h' => by have : b < base := h.1; omega)⟩
  refine ⟨ho.1, ?_⟩
  rcases ho.2 with h0 | ⟨g, cap, cur, rfl, h1, h2, h3⟩
  · exact .inl h0
  · exact .inr ⟨g, cap, cur, rfl, h1, hk.keep _ _ _ _ h2, h3⟩
theorem AtI.to {f t : Int} {n0 b1 b2 b3 b4 : Nat} {pre : List El} {X : Nat → Prop} {W W' : World} {wv fv : Value} (h : AtI f t n0 b1 b2 b3 b4 pre X W wv fv) (hk : Kc W W') (hb : Below n0 W W') : AtI f t n0 b1 b2 b3 b4 pre X W' wv fv :=
  ⟨hk.keep _ _ _ _ h.c1, hk.keep _ _ _ _ h.c2, hk.keep _ _ _ _ h.c3, hk.keep _ _ _ _ h.c4, h.st, h.rw_.kcl hk hb, h.rf.kcl hk hb, h.ap, h.x⟩
theorem AtI.cells {f t : Int} {n0 b1 b2 b3 b4 : Nat} {pre : List El} {X : Nat → Prop} {W : World} {wv fv : Value} (h : AtI f t n0 b1 b2 b3 b4 pre X W wv fv) (b : Nat) (hb : X b) : ∃ cs t fz, W.heap[b]? = some (.cells cs t fz) := by
  rcases (h.x b).1 hb with rfl | rfl | e | e
  · exact ⟨_, _, _, h.c3⟩
  · exact ⟨_, _, _, h.c4⟩
  · exact row_cells h.rw_ e
  · exact row_cells h.rf e
theorem heap_old {w : World} {o : Obj} {b : Nat} {v : Obj} (h : w.heap[b]? = some v) : (w.alloc o).heap[b]? = some v :=
  (Below.heap_alloc _ _ _ (Array.getElem?_eq_some_iff.1 h).1).trans h
theorem RowN.ne {base : Nat} {K : BP} {W : World} {v : Value} {l : List Nd} (h : RowN base K W v l) {b : Nat} {cs : Array Value} {t : TypeId} {fz : Nat × Nat} (hc : W.heap[b]? = some (.cells cs t fz)) (ht : t ≠ 24) : v.ownBlock ≠ some b := fun e => by
  obtain ⟨vs, hl, ho, _⟩ := h.ex
  rcases ho.2 with ⟨rfl, _⟩ | ⟨g, cap, cur, rfl, h1, h2, h3⟩
  · simp [Value.ownBlock] at e
  · have e' : g = b := by simpa [Value.ownBlock] using e
    subst e'
    rw [hc] at h2
    simp at h2
    exact ht h2.2.1
theorem szL_le (M : Nat) (l : List Nd) (h : ∀ x ∈ l, x.sz ≤ M) : szL l ≤ l.length * M := by
  induction l with
  | nil => simp [szL_nil]
  | cons x r ih =>
    have h1 := h x (by simp)
    have h2 := ih (fun y hy => h y (by simp [hy]))
    rw [szL_cons, List.length_cons, Nat.succ_mul]
    omega
theorem atR_mem (f t : Int) (n : Nd) : ∀ x ∈ n.atR f t, x.sz ≤ n.sz := by
  induction n using Nd.ind3 with
  | h n ih =>
    intro x hx
    have h0 := n.sz_eq
    have : ∀ l : List Nd, (∀ y ∈ l, ∀ x ∈ y.atR f t, x.sz ≤ y.sz) → ∀ x ∈ atRL f t l, x.sz ≤ szL l := by
      intro l
      induction l with
      | nil => intro _ x h; simp [atRL_nil] at h
      | cons y r ihl =>
        intro h x hx
        rw [atRL_cons] at hx
        rw [szL_cons]
        split at hx
        · have := ihl (fun z hz => h z (by simp [hz])) x hx; omega
        · have := h y (by simp) x hx; omega
    have h1 := this n.kids ih
    rw [Nd.atR_eq] at hx
    split at hx
    · split at hx
      · simp at hx; rw [hx]; exact Nat.le_refl _
      · simp at hx
    · rcases List.mem_cons.1 hx with rfl | hx
      · exact Nat.le_refl _
      · have := h1 x hx; omega
theorem atR_sz (f t : Int) (n : Nd) (h : n.sz ≤ 1000) : szL (n.atR f t) ≤ 1000000 := by
  have h1 := szL_le 1000 (n.atR f t) (fun x hx => Nat.le_trans (atR_mem f t n x hx) h)
  have h2 := atR_len f t n
  have h3 := dep_le_sz n
  have h4 : (n.atR f t).length * 1000 ≤ 1000 * 1000 := Nat.mul_le_mul_right _ (by omega)
  omega
set_option maxRecDepth 100000 in
set_option maxHeartbeats 2000000 in
theorem at_any (f t : Int) (n : Nd) (hz : n.sz ≤ 1000) (w : World) (va : Value) (B : BP) (ha : SlV B w va n.kids) :
    Calls Try.prog 20 #[aggN n va, .int .i64 f, .int .i64 t] w fun e w' => ∃ a c, e = .returned (.slice a (n.atR f t).length c) ∧ SlV (Bf w.heap.size) w' (.slice a (n.atR f t).length c) (n.atR f t) ∧ Below w.heap.size w w' := by
  have hlow := ha.low
  obtain ⟨a1, c1, rfl, -, -⟩ := ha.open
  have hn := nodes_in n a1 n.kids.length c1
  have hFL := freshList_any (n.atR f t) (atR_sz f t n hz)
  have HFL : Hid (FlP (n.atR f t)) := ⟨hFL⟩
  have HAL : Hid ((n.atR f t).length ≤ 1000000) := ⟨by have := atR_len f t n; have := dep_le_sz n; omega⟩
  clear hFL
  simp only [aggN, encN] at hn ⊢
  refine (callsIn_wide (n := 3)).1 ?_
  refine callsIn_of_wp_marks Try.func20 rfl trivial ?_ rfl
  simp only [Try.ntmps20, List.size_toArray, List.length_cons, List.length_nil, Nat.reduceAdd, Nat.reduceSub, Array.replicate_succ, Array.replicate_zero, List.push_toArray, List.append_toArray, List.nil_append, List.cons_append]
  gi_wp2_with (refine ⟨trivial, ?_⟩; (try refine ⟨hwd _, ?_⟩); gi_at_call 36; refine (callsIn_wide.2 (hn _)).mono ?_; rintro e w' ⟨rfl, rfl⟩)
  obtain ⟨W0, hW0⟩ : ∃ y, ((((((w.alloc (.cells #[.int .i64 n.kind, .int .i64 n.fr, .int .i64 n.to, .string n.text, .slice a1 n.kids.length c1] 24)).alloc (.cells #[.int .i64 f] 3)).alloc (.cells #[.int .i64 t] 3)).alloc (.cells #[.slice none 0 0] 22)).alloc (.cells #[.slice none 0 0] 22)).alloc (.cells #[.int .i64 n.kind, .int .i64 n.fr, .int .i64 n.to, .string n.text, .slice a1 n.kids.length c1] 24)) = y := ⟨_, rfl⟩
  have hsz : W0.heap.size = w.heap.size + 6 := by rw [← hW0]; simp
  have hB0 : Below w.heap.size w W0 := by rw [← hW0]; exact bthen (below_alloc2 _ _ _) (bthen (below_alloc2 _ _ _) (below_alloc2 _ _ _))
  obtain ⟨b1, hb1⟩ : ∃ y, w.heap.size + 1 = y := ⟨_, rfl⟩
  obtain ⟨b2, hb2⟩ : ∃ y, b1 + 1 = y := ⟨_, rfl⟩
  obtain ⟨b3, hb3⟩ : ∃ y, b2 + 1 = y := ⟨_, rfl⟩
  obtain ⟨b4, hb4⟩ : ∃ y, b3 + 1 = y := ⟨_, rfl⟩
  obtain ⟨b5, hb5⟩ : ∃ y, b4 + 1 = y := ⟨_, rfl⟩
  have e1 : W0.heap[b1]? = some (.cells #[.int .i64 f] 3 (0, 0)) := by
    rw [← hW0]
    refine heap_old (heap_old (heap_old (heap_old ?_)))
    have := heap_alloc_new (w.alloc (.cells #[.int .i64 n.kind, .int .i64 n.fr, .int .i64 n.to, .string n.text, .slice a1 n.kids.length c1] 24)) (.cells #[.int .i64 f] 3)
    rwa [World.size_alloc, hb1] at this
  have e2 : W0.heap[b2]? = some (.cells #[.int .i64 t] 3 (0, 0)) := by
    rw [← hW0]
    refine heap_old (heap_old (heap_old ?_))
    have := heap_alloc_new ((w.alloc (.cells #[.int .i64 n.kind, .int .i64 n.fr, .int .i64 n.to, .string n.text, .slice a1 n.kids.length c1] 24)).alloc (.cells #[.int .i64 f] 3)) (.cells #[.int .i64 t] 3)
    rwa [World.size_alloc, World.size_alloc, hb1, hb2] at this
  have e3 : W0.heap[b3]? = some (.cells #[.slice none 0 0] 22 (0, 0)) := by
    rw [← hW0]
    refine heap_old (heap_old ?_)
    have := heap_alloc_new (((w.alloc (.cells #[.int .i64 n.kind, .int .i64 n.fr, .int .i64 n.to, .string n.text, .slice a1 n.kids.length c1] 24)).alloc (.cells #[.int .i64 f] 3)).alloc (.cells #[.int .i64 t] 3)) (.cells #[.slice none 0 0] 22)
    rwa [World.size_alloc, World.size_alloc, World.size_alloc, hb1, hb2, hb3] at this
  have e4 : W0.heap[b4]? = some (.cells #[.slice none 0 0] 22 (0, 0)) := by
    rw [← hW0]
    refine heap_old ?_
    have := heap_alloc_new ((((w.alloc (.cells #[.int .i64 n.kind, .int .i64 n.fr, .int .i64 n.to, .string n.text, .slice a1 n.kids.length c1] 24)).alloc (.cells #[.int .i64 f] 3)).alloc (.cells #[.int .i64 t] 3)).alloc (.cells #[.slice none 0 0] 22)) (.cells #[.slice none 0 0] 22)
    rwa [World.size_alloc, World.size_alloc, World.size_alloc, World.size_alloc, hb1, hb2, hb3, hb4] at this
  have e5 : W0.heap[b5]? = some (.cells (encN n (.slice a1 n.kids.length c1)) 24) := by
    rw [← hW0]
    have := heap_alloc_new (((((w.alloc (.cells #[.int .i64 n.kind, .int .i64 n.fr, .int .i64 n.to, .string n.text, .slice a1 n.kids.length c1] 24)).alloc (.cells #[.int .i64 f] 3)).alloc (.cells #[.int .i64 t] 3)).alloc (.cells #[.slice none 0 0] 22)).alloc (.cells #[.slice none 0 0] 22)) (.cells #[.int .i64 n.kind, .int .i64 n.fr, .int .i64 n.to, .string n.text, .slice a1 n.kids.length c1] 24)
    rwa [World.size_alloc, World.size_alloc, World.size_alloc, World.size_alloc, World.size_alloc, hb1, hb2, hb3, hb4, hb5] at this
  rw [hW0, hb1, hb2, hb3, hb4, hb5]
  clear hW0 hn ha
  have hS0 := hlow.kept hB0
  clear hlow
  refine range_any n (.slice a1 n.kids.length c1) (Bl w.heap.size) (fun b => b = b3 ∨ b = b4) b5 rfl rfl e5 hS0 (by have := dep_le_sz n; omega) (fun b o ob hb => ⟨by have : b < w.heap.size := hb; omega, fun e => by have : b < w.heap.size := hb; omega⟩)
    (fun pre X W => ∃ wv fv, AtI f t w.heap.size b1 b2 b3 b4 pre X W wv fv) (fun c _ W => AtX f t n w.heap.size b4 c W) (fun pre X A A' h hk hb => ?hI) (fun c _ A A' h hk hb => ?hIx) (fun pre X A h b hb => ?hIX) ⟨_, _, e1, e2, e3, e4, rfl, RowN.nil _ _ _, RowN.nil _ _ _, .inl rfl, fun b => by simp [Value.ownBlock]⟩
    (fun x => some (.cells (encN x.nd x.v) 24)) (fun x bk => { tmps := #[.agg #[.int .i64 n.kind, .int .i64 n.fr, .int .i64 n.to, .string n.text, .slice a1 n.kids.length c1], .int .i64 f, .int .i64 t, .pointer (some ⟨w.heap.size, 0, none⟩), .pointer (some ⟨b1, 0, none⟩), .pointer (some ⟨b2, 0, none⟩), .slice none 0 0, .pointer (some ⟨b3, 0, none⟩), .pointer (some ⟨b4, 0, none⟩), .int .i64 x.d, .pointer (some ⟨bk, 0, none⟩), .agg #[.int .i64 n.kind, .int .i64 n.fr, .int .i64 n.to, .string n.text, .slice a1 n.kids.length c1], .func (.func 41) #[] #[.pointer (some ⟨b5, 0, none⟩)], .int .i64 x.d, .agg #[.int .i64 x.nd.kind, .int .i64 x.nd.fr, .int .i64 x.nd.to, .string x.nd.text, .slice x.a x.nd.kids.length x.c], undef, undef, undef, undef, undef, undef, undef, undef, undef, undef, undef, undef, undef, undef, undef, undef, undef, undef, undef, undef, undef, undef, undef, undef, undef, undef], defers := [] }) ?assign ?body ?done ?stop
  case hI =>
    obtain ⟨wv, fv, h⟩ := h
    exact ⟨wv, fv, h.to hk (hb.mono (by omega))⟩
  case hIx =>
    obtain ⟨hc, fv, h1, h2⟩ := h
    exact ⟨hc, fv, hk.keep _ _ _ _ h1, h2.kcl hk (hb.mono (by omega))⟩
  case hIX =>
    obtain ⟨wv, fv, h⟩ := h
    exact h.cells b hb
  case assign =>
    intro m l x W K hK
    simp only [El.args, El.v, aggN, encN]
    gi_wp2
    exact hK
  case body =>
    rintro m l pre x X bk W ⟨wv, fv, hi⟩ hp hs hbx hob
    obtain ⟨hbk, hnk⟩ := hob _ rfl
    have hst := hi.st
    have hrw := hi.rw_
    have hrf := hi.rf
    have hwl := flat_way f t n pre x hp hst
    have hrun : runW f t ((pre ++ [x]).map El.key) ⟨[], [], false⟩ = stp f t (runW f t (pre.map El.key) ⟨[], [], false⟩) x.key := by
      rw [List.map_append, runW_append]; rfl
    have hall : x.d < (runW f t (pre.map El.key) ⟨[], [], false⟩).found.length → (runW f t (pre.map El.key) ⟨[], [], false⟩).found = n.atR f t := fun hlt => by
      obtain ⟨r, hr⟩ := hp
      rw [← runW_at f t n, ← hr, runW_append, hrun]
      have e5 : stp f t (runW f t (pre.map El.key) ⟨[], [], false⟩) x.key = { (runW f t (pre.map El.key) ⟨[], [], false⟩) with stop := true } := by
        have : x.key.1 < (runW f t (pre.map El.key) ⟨[], [], false⟩).found.length := hlt
        simp [stp, hst, this]
      rw [e5, runW_stop f t r { (runW f t (pre.map El.key) ⟨[], [], false⟩) with stop := true } rfl]
    obtain ⟨s, hs0⟩ : ∃ y, runW f t (pre.map El.key) ⟨[], [], false⟩ = y := ⟨_, rfl⟩
    rw [hs0] at hst hrw hrf hwl hrun hall
    obtain ⟨af, cf, rfl⟩ := hrf.slice
    have k4 := cell_of hi.c4 0
    have hdz : x.d + 1 ≤ n.dep := key_dep hp
    have hdz2 := dep_le_sz n
    simp only [List.getElem?_toArray, List.getElem?_cons_zero] at k4
    have HI : Hid (AtI f t w.heap.size b1 b2 b3 b4 pre X W wv (.slice af s.found.length cf)) := ⟨hi⟩
    have HRF : Hid (RowN w.heap.size (Bl w.heap.size) W (.slice af s.found.length cf) s.found) := ⟨hrf⟩
    have HRW : Hid (RowN w.heap.size (Bl w.heap.size) W wv s.way) := ⟨hrw⟩
    have HBK : Hid (W.heap[bk]? = some (.cells (encN x.nd x.v) 24)) := ⟨hbk⟩
    have HNK : Hid (¬ X bk) := ⟨hnk⟩
    have HS : Hid (SlV (Bl w.heap.size) W x.v x.nd.kids) := ⟨hs⟩
    have HRUN : Hid (runW f t ((pre ++ [x]).map El.key) ⟨[], [], false⟩ = stp f t s x.key) := ⟨hrun⟩
    have HALL : Hid (x.d < s.found.length → s.found = n.atR f t) := ⟨hall⟩
    have HST : Hid (s.stop = false) := ⟨hst⟩
    clear hi hrf hrw hbk hnk hs hrun hall hbx hob hp hs0 hst
    by_cases hlt : x.d < s.found.length
    · have hlt' : (x.d : Int) < (s.found.length : Int) := by omega
      gi_wp2
      refine ⟨⟨rfl, _, HI.out.c4, ?_⟩, Kx.refl _ _⟩
      rw [← HALL.out hlt]
      exact HRF.out
    · have hlt' : ¬ (x.d : Int) < (s.found.length : Int) := by omega
      gi_wp2
      rename_i Kq hKq
      have cont : ∀ (t19 t20 t21 t22 t23 t24 : Value) (W' : World) (g cap : Nat), PostA b3 w.heap.size x.d x s.way wv W W' g cap → Kq { tmps := #[.agg #[.int .i64 n.kind, .int .i64 n.fr, .int .i64 n.to, .string n.text, .slice a1 n.kids.length c1], .int .i64 f, .int .i64 t, .pointer (some ⟨w.heap.size, 0, none⟩), .pointer (some ⟨b1, 0, none⟩), .pointer (some ⟨b2, 0, none⟩), .slice none 0 0, .pointer (some ⟨b3, 0, none⟩), .pointer (some ⟨b4, 0, none⟩), .int .i64 x.d, .pointer (some ⟨bk, 0, none⟩), .agg #[.int .i64 n.kind, .int .i64 n.fr, .int .i64 n.to, .string n.text, .slice a1 n.kids.length c1], .func (.func 41) #[] #[.pointer (some ⟨b5, 0, none⟩)], .int .i64 x.d, .agg #[.int .i64 x.nd.kind, .int .i64 x.nd.fr, .int .i64 x.nd.to, .string x.nd.text, .slice x.a x.nd.kids.length x.c], .int .i64 x.d, .slice af s.found.length cf, .int .i64 s.found.length, .bool false, t19, t20, t21, t22, t23, t24, undef, undef, undef, undef, undef, undef, undef, undef, undef, undef, undef, undef, undef, undef, undef, undef], defers := [] } W' := by
        intro t19 t20 t21 t22 t23 t24 W' g cap hpo
        have hI := HI.out
        have n13 : wv.ownBlock ≠ some b1 := HRW.out.ne hI.c1 (by decide)
        have n23 : wv.ownBlock ≠ some b2 := HRW.out.ne hI.c2 (by decide)
        have n43 : wv.ownBlock ≠ some b4 := HRW.out.ne hI.c4 (by decide)
        have f33 : (Value.slice af s.found.length cf).ownBlock ≠ some b3 := HRF.out.ne hI.c3 (by decide)
        have d1 := hpo.keep.keep _ _ hI.c1 (fun h => h.elim (fun e => by omega) n13)
        have d2 := hpo.keep.keep _ _ hI.c2 (fun h => h.elim (fun e => by omega) n23)
        have d4 := hpo.keep.keep _ _ hI.c4 (fun h => h.elim (fun e => by omega) n43)
        have hxb : ¬ (bk = b3 ∨ wv.ownBlock = some bk) := fun h => HNK.out ((hI.x bk).2 (h.elim .inl (fun h => .inr (.inr (.inl h)))))
        have dk := hpo.keep.keep _ _ HBK.out hxb
        have rf' : RowN w.heap.size (Bl w.heap.size) W' (.slice af s.found.length cf) s.found := HRF.out.to hpo.keep (fun b hb e => by
          rcases e with e | e
          · exact f33 (e ▸ hb)
          · rcases hI.ap with h | h
            · rw [h] at e; cases e
            · exact h (e.trans hb.symm)) (fun b o ob _ h e => by
          have h2 : b < w.heap.size := h
          rcases e with e | e
          · omega
          · have := (HRW.out.lt b e).1; omega)
        have nfg : (Value.slice af s.found.length cf).ownBlock ≠ some g := fun e => by
          rcases hpo.at_ with h | h
          · rcases hI.ap with h3 | h3
            · rw [h3] at h; cases h
            · exact h3 (h.trans e.symm)
          · have := (HRF.out.lt g e).2; omega
        have hsub : ∀ b, b < W.heap.size → g = b → X b := fun b hb e => by
          rcases hpo.at_ with h | h
          · exact (hI.x b).2 (.inr (.inr (.inl (e ▸ h))))
          · omega
        have hstp : stp f t s x.key = { way := s.way.take x.d ++ [x.nd], found := if mt f t x.nd then s.way.take x.d ++ [x.nd] else s.found, stop := false } := by
          have h1 : ¬ x.key.1 < s.found.length := hlt
          simp only [stp, HST.out]
          rw [if_neg (by simp), if_neg h1]
          rfl
        have y1 := cell_of dk 1
        have y2 := cell_of dk 2
        have z1 := cell_of d1 0
        have z2 := cell_of d2 0
        simp only [encN, El.v, List.getElem?_toArray, List.getElem?_cons_zero, List.getElem?_cons_succ] at y1 y2 z1 z2
        have HPO : Hid (PostA b3 w.heap.size x.d x s.way wv W W' g cap) := ⟨hpo⟩
        have HD1 : Hid (W'.heap[b1]? = some (.cells #[.int .i64 f] 3 (0, 0))) := ⟨d1⟩
        have HD2 : Hid (W'.heap[b2]? = some (.cells #[.int .i64 t] 3 (0, 0))) := ⟨d2⟩
        have HD4 : Hid (W'.heap[b4]? = some (.cells #[.slice af s.found.length cf] 22 (0, 0))) := ⟨d4⟩
        have HRF' : Hid (RowN w.heap.size (Bl w.heap.size) W' (.slice af s.found.length cf) s.found) := ⟨rf'⟩
        have HNFG : Hid ((Value.slice af s.found.length cf).ownBlock ≠ some g) := ⟨nfg⟩
        have HSUB : Hid (∀ b, b < W.heap.size → g = b → X b) := ⟨hsub⟩
        have HSTP : Hid (runW f t ((pre ++ [x]).map El.key) ⟨[], [], false⟩ = { way := s.way.take x.d ++ [x.nd], found := if mt f t x.nd then s.way.take x.d ++ [x.nd] else s.found, stop := false }) := ⟨HRUN.out.trans hstp⟩
        clear hI n13 n23 n43 f33 d1 d2 d4 hxb dk rf' nfg hsub hstp hpo
        refine hKq _ _ ?_
        clear hKq
        by_cases hm : x.nd.fr = f ∧ x.nd.to = t
        rotate_left
        · have hmt : mt f t x.nd = false := decide_eq_false hm
          have fin : RpP (fun pre X W => ∃ wv fv, AtI f t w.heap.size b1 b2 b3 b4 pre X W wv fv) (fun c _ W => AtX f t n w.heap.size b4 c W) (pre ++ [x]) X W .normal { tmps := #[], defers := [] } W' := by
            refine ⟨fun b => b = b3 ∨ b = b4 ∨ g = b ∨ (Value.slice af s.found.length cf).ownBlock = some b, ⟨.slice (some ⟨g, 0, none⟩) (x.d + 1) cap, .slice af s.found.length cf, HD1.out, HD2.out, HPO.out.out, HD4.out, by rw [HSTP.out], by rw [HSTP.out]; exact HPO.out.row, by rw [HSTP.out]; simp only [hmt]; exact HRF'.out, .inr (fun e => HNFG.out (by rw [← e]; rfl)), fun b => by simp [Value.ownBlock]⟩, HPO.out.keep.mono (fun b _ h => (HI.out.x b).2 (h.elim .inl (fun h => .inr (.inr (.inl h))))), fun b hb h => ?_⟩
            rcases h with h | h | h | h
            · exact (HI.out.x b).2 (.inl h)
            · exact (HI.out.x b).2 (.inr (.inl h))
            · exact HSUB.out b hb h
            · exact (HI.out.x b).2 (.inr (.inr (.inr h)))
          have HF : Hid _ := ⟨fin⟩
          clear fin
          by_cases h1 : x.nd.fr = f
          · have h1' : (x.nd.fr == f) = true := by simp [h1]
            have h2' : (x.nd.to == t) = false := by simp; exact fun h2 => hm ⟨h1, h2⟩
            clear h1 hm
            gi_wp2
            exact HF.out
          · have h1' : (x.nd.fr == f) = false := by simp [h1]
            clear h1 hm
            gi_wp2
            exact HF.out
        · have hmt : mt f t x.nd = true := decide_eq_true hm
          have h1' : (x.nd.fr == f) = true := by simp [hm.1]
          have h2' : (x.nd.to == t) = true := by simp [hm.2]
          clear hm
          have hlw : (s.way.take x.d ++ [x.nd]).length = x.d + 1 := by simp; omega
          have hPB : PreB b3 b4 w.heap.size (x.d + 1) (s.way.take x.d ++ [x.nd]) s.found g cap (.slice af s.found.length cf) W' := ⟨HPO.out.out, HD4.out, by have := HPO.out.keep.size; have := (Array.getElem?_eq_some_iff.1 HI.out.c1).1; omega, by omega, by omega, hlw, by omega, by omega, HPO.out.row, HRF'.out, HNFG.out, HRF'.out.ne HPO.out.out (by decide), HRF'.out.ne HD4.out (by decide)⟩
          have hq : ∀ a' W'' g2 cap2, PostB b4 w.heap.size (x.d + 1) (s.way.take x.d ++ [x.nd]) (.slice af s.found.length cf) W' W'' g2 cap2 → RpP (fun pre X W => ∃ wv fv, AtI f t w.heap.size b1 b2 b3 b4 pre X W wv fv) (fun c _ W => AtX f t n w.heap.size b4 c W) (pre ++ [x]) X W .normal a' W'' := by
            intro a' W'' g2 cap2 hpb
            have hW' : W.heap.size ≤ W'.heap.size := HPO.out.keep.size
            have n1 : (Value.slice af s.found.length cf).ownBlock ≠ some b1 := HRF'.out.ne HD1.out (by decide)
            have n2 : (Value.slice af s.found.length cf).ownBlock ≠ some b2 := HRF'.out.ne HD2.out (by decide)
            have n3 : (Value.slice af s.found.length cf).ownBlock ≠ some b3 := HRF'.out.ne HPO.out.out (by decide)
            have ng : (Value.slice (some ⟨g, 0, none⟩) (x.d + 1) cap).ownBlock ≠ some b4 := HPO.out.row.ne HD4.out (by decide)
            have nge : (Value.slice (some ⟨g, 0, none⟩) (x.d + 1) cap).ownBlock = some g := rfl
            have hgl := (HPO.out.row.lt g nge).2
            refine ⟨fun b => b = b3 ∨ b = b4 ∨ g = b ∨ g2 = b, ⟨.slice (some ⟨g, 0, none⟩) (x.d + 1) cap, .slice (some ⟨g2, 0, none⟩) (x.d + 1) cap2, hpb.keep.keep _ _ HD1.out (fun h => h.elim (fun e => by omega) n1), hpb.keep.keep _ _ HD2.out (fun h => h.elim (fun e => by omega) n2), hpb.keep.keep _ _ HPO.out.out (fun h => h.elim (fun e => by omega) n3), hpb.out, by rw [HSTP.out], ?_, ?_, .inr (fun e => ?_), fun b => by simp [Value.ownBlock]⟩, ?_, fun b hb h => ?_⟩
            · rw [HSTP.out]
              refine HPO.out.row.to hpb.keep (fun b hb e => ?_) (fun b o ob _ h e => ?_)
              · rcases e with e | e
                · exact ng (e ▸ hb)
                · rw [nge] at hb; exact HNFG.out (e.trans hb.symm)
              · have h2 : b < w.heap.size := h
                rcases e with e | e
                · omega
                · have := (HRF'.out.lt b e).1; omega
            · rw [HSTP.out]
              simp only [hmt]
              exact hpb.row
            · have e' : g = g2 := by simpa [Value.ownBlock] using e
              subst e'
              rcases hpb.at_ with h | h
              · exact HNFG.out h
              · omega
            · refine HPO.out.keep.andThen hpb.keep (fun b _ h => (HI.out.x b).2 (h.elim .inl (fun h => .inr (.inr (.inl h))))) (fun b _ h => (HI.out.x b).2 (h.elim (fun h => .inr (.inl h)) (fun h => .inr (.inr (.inr h)))))
            · rcases h with h | h | h | h
              · exact (HI.out.x b).2 (.inl h)
              · exact (HI.out.x b).2 (.inr (.inl h))
              · exact HSUB.out b hb h
              · rcases hpb.at_ with h3 | h3
                · exact (HI.out.x b).2 (.inr (.inr (.inr (h ▸ h3))))
                · omega
          have HPB : Hid _ := ⟨hPB⟩
          have HQ : Hid _ := ⟨hq⟩
          clear hPB hq
          gi_wp2
          refine round_region (SB b3 g (x.d + 1) cap) (noDefer (by rfl)) (fun _ _ h => h) ?_
          obtain ⟨vsf, hlf, hof, _⟩ := HRF'.out.ex
          rcases hof.2 with ⟨h0, h00⟩ | ⟨gf, cf', cur, h0, _⟩
          · have e1 : af = none := by simp at h0; exact h0.1
            have e2 : cf = 0 := by simp at h0; exact h0.2.2
            subst e1 e2
            rw [h00] at HPB HQ
            exact at_r8_nil _ (fun _ _ _ _ _ h => h) _ _ _ _ _ _ _ _ _ _ _ _ _ _ _ _ _ _ _ _ _ _ _ _ _ _ _ _ _ _ _ _ _ _ _ _ _ _ _ _ _ _ _ _ _ _ _ W' HPB.out (fun a' W'' g2 cap2 h => HQ.out a' W'' g2 cap2 h)
          · have e1 : af = some ⟨gf, 0, none⟩ := by simp at h0; exact h0.1
            subst e1
            exact at_r8_some _ (fun _ _ _ _ _ h => h) _ _ _ _ _ _ _ _ _ _ _ _ _ _ _ _ _ _ _ _ _ _ _ _ _ _ _ _ _ _ _ _ _ _ _ _ _ _ _ _ _ _ _ _ _ _ _ gf cf W' HPB.out (fun a' W'' g2 cap2 h => HQ.out a' W'' g2 cap2 h)
      have hPA : ∀ (hbw : wv.ownBlock ≠ some bk), PreA b3 bk w.heap.size x.d x s.way wv W := fun hbw =>
        ⟨HBK.out, HI.out.c3, HS.out, by have := (Array.getElem?_eq_some_iff.1 HI.out.c1).1; omega, by omega, hwl, by omega, HRW.out, hbw, HRW.out.ne HI.out.c3 (by decide)⟩
      have hPA' := hPA (fun h => HNK.out ((HI.out.x bk).2 (.inr (.inr (.inl h)))))
      refine round_region (SI bk x) (noDefer (by rfl)) (fun _ _ h => h) ?_
      obtain ⟨vsw, hlw, how, _⟩ := HRW.out.ex
      rcases how.2 with ⟨h0, h00⟩ | ⟨gw, cw, cur, h0, _, _, hcw, _⟩
      · subst h0
        have hsw : s.way = [] := List.eq_nil_of_length_eq_zero h00
        have hx0 : x.d = 0 := by omega
        rw [hsw, hx0] at hPA' cont
        rw [hx0]
        exact at_r6_nil _ (fun _ _ _ _ _ h => h) _ _ _ _ _ _ _ _ _ _ _ _ _ _ _ _ _ _ _ _ _ _ _ _ _ _ _ _ _ _ _ _ _ _ _ _ _ _ _ _ _ _ W hPA' (fun t19 t20 t21 t22 t23 t24 W' g cap h => cont t19 t20 t21 t22 t23 t24 W' g cap h)
      · subst h0
        exact at_r6_some _ (fun _ _ _ _ _ h => h) _ _ _ _ _ _ _ _ _ _ _ _ _ _ _ _ _ _ _ _ _ _ _ _ _ _ _ _ _ _ _ _ _ _ _ _ _ _ _ _ _ _ _ _ gw cw W hPA' (by omega) (fun t19 t20 t21 t22 t23 t24 W' g cap h => cont t19 t20 t21 t22 t23 t24 W' g cap h)
  case done =>
    rintro D pre X W hp ⟨wv, fv, hi⟩ hK hD hDd
    have hr := hi.rf
    rw [hp, runW_at] at hr
    have HC4 := hi.c4
    obtain ⟨a2, c2, rfl⟩ := hr.slice
    have HRR : Hid (RowN w.heap.size (Bl w.heap.size) W (.slice a2 (n.atR f t).length c2) (n.atR f t)) := ⟨hr⟩
    clear hi hr
    have hc' := cell_of HC4 0
    simp only [List.getElem?_toArray, List.getElem?_cons_zero] at hc'
    have FL := HFL.out W (.slice a2 (n.atR f t).length c2) (fun _ _ _ => True) (HRR.out.read (by have := HAL.out; omega) (fun _ _ _ _ _ => trivial) (fun _ _ _ _ _ => trivial))
    have hWs := hK.size
    have HB : Hid (Below w.heap.size w W) := ⟨hB0.trans (hK.below (by omega) (fun b hb e => by omega))⟩
    clear HC4 hK hp
    gi_wp2_with (refine ⟨trivial, ?_⟩; (try refine ⟨hwd _, ?_⟩); gi_at_call 38; refine (callsIn_wide.2 FL).mono ?_; clear FL; rintro e W1 ⟨a3, c3, rfl, hS1, hB1⟩)
    have hDd1 := (hB1.block D (Array.getElem?_eq_some_iff.1 hDd).1).trans hDd
    refine ⟨by simp, .inl ⟨_, _, rfl, run_takeDeferred hDd1, ?_⟩⟩
    refine ⟨_, results_tmp rfl _ _ _, a3, c3, rfl, ?_, below_put (bthen HB.out hB1) (by omega)⟩
    exact (hS1.kc (Kc.put hDd1 (by simp)) bf_cells).with (fun b o ob _ h => Bf.mono (by omega) b o ob h)
  case stop =>
    rintro D c pre W hp ⟨rfl, fv, HC4, hr⟩ hK hD hDd
    obtain ⟨a2, c2, rfl⟩ := hr.slice
    have HRR : Hid (RowN w.heap.size (Bl w.heap.size) W (.slice a2 (n.atR f t).length c2) (n.atR f t)) := ⟨hr⟩
    clear hr
    have hc' := cell_of HC4 0
    simp only [List.getElem?_toArray, List.getElem?_cons_zero] at hc'
    have FL := HFL.out W (.slice a2 (n.atR f t).length c2) (fun _ _ _ => True) (HRR.out.read (by have := HAL.out; omega) (fun _ _ _ _ _ => trivial) (fun _ _ _ _ _ => trivial))
    have hWs := hK.size
    have HB : Hid (Below w.heap.size w W) := ⟨hB0.trans (hK.below (by omega) (fun b hb e => by omega))⟩
    clear HC4 hK hp
    gi_wp2_with (refine ⟨trivial, ?_⟩; (try refine ⟨hwd _, ?_⟩); gi_at_call 38; refine (callsIn_wide.2 FL).mono ?_; clear FL; rintro e W1 ⟨a3, c3, rfl, hS1, hB1⟩)
    have hDd1 := (hB1.block D (Array.getElem?_eq_some_iff.1 hDd).1).trans hDd
    refine ⟨by simp, .inl ⟨_, _, rfl, run_takeDeferred hDd1, ?_⟩⟩
    refine ⟨_, results_tmp rfl _ _ _, a3, c3, rfl, ?_, below_put (bthen HB.out hB1) (by omega)⟩
    exact (hS1.kc (Kc.put hDd1 (by simp)) bf_cells).with (fun b o ob _ h => Bf.mono (by omega) b o ob h)
end Go.Proofs.Ytgknigjpdnfkdaa
