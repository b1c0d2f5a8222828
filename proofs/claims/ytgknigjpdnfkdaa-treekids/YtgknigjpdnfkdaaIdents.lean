/-
  tree.Idents.
-/
import Derived.Test.YtgknigjpdnfkdaaIdReg
namespace Go.Proofs.Ytgknigjpdnfkdaa
open Go.RowKit
attribute [local go_sem] Oper.semAt_some
/-- the identifiers of those that have come -/
def idk (l : List (Nat × Nd)) : List Nd := (l.map Prod.snd).filter (fun x => x.kind == 40)
def idl (l : List El) : List Nd := idk (l.map El.key)
theorem idl_snoc (l : List El) (x : El) : idl (l ++ [x]) = if x.nd.kind = 40 then idl l ++ [x.nd] else idl l := by
  unfold idl idk
  simp only [List.map_append, List.filter_append]
  by_cases h : x.nd.kind = 40 <;> simp [El.key, h]
theorem idk_len (l : List (Nat × Nd)) : (idk l).length ≤ l.length := by
  unfold idk
  refine Nat.le_trans (List.length_filter_le _ _) ?_
  simp
theorem flat_mem (n : Nd) : ∀ d e, e ∈ n.flat d → e.2.sz ≤ n.sz := by
  induction n using Nd.ind3 with
  | h n ih =>
    intro d e he
    rw [Nd.flat_eq] at he
    rcases List.mem_cons.1 he with rfl | he
    · exact Nat.le_refl _
    · have h0 := n.sz_eq
      have : ∀ l : List Nd, (∀ x ∈ l, ∀ d e, e ∈ x.flat d → e.2.sz ≤ x.sz) → e ∈ flatL l (d + 1) → e.2.sz ≤ szL l := by
        intro l
        induction l with
        | nil => intro _ h; simp [flatL_nil] at h
        | cons x r ihl =>
          intro h h2
          rw [flatL_cons, List.mem_append] at h2
          rw [szL_cons]
          rcases h2 with h2 | h2
          · have := h x (by simp) _ _ h2; omega
          · have := ihl (fun y hy => h y (by simp [hy])) h2; omega
      have := this n.kids ih he
      omega
theorem key_sz {pre : List El} {x : El} {n : Nd} {d : Nat} (h : (pre ++ [x]).map El.key <+: n.flat d) : x.nd.sz ≤ n.sz := by
  have h1 := flat_mem n d x.key (h.subset (by simp))
  exact h1
theorem idl_len (l : List El) : (idl l).length ≤ l.length := by
  unfold idl idk
  refine Nat.le_trans (List.length_filter_le _ _) ?_
  simp
/-- between two rounds of Idents: the variable out in its box, its row -/
def IdI (n0 : Nat) (pre : List El) (X : Nat → Prop) (W : World) : Prop :=
  ∃ v, W.heap[n0 + 1]? = some (.cells #[v] 22 (0, 0)) ∧ RowN n0 (Bf n0) W v (idl pre) ∧ ∀ b, X b ↔ b = n0 + 1 ∨ v.ownBlock = some b
/-- a row is kept where all cells are -/
theorem SlV.kc {B : BP} {W W' : World} {v : Value} {l : List Nd} (h : SlV B W v l) (hk : Kc W W') (hB : ∀ b o ob, B b o ob → ∃ cs t fz, ob = .cells cs t fz) : SlV B W' v l :=
  h.to' (X := fun b => ¬ ∃ cs t fz, W.heap[b]? = some (.cells cs t fz)) ⟨hk.os, hk.tape, hk.output, hk.size, fun b o h1 h2 => by
    obtain ⟨cs, t, fz, e⟩ := Classical.not_not.1 h2
    rw [h1] at e
    cases e
    exact hk.keep _ _ _ _ h1⟩ (fun _ _ _ _ h => h) (fun b o ob h1 h2 h3 => by
    obtain ⟨cs, t, fz, rfl⟩ := hB b o ob h2
    exact h3 ⟨cs, t, fz, h1⟩)
theorem RowN.kc {base : Nat} {K : BP} {W W' : World} {v : Value} {l : List Nd} (h : RowN base K W v l) (hk : Kc W W') (hB : ∀ b o ob, K b o ob → ∃ cs t fz, ob = .cells cs t fz) : RowN base K W' v l := by
  obtain ⟨vs, hl, ho, hs⟩ := h.ex
  refine ⟨vs, hl, ?_, fun i hi => (hs i hi).kc hk (fun b o ob h => hB b o ob h.1)⟩
  refine ⟨ho.1, ?_⟩
  rcases ho.2 with h0 | ⟨g, cap, cur, rfl, h1, h2, h3⟩
  · exact .inl h0
  · exact .inr ⟨g, cap, cur, rfl, h1, hk.keep _ _ _ _ h2, h3⟩
theorem bf_cells {n0 : Nat} : ∀ b o ob, Bf n0 b o ob → ∃ cs t fz, ob = .cells cs t fz := fun _ _ _ h => by
  obtain ⟨_, _, cs, rfl⟩ := h
  exact ⟨cs, 24, (0, 0), rfl⟩
theorem IdI.to {n0 : Nat} {pre : List El} {X : Nat → Prop} {W W' : World} (h : IdI n0 pre X W) (hk : Kc W W') : IdI n0 pre X W' := by
  obtain ⟨v, h1, h2, h3⟩ := h
  exact ⟨v, hk.keep _ _ _ _ h1, h2.kc hk bf_cells, h3⟩
theorem row_cells {base : Nat} {K : BP} {W : World} {v : Value} {l : List Nd} (h : RowN base K W v l) {b : Nat} (hb : v.ownBlock = some b) : ∃ cs t fz, W.heap[b]? = some (.cells cs t fz) := by
  obtain ⟨vs, hl, ho, _⟩ := h.ex
  rcases ho.2 with ⟨rfl, _⟩ | ⟨g, cap, cur, rfl, h1, h2, h3⟩
  · simp [Value.ownBlock] at hb
  · have e : g = b := by simpa [Value.ownBlock] using hb
    subst e
    exact ⟨_, _, _, h2⟩
theorem IdI.cells {n0 : Nat} {pre : List El} {X : Nat → Prop} {W : World} (h : IdI n0 pre X W) (b : Nat) (hb : X b) : ∃ cs t fz, W.heap[b]? = some (.cells cs t fz) := by
  obtain ⟨v, h1, h2, h3⟩ := h
  rcases (h3 b).1 hb with rfl | e
  · exact ⟨_, _, _, h1⟩
  · exact row_cells h2 e
set_option maxRecDepth 100000 in
set_option maxHeartbeats 2000000 in
theorem idents_any (n : Nd) (hz : n.sz ≤ 1000000) (w : World) (va : Value) (B : BP) (ha : SlV B w va n.kids) :
    Calls Try.prog 24 #[aggN n va] w fun e w' => ∃ a c, e = .returned (.slice a (idk (n.flat 0)).length c) ∧ SlV (Bf w.heap.size) w' (.slice a (idk (n.flat 0)).length c) (idk (n.flat 0)) ∧ Below w.heap.size w w' := by
  have hlow := ha.low
  obtain ⟨a1, c1, rfl, -, -⟩ := ha.open
  have hn := nodes_in n a1 n.kids.length c1
  simp only [aggN, encN] at hn ⊢
  refine (callsIn_wide (n := 3)).1 ?_
  refine callsIn_of_wp_marks Try.func24 rfl trivial ?_ rfl
  simp only [Try.ntmps24, List.size_toArray, List.length_cons, List.length_nil, Nat.reduceAdd, Nat.reduceSub, Array.replicate_succ, Array.replicate_zero, List.push_toArray, List.append_toArray, List.nil_append, List.cons_append]
  gi_wp2_with (refine ⟨trivial, ?_⟩; (try refine ⟨hwd _, ?_⟩); gi_at_call 36; refine (callsIn_wide.2 (hn _)).mono ?_; rintro e w' ⟨rfl, rfl⟩)
  obtain ⟨W0, hW0⟩ : ∃ W0, (((w.alloc (.cells #[.int .i64 n.kind, .int .i64 n.fr, .int .i64 n.to, .string n.text, .slice a1 n.kids.length c1] 24)).alloc (.cells #[.slice none 0 0] 22)).alloc (.cells #[.int .i64 n.kind, .int .i64 n.fr, .int .i64 n.to, .string n.text, .slice a1 n.kids.length c1] 24)) = W0 := ⟨_, rfl⟩
  have hsz : W0.heap.size = w.heap.size + 3 := by rw [← hW0]; simp
  have hB0 : Below w.heap.size w W0 := by rw [← hW0]; exact bthen (below_alloc2 _ _ _) (below_alloc _ _)
  have hc1 : W0.heap[w.heap.size + 1]? = some (.cells #[.slice none 0 0] 22 (0, 0)) := by
    rw [← hW0]
    refine (Below.heap_alloc _ _ _ (by simp)).trans ?_
    have := heap_alloc_new (w.alloc (.cells #[.int .i64 n.kind, .int .i64 n.fr, .int .i64 n.to, .string n.text, .slice a1 n.kids.length c1] 24)) (.cells #[.slice none 0 0] 22)
    simpa using this
  have hc2 : W0.heap[w.heap.size + 1 + 1]? = some (.cells (encN n (.slice a1 n.kids.length c1)) 24) := by
    rw [← hW0]
    have := heap_alloc_new ((w.alloc (.cells #[.int .i64 n.kind, .int .i64 n.fr, .int .i64 n.to, .string n.text, .slice a1 n.kids.length c1] 24)).alloc (.cells #[.slice none 0 0] 22)) (.cells #[.int .i64 n.kind, .int .i64 n.fr, .int .i64 n.to, .string n.text, .slice a1 n.kids.length c1] 24)
    simpa [encN] using this
  rw [hW0]
  clear hW0 hn ha
  have hS0 := hlow.kept hB0
  clear hlow
  refine range_any n (.slice a1 n.kids.length c1) (Bl w.heap.size) (fun b => b = w.heap.size + 1) (w.heap.size + 1 + 1) rfl rfl hc2 hS0 (by have := dep_le_sz n; omega) (fun b o ob hb => ⟨by have : b < w.heap.size := hb; omega, fun e => by have : b < w.heap.size := hb; omega⟩)
    (IdI w.heap.size) (fun _ _ _ => False) (fun pre X A A' h hk _ => h.to hk) (fun _ _ _ _ h _ _ => h) (fun pre X A h b hb => h.cells b hb) ⟨_, hc1, RowN.nil _ _ _, fun b => by simp [Value.ownBlock]⟩
    (fun x => some (.cells (encN x.nd x.v) 24)) (fun x bk => { tmps := #[.agg #[.int .i64 n.kind, .int .i64 n.fr, .int .i64 n.to, .string n.text, .slice a1 n.kids.length c1], .pointer (some ⟨w.heap.size, 0, none⟩), .slice none 0 0, .pointer (some ⟨w.heap.size + 1, 0, none⟩), undef, .pointer (some ⟨bk, 0, none⟩), .agg #[.int .i64 n.kind, .int .i64 n.fr, .int .i64 n.to, .string n.text, .slice a1 n.kids.length c1], .func (.func 41) #[] #[.pointer (some ⟨w.heap.size + 1 + 1, 0, none⟩)], .int .i64 x.d, .agg #[.int .i64 x.nd.kind, .int .i64 x.nd.fr, .int .i64 x.nd.to, .string x.nd.text, .slice x.a x.nd.kids.length x.c], undef, undef, undef, undef, undef, undef, undef, undef, undef, undef, undef], defers := [] }) ?assign ?body ?done ?stop
  case assign =>
    intro m l x W K hK
    simp only [El.args, El.v, aggN, encN]
    gi_wp2
    exact hK
  case body =>
    rintro m l pre x X bk W hi hp hs hbx hob
    obtain ⟨hbk, hnk⟩ := hob _ rfl
    have hl := key_len hp
    have HZX : Hid (x.nd.sz ≤ 1000000) := ⟨by have := key_sz hp; omega⟩
    have k0 := cell_of hbk 0
    simp only [encN, El.v, List.getElem?_toArray, List.getElem?_cons_zero] at k0
    have HI : Hid (IdI w.heap.size pre X W) := ⟨hi⟩
    have HS : Hid (SlV (Bl w.heap.size) W x.v x.nd.kids) := ⟨hs⟩
    have HBK : Hid (W.heap[bk]? = some (.cells (encN x.nd x.v) 24)) := ⟨hbk⟩
    have HNK : Hid (¬ X bk) := ⟨hnk⟩
    have HBX : Hid (∀ b o ob, Bl w.heap.size b o ob → ¬ X b) := ⟨hbx⟩
    clear hi hs hbk hnk hbx hob hp
    by_cases hk : x.nd.kind = 40
    rotate_left
    · have hk' : (x.nd.kind == 40) = false := by simp [hk]
      gi_wp2
      refine ⟨X, ?_, Kx.refl _ _, fun _ _ h => h⟩
      obtain ⟨v, h1, h2, h3⟩ := HI.out
      exact ⟨v, h1, by rw [idl_snoc, if_neg hk]; exact h2, h3⟩
    · have hk' : (x.nd.kind == 40) = true := by simp [hk]
      gi_wp2
      obtain ⟨v, h1, h2, h3⟩ := HI.out
      obtain ⟨a2, c2, rfl⟩ := h2.slice
      obtain ⟨vs, hvl, hown, hks⟩ := h2.ex
      have hnb : ∀ b, (Value.slice a2 (idl pre).length c2).ownBlock = some b → X b := fun b h => (h3 b).2 (.inr h)
      have hlen := idl_len pre
      have hP : PreI (w.heap.size + 1) bk w.heap.size (idl pre).length x (idl pre) vs a2 c2 W := by
        refine ⟨HBK.out, h1, HS.out, HZX.out, ?_, by omega, rfl, hvl, hown, hks, fun h => HNK.out (hnb _ h), fun h => ?_⟩
        · have := (Array.getElem?_eq_some_iff.1 h1).1; omega
        · rcases hown.2 with ⟨h4, _⟩ | ⟨g, cap, cur, h4, _, h5, _⟩
          · rw [h4] at h; simp [Value.ownBlock] at h
          · rw [h4] at h
            have e : g = w.heap.size + 1 := by simpa [Value.ownBlock] using h
            rw [e, h1] at h5
            simp at h5
      refine round_region (SI bk x) (noDefer (by rfl)) (fun _ _ h => h) ?_
      refine idents_region _ (fun _ _ _ _ _ h => h) _ _ _ _ _ _ _ _ _ _ _ _ _ _ _ _ _ _ _ _ bk _ _ x _ vs a2 c2 W hP ?_
      intro a' W' g cap hpo
      refine ⟨fun b => b = w.heap.size + 1 ∨ b = g, ⟨_, hpo.out, ?_, fun b => by simp [Value.ownBlock, eq_comm]⟩, ?_, ?_⟩
      · rw [idl_snoc, if_pos hk]; exact hpo.row
      · exact hpo.keep.mono (fun b _ h => (h3 b).2 h)
      · intro b hb h
        rcases h with h | h
        · exact (h3 b).2 (.inl h)
        · rcases hpo.at_ with h4 | h4
          · rw [h]; exact hnb _ h4
          · omega
  case done =>
    rintro D pre X W hp hi hK hD hDd
    obtain ⟨v, hc, hr, hX⟩ := hi
    have hlen : idl pre = idk (n.flat 0) := by rw [← hp]; rfl
    rw [hlen] at hr
    obtain ⟨a2, c2, rfl⟩ := hr.slice
    have hc' := cell_of hc 0
    simp only [List.getElem?_toArray, List.getElem?_cons_zero] at hc'
    have HB : Hid (Below w.heap.size w W) := ⟨hB0.trans (hK.below (by omega) (fun b hb e => by omega))⟩
    have HR : Hid (RowN w.heap.size (Bf w.heap.size) W (.slice a2 (idk (n.flat 0)).length c2) (idk (n.flat 0))) := ⟨hr⟩
    clear hc hX hK hp hr hlen
    gi_wp2
    refine ⟨by simp, .inl ⟨_, _, rfl, run_takeDeferred hDd, ?_⟩⟩
    refine ⟨_, results_tmp rfl _ _ _, a2, c2, rfl, ?_, below_put HB.out (by omega)⟩
    have h1 : SlV (Bf w.heap.size) W (.slice a2 (idk (n.flat 0)).length c2) (idk (n.flat 0)) := HR.out.read (by have := idk_len (n.flat 0); rw [flat_len] at this; omega) (fun _ _ _ _ h => h) (fun b cur _ h1 _ => ⟨h1, rfl, cur, rfl⟩)
    exact h1.kc (Kc.put hDd (by simp)) bf_cells
  case stop =>
    rintro D c pre W _ h
    exact h.elim
end Go.Proofs.Ytgknigjpdnfkdaa
