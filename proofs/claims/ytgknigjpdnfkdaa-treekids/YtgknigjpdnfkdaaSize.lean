/-
  tree.Size and tree.Depth.
-/
import Derived.Test.YtgknigjpdnfkdaaLaw
namespace Go.Proofs.Ytgknigjpdnfkdaa
open Go.RowKit
attribute [local go_sem] Oper.semAt_some
theorem hwd : ∀ k : Nat, (Fence.wide.depth.isSome = true → 1 ≤ k) := fun k h => by simp [Fence.wide] at h
/-- the blocks that lay there ahead of the call -/
def Bl (n0 : Nat) : BP := fun b _ _ => b < n0
theorem SlV.low {B : BP} {W : World} {v : Value} {l : List Nd} (h : SlV B W v l) : SlV (Bl W.heap.size) W v l :=
  h.with (fun _ _ _ h1 _ => (Array.getElem?_eq_some_iff.1 h1).1)
theorem key_len {pre : List El} {x : El} {n : Nd} {d : Nat} (h : (pre ++ [x]).map El.key <+: n.flat d) : pre.length + 1 ≤ n.sz := by
  have h1 := h.length_le
  rw [flat_len] at h1
  simpa using h1
theorem below_put {n D : Nat} {A W : World} {o : Obj} (h : Below n A W) (hD : n ≤ D) : Below n A (W.putObj D o) :=
  ⟨h.os, h.tape, h.output, by simpa [World.putObj] using h.size, fun k hk => (World.putObj_heap_other (by omega)).trans (h.block k hk)⟩
set_option maxRecDepth 100000 in
set_option maxHeartbeats 2000000 in
theorem size_any (n : Nd) (hz : n.sz ≤ 1000000) (w : World) (va : Value) (B : BP) (ha : SlV B w va n.kids) :
    Calls Try.prog 14 #[aggN n va] w fun e w' => e = .returned (.int .i64 n.sz) ∧ Below w.heap.size w w' := by
  have hlow := ha.low
  obtain ⟨a1, c1, rfl, -, -⟩ := ha.open
  have hn := nodes_in n a1 n.kids.length c1
  simp only [aggN, encN] at hn ⊢
  refine (callsIn_wide (n := 3)).1 ?_
  refine callsIn_of_wp_marks Try.func14 rfl trivial ?_ rfl
  simp only [Try.ntmps14, List.size_toArray, List.length_cons, List.length_nil, Nat.reduceAdd, Nat.reduceSub, Array.replicate_succ, Array.replicate_zero, List.push_toArray, List.append_toArray, List.nil_append, List.cons_append]
  gi_wp2_with (refine ⟨trivial, ?_⟩; (try refine ⟨hwd _, ?_⟩); gi_at_call 36; refine (callsIn_wide.2 (hn _)).mono ?_; rintro e w' ⟨rfl, rfl⟩)
  obtain ⟨W0, hW0⟩ : ∃ W0, (((w.alloc (.cells #[.int .i64 n.kind, .int .i64 n.fr, .int .i64 n.to, .string n.text, .slice a1 n.kids.length c1] 24)).alloc (.cells #[.int .i64 0] 3)).alloc (.cells #[.int .i64 n.kind, .int .i64 n.fr, .int .i64 n.to, .string n.text, .slice a1 n.kids.length c1] 24)) = W0 := ⟨_, rfl⟩
  have hsz : W0.heap.size = w.heap.size + 3 := by rw [← hW0]; simp
  have hB0 : Below w.heap.size w W0 := by rw [← hW0]; exact bthen (below_alloc2 _ _ _) (below_alloc _ _)
  have hc1 : W0.heap[w.heap.size + 1]? = some (.cells #[.int .i64 0] 3 (0, 0)) := by
    rw [← hW0]
    refine (Below.heap_alloc _ _ _ (by simp)).trans ?_
    have := heap_alloc_new (w.alloc (.cells #[.int .i64 n.kind, .int .i64 n.fr, .int .i64 n.to, .string n.text, .slice a1 n.kids.length c1] 24)) (.cells #[.int .i64 0] 3)
    simpa using this
  have hc2 : W0.heap[w.heap.size + 1 + 1]? = some (.cells (encN n (.slice a1 n.kids.length c1)) 24) := by
    rw [← hW0]
    have := heap_alloc_new ((w.alloc (.cells #[.int .i64 n.kind, .int .i64 n.fr, .int .i64 n.to, .string n.text, .slice a1 n.kids.length c1] 24)).alloc (.cells #[.int .i64 0] 3)) (.cells #[.int .i64 n.kind, .int .i64 n.fr, .int .i64 n.to, .string n.text, .slice a1 n.kids.length c1] 24)
    simpa [encN] using this
  rw [hW0]
  clear hW0 hn ha
  have hS0 := hlow.kept hB0
  clear hlow
  refine range_any n (.slice a1 n.kids.length c1) (Bl w.heap.size) (fun b => b = w.heap.size + 1) (w.heap.size + 1 + 1) rfl rfl hc2 hS0 (by have := dep_le_sz n; omega) (fun b o ob hb => ⟨by have : b < w.heap.size := hb; omega, fun e => by have : b < w.heap.size := hb; omega⟩)
    (fun pre X W => (∀ b, X b ↔ b = w.heap.size + 1) ∧ W.heap[w.heap.size + 1]? = some (.cells #[.int .i64 pre.length] 3 (0, 0))) (fun _ _ _ => False) (fun pre X A A' h hk _ => ⟨h.1, hk.keep _ _ _ _ h.2⟩) (fun _ _ _ _ h _ _ => h) (fun pre X A h b hb => by rw [(h.1 b).1 hb]; exact ⟨_, _, _, h.2⟩) ⟨fun b => Iff.rfl, hc1⟩
    (fun _ => none) (fun x _ => { tmps := #[.agg #[.int .i64 n.kind, .int .i64 n.fr, .int .i64 n.to, .string n.text, .slice a1 n.kids.length c1], .pointer (some ⟨w.heap.size, 0, none⟩), .int .i64 0, .pointer (some ⟨w.heap.size + 1, 0, none⟩), .agg #[.int .i64 n.kind, .int .i64 n.fr, .int .i64 n.to, .string n.text, .slice a1 n.kids.length c1], .func (.func 41) #[] #[.pointer (some ⟨w.heap.size + 1 + 1, 0, none⟩)], .int .i64 x.d, .agg #[.int .i64 x.nd.kind, .int .i64 x.nd.fr, .int .i64 x.nd.to, .string x.nd.text, .slice x.a x.nd.kids.length x.c], undef, undef, undef], defers := [] }) ?assign ?body ?done ?stop
  case assign =>
    intro m l x W K hK
    simp only [El.args, El.v, aggN, encN]
    gi_wp2
    simpa [lay] using hK
  case body =>
    rintro m l pre x X bk W ⟨hX, hc⟩ hp hs hbx hob
    have hl := key_len hp
    have hc' := cell_of hc 0
    have hf : W.frozen? ⟨w.heap.size + 1, 0, none⟩ = false := by simp [World.frozen?, hc]
    simp only [List.getElem?_toArray, List.getElem?_cons_zero] at hc'
    have HC : Hid (W.heap[w.heap.size + 1]? = some (.cells #[.int .i64 pre.length] 3 (0, 0))) := ⟨hc⟩
    have HX : Hid (∀ b, X b ↔ b = w.heap.size + 1) := ⟨hX⟩
    clear hc hX hob hbx hs hp
    gi_wp2
    refine ⟨X, ⟨HX.out, ?_⟩, (kx_set _ _ _).mono (fun b _ e => (HX.out b).2 e), fun b _ h => h⟩
    have := heap_setCell_same W (w.heap.size + 1) 0 _ 3 (.int .i64 ((pre.length : Int) + 1)) HC.out
    simpa using this
  case done =>
    rintro D pre X W hp ⟨hX, hc⟩ hK hD hDd
    have hlen : pre.length = n.sz := by
      have := congrArg List.length hp
      rw [flat_len] at this
      simpa using this
    rw [hlen] at hc
    have hc' := cell_of hc 0
    simp only [List.getElem?_toArray, List.getElem?_cons_zero] at hc'
    have HB : Hid (Below w.heap.size w W) := ⟨hB0.trans (hK.below (by omega) (fun b hb e => by omega))⟩
    clear hc hX hK hp
    gi_wp2
    refine ⟨by simp, .inl ⟨_, _, rfl, run_takeDeferred hDd, ?_⟩⟩
    exact ⟨_, results_tmp rfl _ _ _, rfl, below_put HB.out (by omega)⟩
  case stop =>
    rintro D c pre W _ h
    exact h.elim
/-- the deepest of those that have come -/
def mxd : List El → Nat
  | [] => 0
  | e :: r => max (e.d + 1) (mxd r)
def mxk : List (Nat × Nd) → Nat
  | [] => 0
  | e :: r => max (e.1 + 1) (mxk r)
theorem mxk_append (a b : List (Nat × Nd)) : mxk (a ++ b) = max (mxk a) (mxk b) := by
  induction a with
  | nil => simp [mxk]
  | cons x r ih => simp only [List.cons_append, mxk, ih]; omega
theorem mxd_mxk (l : List El) : mxd l = mxk (l.map El.key) := by
  induction l with
  | nil => rfl
  | cons x r ih => simp [mxd, mxk, ih, El.key]
theorem mxd_snoc (l : List El) (x : El) : mxd (l ++ [x]) = max (mxd l) (x.d + 1) := by
  rw [mxd_mxk, mxd_mxk, List.map_append, mxk_append]
  simp [mxk, El.key]
theorem mxk_flat (n : Nd) : ∀ d, mxk (n.flat d) = d + n.dep := by
  induction n using Nd.ind3 with
  | h n ih =>
    intro d
    rw [Nd.flat_eq, Nd.dep_eq]
    have : ∀ l : List Nd, (∀ x ∈ l, ∀ d, mxk (x.flat d) = d + x.dep) → max (d + 1) (mxk (flatL l (d + 1))) = d + 1 + depL l := by
      intro l
      induction l with
      | nil => intro _; simp [flatL_nil, depL_nil, mxk]
      | cons x r ihl =>
        intro h
        have h1 := h x (by simp) (d + 1)
        have h2 := ihl (fun y hy => h y (by simp [hy]))
        rw [flatL_cons, mxk_append, h1, depL_cons]
        omega
    have h3 := this n.kids ih
    simp only [mxk]
    omega
theorem key_dep {pre : List El} {x : El} {n : Nd} (h : (pre ++ [x]).map El.key <+: n.flat 0) : x.d + 1 ≤ n.dep := by
  obtain ⟨r, hr⟩ := h
  have h1 := mxk_flat n 0
  rw [← hr, mxk_append, ← mxd_mxk, mxd_snoc] at h1
  omega
theorem mxd_le {pre : List El} {x : El} {n : Nd} (h : (pre ++ [x]).map El.key <+: n.flat 0) : mxd pre ≤ n.dep := by
  obtain ⟨r, hr⟩ := h
  have h1 := mxk_flat n 0
  rw [← hr, mxk_append, ← mxd_mxk, mxd_snoc] at h1
  omega
theorem mxd_all {pre : List El} {n : Nd} (h : pre.map El.key = n.flat 0) : mxd pre = n.dep := by
  rw [mxd_mxk, h, mxk_flat]
  omega
set_option maxRecDepth 100000 in
set_option maxHeartbeats 2000000 in
theorem depth_any (n : Nd) (hz : n.sz ≤ 1000000) (w : World) (va : Value) (B : BP) (ha : SlV B w va n.kids) :
    Calls Try.prog 15 #[aggN n va] w fun e w' => e = .returned (.int .i64 n.dep) ∧ Below w.heap.size w w' := by
  have hlow := ha.low
  obtain ⟨a1, c1, rfl, -, -⟩ := ha.open
  have hn := nodes_in n a1 n.kids.length c1
  simp only [aggN, encN] at hn ⊢
  refine (callsIn_wide (n := 3)).1 ?_
  refine callsIn_of_wp_marks Try.func15 rfl trivial ?_ rfl
  simp only [Try.ntmps15, List.size_toArray, List.length_cons, List.length_nil, Nat.reduceAdd, Nat.reduceSub, Array.replicate_succ, Array.replicate_zero, List.push_toArray, List.append_toArray, List.nil_append, List.cons_append]
  gi_wp2_with (refine ⟨trivial, ?_⟩; (try refine ⟨hwd _, ?_⟩); gi_at_call 36; refine (callsIn_wide.2 (hn _)).mono ?_; rintro e w' ⟨rfl, rfl⟩)
  obtain ⟨W0, hW0⟩ : ∃ W0, (((w.alloc (.cells #[.int .i64 n.kind, .int .i64 n.fr, .int .i64 n.to, .string n.text, .slice a1 n.kids.length c1] 24)).alloc (.cells #[.int .i64 0] 3)).alloc (.cells #[.int .i64 n.kind, .int .i64 n.fr, .int .i64 n.to, .string n.text, .slice a1 n.kids.length c1] 24)) = W0 := ⟨_, rfl⟩
  have hsz : W0.heap.size = w.heap.size + 3 := by rw [← hW0]; simp
  have hB0 : Below w.heap.size w W0 := by rw [← hW0]; exact bthen (below_alloc2 _ _ _) (below_alloc _ _)
  have hc1 : W0.heap[w.heap.size + 1]? = some (.cells #[.int .i64 0] 3 (0, 0)) := by
    rw [← hW0]
    refine (Below.heap_alloc _ _ _ (by simp)).trans ?_
    have := heap_alloc_new (w.alloc (.cells #[.int .i64 n.kind, .int .i64 n.fr, .int .i64 n.to, .string n.text, .slice a1 n.kids.length c1] 24)) (.cells #[.int .i64 0] 3)
    simpa using this
  have hc2 : W0.heap[w.heap.size + 1 + 1]? = some (.cells (encN n (.slice a1 n.kids.length c1)) 24) := by
    rw [← hW0]
    have := heap_alloc_new ((w.alloc (.cells #[.int .i64 n.kind, .int .i64 n.fr, .int .i64 n.to, .string n.text, .slice a1 n.kids.length c1] 24)).alloc (.cells #[.int .i64 0] 3)) (.cells #[.int .i64 n.kind, .int .i64 n.fr, .int .i64 n.to, .string n.text, .slice a1 n.kids.length c1] 24)
    simpa [encN] using this
  rw [hW0]
  clear hW0 hn ha
  have hS0 := hlow.kept hB0
  clear hlow
  refine range_any n (.slice a1 n.kids.length c1) (Bl w.heap.size) (fun b => b = w.heap.size + 1) (w.heap.size + 1 + 1) rfl rfl hc2 hS0 (by have := dep_le_sz n; omega) (fun b o ob hb => ⟨by have : b < w.heap.size := hb; omega, fun e => by have : b < w.heap.size := hb; omega⟩)
    (fun pre X W => (∀ b, X b ↔ b = w.heap.size + 1) ∧ W.heap[w.heap.size + 1]? = some (.cells #[.int .i64 (mxd pre)] 3 (0, 0))) (fun _ _ _ => False) (fun pre X A A' h hk _ => ⟨h.1, hk.keep _ _ _ _ h.2⟩) (fun _ _ _ _ h _ _ => h) (fun pre X A h b hb => by rw [(h.1 b).1 hb]; exact ⟨_, _, _, h.2⟩) ⟨fun b => Iff.rfl, hc1⟩
    (fun _ => none) (fun x _ => { tmps := #[.agg #[.int .i64 n.kind, .int .i64 n.fr, .int .i64 n.to, .string n.text, .slice a1 n.kids.length c1], .pointer (some ⟨w.heap.size, 0, none⟩), .int .i64 0, .pointer (some ⟨w.heap.size + 1, 0, none⟩), .int .i64 x.d, .agg #[.int .i64 n.kind, .int .i64 n.fr, .int .i64 n.to, .string n.text, .slice a1 n.kids.length c1], .func (.func 41) #[] #[.pointer (some ⟨w.heap.size + 1 + 1, 0, none⟩)], .int .i64 x.d, .agg #[.int .i64 x.nd.kind, .int .i64 x.nd.fr, .int .i64 x.nd.to, .string x.nd.text, .slice x.a x.nd.kids.length x.c], undef, undef, undef, undef, undef], defers := [] }) ?assign ?body ?done ?stop
  case assign =>
    intro m l x W K hK
    simp only [El.args, El.v, aggN, encN]
    gi_wp2
    exact hK
  case body =>
    rintro m l pre x X bk W ⟨hX, hc⟩ hp hs hbx hob
    have hl := key_dep hp
    have hm := mxd_le hp
    have hdz := dep_le_sz n
    have HM : Hid (mxd (pre ++ [x]) = max (mxd pre) (x.d + 1)) := ⟨mxd_snoc pre x⟩
    have hc' := cell_of hc 0
    have hf : W.frozen? ⟨w.heap.size + 1, 0, none⟩ = false := by simp [World.frozen?, hc]
    simp only [List.getElem?_toArray, List.getElem?_cons_zero] at hc'
    have HC : Hid (W.heap[w.heap.size + 1]? = some (.cells #[.int .i64 (mxd pre)] 3 (0, 0))) := ⟨hc⟩
    have HX : Hid (∀ b, X b ↔ b = w.heap.size + 1) := ⟨hX⟩
    clear hc hX hob hbx hs hp
    by_cases hlt : (mxd pre : Int) < (x.d : Int) + 1
    · gi_wp2
      refine ⟨X, ⟨HX.out, ?_⟩, (kx_set _ _ _).mono (fun b _ e => (HX.out b).2 e), fun b _ h => h⟩
      have := heap_setCell_same W (w.heap.size + 1) 0 _ 3 (.int .i64 ((x.d : Int) + 1)) HC.out
      rw [HM.out, show ((max (mxd pre) (x.d + 1) : Nat) : Int) = (x.d : Int) + 1 by omega]
      simpa using this
    · gi_wp2
      refine ⟨X, ⟨HX.out, ?_⟩, (kx_set _ _ _).mono (fun b _ e => (HX.out b).2 e), fun b _ h => h⟩
      have := heap_setCell_same W (w.heap.size + 1) 0 _ 3 (.int .i64 (mxd pre : Int)) HC.out
      rw [HM.out, show ((max (mxd pre) (x.d + 1) : Nat) : Int) = (mxd pre : Int) by omega]
      simpa using this
  case done =>
    rintro D pre X W hp ⟨hX, hc⟩ hK hD hDd
    have hlen : mxd pre = n.dep := mxd_all hp
    rw [hlen] at hc
    have hc' := cell_of hc 0
    simp only [List.getElem?_toArray, List.getElem?_cons_zero] at hc'
    have HB : Hid (Below w.heap.size w W) := ⟨hB0.trans (hK.below (by omega) (fun b hb e => by omega))⟩
    clear hc hX hK hp
    gi_wp2
    refine ⟨by simp, .inl ⟨_, _, rfl, run_takeDeferred hDd, ?_⟩⟩
    exact ⟨_, results_tmp rfl _ _ _, rfl, below_put HB.out (by omega)⟩
  case stop =>
    rintro D c pre W _ h
    exact h.elim
end Go.Proofs.Ytgknigjpdnfkdaa
