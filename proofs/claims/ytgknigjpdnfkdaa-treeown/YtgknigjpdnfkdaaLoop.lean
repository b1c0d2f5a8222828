/-
  A loop over tree.nodes: one law for all of them.
-/
import Derived.Test.YtgknigjpdnfkdaaIter
import Derived.Laws.EntriesVeiled
namespace Go.Proofs.Ytgknigjpdnfkdaa
open Go.RowKit
attribute [local go_sem] Oper.semAt_some
theorem hmf41 : ∀ (fn : Fn) (first cap : Array Value) (w : World), (Instr.makeFunc fn first cap).run Try.prog w = .ok (.func fn first cap) w := fun _ _ _ _ => rfl
set_option maxRecDepth 100000 in
set_option maxHeartbeats 2000000 in
/-- nodes(n): the node is boxed; the function value has the box -/
theorem nodes_in (n : Nd) (a : Option Addr) (k c : Nat) (w : World) : Calls Try.prog 36 #[aggN n (.slice a k c)] w fun e w' => e = .returned (.func (.func 41) #[] #[.pointer (some ⟨w.heap.size, 0, none⟩)]) ∧ w' = w.alloc (.cells (encN n (.slice a k c)) 24) := by
  simp only [aggN, encN]
  have hmf := hmf41
  go_enter Try.func36, Try.ntmps36
  go_wp2
  go_ret
  exact ⟨rfl, rfl⟩
set_option maxRecDepth 100000 in
set_option maxHeartbeats 2000000 in
/-- the iterator itself: all nodes in order, or so many as a round has let through -/
theorem iter_any (l N0 Bn : Nat) (B : BP) (n : Nd) (v : Value) (J : List El → (Nat → Prop) → World → Prop) (Jx : List El → World → Prop)
    (hJ : ∀ pre X W W', J pre X W → Below W.heap.size W W' → J pre X W') (hJX : ∀ pre X W, J pre X W → ∀ b, X b → b < W.heap.size)
    (hY : ∀ (m : Nat) (pre : List El) (x : El) (X : Nat → Prop) (W : World), J pre X W → (pre ++ [x]).map El.key <+: n.flat 0 → SlV B W x.v x.nd.kids → YieldAt Fence.wide m Try.prog l x.args W (YdP J Jx (pre ++ [x]) X W))
    (m : Nat) (X : Nat → Prop) (W : World) (h0 : J [] X W) (hBX : ∀ b o ob, B b o ob → b < N0 ∧ ¬ X b) (hN : N0 ≤ W.heap.size) (hbn : W.heap[Bn]? = some (.cells (encN n v) 24)) (hS : SlV B W v n.kids) (hd : n.dep ≤ 1000000) :
    CallsIn Fence.wide m Try.prog 41 #[.func (.yield l) #[] #[], .pointer (some ⟨Bn, 0, none⟩)] W fun e W' => (∃ v, e = .returned v) ∧
      ((∃ pre X', pre.map El.key = n.flat 0 ∧ J pre X' W') ∨ (∃ pre, pre.map El.key <+: n.flat 0 ∧ Jx pre W')) := by
  have hmf := hmf41
  obtain ⟨W0, hW0⟩ : ∃ W0, (W.alloc (yCell l)).alloc (wCell W.heap.size (W.heap.size + 1)) = W0 := ⟨_, rfl⟩
  have hB0 : Below W.heap.size W W0 := hW0 ▸ below_alloc2 _ _ _
  have hz : W0.heap.size = W.heap.size + 2 := by rw [← hW0]; simp
  have hX := hJX _ _ _ h0
  have hi : WkI J B N0 l W.heap.size (W.heap.size + 1) [] X W0 := by
    refine ⟨hJ _ _ _ _ h0 hB0, hBX, by omega, ?_, fun h => by have := hX _ h; omega, ?_, fun h => by have := hX _ h; omega⟩
    · rw [← hW0]; exact (Below.heap_alloc _ _ _ (by simp)).trans (heap_alloc_new W _)
    · rw [← hW0]; have := heap_alloc_new (W.alloc (yCell l)) (wCell W.heap.size (W.heap.size + 1)); simpa using this
  have hp := walk_any l W.heap.size (W.heap.size + 1) N0 B (n.flat 0) J Jx hJ hJX hY n (m - 1) 0 v [] X W0 hi (by simp) (hS.kept hB0) (by omega)
  rw [← hW0] at hp
  obtain ⟨a1, c1, rfl, -, -⟩ := hS.open
  have k0 := cell_of hbn 0
  have k1 := cell_of hbn 1
  have k2 := cell_of hbn 2
  have k3 := cell_of hbn 3
  have k4 := cell_of hbn 4
  have hlt := (Array.getElem?_eq_some_iff.1 hbn).1
  simp only [aggN, encN, yCell, wCell, List.getElem?_toArray, List.getElem?_cons_zero, List.getElem?_cons_succ, Int.natCast_zero] at hp k0 k1 k2 k3 k4
  clear hi h0 hJ hJX hY hS hbn hBX hB0 hX hW0
  have hwd : ∀ k : Nat, (Fence.wide.depth.isSome = true → 1 ≤ k) := fun k h => by simp [Fence.wide] at h
  refine callsIn_of_wp Try.func41 rfl trivial ?_
  simp only [Try.ntmps41, List.size_toArray, List.length_cons, List.length_nil, Nat.reduceAdd, Nat.reduceSub, Array.replicate_succ, Array.replicate_zero, List.push_toArray, List.append_toArray, List.nil_append, List.cons_append]
  gi_wp2_with (refine ⟨trivial, ?_⟩; (try refine ⟨hwd _, ?_⟩); gi_at_call 42; refine hp.mono ?_; clear hp; rintro e W1 (⟨rfl, pre1, X1, hp1, hj1, -, -⟩ | ⟨rfl, pre1, hp1, hj1⟩))

  · go_end0
    exact ⟨⟨_, rfl⟩, .inl ⟨pre1, X1, by simpa using hp1, hj1⟩⟩
  · go_end0
    exact ⟨⟨_, rfl⟩, .inr ⟨pre1, hp1, hj1⟩⟩
end Go.Proofs.Ytgknigjpdnfkdaa
