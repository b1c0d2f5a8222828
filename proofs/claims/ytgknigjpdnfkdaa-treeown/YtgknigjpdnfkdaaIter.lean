/-
  tree.nodes: the iterator over all nodes of a tree, and the closure within it that calls itself.
-/
import Derived.Test.YtgknigjpdnfkdaaRowz
import Derived.RangeFuncNested
import Derived.RangeFuncBound
import Derived.RangeFuncCalls
import Derived.RangeFuncLeaves
import Derived.RangeFuncBox
import Derived.Shelf.Abstract
import Derived.Shelf.RegionOpen
import Derived.OwnWalkIn
import Derived.TacticsInMore
import Derived.LoopNIn
import Derived.LoopIn
import Derived.WalkMore
namespace Go.Proofs.Ytgknigjpdnfkdaa
open Go.RowKit
attribute [local go_sem] Oper.semAt_some
mutual
/-- all nodes, a node ahead of its kids, each with how many it stands within -/
def Nd.flat : Nd → Nat → List (Nat × Nd)
  | .mk k f t s ks, d => (d, .mk k f t s ks) :: flatL ks (d + 1)
def flatL : List Nd → Nat → List (Nat × Nd)
  | [], _ => []
  | x :: r, d => x.flat d ++ flatL r d
end
theorem Nd.flat_eq (n : Nd) (d : Nat) : n.flat d = (d, n) :: flatL n.kids (d + 1) := by cases n; simp [Nd.flat, Nd.kids]
theorem flatL_nil (d : Nat) : flatL [] d = [] := by simp [flatL]
theorem flatL_cons (x : Nd) (r : List Nd) (d : Nat) : flatL (x :: r) d = x.flat d ++ flatL r d := by simp [flatL]
theorem flatL_append (a b : List Nd) (d : Nat) : flatL (a ++ b) d = flatL a d ++ flatL b d := by
  induction a with
  | nil => simp [flatL_nil]
  | cons x r ih => simp [flatL_cons, ih]
theorem flat_len (n : Nd) : ∀ d, (n.flat d).length = n.sz := by
  induction n using Nd.ind3 with
  | h n ih =>
    intro d
    rw [Nd.flat_eq, Nd.sz_eq]
    have : ∀ l : List Nd, (∀ x ∈ l, ∀ d, (x.flat d).length = x.sz) → (flatL l (d + 1)).length = szL l := by
      intro l
      induction l with
      | nil => intro _; simp [flatL_nil, szL_nil]
      | cons x r ihl => intro h; simp [flatL_cons, szL_cons, h x (by simp), ihl (fun y hy => h y (by simp [hy]))]
    simp [this n.kids ih]
    omega
/-- what the iterator hands over: how deep, the node, the slice of its kids -/
structure El where
  d : Nat
  nd : Nd
  a : Option Addr
  c : Nat
def El.v (e : El) : Value := .slice e.a e.nd.kids.length e.c
def El.key (e : El) : Nat × Nd := (e.d, e.nd)
def El.args (e : El) : Array Value := #[.int .i64 e.d, aggN e.nd e.v]
/-- what a round does: it goes on, or has said that no more is wanted -/
def YdP (J : List El → (Nat → Prop) → World → Prop) (Jx : List El → World → Prop) (pre : List El) (X : Nat → Prop) (W : World) : Ending → World → Prop := fun e W' =>
  (e = .returned (.bool true) ∧ ∃ X', J pre X' W' ∧ Kx X W W' ∧ ∀ b, b < W.heap.size → X' b → X b) ∨ (e = .returned (.bool false) ∧ Jx pre W')
/-- what the closure within does at a node -/
def WkP (J : List El → (Nat → Prop) → World → Prop) (Jx : List El → World → Prop) (FL ks : List (Nat × Nd)) (X : Nat → Prop) (W : World) : Ending → World → Prop := fun e W' =>
  (e = .returned (.bool true) ∧ ∃ pre' X', pre'.map El.key = ks ∧ J pre' X' W' ∧ Kx X W W' ∧ ∀ b, b < W.heap.size → X' b → X b) ∨ (e = .returned (.bool false) ∧ ∃ pre', pre'.map El.key <+: FL ∧ Jx pre' W')
def yCell (l : Nat) : Obj := .cells #[.func (.yield l) #[] #[]] 34 (0, 0)
def wCell (yb wb : Nat) : Obj := .cells #[.func (.func 42) #[] #[.pointer (some ⟨yb, 0, none⟩), .pointer (some ⟨wb, 0, none⟩)]] 34 (0, 0)
/-- what the closure within asks of the world -/
structure WkI (J : List El → (Nat → Prop) → World → Prop) (B : BP) (N0 l yb wb : Nat) (pre : List El) (X : Nat → Prop) (W : World) : Prop where
  j : J pre X W
  bx : ∀ b o ob, B b o ob → b < N0 ∧ ¬ X b
  n0 : N0 ≤ W.heap.size
  y : W.heap[yb]? = some (yCell l)
  yx : ¬ X yb
  w : W.heap[wb]? = some (wCell yb wb)
  wx : ¬ X wb
section
variable {J : List El → (Nat → Prop) → World → Prop} {Jx : List El → World → Prop} {B : BP} {N0 l yb wb : Nat}
theorem WkI.below (hJ : ∀ pre X W W', J pre X W → Below W.heap.size W W' → J pre X W') {pre : List El} {X : Nat → Prop} {W W' : World} (h : WkI J B N0 l yb wb pre X W) (hb : Below W.heap.size W W') : WkI J B N0 l yb wb pre X W' :=
  ⟨hJ _ _ _ _ h.j hb, h.bx, Nat.le_trans h.n0 hb.size, (hb.block _ (Array.getElem?_eq_some_iff.1 h.y).1).trans h.y, h.yx, (hb.block _ (Array.getElem?_eq_some_iff.1 h.w).1).trans h.w, h.wx⟩
theorem WkI.next {pre pre' : List El} {X X' : Nat → Prop} {W W' : World} (h : WkI J B N0 l yb wb pre X W) (hj : J pre' X' W') (hk : Kx X W W') (hx : ∀ b, b < W.heap.size → X' b → X b) : WkI J B N0 l yb wb pre' X' W' := by
  have h1 := (Array.getElem?_eq_some_iff.1 h.y).1
  have h2 := (Array.getElem?_eq_some_iff.1 h.w).1
  have h3 := h.n0
  have h4 := hk.size
  exact ⟨hj, fun b o ob hb => ⟨(h.bx b o ob hb).1, fun hb' => (h.bx b o ob hb).2 (hx b (by have := (h.bx b o ob hb).1; omega) hb')⟩, by omega, hk.keep _ _ h.y h.yx, fun hb => h.yx (hx _ h1 hb), hk.keep _ _ h.w h.wx, fun hb => h.wx (hx _ h2 hb)⟩
end
set_option maxRecDepth 100000 in
set_option maxHeartbeats 2000000 in
theorem walk_any (l yb wb N0 : Nat) (B : BP) (FL : List (Nat × Nd)) (J : List El → (Nat → Prop) → World → Prop) (Jx : List El → World → Prop)
    (hJ : ∀ pre X W W', J pre X W → Below W.heap.size W W' → J pre X W') (hJX : ∀ pre X W, J pre X W → ∀ b, X b → b < W.heap.size)
    (hY : ∀ (m : Nat) (pre : List El) (x : El) (X : Nat → Prop) (W : World), J pre X W → (pre ++ [x]).map El.key <+: FL → SlV B W x.v x.nd.kids → YieldAt Fence.wide m Try.prog l x.args W (YdP J Jx (pre ++ [x]) X W)) (n : Nd) :
    ∀ (m d : Nat) (v : Value) (pre : List El) (X : Nat → Prop) (W : World), WkI J B N0 l yb wb pre X W → pre.map El.key ++ n.flat d <+: FL → SlV B W v n.kids → d + n.dep ≤ 1000000 →
      CallsIn Fence.wide m Try.prog 42 #[.int .i64 d, aggN n v, .pointer (some ⟨yb, 0, none⟩), .pointer (some ⟨wb, 0, none⟩)] W (WkP J Jx FL (pre.map El.key ++ n.flat d) X W) := by
  induction n using Nd.ind3
  rename_i n ih
  intro m d v pre X W hI hF hS hd
  have IH : Hid (∀ x ∈ n.kids, ∀ (m d : Nat) (v : Value) (pre : List El) (X : Nat → Prop) (W : World), WkI J B N0 l yb wb pre X W → pre.map El.key ++ x.flat d <+: FL → SlV B W v x.kids → d + x.dep ≤ 1000000 →
      CallsIn Fence.wide m Try.prog 42 #[.int .i64 d, aggN x v, .pointer (some ⟨yb, 0, none⟩), .pointer (some ⟨wb, 0, none⟩)] W (WkP J Jx FL (pre.map El.key ++ x.flat d) X W)) := ⟨ih⟩
  clear ih
  obtain ⟨a1, c1, rfl, hl1, -⟩ := hS.open
  have hB0 := below_alloc W (.cells (encN n (.slice a1 n.kids.length c1)) 24)
  have hI0 := hI.below hJ hB0
  have hS0 := hS.kept hB0
  have hF1 : (pre ++ [El.mk d n a1 c1]).map El.key <+: FL := by
    refine List.IsPrefix.trans ?_ hF
    rw [Nd.flat_eq]
    simp [El.key]
  obtain ⟨fn, tmps, assign, body, hy, hR⟩ := hY (m - 1) pre ⟨d, n, a1, c1⟩ X _ hI0.j hF1 hS0
  have HI : Hid (WkI J B N0 l yb wb pre X W) := ⟨hI⟩
  have HS : Hid (SlV B W (.slice a1 n.kids.length c1) n.kids) := ⟨hS⟩
  have hX0 := hJX _ _ _ hI.j
  have hy0 := cell_of hI.y 0
  have hw0 := cell_of hI.w 0
  have hylt := (Array.getElem?_eq_some_iff.1 hI.y).1
  have hwlt := (Array.getElem?_eq_some_iff.1 hI.w).1
  have HX0 : Hid (∀ b, X b → b < W.heap.size) := ⟨hX0⟩
  have HF : Hid (pre.map El.key ++ n.flat d <+: FL) := ⟨hF⟩
  have HJ : Hid (∀ pre X W W', J pre X W → Below W.heap.size W W' → J pre X W') := ⟨hJ⟩
  have HJX : Hid (∀ pre X W, J pre X W → ∀ b, X b → b < W.heap.size) := ⟨hJX⟩
  simp only [aggN, encN, El.args, El.v] at hy ⊢
  simp only [List.getElem?_toArray, List.getElem?_cons_zero] at hy0 hw0
  have HB0 : Hid (Below W.heap.size W (W.alloc (.cells (encN n (.slice a1 n.kids.length c1)) 24))) := ⟨hB0⟩
  have HI0 : Hid (WkI J B N0 l yb wb pre X (W.alloc (.cells (encN n (.slice a1 n.kids.length c1)) 24))) := ⟨hI0⟩
  clear hI hS hJ hJX hY hX0 hF hF1 hI0 hS0 hB0
  refine callsIn_of_wp Try.func42 rfl trivial ?_
  simp only [Try.ntmps42, List.size_toArray, List.length_cons, List.length_nil, Nat.reduceAdd, Nat.reduceSub, Array.replicate_succ, Array.replicate_zero, List.push_toArray, List.append_toArray, List.nil_append, List.cons_append]
  gi_wp2
  have hwd : ∀ k : Nat, (Fence.wide.depth.isSome = true → 1 ≤ k) := fun k h => by simp [Fence.wide] at h
  refine ⟨hwd _, ?_⟩
  refine hR.mono ?_
  clear hR hy
  obtain ⟨W0, hW0⟩ : ∃ W0, W.alloc (.cells (encN n (.slice a1 n.kids.length c1)) 24) = W0 := ⟨_, rfl⟩
  have hbx : W0.heap[W.heap.size]? = some (.cells (encN n (.slice a1 n.kids.length c1)) 24) := by rw [← hW0]; exact heap_alloc_new _ _
  have hsz : W0.heap.size = W.heap.size + 1 := by rw [← hW0]; simp
  rw [hW0] at HB0 HI0
  clear hy0 hw0
  rintro e W1 (⟨rfl, X1, hj1, hk1, hx1⟩ | ⟨rfl, hjx⟩)
  rotate_left
  · gi_wp2
    go_ret
    refine .inr ⟨rfl, _, ?_, hjx⟩
    refine List.IsPrefix.trans ?_ HF.out
    rw [Nd.flat_eq]
    simp [El.key]
  rw [hW0] at hk1 hx1
  clear hW0
  have hnx : ¬ X W.heap.size := fun h => by have := HX0.out _ h; omega
  have c4 : W1.cell? ⟨W.heap.size, 4, none⟩ = some (.slice a1 n.kids.length c1) := by
    have := cell_of (hk1.keep _ _ hbx hnx) 4
    simpa [encN] using this
  have HW1 : Hid (WkI J B N0 l yb wb (pre ++ [El.mk d n a1 c1]) X1 W1) := ⟨HI0.out.next hj1 hk1 hx1⟩
  have HK1 : Hid (Kx X W0 W1) := ⟨hk1⟩
  have HX1 : Hid (∀ b, b < W0.heap.size → X1 b → X b) := ⟨hx1⟩
  clear hj1 hk1 hx1 hbx
  gi_wp2
  gi_loopw [17] (fun i wr => ∃ j : Nat, i = .int .i64 j ∧ j ≤ n.kids.length ∧ ∃ (pre' : List El) (X' : Nat → Prop), Hid (WkI J B N0 l yb wb pre' X' wr) ∧ Hid (pre'.map El.key = pre.map El.key ++ (d, n) :: flatL (n.kids.take j) (d + 1)) ∧ Hid (Kx X W0 wr) ∧ Hid (∀ b, b < W0.heap.size → X' b → X b)) (fun i _ => n.kids.length - (intOf i).toNat)
  case atStart => exact ⟨0, rfl, by omega, _, X1, HW1, ⟨by simp [El.key, flatL_nil]⟩, HK1, HX1⟩
  case round =>
    clear c4 HW1 HK1 HX1
    obtain ⟨j, rfl, hj, pre', X', HW, HP, HK, HX⟩ := hrel
    by_cases hlt : j < n.kids.length
    · have hlt' : (j : Int) < (n.kids.length : Int) := by omega
      have HSr : Hid (SlV B wr (.slice a1 n.kids.length c1) n.kids) := ⟨HS.out.to' ((Kx.of_whole HB0.out).trans HK.out) (fun _ _ _ _ h => h) (fun b o ob _ h => (HI0.out.bx b o ob h).2)⟩
      obtain ⟨_, _, e1, _, g1⟩ := HSr.out.open
      cases e1
      obtain ⟨b1, o1, rfl, _, l1⟩ := g1 j hlt
      obtain ⟨x, hx⟩ : ∃ x, n.kids[j] = x := ⟨_, rfl⟩
      have mx : x ∈ n.kids := hx ▸ List.getElem_mem _
      have HT : Hid (flatL (n.kids.take (j + 1)) (d + 1) = flatL (n.kids.take j) (d + 1) ++ x.flat (d + 1)) := ⟨by rw [List.take_succ_eq_append_getElem hlt, flatL_append, hx, flatL_cons, flatL_nil, List.append_nil]⟩
      have HQ : Hid (pre'.map El.key ++ x.flat (d + 1) <+: FL) := by
        refine ⟨List.IsPrefix.trans ?_ HF.out⟩
        rw [HP.out, Nd.flat_eq n d, List.append_assoc, List.cons_append, ← HT.out]
        have h := flatL_append (n.kids.take (j + 1)) (n.kids.drop (j + 1)) (d + 1)
        rw [List.take_append_drop] at h
        rw [h]
        exact ⟨flatL (n.kids.drop (j + 1)) (d + 1), by simp⟩
      have hdx : d + 1 + x.dep ≤ 1000000 := by
        have h1 := n.dep_eq
        have h2 := depL_append (n.kids.take j) (n.kids.drop j)
        rw [List.take_append_drop, List.drop_eq_getElem_cons hlt, hx, depL_cons] at h2
        omega
      rw [hx] at l1
      obtain ⟨p0, p1, p2, p3, vx, p4, sx⟩ := lies_iff.1 l1
      have hblt : b1 < wr.heap.size := World.block_lt_of_cell? _ _ p0
      have hwc : wr.cell? ⟨wb, 0, none⟩ = some (.func (.func 42) #[] #[.pointer (some ⟨yb, 0, none⟩), .pointer (some ⟨wb, 0, none⟩)]) := by
        have := cell_of HW.out.w 0
        simpa using this
      have hwl : wb < wr.heap.size := (Array.getElem?_eq_some_iff.1 HW.out.w).1
      have hB2 := below_alloc wr (.cells (encN x vx) 24)
      have IC := IH.out x mx (m - 1) (d + 1) vx pre' X' _ (HW.out.below HJ.out hB2) HQ.out (sx.kept hB2) hdx
      obtain ⟨ax, cx, rfl⟩ := sx.slice
      have HB2 : Hid (Below wr.heap.size wr (wr.alloc (.cells (encN x (.slice ax x.kids.length cx)) 24))) := ⟨hB2⟩
      rw [show ((d + 1 : Nat) : Int) = (d : Int) + 1 by omega] at IC
      simp only [aggN, encN] at IC
      clear g1 l1 sx hB2 hdx
      gi_wp2_with (refine ⟨trivial, ?_⟩; (try refine ⟨hwd _, ?_⟩); gi_at_call 42; refine IC.mono ?_; clear IC; rintro e W2 (⟨rfl, pre2, X2, hp2, hj2, hk2, hx2⟩ | ⟨rfl, pre2, hp2, hj2⟩))
      · go_roundw
        case rel =>
          have hw2 := HW.out.below HJ.out HB2.out
          refine ⟨j + 1, by go_num, by omega, pre2, X2, ⟨hw2.next hj2 hk2 hx2⟩, ⟨?_⟩, ⟨?_⟩, ⟨?_⟩⟩
          · rw [hp2, HP.out, HT.out]; simp
          · exact HK.out.andThen ((Kx.of_whole HB2.out).trans hk2) (fun _ _ h => h) (fun b hb h => HX.out b hb h)
          · intro b hb h
            have h0 := HK.out.size
            exact HX.out b hb (hx2 b (by rw [World.size_alloc]; omega) h)
        case measure => simp [intOf]; omega
      · go_ret
        exact .inr ⟨rfl, pre2, hp2, hj2⟩
    · have hlt' : ¬ (j : Int) < (n.kids.length : Int) := by omega
      gi_wp2
      go_ret
      refine .inl ⟨rfl, pre', X', ?_, HW.out.j, ?_, ?_⟩
      · rw [HP.out, List.take_of_length_le (by omega), Nd.flat_eq]
      · exact (Kx.of_whole HB0.out).trans HK.out
      · intro b hb h
        exact HX.out b (by omega) h
end Go.Proofs.Ytgknigjpdnfkdaa
