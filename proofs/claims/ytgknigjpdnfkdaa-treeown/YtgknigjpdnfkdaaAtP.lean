/-
  The way down to a span, in plain Lean: as the document finds it, and as the loop over all nodes does.
-/
import Derived.Test.YtgknigjpdnfkdaaIter
namespace Go.Proofs.Ytgknigjpdnfkdaa
open Go.RowKit
def mt (f t : Int) (n : Nd) : Bool := decide (n.fr = f ∧ n.to = t)
mutual
/-- the document's: the nodes from n down to the innermost one that stands there -/
def Nd.atR (f t : Int) : Nd → List Nd
  | .mk k a b s ks => if atRL f t ks = [] then (if mt f t (.mk k a b s ks) then [.mk k a b s ks] else []) else .mk k a b s ks :: atRL f t ks
def atRL (f t : Int) : List Nd → List Nd
  | [] => []
  | x :: r => if x.atR f t = [] then atRL f t r else x.atR f t
end
theorem Nd.atR_eq (f t : Int) (n : Nd) : n.atR f t = if atRL f t n.kids = [] then (if mt f t n then [n] else []) else n :: atRL f t n.kids := by
  cases n
  rw [Nd.atR]
  rfl
theorem atRL_nil (f t : Int) : atRL f t [] = [] := by simp [atRL]
theorem atRL_cons (f t : Int) (x : Nd) (r : List Nd) : atRL f t (x :: r) = if x.atR f t = [] then atRL f t r else x.atR f t := by simp [atRL]
/-- where the loop stands: the way to the last node, the way to the found one, whether it has been left -/
structure Wf where
  way : List Nd
  found : List Nd
  stop : Bool
def stp (f t : Int) (s : Wf) (e : Nat × Nd) : Wf :=
  if s.stop then s else if e.1 < s.found.length then { s with stop := true } else
    { way := s.way.take e.1 ++ [e.2], found := if mt f t e.2 then s.way.take e.1 ++ [e.2] else s.found, stop := false }
def runW (f t : Int) (l : List (Nat × Nd)) (s : Wf) : Wf := l.foldl (stp f t) s
theorem runW_append (f t : Int) (a b : List (Nat × Nd)) (s : Wf) : runW f t (a ++ b) s = runW f t b (runW f t a s) := by simp [runW]
theorem runW_cons (f t : Int) (e : Nat × Nd) (b : List (Nat × Nd)) (s : Wf) : runW f t (e :: b) s = runW f t b (stp f t s e) := by simp [runW]
theorem runW_stop (f t : Int) (l : List (Nat × Nd)) (s : Wf) (h : s.stop = true) : runW f t l s = s := by
  induction l with
  | nil => rfl
  | cons e l ih => rw [runW_cons, show stp f t s e = s by simp [stp, h]]; exact ih
/-- what the nodes of a tree, or of trees beside one another, do to the state -/
structure Did (d : Nat) (r : List Nd) (s s' : Wf) : Prop where
  none : r = [] → s'.stop = false ∧ s'.found = s.found ∧ s'.way.take d = s.way.take d ∧ d ≤ s'.way.length
  some : r ≠ [] → s'.found = s.way.take d ++ r ∧ (s'.stop = false → s'.way.take d = s.way.take d ∧ d ≤ s'.way.length)
theorem runW_list (f t : Int) (d : Nat) (l : List Nd) (ih : ∀ x ∈ l, ∀ s : Wf, s.stop = false → d ≤ s.way.length → s.found.length ≤ d → Did d (x.atR f t) s (runW f t (x.flat d) s)) :
    ∀ s : Wf, s.stop = false → d ≤ s.way.length → s.found.length ≤ d → Did d (atRL f t l) s (runW f t (flatL l d) s) := by
  induction l with
  | nil => intro s h1 h2 h3; rw [flatL_nil, atRL_nil]; exact ⟨fun _ => ⟨h1, rfl, rfl, h2⟩, fun h => (h rfl).elim⟩
  | cons x r ihl =>
    intro s h1 h2 h3
    have hx := ih x (by simp) s h1 h2 h3
    rw [flatL_cons, runW_append, atRL_cons]
    by_cases he : x.atR f t = []
    · rw [if_pos he]
      obtain ⟨e1, e2, e3, e4⟩ := hx.none he
      have hr := ihl (fun y hy => ih y (by simp [hy])) (runW f t (x.flat d) s) e1 e4 (by rw [e2]; exact h3)
      refine ⟨fun h => ?_, fun h => ?_⟩
      · obtain ⟨k1, k2, k3, k4⟩ := hr.none h
        exact ⟨k1, k2.trans e2, k3.trans e3, k4⟩
      · obtain ⟨k1, k2⟩ := hr.some h
        exact ⟨by rw [k1, e3], fun hs => ⟨(k2 hs).1.trans e3, (k2 hs).2⟩⟩
    · rw [if_neg he]
      obtain ⟨e1, e2⟩ := hx.some he
      refine ⟨fun h => (he h).elim, fun _ => ?_⟩
      cases hs : (runW f t (x.flat d) s).stop with
      | true => rw [runW_stop _ _ _ _ hs]; exact ⟨e1, fun h => by rw [hs] at h; cases h⟩
      | false =>
        cases r with
        | nil => rw [flatL_nil]; exact ⟨e1, fun _ => e2 hs⟩
        | cons y r' =>
          rw [flatL_cons, Nd.flat_eq, List.cons_append, runW_cons]
          have hl : d < (runW f t (x.flat d) s).found.length := by
            rw [e1, List.length_append, List.length_take]
            have : 0 < (x.atR f t).length := List.length_pos_iff.2 he
            omega
          have e5 : stp f t (runW f t (x.flat d) s) (d, y) = { (runW f t (x.flat d) s) with stop := true } := by simp [stp, hs, hl]
          rw [e5, runW_stop _ _ _ _ rfl]
          exact ⟨e1, fun h => by cases h⟩
theorem runW_tree (f t : Int) (n : Nd) : ∀ (d : Nat) (s : Wf), s.stop = false → d ≤ s.way.length → s.found.length ≤ d → Did d (n.atR f t) s (runW f t (n.flat d) s) := by
  induction n using Nd.ind3 with
  | h n ih =>
    intro d s h1 h2 h3
    rw [Nd.flat_eq, runW_cons, Nd.atR_eq]
    have e0 : stp f t s (d, n) = { way := s.way.take d ++ [n], found := if mt f t n then s.way.take d ++ [n] else s.found, stop := false } := by
      simp only [stp, h1]
      rw [if_neg (by simp), if_neg (by omega)]
    rw [e0]
    obtain ⟨s1, hs1⟩ : ∃ y : Wf, { way := s.way.take d ++ [n], found := if mt f t n then s.way.take d ++ [n] else s.found, stop := false } = y := ⟨_, rfl⟩
    rw [hs1]
    have hw : s1.way = s.way.take d ++ [n] := by rw [← hs1]
    have hf : s1.found = if mt f t n then s.way.take d ++ [n] else s.found := by rw [← hs1]
    have hst : s1.stop = false := by rw [← hs1]
    have hwl : s1.way.length = d + 1 := by rw [hw]; simp; omega
    have hfl : s1.found.length ≤ d + 1 := by
      rw [hf]
      split
      · simp; omega
      · omega
    have hr := runW_list f t (d + 1) n.kids (fun x hx s => ih x hx (d + 1) s) s1 hst (by omega) hfl
    have htk : s1.way.take (d + 1) = s.way.take d ++ [n] := by rw [List.take_of_length_le (by omega), hw]
    have htd : ∀ w : List Nd, w.take (d + 1) = s.way.take d ++ [n] → w.take d = s.way.take d := fun w e => by
      have h4 : (w.take (d + 1)).take d = (s.way.take d ++ [n]).take d := by rw [e]
      rw [List.take_take, Nat.min_eq_left (by omega)] at h4
      rw [h4, List.take_append_of_le_length (by simp; omega), List.take_take]
      simp
    by_cases he : atRL f t n.kids = []
    · rw [if_pos he]
      obtain ⟨k1, k2, k3, k4⟩ := hr.none he
      by_cases hm : mt f t n = true
      · rw [if_pos hm]
        refine ⟨fun h => (by cases h), fun _ => ⟨?_, fun _ => ⟨htd _ (k3.trans htk), by omega⟩⟩⟩
        rw [k2, hf, if_pos hm]
      · rw [if_neg hm]
        refine ⟨fun _ => ⟨k1, ?_, htd _ (k3.trans htk), by omega⟩, fun h => (h rfl).elim⟩
        rw [k2, hf, if_neg hm]
    · rw [if_neg he]
      obtain ⟨k1, k2⟩ := hr.some he
      refine ⟨fun h => (by cases h), fun _ => ⟨?_, fun hs => ⟨htd _ ((k2 hs).1.trans htk), by have := (k2 hs).2; omega⟩⟩⟩
      rw [k1, htk]
      simp
/-- the loop over all nodes finds what the document does -/
theorem runW_at (f t : Int) (n : Nd) : (runW f t (n.flat 0) ⟨[], [], false⟩).found = n.atR f t := by
  have h := runW_tree f t n 0 ⟨[], [], false⟩ rfl (by simp) (by simp)
  by_cases he : n.atR f t = []
  · rw [(h.none he).2.1, he]
  · rw [(h.some he).1]
    simp
/-- each node stands at most one deeper than the one ahead of it -/
def Steps : Nat → List (Nat × Nd) → Prop
  | _, [] => True
  | p, e :: r => e.1 ≤ p ∧ Steps (e.1 + 1) r
theorem steps_tree (n : Nd) : ∀ (d p : Nat) (rest : List (Nat × Nd)), d ≤ p → (∀ q, d ≤ q → Steps q rest) → Steps p (n.flat d ++ rest) := by
  induction n using Nd.ind3 with
  | h n ih =>
    intro d p rest hp hr
    rw [Nd.flat_eq, List.cons_append]
    refine ⟨hp, ?_⟩
    have : ∀ l : List Nd, (∀ x ∈ l, x ∈ n.kids) → ∀ q, d + 1 ≤ q → Steps q (flatL l (d + 1) ++ rest) := by
      intro l
      induction l with
      | nil => intro _ q hq; rw [flatL_nil]; exact hr q (by omega)
      | cons x r ihl =>
        intro hm q hq
        rw [flatL_cons, List.append_assoc]
        exact ih x (hm x (by simp)) (d + 1) q _ hq (ihl (fun y hy => hm y (by simp [hy])))
    exact this n.kids (fun _ h => h) (d + 1) (Nat.le_refl _)
theorem steps_way (f t : Int) (e : Nat × Nd) (r : List (Nat × Nd)) : ∀ (pre : List (Nat × Nd)) (p : Nat) (s : Wf), Steps p (pre ++ e :: r) → s.stop = false → p ≤ s.way.length → (runW f t pre s).stop = false → e.1 ≤ (runW f t pre s).way.length
  | [], p, s, h, _, h2, _ => Nat.le_trans h.1 h2
  | x :: pre, p, s, h, h1, h2, h3 => by
    obtain ⟨h4, h5⟩ := h
    rw [runW_cons] at h3 ⊢
    by_cases hx : x.1 < s.found.length
    · have e1 : stp f t s x = { s with stop := true } := by simp [stp, h1, hx]
      rw [e1, runW_stop _ _ _ _ rfl] at h3
      cases h3
    · have e1 : stp f t s x = { way := s.way.take x.1 ++ [x.2], found := if mt f t x.2 then s.way.take x.1 ++ [x.2] else s.found, stop := false } := by simp [stp, h1, hx]
      rw [e1] at h3 ⊢
      refine steps_way f t e r pre (x.1 + 1) _ h5 rfl ?_ h3
      simp
      omega
/-- ahead of each node the way is long enough -/
theorem flat_way (f t : Int) (n : Nd) (pre : List El) (x : El) (h : (pre ++ [x]).map El.key <+: n.flat 0) (hs : (runW f t (pre.map El.key) ⟨[], [], false⟩).stop = false) : x.d ≤ (runW f t (pre.map El.key) ⟨[], [], false⟩).way.length := by
  obtain ⟨r, hr⟩ := h
  have h1 := steps_tree n 0 0 [] (Nat.le_refl _) (fun _ _ => trivial)
  rw [List.append_nil, ← hr, List.map_append, List.append_assoc] at h1
  exact steps_way f t x.key r (pre.map El.key) 0 ⟨[], [], false⟩ h1 rfl (by simp) hs
end Go.Proofs.Ytgknigjpdnfkdaa
