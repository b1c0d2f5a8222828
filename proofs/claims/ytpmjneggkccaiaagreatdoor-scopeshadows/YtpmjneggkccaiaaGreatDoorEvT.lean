/- Tries keyed by numbers: what was put in is found, what stands elsewhere stays. -/
import Derived.CallsIn
set_option linter.unusedVariables false
set_option linter.unusedSimpArgs false
namespace Go.Proofs.YtpmjneggkccaiaaGreatDoor
namespace Ev
inductive T (α : Type) where
  | leaf
  | node (l : T α) (v : Option α) (r : T α)
noncomputable def T.getN {α : Type} (t : T α) : Nat → Option α :=
  T.rec (motive := fun _ => Nat → Option α) (fun _ => none)
    (fun _ v _ gl gr k => Nat.casesOn (motive := fun _ => Option α) k v
      (fun m => Nat.casesOn (motive := fun _ => Option α) (Nat.land m 1) (gl (Nat.shiftRight m 1)) (fun _ => gr (Nat.shiftRight m 1)))) t
noncomputable def T.putND {α : Type} (f : Nat) : T α → Nat → Option α → T α :=
  Nat.rec (motive := fun _ => T α → Nat → Option α → T α) (fun t _ _ => t)
    (fun _ ih t k x => T.casesOn (motive := fun _ => T α) t
      (Nat.casesOn (motive := fun _ => T α) k (.node .leaf x .leaf)
        (fun m => Nat.casesOn (motive := fun _ => T α) (Nat.land m 1) (.node (ih .leaf (Nat.shiftRight m 1) x) none .leaf)
          (fun _ => .node .leaf none (ih .leaf (Nat.shiftRight m 1) x))))
      (fun l v r => Nat.casesOn (motive := fun _ => T α) k (.node l x r)
        (fun m => Nat.casesOn (motive := fun _ => T α) (Nat.land m 1) (.node (ih l (Nat.shiftRight m 1) x) v r)
          (fun _ => .node l v (ih r (Nat.shiftRight m 1) x))))) f
noncomputable def T.putN {α : Type} (t : T α) (k : Nat) (x : Option α) : T α := T.putND (Nat.succ k) t k x
theorem T.getN_node {α : Type} (l r : T α) (v : Option α) (k : Nat) : (T.node l v r).getN k = (match k with
    | 0 => v
    | m + 1 => match Nat.land m 1 with
      | 0 => l.getN (Nat.shiftRight m 1)
      | _ + 1 => r.getN (Nat.shiftRight m 1)) := by
  cases k with
  | zero => rfl
  | succ m =>
    show Nat.casesOn (motive := fun _ => Option α) (Nat.land m 1) (l.getN (Nat.shiftRight m 1)) (fun _ => r.getN (Nat.shiftRight m 1)) =
      (match Nat.land m 1 with | 0 => l.getN (Nat.shiftRight m 1) | _ + 1 => r.getN (Nat.shiftRight m 1))
    cases Nat.land m 1 <;> rfl
theorem T.putND_zero {α : Type} (t : T α) (k : Nat) (x : Option α) : T.putND 0 t k x = t := rfl
theorem T.putND_leaf {α : Type} (f k : Nat) (x : Option α) : T.putND (f + 1) .leaf k x = (match k with
    | 0 => .node .leaf x .leaf
    | m + 1 => match Nat.land m 1 with
      | 0 => .node (T.putND f .leaf (Nat.shiftRight m 1) x) none .leaf
      | _ + 1 => .node .leaf none (T.putND f .leaf (Nat.shiftRight m 1) x)) := by
  cases k with
  | zero => rfl
  | succ m =>
    show Nat.casesOn (motive := fun _ => T α) (Nat.land m 1) (.node (T.putND f .leaf (Nat.shiftRight m 1) x) none .leaf) (fun _ => .node .leaf none (T.putND f .leaf (Nat.shiftRight m 1) x)) =
      (match Nat.land m 1 with | 0 => .node (T.putND f .leaf (Nat.shiftRight m 1) x) none .leaf | _ + 1 => .node .leaf none (T.putND f .leaf (Nat.shiftRight m 1) x))
    cases Nat.land m 1 <;> rfl
theorem T.putND_node {α : Type} (f : Nat) (l r : T α) (v : Option α) (k : Nat) (x : Option α) : T.putND (f + 1) (.node l v r) k x = (match k with
    | 0 => .node l x r
    | m + 1 => match Nat.land m 1 with
      | 0 => .node (T.putND f l (Nat.shiftRight m 1) x) v r
      | _ + 1 => .node l v (T.putND f r (Nat.shiftRight m 1) x)) := by
  cases k with
  | zero => rfl
  | succ m =>
    show Nat.casesOn (motive := fun _ => T α) (Nat.land m 1) (.node (T.putND f l (Nat.shiftRight m 1) x) v r) (fun _ => .node l v (T.putND f r (Nat.shiftRight m 1) x)) =
      (match Nat.land m 1 with | 0 => .node (T.putND f l (Nat.shiftRight m 1) x) v r | _ + 1 => .node l v (T.putND f r (Nat.shiftRight m 1) x))
    cases Nat.land m 1 <;> rfl
theorem land_one (m : Nat) : Nat.land m 1 = m % 2 := Nat.and_one_is_mod m
theorem shr_one (m : Nat) : Nat.shiftRight m 1 = m / 2 := by
  show m >>> 1 = m / 2
  rw [Nat.shiftRight_eq_div_pow]
theorem T.getN_leaf {α : Type} (k : Nat) : (T.leaf : T α).getN k = none := rfl
theorem T.putND_get {α : Type} : ∀ (f : Nat) (t : T α) (k : Nat) (x : Option α) (j : Nat), k < f →
    (T.putND f t k x).getN j = if j = k then x else t.getN j := by
  intro f
  induction f with
  | zero => intro t k x j h; omega
  | succ f ih =>
    intro t k x j h
    cases t with
    | leaf =>
      cases k with
      | zero => cases j with
        | zero => simp [T.putND_leaf, T.putND_node, T.getN_node]
        | succ j => simp only [T.putND_leaf, T.getN_node, T.getN_leaf]; split <;> simp
      | succ m =>
        simp only [T.putND_leaf, T.putND_node]
        cases hm : Nat.land m 1 with
        | zero =>
          cases j with
          | zero => simp [T.getN_node, T.getN_leaf]
          | succ j =>
            simp only [T.getN_node]
            cases hj : Nat.land j 1 with
            | zero =>
              simp only [ih _ _ _ _ (show Nat.shiftRight m 1 < f by rw [shr_one]; omega), T.getN_leaf]
              rw [land_one] at hm hj; rw [shr_one, shr_one]
              by_cases e : j = m
              · subst e; simp
              · have : j / 2 ≠ m / 2 := by omega
                simp [e, this]
            | succ q =>
              skip
              rw [land_one] at hm hj
              have : j ≠ m := by intro e; subst e; omega
              simp [this, T.getN_leaf]
        | succ p =>
          cases j with
          | zero => simp [T.getN_node, T.getN_leaf]
          | succ j =>
            simp only [T.getN_node]
            cases hj : Nat.land j 1 with
            | zero =>
              skip
              rw [land_one] at hm hj
              have : j ≠ m := by intro e; subst e; omega
              simp [this, T.getN_leaf]
            | succ q =>
              simp only [ih _ _ _ _ (show Nat.shiftRight m 1 < f by rw [shr_one]; omega), T.getN_leaf]
              rw [land_one] at hm hj; rw [shr_one, shr_one]
              by_cases e : j = m
              · subst e; simp
              · have : j / 2 ≠ m / 2 := by omega
                simp [e, this]
    | node l v r =>
      cases k with
      | zero => cases j with
        | zero => simp [T.putND_leaf, T.putND_node, T.getN_node]
        | succ j => simp only [T.putND_node, T.getN_node]; simp
      | succ m =>
        simp only [T.putND_leaf, T.putND_node]
        cases hm : Nat.land m 1 with
        | zero =>
          cases j with
          | zero => simp [T.getN_node, T.getN_leaf]
          | succ j =>
            simp only [T.getN_node]
            cases hj : Nat.land j 1 with
            | zero =>
              simp only [ih _ _ _ _ (show Nat.shiftRight m 1 < f by rw [shr_one]; omega)]
              rw [land_one] at hm hj; rw [shr_one, shr_one]
              by_cases e : j = m
              · subst e; simp
              · have : j / 2 ≠ m / 2 := by omega
                simp [e, this]
            | succ q =>
              rw [land_one] at hm hj
              have : j ≠ m := by intro e; subst e; omega
              simp [this]
        | succ p =>
          cases j with
          | zero => simp [T.getN_node, T.getN_leaf]
          | succ j =>
            simp only [T.getN_node]
            cases hj : Nat.land j 1 with
            | zero =>
              rw [land_one] at hm hj
              have : j ≠ m := by intro e; subst e; omega
              simp [this]
            | succ q =>
              simp only [ih _ _ _ _ (show Nat.shiftRight m 1 < f by rw [shr_one]; omega)]
              rw [land_one] at hm hj; rw [shr_one, shr_one]
              by_cases e : j = m
              · subst e; simp
              · have : j / 2 ≠ m / 2 := by omega
                simp [e, this]
theorem T.putN_get {α : Type} (t : T α) (k : Nat) (x : Option α) (j : Nat) : (t.putN k x).getN j = if j = k then x else t.getN j :=
  T.putND_get (k + 1) t k x j (Nat.lt_succ_self k)
/-- Names of blocks: numbers above 0, by their digits. -/
inductive Bn where
  | h
  | o (p : Bn)
  | i (p : Bn)
  deriving DecidableEq
noncomputable def Bn.succ (p : Bn) : Bn := Bn.rec (motive := fun _ => Bn) (.o .h) (fun p _ => .i p) (fun _ ih => .o ih) p
def Bn.toN : Bn → Nat
  | .h => 1
  | .o p => 2 * p.toN
  | .i p => 2 * p.toN + 1
theorem Bn.toN_succ : ∀ p : Bn, p.succ.toN = p.toN + 1
  | .h => rfl
  | .o _ => rfl
  | .i p => by
    have ih := Bn.toN_succ p
    show 2 * p.succ.toN = 2 * p.toN + 1 + 1
    rw [ih]; omega
theorem Bn.toN_pos : ∀ p : Bn, 1 ≤ p.toN
  | .h => Nat.le_refl 1
  | .o p => by have := Bn.toN_pos p; simp only [Bn.toN]; omega
  | .i p => by have := Bn.toN_pos p; simp only [Bn.toN]; omega
theorem Bn.toN_inj : ∀ {p q : Bn}, p.toN = q.toN → p = q
  | .h, .h, _ => rfl
  | .h, .o q, e => by have := q.toN_pos; simp only [Bn.toN] at e; omega
  | .h, .i q, e => by have := q.toN_pos; simp only [Bn.toN] at e; omega
  | .o p, .h, e => by have := p.toN_pos; simp only [Bn.toN] at e; omega
  | .o p, .o q, e => by simp only [Bn.toN] at e; rw [Bn.toN_inj (p := p) (q := q) (by omega)]
  | .o p, .i q, e => by simp only [Bn.toN] at e; omega
  | .i p, .h, e => by have := p.toN_pos; simp only [Bn.toN] at e; omega
  | .i p, .o q, e => by simp only [Bn.toN] at e; omega
  | .i p, .i q, e => by simp only [Bn.toN] at e; rw [Bn.toN_inj (p := p) (q := q) (by omega)]
noncomputable def pOf (n : Nat) : Bn := Nat.rec (motive := fun _ => Bn) .h (fun _ ih => ih.succ) n
theorem toN_pOf : ∀ n : Nat, (pOf n).toN = n + 1
  | 0 => rfl
  | n + 1 => by
    show (pOf n).succ.toN = n + 1 + 1
    rw [Bn.toN_succ, toN_pOf n]
theorem pOf_inj {m n : Nat} (h : pOf m = pOf n) : m = n := by
  have := congrArg Bn.toN h
  rw [toN_pOf, toN_pOf] at this
  omega
noncomputable def T.get {α : Type} (t : T α) (p : Bn) : Option α :=
  Bn.rec (motive := fun _ => T α → Option α) (fun t => T.rec (motive := fun _ => Option α) none (fun _ v _ _ _ => v) t)
    (fun _ ih t => T.rec (motive := fun _ => Option α) none (fun l _ _ _ _ => ih l) t)
    (fun _ ih t => T.rec (motive := fun _ => Option α) none (fun _ _ r _ _ => ih r) t) p t
noncomputable def T.put {α : Type} (t : T α) (p : Bn) (x : Option α) : T α :=
  Bn.rec (motive := fun _ => T α → T α) (fun t => T.rec (motive := fun _ => T α) (.node .leaf x .leaf) (fun l _ r _ _ => .node l x r) t)
    (fun _ ih t => T.rec (motive := fun _ => T α) (.node (ih .leaf) none .leaf) (fun l v r _ _ => .node (ih l) v r) t)
    (fun _ ih t => T.rec (motive := fun _ => T α) (.node .leaf none (ih .leaf)) (fun l v r _ _ => .node l v (ih r)) t) p t
theorem T.get_leaf {α : Type} (p : Bn) : (T.leaf : T α).get p = none := by cases p <;> rfl
theorem T.put_get {α : Type} (x : Option α) : ∀ (p : Bn) (t : T α) (q : Bn), (t.put p x).get q = if q = p then x else t.get q
  | .h, .leaf, .h => rfl
  | .h, .leaf, .o q => by show (T.leaf : T α).get q = _; simp [T.get_leaf]
  | .h, .leaf, .i q => by show (T.leaf : T α).get q = _; simp [T.get_leaf]
  | .h, .node _ _ _, .h => rfl
  | .h, .node l _ _, .o q => by show l.get q = _; simp; rfl
  | .h, .node _ _ r, .i q => by show r.get q = _; simp; rfl
  | .o p, .leaf, .h => rfl
  | .o p, .leaf, .o q => by
    show ((T.leaf : T α).put p x).get q = _
    rw [T.put_get x p .leaf q]; simp [T.get_leaf]
  | .o p, .leaf, .i q => by show (T.leaf : T α).get q = _; simp [T.get_leaf]
  | .o p, .node _ _ _, .h => rfl
  | .o p, .node l _ _, .o q => by
    show (l.put p x).get q = _
    rw [T.put_get x p l q]; simp; rfl
  | .o p, .node _ _ r, .i q => by show r.get q = _; simp; rfl
  | .i p, .leaf, .h => rfl
  | .i p, .leaf, .o q => by show (T.leaf : T α).get q = _; simp [T.get_leaf]
  | .i p, .leaf, .i q => by
    show ((T.leaf : T α).put p x).get q = _
    rw [T.put_get x p .leaf q]; simp [T.get_leaf]
  | .i p, .node _ _ _, .h => rfl
  | .i p, .node l _ _, .o q => by show l.get q = _; simp; rfl
  | .i p, .node _ _ r, .i q => by
    show (r.put p x).get q = _
    rw [T.put_get x p r q]; simp; rfl
end Ev
end Go.Proofs.YtpmjneggkccaiaaGreatDoor
