/- Tries keyed by numbers: what was put in is found, what stands elsewhere stays. -/
import Derived.CallsIn
import Derived.Laws.Sem
set_option linter.unusedVariables false
set_option linter.unusedSimpArgs false
namespace Go.Proofs.Ytdofhlmffponoaa
namespace Ev
inductive T (α : Type) where
  | leaf
  | node (l : T α) (v : Option α) (r : T α)
noncomputable def T.getN {α : Type} (t : T α) : Nat → Option α :=
  T.rec (motive := fun _ => Nat → Option α) (fun _ => none)
    (fun _ v _ gl gr k => Nat.casesOn (motive := fun _ => Option α) k v
      (fun m => Nat.casesOn (motive := fun _ => Option α) (Nat.land m 1) (gl (Nat.shiftRight m 1)) (fun _ => gr (Nat.shiftRight m 1)))) t
noncomputable def T.putND {α : Type} (f : Nat) : T α → Nat → Option α → T α :=
  Nat.rec (motive := fun _ => T α → Nat → Option α → T α) (fun t _ _ => t)
    (fun _ ih t k x => T.casesOn (motive := fun _ => T α) t
      (Nat.casesOn (motive := fun _ => T α) k (.node .leaf x .leaf)
        (fun m => Nat.casesOn (motive := fun _ => T α) (Nat.land m 1) (.node (ih .leaf (Nat.shiftRight m 1) x) none .leaf)
          (fun _ => .node .leaf none (ih .leaf (Nat.shiftRight m 1) x))))
      (fun l v r => Nat.casesOn (motive := fun _ => T α) k (.node l x r)
        (fun m => Nat.casesOn (motive := fun _ => T α) (Nat.land m 1) (.node (ih l (Nat.shiftRight m 1) x) v r)
          (fun _ => .node l v (ih r (Nat.shiftRight m 1) x))))) f
noncomputable def T.putN {α : Type} (t : T α) (k : Nat) (x : Option α) : T α := T.putND (Nat.succ k) t k x
theorem T.getN_node {α : Type} (l r : T α) (v : Option α) (k : Nat) : (T.node l v r).getN k = (match k with
    | 0 => v
    | m + 1 => match Nat.land m 1 with
      | 0 => l.getN (Nat.shiftRight m 1)
      | _ + 1 => r.getN (Nat.shiftRight m 1)) := by
  cases k with
  | zero => rfl
  | succ m =>
    show Nat.casesOn (motive := fun _ => Option α) (Nat.land m 1) (l.getN (Nat.shiftRight m 1)) (fun _ => r.getN (Nat.shiftRight m 1)) =
      (match Nat.land m 1 with | 0 => l.getN (Nat.shiftRight m 1) | _ + 1 => r.getN (Nat.shiftRight m 1))
    cases Nat.land m 1 <;> rfl
theorem T.putND_zero {α : Type} (t : T α) (k : Nat) (x : Option α) : T.putND 0 t k x = t := rfl
theorem T.putND_leaf {α : Type} (f k : Nat) (x : Option α) : T.putND (f + 1) .leaf k x = (match k with
    | 0 => .node .leaf x .leaf
    | m + 1 => match Nat.land m 1 with
      | 0 => .node (T.putND f .leaf (Nat.shiftRight m 1) x) none .leaf
      | _ + 1 => .node .leaf none (T.putND f .leaf (Nat.shiftRight m 1) x)) := by
  cases k with
  | zero => rfl
  | succ m =>
    show Nat.casesOn (motive := fun _ => T α) (Nat.land m 1) (.node (T.putND f .leaf (Nat.shiftRight m 1) x) none .leaf) (fun _ => .node .leaf none (T.putND f .leaf (Nat.shiftRight m 1) x)) =
      (match Nat.land m 1 with | 0 => .node (T.putND f .leaf (Nat.shiftRight m 1) x) none .leaf | _ + 1 => .node .leaf none (T.putND f .leaf (Nat.shiftRight m 1) x))
    cases Nat.land m 1 <;> rfl
theorem T.putND_node {α : Type} (f : Nat) (l r : T α) (v : Option α) (k : Nat) (x : Option α) : T.putND (f + 1) (.node l v r) k x = (match k with
    | 0 => .node l x r
    | m + 1 => match Nat.land m 1 with
      | 0 => .node (T.putND f l (Nat.shiftRight m 1) x) v r
      | _ + 1 => .node l v (T.putND f r (Nat.shiftRight m 1) x)) := by
  cases k with
  | zero => rfl
  | succ m =>
    show Nat.casesOn (motive := fun _ => T α) (Nat.land m 1) (.node (T.putND f l (Nat.shiftRight m 1) x) v r) (fun _ => .node l v (T.putND f r (Nat.shiftRight m 1) x)) =
      (match Nat.land m 1 with | 0 => .node (T.putND f l (Nat.shiftRight m 1) x) v r | _ + 1 => .node l v (T.putND f r (Nat.shiftRight m 1) x))
    cases Nat.land m 1 <;> rfl
theorem land_one (m : Nat) : Nat.land m 1 = m % 2 := Nat.and_one_is_mod m
theorem shr_one (m : Nat) : Nat.shiftRight m 1 = m / 2 := by
  show m >>> 1 = m / 2
  rw [Nat.shiftRight_eq_div_pow]
theorem T.getN_leaf {α : Type} (k : Nat) : (T.leaf : T α).getN k = none := rfl
theorem T.putND_get {α : Type} : ∀ (f : Nat) (t : T α) (k : Nat) (x : Option α) (j : Nat), k < f →
    (T.putND f t k x).getN j = if j = k then x else t.getN j := by
  intro f
  induction f with
  | zero => intro t k x j h; omega
  | succ f ih =>
    intro t k x j h
    cases t with
    | leaf =>
      cases k with
      | zero => cases j with
        | zero => simp [T.putND_leaf, T.putND_node, T.getN_node]
        | succ j => simp only [T.putND_leaf, T.getN_node, T.getN_leaf]; split <;> simp
      | succ m =>
        simp only [T.putND_leaf, T.putND_node]
        cases hm : Nat.land m 1 with
        | zero =>
          cases j with
          | zero => simp [T.getN_node, T.getN_leaf]
          | succ j =>
            simp only [T.getN_node]
            cases hj : Nat.land j 1 with
            | zero =>
              simp only [ih _ _ _ _ (show Nat.shiftRight m 1 < f by rw [shr_one]; omega), T.getN_leaf]
              rw [land_one] at hm hj; rw [shr_one, shr_one]
              by_cases e : j = m
              · subst e; simp
              · have : j / 2 ≠ m / 2 := by omega
                simp [e, this]
            | succ q =>
              skip
              rw [land_one] at hm hj
              have : j ≠ m := by intro e; subst e; omega
              simp [this, T.getN_leaf]
        | succ p =>
          cases j with
          | zero => simp [T.getN_node, T.getN_leaf]
          | succ j =>
            simp only [T.getN_node]
            cases hj : Nat.land j 1 with
            | zero =>
              skip
              rw [land_one] at hm hj
              have : j ≠ m := by intro e; subst e; omega
              simp [this, T.getN_leaf]
            | succ q =>
              simp only [ih _ _ _ _ (show Nat.shiftRight m 1 < f by rw [shr_one]; omega), T.getN_leaf]
              rw [land_one] at hm hj; rw [shr_one, shr_one]
              by_cases e : j = m
              · subst e; simp
              · have : j / 2 ≠ m / 2 := by omega
                simp [e, this]
    | node l v r =>
      cases k with
      | zero => cases j with
        | zero => simp [T.putND_leaf, T.putND_node, T.getN_node]
        | succ j => simp only [T.putND_node, T.getN_node]; simp
      | succ m =>
        simp only [T.putND_leaf, T.putND_node]
        cases hm : Nat.land m 1 with
        | zero =>
          cases j with
          | zero => simp [T.getN_node, T.getN_leaf]
          | succ j =>
            simp only [T.getN_node]
            cases hj : Nat.land j 1 with
            | zero =>
              simp only [ih _ _ _ _ (show Nat.shiftRight m 1 < f by rw [shr_one]; omega)]
              rw [land_one] at hm hj; rw [shr_one, shr_one]
              by_cases e : j = m
              · subst e; simp
              · have : j / 2 ≠ m / 2 := by omega
                simp [e, this]
            | succ q =>
              rw [land_one] at hm hj
              have : j ≠ m := by intro e; subst e; omega
              simp [this]
        | succ p =>
          cases j with
          | zero => simp [T.getN_node, T.getN_leaf]
          | succ j =>
            simp only [T.getN_node]
            cases hj : Nat.land j 1 with
            | zero =>
              rw [land_one] at hm hj
              have : j ≠ m := by intro e; subst e; omega
              simp [this]
            | succ q =>
              simp only [ih _ _ _ _ (show Nat.shiftRight m 1 < f by rw [shr_one]; omega)]
              rw [land_one] at hm hj; rw [shr_one, shr_one]
              by_cases e : j = m
              · subst e; simp
              · have : j / 2 ≠ m / 2 := by omega
                simp [e, this]
theorem T.putN_get {α : Type} (t : T α) (k : Nat) (x : Option α) (j : Nat) : (t.putN k x).getN j = if j = k then x else t.getN j :=
  T.putND_get (k + 1) t k x j (Nat.lt_succ_self k)
/-- Names of blocks: numbers above 0, by their digits. -/
inductive Bn where
  | h
  | o (p : Bn)
  | i (p : Bn)
  deriving DecidableEq
noncomputable def Bn.succ (p : Bn) : Bn := Bn.rec (motive := fun _ => Bn) (.o .h) (fun p _ => .i p) (fun _ ih => .o ih) p
def Bn.toN : Bn → Nat
  | .h => 1
  | .o p => 2 * p.toN
  | .i p => 2 * p.toN + 1
theorem Bn.toN_succ : ∀ p : Bn, p.succ.toN = p.toN + 1
  | .h => rfl
  | .o _ => rfl
  | .i p => by
    have ih := Bn.toN_succ p
    show 2 * p.succ.toN = 2 * p.toN + 1 + 1
    rw [ih]; omega
theorem Bn.toN_pos : ∀ p : Bn, 1 ≤ p.toN
  | .h => Nat.le_refl 1
  | .o p => by have := Bn.toN_pos p; simp only [Bn.toN]; omega
  | .i p => by have := Bn.toN_pos p; simp only [Bn.toN]; omega
theorem Bn.toN_inj : ∀ {p q : Bn}, p.toN = q.toN → p = q
  | .h, .h, _ => rfl
  | .h, .o q, e => by have := q.toN_pos; simp only [Bn.toN] at e; omega
  | .h, .i q, e => by have := q.toN_pos; simp only [Bn.toN] at e; omega
  | .o p, .h, e => by have := p.toN_pos; simp only [Bn.toN] at e; omega
  | .o p, .o q, e => by simp only [Bn.toN] at e; rw [Bn.toN_inj (p := p) (q := q) (by omega)]
  | .o p, .i q, e => by simp only [Bn.toN] at e; omega
  | .i p, .h, e => by have := p.toN_pos; simp only [Bn.toN] at e; omega
  | .i p, .o q, e => by simp only [Bn.toN] at e; omega
  | .i p, .i q, e => by simp only [Bn.toN] at e; rw [Bn.toN_inj (p := p) (q := q) (by omega)]
noncomputable def pOf (n : Nat) : Bn := Nat.rec (motive := fun _ => Bn) .h (fun _ ih => ih.succ) n
theorem toN_pOf : ∀ n : Nat, (pOf n).toN = n + 1
  | 0 => rfl
  | n + 1 => by
    show (pOf n).succ.toN = n + 1 + 1
    rw [Bn.toN_succ, toN_pOf n]
theorem pOf_inj {m n : Nat} (h : pOf m = pOf n) : m = n := by
  have := congrArg Bn.toN h
  rw [toN_pOf, toN_pOf] at this
  omega
noncomputable def T.get {α : Type} (t : T α) (p : Bn) : Option α :=
  Bn.rec (motive := fun _ => T α → Option α) (fun t => T.rec (motive := fun _ => Option α) none (fun _ v _ _ _ => v) t)
    (fun _ ih t => T.rec (motive := fun _ => Option α) none (fun l _ _ _ _ => ih l) t)
    (fun _ ih t => T.rec (motive := fun _ => Option α) none (fun _ _ r _ _ => ih r) t) p t
noncomputable def T.put {α : Type} (t : T α) (p : Bn) (x : Option α) : T α :=
  Bn.rec (motive := fun _ => T α → T α) (fun t => T.rec (motive := fun _ => T α) (.node .leaf x .leaf) (fun l _ r _ _ => .node l x r) t)
    (fun _ ih t => T.rec (motive := fun _ => T α) (.node (ih .leaf) none .leaf) (fun l v r _ _ => .node (ih l) v r) t)
    (fun _ ih t => T.rec (motive := fun _ => T α) (.node .leaf none (ih .leaf)) (fun l v r _ _ => .node l v (ih r)) t) p t
theorem T.get_leaf {α : Type} (p : Bn) : (T.leaf : T α).get p = none := by cases p <;> rfl
theorem T.put_get {α : Type} (x : Option α) : ∀ (p : Bn) (t : T α) (q : Bn), (t.put p x).get q = if q = p then x else t.get q
  | .h, .leaf, .h => rfl
  | .h, .leaf, .o q => by show (T.leaf : T α).get q = _; simp [T.get_leaf]
  | .h, .leaf, .i q => by show (T.leaf : T α).get q = _; simp [T.get_leaf]
  | .h, .node _ _ _, .h => rfl
  | .h, .node l _ _, .o q => by show l.get q = _; simp; rfl
  | .h, .node _ _ r, .i q => by show r.get q = _; simp; rfl
  | .o p, .leaf, .h => rfl
  | .o p, .leaf, .o q => by
    show ((T.leaf : T α).put p x).get q = _
    rw [T.put_get x p .leaf q]; simp [T.get_leaf]
  | .o p, .leaf, .i q => by show (T.leaf : T α).get q = _; simp [T.get_leaf]
  | .o p, .node _ _ _, .h => rfl
  | .o p, .node l _ _, .o q => by
    show (l.put p x).get q = _
    rw [T.put_get x p l q]; simp; rfl
  | .o p, .node _ _ r, .i q => by show r.get q = _; simp; rfl
  | .i p, .leaf, .h => rfl
  | .i p, .leaf, .o q => by show (T.leaf : T α).get q = _; simp [T.get_leaf]
  | .i p, .leaf, .i q => by
    show ((T.leaf : T α).put p x).get q = _
    rw [T.put_get x p .leaf q]; simp [T.get_leaf]
  | .i p, .node _ _ _, .h => rfl
  | .i p, .node l _ _, .o q => by show l.get q = _; simp; rfl
  | .i p, .node _ _ r, .i q => by
    show (r.put p x).get q = _
    rw [T.put_get x p r q]; simp; rfl
end Ev
end Go.Proofs.Ytdofhlmffponoaa
/- Values as the evaluator holds them, and what they stand for in memory. -/
set_option linter.unusedVariables false
set_option linter.unusedSimpArgs false
namespace Go.Proofs.Ytdofhlmffponoaa
namespace Ev
/-- Where a block of the evaluator's lies: the block, from which cell on, and how many elements a slice that was appended to may have. -/
structure Loc where
  blk : Nat
  base : Nat
  cap : Nat
inductive AV where
  | bool (b : Bool)
  | int (k : IntKind) (n : Int)
  | str (l : List Nat)
  | ptr0
  | ptr (b : Bn) (off : Nat)
  | sl0
  | slk (b : Bn) (off len cap : Nat)
  | slu (b : Bn) (off len less : Nat)
  | sle
  | map0
  | map (b : Bn)
  | func (fn : Fn) (first cap : List AV)
  | yield (b : Bn)
  | nilF
  | iface (t : TypeId) (v : AV)
  | nilI
  | agg (l : List AV)
  | tup (l : List AV)
  | any
def bl (s : ByteArray) : List Nat := s.data.toList.map (·.toNat)
abbrev Mu := Bn → Option Loc
mutual
inductive RV (μ : Mu) : AV → Value → Prop
  | bool {b : Bool} : RV μ (.bool b) (.bool b)
  | int {k : IntKind} {n : Int} : RV μ (.int k n) (.int k n)
  | str {s : ByteArray} {l : List Nat} : bl s = l → RV μ (.str l) (.string s)
  | ptr0 : RV μ .ptr0 (.pointer none)
  | ptr {b : Bn} {off : Nat} {l : Loc} : μ b = some l → RV μ (.ptr b off) (.pointer (some ⟨l.blk, l.base + off, none⟩))
  | sl0 : RV μ .sl0 (.slice none 0 0)
  | slk {b : Bn} {off len cap : Nat} {l : Loc} : μ b = some l → len ≤ cap → RV μ (.slk b off len cap) (.slice (some ⟨l.blk, l.base + off, none⟩) len cap)
  | slu {b : Bn} {off len less : Nat} {l : Loc} : μ b = some l → len + less ≤ l.cap → RV μ (.slu b off len less) (.slice (some ⟨l.blk, l.base + off, none⟩) len (l.cap - less))
  | sle {a : Addr} {c : Nat} : RV μ .sle (.slice (some a) 0 c)
  | map0 : RV μ .map0 (.map none)
  | map {b : Bn} {l : Loc} : μ b = some l → RV μ (.map b) (.map (some l.blk))
  | func {fn : Fn} {first cap : List AV} {xs ys : List Value} : (∀ n, fn ≠ .yield n) → RVs μ first xs → RVs μ cap ys → RV μ (.func fn first cap) (.func fn ⟨xs⟩ ⟨ys⟩)
  | yield {b : Bn} {l : Loc} : μ b = some l → RV μ (.yield b) (.func (.yield l.blk) #[] #[])
  | nilF : RV μ .nilF .nilFunc
  | iface {t : TypeId} {v : AV} {x : Value} : RV μ v x → RV μ (.iface t v) (.iface t x)
  | nilI : RV μ .nilI .nilIface
  | agg {l : List AV} {xs : List Value} : RVs μ l xs → RV μ (.agg l) (.agg ⟨xs⟩)
  | tup {l : List AV} {xs : List Value} : RVs μ l xs → RV μ (.tup l) (.tuple ⟨xs⟩)
  | any {x : Value} : x.oneCell' = true → RV μ .any x
inductive RVs (μ : Mu) : List AV → List Value → Prop
  | nil : RVs μ [] []
  | cons {v : AV} {x : Value} {vs : List AV} {xs : List Value} : RV μ v x → RVs μ vs xs → RVs μ (v :: vs) (x :: xs)
end
/-- One naming goes on as the other. -/
def Mu.le (μ ν : Mu) : Prop := ∀ b l, μ b = some l → ν b = some l
theorem Mu.le.refl (μ : Mu) : Mu.le μ μ := fun _ _ h => h
theorem Mu.le.trans {μ ν ξ : Mu} (h : Mu.le μ ν) (h' : Mu.le ν ξ) : Mu.le μ ξ := fun b l e => h' b l (h b l e)
mutual
theorem RV.mono {μ ν : Mu} (h : Mu.le μ ν) : ∀ {v : AV} {x : Value}, RV μ v x → RV ν v x
  | _, _, .bool => .bool
  | _, _, .int => .int
  | _, _, .str e => .str e
  | _, _, .ptr0 => .ptr0
  | _, _, .ptr e => .ptr (h _ _ e)
  | _, _, .sl0 => .sl0
  | _, _, .slk e c => .slk (h _ _ e) c
  | _, _, .slu e c => .slu (h _ _ e) c
  | _, _, .sle => .sle
  | _, _, .map0 => .map0
  | _, _, .map e => .map (h _ _ e)
  | _, _, .func e a b => .func e (a.mono h) (b.mono h)
  | _, _, .yield e => .yield (h _ _ e)
  | _, _, .nilF => .nilF
  | _, _, .iface a => .iface (a.mono h)
  | _, _, .nilI => .nilI
  | _, _, .agg a => .agg (a.mono h)
  | _, _, .tup a => .tup (a.mono h)
  | _, _, .any a => .any a
theorem RVs.mono {μ ν : Mu} (h : Mu.le μ ν) : ∀ {v : List AV} {x : List Value}, RVs μ v x → RVs ν v x
  | _, _, .nil => .nil
  | _, _, .cons a b => .cons (a.mono h) (b.mono h)
end
theorem RVs.length {μ : Mu} : ∀ {l : List AV} {xs : List Value}, RVs μ l xs → xs.length = l.length
  | _, _, .nil => rfl
  | _, _, .cons _ b => by simp [b.length]
theorem RVs.get {μ : Mu} : ∀ {l : List AV} {xs : List Value}, RVs μ l xs → ∀ {i : Nat} {v : AV}, l[i]? = some v → ∃ x, xs[i]? = some x ∧ RV μ v x
  | _, _, .nil, _, _, h => by simp at h
  | _, _, .cons a _, 0, _, h => by simp at h; subst h; exact ⟨_, by simp, a⟩
  | _, _, .cons _ b, i + 1, _, h => by
    simp at h
    obtain ⟨x, hx, hr⟩ := b.get h
    exact ⟨x, by simpa using hx, hr⟩
theorem RVs.append {μ : Mu} : ∀ {l l' : List AV} {xs xs' : List Value}, RVs μ l xs → RVs μ l' xs' → RVs μ (l ++ l') (xs ++ xs')
  | _, _, _, _, .nil, h => h
  | _, _, _, _, .cons a b, h => .cons a (b.append h)
theorem RVs.take {μ : Mu} : ∀ {l : List AV} {xs : List Value}, RVs μ l xs → ∀ n, RVs μ (l.take n) (xs.take n)
  | _, _, _, 0 => by simp; exact .nil
  | _, _, .nil, _ + 1 => by simp; exact .nil
  | _, _, .cons a b, n + 1 => .cons a (b.take n)
theorem RVs.drop {μ : Mu} : ∀ {l : List AV} {xs : List Value}, RVs μ l xs → ∀ n, RVs μ (l.drop n) (xs.drop n)
  | _, _, h, 0 => by simpa using h
  | _, _, .nil, _ + 1 => by simp; exact .nil
  | _, _, .cons _ b, n + 1 => by simpa using b.drop n
theorem bl_inj {s t : ByteArray} (h : bl s = bl t) : s = t := by
  cases s with | _ a => cases t with | _ b =>
  cases a with | _ a => cases b with | _ b =>
  simp only [bl] at h
  have : a = b := by
    induction a generalizing b with
    | nil => cases b with
      | nil => rfl
      | cons y b => simp at h
    | cons x a ih => cases b with
      | nil => simp at h
      | cons y b =>
        simp only [List.map_cons, List.cons.injEq] at h
        rw [UInt8.toNat_inj.1 h.1, ih b h.2]
  rw [this]
theorem bl_length (s : ByteArray) : (bl s).length = s.size := by
  simp only [bl, List.length_map]; exact Array.length_toList
theorem bl_append (s t : ByteArray) : bl (s ++ t) = bl s ++ bl t := by
  simp only [bl, ByteArray.data_append, Array.toList_append, List.map_append]
end Ev
end Go.Proofs.Ytdofhlmffponoaa
