/-
  Trees of nodes in plain Lean; where a tree lies in memory; what keeps it there.
-/
import Derived.Test.YtgknigjpdnfkdaaRows
import Derived.WalkKit
import Derived.WalkSpells
import Derived.WalkLawsBesides
import Derived.Below
namespace Go.Proofs.Ytgknigjpdnfkdaa
open Go.RowKit
/-- a hypothesis that the walk's simp leaves alone -/
structure Hid (p : Prop) : Prop where
  out : p
instance {p : Prop} : CoeOut p (Hid p) := ⟨fun h => ⟨h⟩⟩
/-- a node: its kind, where it stands, its text, its kids -/
inductive Nd where
  | mk (kind fr to : Int) (text : ByteArray) (kids : List Nd)
theorem Nd.ind {P : Nd → Prop} (h : ∀ k f t s ks, (∀ x ∈ ks, P x) → P (.mk k f t s ks)) : ∀ n, P n := fun n =>
  Nd.rec (motive_1 := P) (motive_2 := fun l => ∀ x ∈ l, P x) (fun k f t s ks ih => h k f t s ks ih) (fun _ hx => by cases hx)
    (fun x r hx hr y hy => by rcases List.mem_cons.1 hy with rfl | hy; exact hx; exact hr y hy) n
namespace Nd
def kind : Nd → Int | mk k _ _ _ _ => k
def fr : Nd → Int | mk _ f _ _ _ => f
def to : Nd → Int | mk _ _ t _ _ => t
def text : Nd → ByteArray | mk _ _ _ s _ => s
def kids : Nd → List Nd | mk _ _ _ _ ks => ks
theorem ind3 {P : Nd → Prop} (h : ∀ n : Nd, (∀ x ∈ n.kids, P x) → P n) : ∀ n, P n := Nd.ind fun k f t s ks ih => h (.mk k f t s ks) ih
theorem eta (n : Nd) : n = .mk n.kind n.fr n.to n.text n.kids := by cases n; rfl
end Nd
mutual
/-- how many nodes -/
def Nd.sz : Nd → Nat
  | .mk _ _ _ _ ks => 1 + szL ks
def szL : List Nd → Nat
  | [] => 0
  | x :: r => x.sz + szL r
end
theorem szL_nil : szL [] = 0 := by simp [szL]
theorem szL_cons (x : Nd) (r : List Nd) : szL (x :: r) = x.sz + szL r := by simp [szL]
theorem Nd.sz_eq (n : Nd) : n.sz = 1 + szL n.kids := by cases n; simp [Nd.sz, Nd.kids]
theorem szL_append (a b : List Nd) : szL (a ++ b) = szL a + szL b := by
  induction a with
  | nil => simp [szL_nil]
  | cons x r ih => simp [szL_cons, ih]; omega
theorem Nd.sz_pos (n : Nd) : 1 ≤ n.sz := by rw [Nd.sz_eq]; omega
theorem szL_len (l : List Nd) : l.length ≤ szL l := by
  induction l with
  | nil => simp [szL_nil]
  | cons x r ih => have := x.sz_pos; simp [szL_cons]; omega
theorem szL_mem {l : List Nd} {x : Nd} (h : x ∈ l) : x.sz ≤ szL l := by
  induction l with
  | nil => cases h
  | cons y r ih => rcases List.mem_cons.1 h with rfl | h
                   · simp [szL_cons]
                   · have := ih h; simp [szL_cons]; omega
/-- all blocks but those of X lie as they lay -/
structure Kx (X : Nat → Prop) (A B : World) : Prop where
  os : B.os = A.os
  tape : B.tape = A.tape
  output : B.output = A.output
  size : A.heap.size ≤ B.heap.size
  keep : ∀ b o, A.heap[b]? = some o → ¬ X b → B.heap[b]? = some o
theorem Kx.refl (X : Nat → Prop) (A : World) : Kx X A A := ⟨rfl, rfl, rfl, Nat.le_refl _, fun _ _ h _ => h⟩
theorem Kx.trans {X : Nat → Prop} {A B C : World} (h : Kx X A B) (k : Kx X B C) : Kx X A C :=
  ⟨k.os.trans h.os, k.tape.trans h.tape, k.output.trans h.output, Nat.le_trans h.size k.size, fun b o h1 h2 => k.keep b o (h.keep b o h1 h2) h2⟩
theorem Kx.mono {X Y : Nat → Prop} {A B : World} (h : Kx X A B) (hx : ∀ b, b < A.heap.size → X b → Y b) : Kx Y A B :=
  ⟨h.os, h.tape, h.output, h.size, fun b o h1 h2 => h.keep b o h1 (fun hb => h2 (hx b (Array.getElem?_eq_some_iff.1 h1).1 hb))⟩
/-- blocks of Y that are new in between don't count -/
theorem Kx.andThen {X Y Z : Nat → Prop} {A B C : World} (h : Kx X A B) (k : Kx Y B C) (hx : ∀ b, b < A.heap.size → X b → Z b) (hy : ∀ b, b < A.heap.size → Y b → Z b) : Kx Z A C :=
  ⟨k.os.trans h.os, k.tape.trans h.tape, k.output.trans h.output, Nat.le_trans h.size k.size, fun b o h1 h2 => by
    have hb := (Array.getElem?_eq_some_iff.1 h1).1
    exact k.keep b o (h.keep b o h1 (fun hb' => h2 (hx b hb hb'))) (fun hb' => h2 (hy b hb hb'))⟩
theorem Kx.drew {X : Nat → Prop} {A B : World} (h : Kx X A B) : Kx X A B.drew := ⟨h.os, h.tape, h.output, h.size, h.keep⟩
theorem Kx.cell {X : Nat → Prop} {A B : World} (h : Kx X A B) {a : Addr} {v : Value} (hc : A.cell? a = some v) (hx : ¬ X a.block) : B.cell? a = some v := by
  unfold World.cell? at hc ⊢
  cases ho : A.heap[a.block]? with
  | none => rw [ho] at hc; cases hc
  | some o => rw [h.keep _ _ ho hx]; rw [ho] at hc; exact hc
theorem Kx.frozen {X : Nat → Prop} {A B : World} (h : Kx X A B) {a : Addr} {v : Value} (hc : A.cell? a = some v) (hx : ¬ X a.block) : B.frozen? a = A.frozen? a := by
  unfold World.cell? at hc
  unfold World.frozen?
  cases ho : A.heap[a.block]? with
  | none => rw [ho] at hc; cases hc
  | some o => rw [h.keep _ _ ho hx]
theorem Kx.of_below {n : Nat} {A B : World} (h : Below n A B) : Kx (fun b => n ≤ b) A B :=
  ⟨h.os, h.tape, h.output, h.size, fun b o h1 h2 => (h.block b (by omega)).trans h1⟩
/-- nothing that was there is changed -/
theorem Kx.of_whole {X : Nat → Prop} {A B : World} (h : Below A.heap.size A B) : Kx X A B :=
  ⟨h.os, h.tape, h.output, h.size, fun b _ h1 _ => (h.block b (Array.getElem?_eq_some_iff.1 h1).1).trans h1⟩
theorem Kx.below {X : Nat → Prop} {A B : World} {n : Nat} (h : Kx X A B) (hn : n ≤ A.heap.size) (hx : ∀ b, b < n → ¬ X b) : Below n A B :=
  ⟨h.os, h.tape, h.output, h.size, fun b hb => by rw [h.keep b A.heap[b] (by simp [show b < A.heap.size by omega]) (hx b hb)]; simp [show b < A.heap.size by omega]⟩
/-- what is asked of a list of kids: its block, the first cell, the block's object -/
abbrev BP := Nat → Nat → Obj → Prop
mutual
/-- the node lies at block b from cell o on; the lists of kids in blocks of B -/
def Nd.lies (B : BP) (W : World) : Nd → Nat → Nat → Prop
  | .mk k f t s ks, b, o => W.cell? ⟨b, o, none⟩ = some (.int .i64 k) ∧ W.cell? ⟨b, o + 1, none⟩ = some (.int .i64 f) ∧ W.cell? ⟨b, o + 2, none⟩ = some (.int .i64 t) ∧ W.cell? ⟨b, o + 3, none⟩ = some (.string s) ∧
      ∃ v, W.cell? ⟨b, o + 4, none⟩ = some v ∧ ((∃ a c, v = .slice a 0 c ∧ ks = []) ∨ ∃ b' o' c ob, v = .slice (some ⟨b', o', none⟩) ks.length c ∧ (ks.length : Int) ≤ 9223372036854775807 ∧ W.heap[b']? = some ob ∧ B b' o' ob ∧ liesL B W ks b' o')
def liesL (B : BP) (W : World) : List Nd → Nat → Nat → Prop
  | [], _, _ => True
  | x :: r, b, o => x.lies B W b o ∧ liesL B W r b (o + 5)
end
/-- a slice of nodes reads as these -/
def SlV (B : BP) (W : World) (v : Value) (ks : List Nd) : Prop :=
  (∃ a c, v = .slice a 0 c ∧ ks = []) ∨ ∃ b o c ob, v = .slice (some ⟨b, o, none⟩) ks.length c ∧ (ks.length : Int) ≤ 9223372036854775807 ∧ W.heap[b]? = some ob ∧ B b o ob ∧ liesL B W ks b o
theorem lies_iff {B : BP} {W : World} {n : Nd} {b o : Nat} : n.lies B W b o ↔ W.cell? ⟨b, o, none⟩ = some (.int .i64 n.kind) ∧ W.cell? ⟨b, o + 1, none⟩ = some (.int .i64 n.fr) ∧ W.cell? ⟨b, o + 2, none⟩ = some (.int .i64 n.to) ∧ W.cell? ⟨b, o + 3, none⟩ = some (.string n.text) ∧
      ∃ v, W.cell? ⟨b, o + 4, none⟩ = some v ∧ SlV B W v n.kids := by
  cases n; simp [Nd.lies, SlV, Nd.kind, Nd.fr, Nd.to, Nd.text, Nd.kids]
theorem liesL_nil {B : BP} {W : World} {b o : Nat} : liesL B W [] b o := by simp [liesL]
theorem liesL_cons {B : BP} {W : World} {x : Nd} {r : List Nd} {b o : Nat} : liesL B W (x :: r) b o ↔ x.lies B W b o ∧ liesL B W r b (o + 5) := by simp [liesL]
theorem liesL_get {B : BP} {W : World} {l : List Nd} {b o : Nat} (h : liesL B W l b o) (i : Nat) (hi : i < l.length) : (l[i]).lies B W b (o + i * 5) := by
  induction l generalizing o i with
  | nil => cases hi
  | cons x r ih =>
    obtain ⟨h1, h2⟩ := liesL_cons.1 h
    cases i with
    | zero => simpa using h1
    | succ i => have := ih h2 i (by simpa using hi); simp only [List.getElem_cons_succ]; rwa [show o + (i + 1) * 5 = o + 5 + i * 5 by omega]
theorem liesL_of {B : BP} {W : World} {l : List Nd} {b o : Nat} (h : ∀ i (hi : i < l.length), (l[i]).lies B W b (o + i * 5)) : liesL B W l b o := by
  induction l generalizing o with
  | nil => exact liesL_nil
  | cons x r ih =>
    have h0 := h 0 (by simp)
    rw [Nat.zero_mul, Nat.add_zero] at h0
    refine liesL_cons.2 ⟨h0, ih fun i hi => ?_⟩
    have := h (i + 1) (by simpa using hi)
    simp only [List.getElem_cons_succ] at this
    rwa [show o + (i + 1) * 5 = o + 5 + i * 5 by omega] at this
/-- what is kept reads on as it read -/
theorem lies_to {B B' : BP} {X : Nat → Prop} {W W' : World} (hk : Kx X W W') (hB : ∀ b o ob, B b o ob → B' b o ob) (hX : ∀ b o ob, B b o ob → ¬ X b) : ∀ n : Nd, ∀ b o, ¬ X b → n.lies B W b o → n.lies B' W' b o :=
  Nd.ind fun k f t s ks ih b o hb h => by
    obtain ⟨h0, h1, h2, h3, v, h4, h5⟩ := lies_iff.1 h
    refine lies_iff.2 ⟨hk.cell h0 hb, hk.cell h1 hb, hk.cell h2 hb, hk.cell h3 hb, v, hk.cell h4 hb, ?_⟩
    rcases h5 with h5 | ⟨b', o', c, ob, e, hl, ho, hb', hL⟩
    · exact .inl h5
    · refine .inr ⟨b', o', c, ob, e, hl, hk.keep _ _ ho (hX _ _ _ hb'), hB _ _ _ hb', liesL_of fun i hi => ?_⟩
      exact ih _ (List.getElem_mem _) b' _ (hX _ _ _ hb') (liesL_get hL i hi)
theorem SlV.to {B B' : BP} {X : Nat → Prop} {W W' : World} {v : Value} {l : List Nd} (h : SlV B W v l) (hk : Kx X W W') (hB : ∀ b o ob, B b o ob → B' b o ob) (hX : ∀ b o ob, B b o ob → ¬ X b) : SlV B' W' v l := by
  rcases h with h5 | ⟨b', o', c, ob, e, hl, ho, hb', hL⟩
  · exact .inl h5
  · refine .inr ⟨b', o', c, ob, e, hl, hk.keep _ _ ho (hX _ _ _ hb'), hB _ _ _ hb', liesL_of fun i hi => ?_⟩
    exact lies_to hk hB hX _ b' _ (hX _ _ _ hb') (liesL_get hL i hi)
theorem SlV.kept {B : BP} {W W' : World} {v : Value} {l : List Nd} (h : SlV B W v l) (hk : Below W.heap.size W W') : SlV B W' v l :=
  h.to (X := fun _ => False) (Kx.of_whole hk) (fun _ _ _ h => h) (fun _ _ _ _ h => h)
theorem SlV.drew {B : BP} {W : World} {v : Value} {l : List Nd} (h : SlV B W v l) : SlV B W.drew v l :=
  h.to (X := fun _ => False) (Kx.drew (Kx.refl _ _)) (fun _ _ _ h => h) (fun _ _ _ _ h => h)
/-- the cells of a node whose kids are the slice v -/
def encN (n : Nd) (v : Value) : Array Value := #[.int .i64 n.kind, .int .i64 n.fr, .int .i64 n.to, .string n.text, v]
def aggN (n : Nd) (v : Value) : Value := .agg (encN n v)
/-- the slice's parts -/
theorem SlV.open {B : BP} {W : World} {v : Value} {l : List Nd} (h : SlV B W v l) :
    ∃ a c, v = .slice a l.length c ∧ (l.length : Int) ≤ 9223372036854775807 ∧ ∀ i (hi : i < l.length), ∃ b o, a = some ⟨b, o, none⟩ ∧ (∃ ob, W.heap[b]? = some ob ∧ B b o ob) ∧ (l[i]).lies B W b (o + i * 5) := by
  rcases h with ⟨a, c, rfl, rfl⟩ | ⟨b, o, c, ob, rfl, hl, ho, hb, hL⟩
  · exact ⟨a, c, rfl, by simp, fun i hi => by cases hi⟩
  · exact ⟨_, c, rfl, hl, fun i hi => ⟨b, o, rfl, ⟨ob, ho, hb⟩, liesL_get hL i hi⟩⟩
theorem bcell {W W' : World} (h : Below W.heap.size W W') {a : Addr} {v : Value} (hc : W.cell? a = some v) : W'.cell? a = some v :=
  (h.cell (World.block_lt_of_cell? _ _ hc)).trans hc
theorem below_alloc (w : World) (o : Obj) : Below w.heap.size w (w.alloc o) := (Below.refl _ w).alloc (Nat.le_refl _) _
theorem below_alloc2 (w : World) (o o' : Obj) : Below w.heap.size w ((w.alloc o).alloc o') := ((Below.refl _ w).alloc (Nat.le_refl _) _).alloc (by simp) _
theorem below_drew (w : World) : Below w.heap.size w w.drew := (Below.refl _ w).drew
theorem bthen {A B C : World} (h : Below A.heap.size A B) (k : Below B.heap.size B C) : Below A.heap.size A C := h.trans (k.mono h.size)
mutual
/-- how many stand within one another -/
def Nd.dep : Nd → Nat
  | .mk _ _ _ _ ks => depL ks + 1
def depL : List Nd → Nat
  | [] => 0
  | x :: r => max x.dep (depL r)
end
theorem Nd.dep_eq (n : Nd) : n.dep = depL n.kids + 1 := by cases n; simp [Nd.dep, Nd.kids]
theorem depL_nil : depL [] = 0 := by simp [depL]
theorem depL_cons (x : Nd) (r : List Nd) : depL (x :: r) = max x.dep (depL r) := by simp [depL]
theorem depL_append (a b : List Nd) : depL (a ++ b) = max (depL a) (depL b) := by
  induction a with
  | nil => simp [depL_nil]
  | cons x r ih => simp only [List.cons_append, depL_cons, ih]; omega
theorem dep_le_sz (n : Nd) : n.dep ≤ n.sz := by
  induction n using Nd.ind3 with
  | h n ih =>
    rw [Nd.dep_eq, Nd.sz_eq]
    have : ∀ l : List Nd, (∀ x ∈ l, x.dep ≤ x.sz) → depL l ≤ szL l := by
      intro l
      induction l with
      | nil => intro _; simp [depL_nil]
      | cons x r ihl => intro h; have h1 := h x (by simp); have h2 := ihl (fun y hy => h y (by simp [hy])); simp [depL_cons, szL_cons]; omega
    have := this n.kids ih
    omega
mutual
/-- are the two one but for their places -/
def Nd.same : Nd → Nd → Bool
  | .mk k _ _ s ks, .mk k' _ _ s' ks' => decide (k = k') && decide (s = s') && sameL ks ks'
def sameL : List Nd → List Nd → Bool
  | [], [] => true
  | x :: r, y :: r' => x.same y && sameL r r'
  | _, _ => false
end
theorem Nd.same_eq (a b : Nd) : a.same b = (decide (a.kind = b.kind) && decide (a.text = b.text) && sameL a.kids b.kids) := by cases a; cases b; rw [Nd.same]; rfl
theorem sameL_iff (a b : List Nd) : sameL a b = true ↔ a.length = b.length ∧ ∀ i (h : i < a.length) (h' : i < b.length), (a[i]).same b[i] = true := by
  induction a generalizing b with
  | nil => cases b <;> simp [sameL]
  | cons x r ih =>
    cases b with
    | nil => simp [sameL]
    | cons y r' =>
      simp only [sameL, Bool.and_eq_true, ih, List.length_cons]
      constructor
      · rintro ⟨h1, h2, h3⟩
        refine ⟨by omega, fun i h h' => ?_⟩
        cases i with
        | zero => exact h1
        | succ i => exact h3 i (by omega) (by omega)
      · rintro ⟨h2, h3⟩
        exact ⟨h3 0 (by omega) (by omega), by omega, fun i h h' => h3 (i + 1) (by omega) (by omega)⟩
theorem same_refl (a : Nd) : a.same a = true := by
  induction a using Nd.ind3 with
  | h n ih =>
    rw [Nd.same_eq]
    simp only [decide_true, Bool.true_and]
    exact (sameL_iff _ _).2 ⟨rfl, fun i h _ => ih _ (List.getElem_mem _)⟩
end Go.Proofs.Ytgknigjpdnfkdaa
