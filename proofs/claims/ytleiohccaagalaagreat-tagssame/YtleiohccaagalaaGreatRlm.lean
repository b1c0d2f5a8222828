/-
  A rule of the document in memory: where it lies, what keeps it; rows of rules.
-/
import Derived.Test.YtleiohccaagalaaGreatPf
import Derived.Test.YtleiohccaagalaaGreatRfS
import Derived.Deep.AppendLies
import Derived.Laws.OwnMore
import Derived.Deep.OwnRows
namespace Go.Proofs.YtleiohccaagalaaGreat
open Go.RowKit
/-- what is asked of a list of kids: its block, the first cell, the block's object -/
abbrev BP := Nat → Nat → Obj → Prop
mutual
/-- the node lies at block b from cell o on; the lists of kids in blocks of B -/
def Rl.lies (B : BP) (W : World) : Rl → Nat → Nat → Prop
  | .mk k t ks, b, o => W.cell? ⟨b, o, none⟩ = some (.int .i64 k) ∧ W.cell? ⟨b, o + 1, none⟩ = some (.string (bs t)) ∧
      ∃ v, W.cell? ⟨b, o + 2, none⟩ = some v ∧ ((∃ a c, v = .slice a 0 c ∧ ks = []) ∨ ∃ b' o' c ob, v = .slice (some ⟨b', o', none⟩) ks.length c ∧ (ks.length : Int) ≤ 9223372036854775807 ∧ W.heap[b']? = some ob ∧ B b' o' ob ∧ liesL B W ks b' o')
def liesL (B : BP) (W : World) : List Rl → Nat → Nat → Prop
  | [], _, _ => True
  | x :: r, b, o => x.lies B W b o ∧ liesL B W r b (o + 3)
end
/-- a slice of nodes reads as these -/
def SlV (B : BP) (W : World) (v : Value) (ks : List Rl) : Prop :=
  (∃ a c, v = .slice a 0 c ∧ ks = []) ∨ ∃ b o c ob, v = .slice (some ⟨b, o, none⟩) ks.length c ∧ (ks.length : Int) ≤ 9223372036854775807 ∧ W.heap[b]? = some ob ∧ B b o ob ∧ liesL B W ks b o
theorem lies_iff {B : BP} {W : World} {n : Rl} {b o : Nat} : n.lies B W b o ↔ W.cell? ⟨b, o, none⟩ = some (.int .i64 n.kind) ∧ W.cell? ⟨b, o + 1, none⟩ = some (.string (bs n.tag)) ∧
      ∃ v, W.cell? ⟨b, o + 2, none⟩ = some v ∧ SlV B W v n.kids := by
  cases n; simp [Rl.lies, SlV, Rl.kind, Rl.tag, Rl.kids]
theorem liesL_nil {B : BP} {W : World} {b o : Nat} : liesL B W [] b o := by simp [liesL]
theorem liesL_cons {B : BP} {W : World} {x : Rl} {r : List Rl} {b o : Nat} : liesL B W (x :: r) b o ↔ x.lies B W b o ∧ liesL B W r b (o + 3) := by simp [liesL]
theorem liesL_get {B : BP} {W : World} {l : List Rl} {b o : Nat} (h : liesL B W l b o) (i : Nat) (hi : i < l.length) : (l[i]).lies B W b (o + i * 3) := by
  induction l generalizing o i with
  | nil => cases hi
  | cons x r ih =>
    obtain ⟨h1, h2⟩ := liesL_cons.1 h
    cases i with
    | zero => simpa using h1
    | succ i => have := ih h2 i (by simpa using hi); simp only [List.getElem_cons_succ]; rwa [show o + (i + 1) * 3 = o + 3 + i * 3 by omega]
theorem liesL_of {B : BP} {W : World} {l : List Rl} {b o : Nat} (h : ∀ i (hi : i < l.length), (l[i]).lies B W b (o + i * 3)) : liesL B W l b o := by
  induction l generalizing o with
  | nil => exact liesL_nil
  | cons x r ih =>
    have h0 := h 0 (by simp)
    rw [Nat.zero_mul, Nat.add_zero] at h0
    refine liesL_cons.2 ⟨h0, ih fun i hi => ?_⟩
    have := h (i + 1) (by simpa using hi)
    simp only [List.getElem_cons_succ] at this
    rwa [show o + (i + 1) * 3 = o + 3 + i * 3 by omega] at this
/-- what is kept reads on as it read -/
theorem lies_to {B B' : BP} {X : Nat → Prop} {W W' : World} (hk : Kx X W W') (hB : ∀ b o ob, B b o ob → B' b o ob) (hX : ∀ b o ob, B b o ob → ¬ X b) : ∀ n : Rl, ∀ b o, ¬ X b → n.lies B W b o → n.lies B' W' b o :=
  Rl.ind fun k t ks ih b o hb h => by
    obtain ⟨h0, h1, v, h4, h5⟩ := lies_iff.1 h
    refine lies_iff.2 ⟨hk.cell h0 hb, hk.cell h1 hb, v, hk.cell h4 hb, ?_⟩
    rcases h5 with h5 | ⟨b', o', c, ob, e, hl, ho, hb', hL⟩
    · exact .inl h5
    · refine .inr ⟨b', o', c, ob, e, hl, hk.keep _ _ ho (hX _ _ _ hb'), hB _ _ _ hb', liesL_of fun i hi => ?_⟩
      exact ih _ (List.getElem_mem _) b' _ (hX _ _ _ hb') (liesL_get hL i hi)
theorem SlV.to {B B' : BP} {X : Nat → Prop} {W W' : World} {v : Value} {l : List Rl} (h : SlV B W v l) (hk : Kx X W W') (hB : ∀ b o ob, B b o ob → B' b o ob) (hX : ∀ b o ob, B b o ob → ¬ X b) : SlV B' W' v l := by
  rcases h with h5 | ⟨b', o', c, ob, e, hl, ho, hb', hL⟩
  · exact .inl h5
  · refine .inr ⟨b', o', c, ob, e, hl, hk.keep _ _ ho (hX _ _ _ hb'), hB _ _ _ hb', liesL_of fun i hi => ?_⟩
    exact lies_to hk hB hX _ b' _ (hX _ _ _ hb') (liesL_get hL i hi)
theorem SlV.kept {B : BP} {W W' : World} {v : Value} {l : List Rl} (h : SlV B W v l) (hk : Below W.heap.size W W') : SlV B W' v l :=
  h.to (X := fun _ => False) (Kx.of_whole hk) (fun _ _ _ h => h) (fun _ _ _ _ h => h)
theorem SlV.drew {B : BP} {W : World} {v : Value} {l : List Rl} (h : SlV B W v l) : SlV B W.drew v l :=
  h.to (X := fun _ => False) (Kx.drew (Kx.refl _ _)) (fun _ _ _ h => h) (fun _ _ _ _ h => h)
/-- the cells of a node whose kids are the slice v -/
def encN (n : Rl) (v : Value) : Array Value := #[.int .i64 n.kind, .string (bs n.tag), v]
def aggN (n : Rl) (v : Value) : Value := .agg (encN n v)
/-- the slice's parts -/
theorem SlV.open {B : BP} {W : World} {v : Value} {l : List Rl} (h : SlV B W v l) :
    ∃ a c, v = .slice a l.length c ∧ (l.length : Int) ≤ 9223372036854775807 ∧ ∀ i (hi : i < l.length), ∃ b o, a = some ⟨b, o, none⟩ ∧ (∃ ob, W.heap[b]? = some ob ∧ B b o ob) ∧ (l[i]).lies B W b (o + i * 3) := by
  rcases h with ⟨a, c, rfl, rfl⟩ | ⟨b, o, c, ob, rfl, hl, ho, hb, hL⟩
  · exact ⟨a, c, rfl, by simp, fun i hi => by cases hi⟩
  · exact ⟨_, c, rfl, hl, fun i hi => ⟨b, o, rfl, ⟨ob, ho, hb⟩, liesL_get hL i hi⟩⟩
theorem bcell {W W' : World} (h : Below W.heap.size W W') {a : Addr} {v : Value} (hc : W.cell? a = some v) : W'.cell? a = some v :=
  (h.cell (World.block_lt_of_cell? _ _ hc)).trans hc
theorem below_alloc (w : World) (o : Obj) : Below w.heap.size w (w.alloc o) := (Below.refl _ w).alloc (Nat.le_refl _) _
theorem below_alloc2 (w : World) (o o' : Obj) : Below w.heap.size w ((w.alloc o).alloc o') := ((Below.refl _ w).alloc (Nat.le_refl _) _).alloc (by simp) _
theorem below_drew (w : World) : Below w.heap.size w w.drew := (Below.refl _ w).drew
theorem bthen {A B C : World} (h : Below A.heap.size A B) (k : Below B.heap.size B C) : Below A.heap.size A C := h.trans (k.mono h.size)
theorem cell_of {w : World} {k : Nat} {cs : Array Value} {T : TypeId} {fz : Nat × Nat} (h : w.heap[k]? = some (.cells cs T fz)) (i : Nat) : w.cell? ⟨k, i, none⟩ = cs[i]? := by simp [World.cell?, h]
theorem lies_to' {B B' : BP} {X : Nat → Prop} {W W' : World} (hk : Kx X W W') (hB : ∀ b o ob, W.heap[b]? = some ob → B b o ob → B' b o ob) (hX : ∀ b o ob, W.heap[b]? = some ob → B b o ob → ¬ X b) : ∀ n : Rl, ∀ b o, ¬ X b → n.lies B W b o → n.lies B' W' b o :=
  Rl.ind fun k t ks ih b o hb h => by
    obtain ⟨h0, h1, v, h4, h5⟩ := lies_iff.1 h
    refine lies_iff.2 ⟨hk.cell h0 hb, hk.cell h1 hb, v, hk.cell h4 hb, ?_⟩
    rcases h5 with h5 | ⟨b', o', c, ob, e, hl, ho, hb', hL⟩
    · exact .inl h5
    · refine .inr ⟨b', o', c, ob, e, hl, hk.keep _ _ ho (hX _ _ _ ho hb'), hB _ _ _ ho hb', liesL_of fun i hi => ?_⟩
      exact ih _ (List.getElem_mem _) b' _ (hX _ _ _ ho hb') (liesL_get hL i hi)
theorem SlV.to' {B B' : BP} {X : Nat → Prop} {W W' : World} {v : Value} {l : List Rl} (h : SlV B W v l) (hk : Kx X W W') (hB : ∀ b o ob, W.heap[b]? = some ob → B b o ob → B' b o ob) (hX : ∀ b o ob, W.heap[b]? = some ob → B b o ob → ¬ X b) : SlV B' W' v l := by
  rcases h with h5 | ⟨b', o', c, ob, e, hl, ho, hb', hL⟩
  · exact .inl h5
  · refine .inr ⟨b', o', c, ob, e, hl, hk.keep _ _ ho (hX _ _ _ ho hb'), hB _ _ _ ho hb', liesL_of fun i hi => ?_⟩
    exact lies_to' hk hB hX _ b' _ (hX _ _ _ ho hb') (liesL_get hL i hi)
theorem SlV.with {B B' : BP} {W : World} {v : Value} {l : List Rl} (h : SlV B W v l) (hB : ∀ b o ob, W.heap[b]? = some ob → B b o ob → B' b o ob) : SlV B' W v l :=
  h.to' (X := fun _ => False) (Kx.refl _ _) hB (fun _ _ _ _ _ h => h)
/-- a slice in form -/
theorem SlV.slice {B : BP} {W : World} {v : Value} {l : List Rl} (h : SlV B W v l) : ∃ a c, v = .slice a l.length c := by
  obtain ⟨a, c, h, _⟩ := h.open
  exact ⟨a, c, h⟩
theorem SlV.one {B : BP} {W : World} {v : Value} {l : List Rl} (h : SlV B W v l) : v.oneCell' = true := by
  obtain ⟨a, c, rfl⟩ := h.slice
  rfl
/-- the cells of nodes in a row, the kids being the slices vs -/
def flatV : List Rl → List Value → List Value
  | x :: l, v :: vs => .int .i64 x.kind :: .string (bs x.tag) :: v :: flatV l vs
  | _, _ => []
theorem flatV_append (l : List Rl) (vs : List Value) (h : vs.length = l.length) (l' : List Rl) (vs' : List Value) : flatV (l ++ l') (vs ++ vs') = flatV l vs ++ flatV l' vs' := by
  induction l generalizing vs with
  | nil => cases vs with
    | nil => simp [flatV]
    | cons _ _ => simp at h
  | cons x l ih => cases vs with
    | nil => simp at h
    | cons v vs => simp [flatV, ih vs (by simpa using h)]
theorem flatV_get (l : List Rl) (vs : List Value) (h : vs.length = l.length) (i : Nat) (hi : i < l.length) :
    (flatV l vs)[i * 3]? = some (.int .i64 l[i].kind) ∧ (flatV l vs)[i * 3 + 1]? = some (.string (bs l[i].tag)) ∧ (flatV l vs)[i * 3 + 2]? = some (vs[i]'(h ▸ hi)) := by
  induction l generalizing vs i with
  | nil => cases hi
  | cons x l ih => cases vs with
    | nil => simp at h
    | cons v vs =>
      cases i with
      | zero => simp [flatV]
      | succ i =>
        have := ih vs (by simpa using h) i (by simpa using hi)
        simp only [List.getElem_cons_succ]
        rw [show (i + 1) * 3 = i * 3 + 3 by omega, show i * 3 + 3 + 1 = i * 3 + 1 + 3 by omega, show i * 3 + 3 + 2 = i * 3 + 2 + 3 by omega]
        simpa [flatV] using this
/-- a row of nodes that is the call's own, with the kids of each one elsewhere -/
structure RowN (base : Nat) (K : BP) (W : World) (v : Value) (l : List Rl) : Prop where
  mk' ::
  ex : ∃ vs : List Value, ∃ h : vs.length = l.length, W.ownsRow base 31 3 v l.length (flatV l vs) ∧ ∀ i (hi : i < l.length), SlV (fun b o ob => K b o ob ∧ v.ownBlock ≠ some b) W (vs[i]'(h ▸ hi)) l[i].kids
theorem RowN.nil (base : Nat) (K : BP) (W : World) : RowN base K W (.slice none 0 0) [] :=
  ⟨[], rfl, World.ownsRow_nil _ _ _ _, fun i hi => by cases hi⟩
theorem RowN.made {base : Nat} {K : BP} {W : World} {v : Value} (h : W.ownsRow base 31 3 v 0 []) : RowN base K W v [] :=
  ⟨[], rfl, h, fun i hi => by cases hi⟩
theorem RowN.slice {base : Nat} {K : BP} {W : World} {v : Value} {l : List Rl} (h : RowN base K W v l) : ∃ a c, v = .slice a l.length c := by
  obtain ⟨vs, hl, ho, _⟩ := h.ex
  rcases ho.2 with ⟨rfl, h0⟩ | ⟨g, cap, cur, rfl, _⟩
  · rw [h0]; exact ⟨_, _, rfl⟩
  · exact ⟨_, _, rfl⟩
theorem RowN.lt {base : Nat} {K : BP} {W : World} {v : Value} {l : List Rl} (h : RowN base K W v l) : ∀ k, v.ownBlock = some k → base ≤ k ∧ k < W.heap.size := by
  obtain ⟨vs, hl, ho, _⟩ := h.ex
  exact ho.lt
theorem grownBy_kx {W W' : World} {row : Option Nat} (h : W.grownBy W' row) : Kx (fun b => row = some b) W W' :=
  ⟨h.os, h.tape, h.output, h.size, fun b _ h1 h2 => (h.block b (Array.getElem?_eq_some_iff.1 h1).1 (fun e => h2 e.symm)).trans h1⟩
theorem kx_grownBy {W W' : World} {row : Option Nat} (h : Kx (fun b => row = some b) W W') : W.grownBy W' row :=
  ⟨h.os, h.tape, h.output, h.size, fun b hb hne => by rw [h.keep b W.heap[b] (by simp [hb]) (fun e => hne e.symm)]; simp [hb]⟩
theorem below_kx {W W' : World} (h : Below W.heap.size W W') : Kx (fun b => (none : Option Nat) = some b) W W' := Kx.of_whole h
theorem own_kept {base size n : Nat} {e : TypeId} {v : Value} {xs : List Value} {W W' : World} (h : W.ownsRow base e size v n xs) (hk : Below W.heap.size W W') : W'.ownsRow base e size v n xs := by
  refine ⟨h.1, ?_⟩
  rcases h.2 with h0 | ⟨g, cap, cur, rfl, h1, h2, h3⟩
  · exact .inl h0
  · exact .inr ⟨g, cap, cur, rfl, h1, (hk.block g (Array.getElem?_eq_some_iff.1 h2).1).trans h2, h3⟩
/-- the row is kept where its block and those of the kids are -/
theorem RowN.to {base : Nat} {K : BP} {X : Nat → Prop} {W W' : World} {v : Value} {l : List Rl} (h : RowN base K W v l) (hk : Kx X W W') (hv : ∀ b, v.ownBlock = some b → ¬ X b) (hX : ∀ b o ob, W.heap[b]? = some ob → K b o ob → ¬ X b) : RowN base K W' v l := by
  obtain ⟨vs, hl, ho, hs⟩ := h.ex
  refine ⟨vs, hl, ?_, fun i hi => (hs i hi).to' hk (fun _ _ _ _ h => h) (fun b o ob h1 h2 => hX b o ob h1 h2.1)⟩
  refine ⟨ho.1, ?_⟩
  rcases ho.2 with h0 | ⟨g, cap, cur, rfl, h1, h2, h3⟩
  · exact .inl h0
  · exact .inr ⟨g, cap, cur, rfl, h1, hk.keep _ _ h2 (hv _ rfl), h3⟩
theorem RowN.kept {base : Nat} {K : BP} {W W' : World} {v : Value} {l : List Rl} (h : RowN base K W v l) (hk : Below W.heap.size W W') : RowN base K W' v l :=
  h.to (X := fun _ => False) (Kx.of_whole hk) (fun _ _ h => h) (fun _ _ _ _ _ h => h)
theorem RowN.drew {base : Nat} {K : BP} {W : World} {v : Value} {l : List Rl} (h : RowN base K W v l) : RowN base K W.drew v l := h.kept (below_drew _)
/-- one node more -/
theorem RowN.push {base : Nat} {K : BP} {W W1 : World} {v u : Value} {l : List Rl} {x : Rl} {vs : List Value} (hl : vs.length = l.length)
    (hs : ∀ i (hi : i < l.length), SlV (fun b o ob => K b o ob ∧ v.ownBlock ≠ some b) W (vs[i]'(hl ▸ hi)) l[i].kids) (hu : SlV (fun b o ob => K b o ob ∧ v.ownBlock ≠ some b) W u x.kids) {g cap : Nat}
    (hg : W.grownBy W1 v.ownBlock) (hat : v.ownBlock = some g ∨ g = W.heap.size)
    (ho1 : W1.ownsRow base 31 3 (.slice (some ⟨g, 0, none⟩) (l.length + 1) cap) (l.length + 1) (flatV l vs ++ [.int .i64 x.kind, .string (bs x.tag), u])) :
    RowN base K W1 (.slice (some ⟨g, 0, none⟩) (l.length + 1) cap) (l ++ [x]) := by
  have hk := grownBy_kx hg
  have conv : ∀ {z : Value} {ks : List Rl}, SlV (fun b o ob => K b o ob ∧ v.ownBlock ≠ some b) W z ks → SlV (fun b o ob => K b o ob ∧ (Value.slice (some ⟨g, 0, none⟩) (l.length + 1) cap).ownBlock ≠ some b) W1 z ks := fun hz =>
    hz.to' hk (fun b o ob h1 h2 => ⟨h2.1, fun e => by
      have e' : g = b := by simpa [Value.ownBlock] using e
      have hb := (Array.getElem?_eq_some_iff.1 h1).1
      rcases hat with h3 | h3
      · exact h2.2 (by rw [h3, e'])
      · omega⟩) (fun b o ob _ h2 e => h2.2 e)
  have hl1 : (vs ++ [u]).length = (l ++ [x]).length := by simp [hl]
  refine ⟨vs ++ [u], hl1, ?_, fun i hi => ?_⟩
  · rw [flatV_append l vs hl]
    simpa [flatV] using ho1
  · rcases Nat.lt_or_ge i l.length with h1 | h1
    · have := conv (hs i h1)
      simpa [List.getElem_append, h1, hl ▸ h1] using this
    · have hi' : i = l.length := by simp at hi; omega
      subst hi'
      have := conv hu
      simpa [List.getElem_append, hl] using this
/-- the row read as a slice -/
theorem RowN.read {base : Nat} {K B : BP} {W : World} {v : Value} {l : List Rl} (h : RowN base K W v l) (hm : (l.length : Int) ≤ 9223372036854775807) (hK : ∀ b o ob, W.heap[b]? = some ob → K b o ob → B b o ob)
    (hv : ∀ b cur, v.ownBlock = some b → base ≤ b → W.heap[b]? = some (.cells cur 31 (0, 0)) → B b 0 (.cells cur 31 (0, 0))) : SlV B W v l := by
  obtain ⟨vs, hl, ho, hs⟩ := h.ex
  have hx := ho.1
  rcases ho.2 with ⟨h0, h1⟩ | ⟨g, cap, cur, rfl, h1, h2, h3, h4, h5, h6⟩
  · exact .inl ⟨_, _, h0, List.eq_nil_of_length_eq_zero h1⟩
  · refine .inr ⟨g, 0, cap, _, rfl, hm, h2, hv g cur rfl h1 h2, liesL_of fun i hi => ?_⟩
    have hc : ∀ k, k < l.length * 3 → W.cell? ⟨g, k, none⟩ = (flatV l vs)[k]? := fun k hk => by
      rw [cell_of h2, ← h6, List.getElem?_take, if_pos hk, Array.getElem?_toList]
    obtain ⟨f0, f1, f2⟩ := flatV_get l vs hl i hi
    refine lies_iff.2 ⟨?_, ?_, _, ?_, (hs i hi).with (fun b o ob h7 h8 => hK b o ob h7 h8.1)⟩
    · rw [hc _ (by omega), ← f0]; congr 1; omega
    · rw [hc _ (by omega), ← f1]; congr 1; omega
    · rw [hc _ (by omega), ← f2]; congr 1; omega
/-- lists of kids in new memory, each whole in its block -/
def Bf (base : Nat) : BP := fun b o ob => base ≤ b ∧ o = 0 ∧ ∃ cs, ob = .cells cs 31 (0, 0)
theorem Bf.mono {a b : Nat} (h : a ≤ b) : ∀ k o ob, Bf b k o ob → Bf a k o ob := fun _ _ _ ⟨h1, h2⟩ => ⟨by omega, h2⟩
theorem RowN.join {base : Nat} {K : BP} {W W1 : World} {v : Value} {l l2 : List Rl} {vs vs2 : List Value} (hl : vs.length = l.length)
    (hs : ∀ i (hi : i < l.length), SlV (fun b o ob => K b o ob ∧ v.ownBlock ≠ some b) W (vs[i]'(hl ▸ hi)) l[i].kids) (hl2 : vs2.length = l2.length)
    (hs2 : ∀ i (hi : i < l2.length), SlV (fun b o ob => K b o ob ∧ v.ownBlock ≠ some b) W (vs2[i]'(hl2 ▸ hi)) l2[i].kids) {g cap : Nat}
    (hg : W.grownBy W1 v.ownBlock) (hat : v.ownBlock = some g ∨ g = W.heap.size)
    (ho1 : W1.ownsRow base 31 3 (.slice (some ⟨g, 0, none⟩) (l.length + l2.length) cap) (l.length + l2.length) (flatV l vs ++ flatV l2 vs2)) :
    RowN base K W1 (.slice (some ⟨g, 0, none⟩) (l.length + l2.length) cap) (l ++ l2) := by
  have hk := grownBy_kx hg
  have conv : ∀ {z : Value} {ks : List Rl}, SlV (fun b o ob => K b o ob ∧ v.ownBlock ≠ some b) W z ks → SlV (fun b o ob => K b o ob ∧ (Value.slice (some ⟨g, 0, none⟩) (l.length + l2.length) cap).ownBlock ≠ some b) W1 z ks := fun hz =>
    hz.to' hk (fun b o ob h1 h2 => ⟨h2.1, fun e => by
      have e' : g = b := by simpa [Value.ownBlock] using e
      have hb := (Array.getElem?_eq_some_iff.1 h1).1
      rcases hat with h3 | h3
      · exact h2.2 (by rw [h3, e'])
      · omega⟩) (fun b o ob _ h2 e => h2.2 e)
  have hl1 : (vs ++ vs2).length = (l ++ l2).length := by simp [hl, hl2]
  refine ⟨vs ++ vs2, hl1, ?_, fun i hi => ?_⟩
  · rw [flatV_append l vs hl, List.length_append]
    exact ho1
  · rcases Nat.lt_or_ge i l.length with h1 | h1
    · have := conv (hs i h1)
      simpa [List.getElem_append, h1, hl ▸ h1] using this
    · have hi2 : i - l.length < l2.length := by simp at hi; omega
      have := conv (hs2 (i - l.length) hi2)
      simpa [List.getElem_append, show ¬ i < l.length by omega, show ¬ i < vs.length by omega, hl] using this
theorem flatV_len (l : List Rl) (vs : List Value) (h : vs.length = l.length) : (flatV l vs).length = l.length * 3 := by
  induction l generalizing vs with
  | nil => simp [flatV]
  | cons x l ih => cases vs with
    | nil => simp at h
    | cons v vs => simp [flatV, ih vs (by simpa using h)]; omega
theorem flatV_take (l : List Rl) (vs : List Value) (h : vs.length = l.length) (k : Nat) : (flatV l vs).take (k * 3) = flatV (l.take k) (vs.take k) := by
  induction l generalizing vs k with
  | nil => cases vs with
    | nil => simp [flatV]
    | cons _ _ => simp at h
  | cons x l ih => cases vs with
    | nil => simp at h
    | cons v vs => cases k with
      | zero => simp [flatV]
      | succ k =>
        rw [show (k + 1) * 3 = k * 3 + 3 by omega]
        simp [flatV, ih vs (by simpa using h) k]
end Go.Proofs.YtleiohccaagalaaGreat
