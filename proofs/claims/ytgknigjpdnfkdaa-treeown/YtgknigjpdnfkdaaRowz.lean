/-
  Rows of nodes that a call builds by append; a row read as a list.
-/
import Derived.Test.YtgknigjpdnfkdaaReadA
import Derived.Deep.AppendLies
import Derived.Laws.OwnMore
import Derived.Deep.OwnRows
namespace Go.Proofs.Ytgknigjpdnfkdaa
open Go.RowKit
theorem info24_ex : ∃ i0, Try.prog.info? 24 = some i0 ∧ i0.zero = some (.agg #[.int .i64 0, .int .i64 0, .int .i64 0, .string ⟨#[]⟩, .slice none 0 0]) ∧ i0.size = 5 ∧ i0.bytes = 64 := ⟨_, rfl, rfl, rfl, rfl⟩
theorem info3_ex : ∃ i0, Try.prog.info? 3 = some i0 ∧ i0.zero = some (.int .i64 0) ∧ i0.size = 1 ∧ i0.bytes = 8 := ⟨_, rfl, rfl, rfl, rfl⟩
theorem lies_to' {B B' : BP} {X : Nat → Prop} {W W' : World} (hk : Kx X W W') (hB : ∀ b o ob, W.heap[b]? = some ob → B b o ob → B' b o ob) (hX : ∀ b o ob, W.heap[b]? = some ob → B b o ob → ¬ X b) : ∀ n : Nd, ∀ b o, ¬ X b → n.lies B W b o → n.lies B' W' b o :=
  Nd.ind fun k f t s ks ih b o hb h => by
    obtain ⟨h0, h1, h2, h3, v, h4, h5⟩ := lies_iff.1 h
    refine lies_iff.2 ⟨hk.cell h0 hb, hk.cell h1 hb, hk.cell h2 hb, hk.cell h3 hb, v, hk.cell h4 hb, ?_⟩
    rcases h5 with h5 | ⟨b', o', c, ob, e, hl, ho, hb', hL⟩
    · exact .inl h5
    · refine .inr ⟨b', o', c, ob, e, hl, hk.keep _ _ ho (hX _ _ _ ho hb'), hB _ _ _ ho hb', liesL_of fun i hi => ?_⟩
      exact ih _ (List.getElem_mem _) b' _ (hX _ _ _ ho hb') (liesL_get hL i hi)
theorem SlV.to' {B B' : BP} {X : Nat → Prop} {W W' : World} {v : Value} {l : List Nd} (h : SlV B W v l) (hk : Kx X W W') (hB : ∀ b o ob, W.heap[b]? = some ob → B b o ob → B' b o ob) (hX : ∀ b o ob, W.heap[b]? = some ob → B b o ob → ¬ X b) : SlV B' W' v l := by
  rcases h with h5 | ⟨b', o', c, ob, e, hl, ho, hb', hL⟩
  · exact .inl h5
  · refine .inr ⟨b', o', c, ob, e, hl, hk.keep _ _ ho (hX _ _ _ ho hb'), hB _ _ _ ho hb', liesL_of fun i hi => ?_⟩
    exact lies_to' hk hB hX _ b' _ (hX _ _ _ ho hb') (liesL_get hL i hi)
theorem SlV.with {B B' : BP} {W : World} {v : Value} {l : List Nd} (h : SlV B W v l) (hB : ∀ b o ob, W.heap[b]? = some ob → B b o ob → B' b o ob) : SlV B' W v l :=
  h.to' (X := fun _ => False) (Kx.refl _ _) hB (fun _ _ _ _ _ h => h)
/-- a slice in form -/
theorem SlV.slice {B : BP} {W : World} {v : Value} {l : List Nd} (h : SlV B W v l) : ∃ a c, v = .slice a l.length c := by
  obtain ⟨a, c, h, _⟩ := h.open
  exact ⟨a, c, h⟩
theorem SlV.one {B : BP} {W : World} {v : Value} {l : List Nd} (h : SlV B W v l) : v.oneCell' = true := by
  obtain ⟨a, c, rfl⟩ := h.slice
  rfl
/-- the cells of nodes in a row, the kids being the slices vs -/
def flatV : List Nd → List Value → List Value
  | x :: l, v :: vs => .int .i64 x.kind :: .int .i64 x.fr :: .int .i64 x.to :: .string x.text :: v :: flatV l vs
  | _, _ => []
theorem flatV_append (l : List Nd) (vs : List Value) (h : vs.length = l.length) (l' : List Nd) (vs' : List Value) : flatV (l ++ l') (vs ++ vs') = flatV l vs ++ flatV l' vs' := by
  induction l generalizing vs with
  | nil => cases vs with
    | nil => simp [flatV]
    | cons _ _ => simp at h
  | cons x l ih => cases vs with
    | nil => simp at h
    | cons v vs => simp [flatV, ih vs (by simpa using h)]
theorem flatV_get (l : List Nd) (vs : List Value) (h : vs.length = l.length) (i : Nat) (hi : i < l.length) :
    (flatV l vs)[i * 5]? = some (.int .i64 l[i].kind) ∧ (flatV l vs)[i * 5 + 1]? = some (.int .i64 l[i].fr) ∧ (flatV l vs)[i * 5 + 2]? = some (.int .i64 l[i].to) ∧ (flatV l vs)[i * 5 + 3]? = some (.string l[i].text) ∧ (flatV l vs)[i * 5 + 4]? = some (vs[i]'(h ▸ hi)) := by
  induction l generalizing vs i with
  | nil => cases hi
  | cons x l ih => cases vs with
    | nil => simp at h
    | cons v vs =>
      cases i with
      | zero => simp [flatV]
      | succ i =>
        have := ih vs (by simpa using h) i (by simpa using hi)
        simp only [List.getElem_cons_succ]
        rw [show (i + 1) * 5 = i * 5 + 5 by omega, show i * 5 + 5 + 1 = i * 5 + 1 + 5 by omega, show i * 5 + 5 + 2 = i * 5 + 2 + 5 by omega, show i * 5 + 5 + 3 = i * 5 + 3 + 5 by omega, show i * 5 + 5 + 4 = i * 5 + 4 + 5 by omega]
        simpa [flatV] using this
/-- a row of nodes that is the call's own, with the kids of each one elsewhere -/
structure RowN (base : Nat) (K : BP) (W : World) (v : Value) (l : List Nd) : Prop where
  mk' ::
  ex : ∃ vs : List Value, ∃ h : vs.length = l.length, W.ownsRow base 24 5 v l.length (flatV l vs) ∧ ∀ i (hi : i < l.length), SlV (fun b o ob => K b o ob ∧ v.ownBlock ≠ some b) W (vs[i]'(h ▸ hi)) l[i].kids
theorem RowN.nil (base : Nat) (K : BP) (W : World) : RowN base K W (.slice none 0 0) [] :=
  ⟨[], rfl, World.ownsRow_nil _ _ _ _, fun i hi => by cases hi⟩
theorem RowN.made {base : Nat} {K : BP} {W : World} {v : Value} (h : W.ownsRow base 24 5 v 0 []) : RowN base K W v [] :=
  ⟨[], rfl, h, fun i hi => by cases hi⟩
theorem RowN.slice {base : Nat} {K : BP} {W : World} {v : Value} {l : List Nd} (h : RowN base K W v l) : ∃ a c, v = .slice a l.length c := by
  obtain ⟨vs, hl, ho, _⟩ := h.ex
  rcases ho.2 with ⟨rfl, h0⟩ | ⟨g, cap, cur, rfl, _⟩
  · rw [h0]; exact ⟨_, _, rfl⟩
  · exact ⟨_, _, rfl⟩
theorem RowN.lt {base : Nat} {K : BP} {W : World} {v : Value} {l : List Nd} (h : RowN base K W v l) : ∀ k, v.ownBlock = some k → base ≤ k ∧ k < W.heap.size := by
  obtain ⟨vs, hl, ho, _⟩ := h.ex
  exact ho.lt
theorem grownBy_kx {W W' : World} {row : Option Nat} (h : W.grownBy W' row) : Kx (fun b => row = some b) W W' :=
  ⟨h.os, h.tape, h.output, h.size, fun b _ h1 h2 => (h.block b (Array.getElem?_eq_some_iff.1 h1).1 (fun e => h2 e.symm)).trans h1⟩
theorem kx_grownBy {W W' : World} {row : Option Nat} (h : Kx (fun b => row = some b) W W') : W.grownBy W' row :=
  ⟨h.os, h.tape, h.output, h.size, fun b hb hne => by rw [h.keep b W.heap[b] (by simp [hb]) (fun e => hne e.symm)]; simp [hb]⟩
theorem below_kx {W W' : World} (h : Below W.heap.size W W') : Kx (fun b => (none : Option Nat) = some b) W W' := Kx.of_whole h
theorem own_kept {base size n : Nat} {e : TypeId} {v : Value} {xs : List Value} {W W' : World} (h : W.ownsRow base e size v n xs) (hk : Below W.heap.size W W') : W'.ownsRow base e size v n xs := by
  refine ⟨h.1, ?_⟩
  rcases h.2 with h0 | ⟨g, cap, cur, rfl, h1, h2, h3⟩
  · exact .inl h0
  · exact .inr ⟨g, cap, cur, rfl, h1, (hk.block g (Array.getElem?_eq_some_iff.1 h2).1).trans h2, h3⟩
/-- the row is kept where its block and those of the kids are -/
theorem RowN.to {base : Nat} {K : BP} {X : Nat → Prop} {W W' : World} {v : Value} {l : List Nd} (h : RowN base K W v l) (hk : Kx X W W') (hv : ∀ b, v.ownBlock = some b → ¬ X b) (hX : ∀ b o ob, W.heap[b]? = some ob → K b o ob → ¬ X b) : RowN base K W' v l := by
  obtain ⟨vs, hl, ho, hs⟩ := h.ex
  refine ⟨vs, hl, ?_, fun i hi => (hs i hi).to' hk (fun _ _ _ _ h => h) (fun b o ob h1 h2 => hX b o ob h1 h2.1)⟩
  refine ⟨ho.1, ?_⟩
  rcases ho.2 with h0 | ⟨g, cap, cur, rfl, h1, h2, h3⟩
  · exact .inl h0
  · exact .inr ⟨g, cap, cur, rfl, h1, hk.keep _ _ h2 (hv _ rfl), h3⟩
theorem RowN.kept {base : Nat} {K : BP} {W W' : World} {v : Value} {l : List Nd} (h : RowN base K W v l) (hk : Below W.heap.size W W') : RowN base K W' v l :=
  h.to (X := fun _ => False) (Kx.of_whole hk) (fun _ _ h => h) (fun _ _ _ _ _ h => h)
theorem RowN.drew {base : Nat} {K : BP} {W : World} {v : Value} {l : List Nd} (h : RowN base K W v l) : RowN base K W.drew v l := h.kept (below_drew _)
/-- one node more -/
theorem RowN.push {base : Nat} {K : BP} {W W1 : World} {v u : Value} {l : List Nd} {x : Nd} {vs : List Value} (hl : vs.length = l.length)
    (hs : ∀ i (hi : i < l.length), SlV (fun b o ob => K b o ob ∧ v.ownBlock ≠ some b) W (vs[i]'(hl ▸ hi)) l[i].kids) (hu : SlV (fun b o ob => K b o ob ∧ v.ownBlock ≠ some b) W u x.kids) {g cap : Nat}
    (hg : W.grownBy W1 v.ownBlock) (hat : v.ownBlock = some g ∨ g = W.heap.size)
    (ho1 : W1.ownsRow base 24 5 (.slice (some ⟨g, 0, none⟩) (l.length + 1) cap) (l.length + 1) (flatV l vs ++ [.int .i64 x.kind, .int .i64 x.fr, .int .i64 x.to, .string x.text, u])) :
    RowN base K W1 (.slice (some ⟨g, 0, none⟩) (l.length + 1) cap) (l ++ [x]) := by
  have hk := grownBy_kx hg
  have conv : ∀ {z : Value} {ks : List Nd}, SlV (fun b o ob => K b o ob ∧ v.ownBlock ≠ some b) W z ks → SlV (fun b o ob => K b o ob ∧ (Value.slice (some ⟨g, 0, none⟩) (l.length + 1) cap).ownBlock ≠ some b) W1 z ks := fun hz =>
    hz.to' hk (fun b o ob h1 h2 => ⟨h2.1, fun e => by
      have e' : g = b := by simpa [Value.ownBlock] using e
      have hb := (Array.getElem?_eq_some_iff.1 h1).1
      rcases hat with h3 | h3
      · exact h2.2 (by rw [h3, e'])
      · omega⟩) (fun b o ob _ h2 e => h2.2 e)
  have hl1 : (vs ++ [u]).length = (l ++ [x]).length := by simp [hl]
  refine ⟨vs ++ [u], hl1, ?_, fun i hi => ?_⟩
  · rw [flatV_append l vs hl]
    simpa [flatV] using ho1
  · rcases Nat.lt_or_ge i l.length with h1 | h1
    · have := conv (hs i h1)
      simpa [List.getElem_append, h1, hl ▸ h1] using this
    · have hi' : i = l.length := by simp at hi; omega
      subst hi'
      have := conv hu
      simpa [List.getElem_append, hl] using this
/-- the row read as a slice -/
theorem RowN.read {base : Nat} {K B : BP} {W : World} {v : Value} {l : List Nd} (h : RowN base K W v l) (hm : (l.length : Int) ≤ 9223372036854775807) (hK : ∀ b o ob, W.heap[b]? = some ob → K b o ob → B b o ob)
    (hv : ∀ b cur, v.ownBlock = some b → base ≤ b → W.heap[b]? = some (.cells cur 24 (0, 0)) → B b 0 (.cells cur 24 (0, 0))) : SlV B W v l := by
  obtain ⟨vs, hl, ho, hs⟩ := h.ex
  have hx := ho.1
  rcases ho.2 with ⟨h0, h1⟩ | ⟨g, cap, cur, rfl, h1, h2, h3, h4, h5, h6⟩
  · exact .inl ⟨_, _, h0, List.eq_nil_of_length_eq_zero h1⟩
  · refine .inr ⟨g, 0, cap, _, rfl, hm, h2, hv g cur rfl h1 h2, liesL_of fun i hi => ?_⟩
    have hc : ∀ k, k < l.length * 5 → W.cell? ⟨g, k, none⟩ = (flatV l vs)[k]? := fun k hk => by
      rw [cell_of h2, ← h6, List.getElem?_take, if_pos hk, Array.getElem?_toList]
    obtain ⟨f0, f1, f2, f3, f4⟩ := flatV_get l vs hl i hi
    refine lies_iff.2 ⟨?_, ?_, ?_, ?_, _, ?_, (hs i hi).with (fun b o ob h7 h8 => hK b o ob h7 h8.1)⟩
    · rw [hc _ (by omega), ← f0]; congr 1; omega
    · rw [hc _ (by omega), ← f1]; congr 1; omega
    · rw [hc _ (by omega), ← f2]; congr 1; omega
    · rw [hc _ (by omega), ← f3]; congr 1; omega
    · rw [hc _ (by omega), ← f4]; congr 1; omega
/-- lists of kids in new memory, each whole in its block -/
def Bf (base : Nat) : BP := fun b o ob => base ≤ b ∧ o = 0 ∧ ∃ cs, ob = .cells cs 24 (0, 0)
theorem Bf.mono {a b : Nat} (h : a ≤ b) : ∀ k o ob, Bf b k o ob → Bf a k o ob := fun _ _ _ ⟨h1, h2⟩ => ⟨by omega, h2⟩
theorem kx_set (W : World) (a : Addr) (v : Value) : Kx (fun b => b = a.block) W (W.setCell a v) :=
  ⟨rfl, rfl, rfl, by simp, fun b o h1 h2 => (Below.heap_setCell W a v b h2).trans h1⟩
theorem Kx.set {X : Nat → Prop} {A W : World} (h : Kx X A W) {a : Addr} (ha : X a.block) (v : Value) : Kx X A (W.setCell a v) :=
  h.trans ((kx_set W a v).mono (fun b _ e => by rw [e]; exact ha))
theorem results_cell {P : Program} {f : Func} {tmps : Array Value} {W : World} {a t : Nat} {ad : Addr} {v : Value} (hf : f.results = #[.cell a t]) (ha : tmps.getD a undef = .pointer (some ad)) (hl : (loadVar t ad).run P W = .ok v W) : (results f tmps).run P W = .ok v W := by
  unfold results
  rw [hf]
  have ha2 : tmps[a]?.getD undef = .pointer (some ad) := by rw [← ha]; simp
  simp [ha2, asAddr, hl]
theorem news24 (w : World) (a b c d e : Value) : ∀ j x, [a, b, c, d, e][j]? = some x → (w.alloc (.cells #[a, b, c, d, e] 24)).cell? ((⟨w.heap.size, 0, none⟩ : Addr).add j) = some x :=
  World.news_of_block (w := w.alloc (.cells #[a, b, c, d, e] 24)) (heap_alloc_new w (.cells #[a, b, c, d, e] 24))
end Go.Proofs.Ytgknigjpdnfkdaa
