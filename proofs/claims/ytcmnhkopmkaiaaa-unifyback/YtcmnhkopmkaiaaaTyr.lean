/-
  Rows of types that are a call's own.
-/
import Derived.Test.YtcmnhkopmkaiaaaTsz
namespace Go.Proofs.Ytcmnhkopmkaiaaa
open Go.RowKit
/-- the three slices of a type -/
structure V3 where
  n : Value
  m : Value
  k : Value
/-- the cells of a type -/
def cel (x : Ty) (v : V3) : List Value := [.int .i64 x.kind, .string x.name, .int .i64 x.n, .bool x.flag, v.n, v.m, v.k]
/-- the cells of types in a row -/
def flatT : List Ty → List V3 → List Value
  | x :: l, v :: vs => cel x v ++ flatT l vs
  | _, _ => []
theorem flatT_append (l : List Ty) (vs : List V3) (h : vs.length = l.length) (l' : List Ty) (vs' : List V3) : flatT (l ++ l') (vs ++ vs') = flatT l vs ++ flatT l' vs' := by
  induction l generalizing vs with
  | nil => cases vs with
    | nil => simp [flatT]
    | cons _ _ => simp at h
  | cons x l ih => cases vs with
    | nil => simp at h
    | cons v vs => simp [flatT, ih vs (by simpa using h)]
theorem flatT_len (l : List Ty) (vs : List V3) (h : vs.length = l.length) : (flatT l vs).length = l.length * 7 := by
  induction l generalizing vs with
  | nil => simp [flatT]
  | cons x l ih => cases vs with
    | nil => simp at h
    | cons v vs => simp [flatT, cel, ih vs (by simpa using h)]; omega
theorem flatT_get (l : List Ty) (vs : List V3) (h : vs.length = l.length) (i : Nat) (hi : i < l.length) (j : Nat) (hj : j < 7) : (flatT l vs)[i * 7 + j]? = (cel l[i] (vs[i]'(h ▸ hi)))[j]? := by
  induction l generalizing vs i with
  | nil => cases hi
  | cons x l ih => cases vs with
    | nil => simp at h
    | cons v vs =>
      cases i with
      | zero =>
        simp only [flatT, List.getElem_cons_zero, Nat.zero_mul, Nat.zero_add]
        rw [List.getElem?_append_left (by simp [cel]; omega)]
      | succ i =>
        have := ih vs (by simpa using h) i (by simpa using hi)
        simp only [List.getElem_cons_succ, flatT]
        rw [List.getElem?_append_right (by simp [cel]; omega), ← this]
        congr 1
        simp [cel]; omega
/-- a row of types that is the call's own, with the parts of each one elsewhere -/
structure RowT (base : Nat) (K : BQ) (W : World) (v : Value) (l : List Ty) : Prop where
  mk' ::
  ex : ∃ vs : List V3, ∃ h : vs.length = l.length, W.ownsRow base 26 7 v l.length (flatT l vs) ∧ ∀ i (hi : i < l.length), Prt (fun b => K b ∧ v.ownBlock ≠ some b) W l[i] (vs[i]'(h ▸ hi)).n (vs[i]'(h ▸ hi)).m (vs[i]'(h ▸ hi)).k
theorem RowT.nil (base : Nat) (K : BQ) (W : World) : RowT base K W (.slice none 0 0) [] := ⟨[], rfl, World.ownsRow_nil _ _ _ _, fun i hi => by cases hi⟩
theorem RowT.slice {base : Nat} {K : BQ} {W : World} {v : Value} {l : List Ty} (h : RowT base K W v l) : ∃ a c, v = .slice a l.length c := by
  obtain ⟨vs, hl, ho, _⟩ := h.ex
  rcases ho.2 with ⟨rfl, h0⟩ | ⟨g, cap, cur, rfl, _⟩
  · rw [h0]; exact ⟨_, _, rfl⟩
  · exact ⟨_, _, rfl⟩
theorem RowT.lt {base : Nat} {K : BQ} {W : World} {v : Value} {l : List Ty} (h : RowT base K W v l) : ∀ k, v.ownBlock = some k → base ≤ k ∧ k < W.heap.size := by
  obtain ⟨vs, hl, ho, _⟩ := h.ex
  exact ho.lt
theorem RowT.to {base : Nat} {K : BQ} {X : Nat → Prop} {W W' : World} {v : Value} {l : List Ty} (h : RowT base K W v l) (hk : Kx X W W') (hv : ∀ b, v.ownBlock = some b → ¬ X b) (hX : ∀ b, b < W.heap.size → K b → ¬ X b) : RowT base K W' v l := by
  obtain ⟨vs, hl, ho, hs⟩ := h.ex
  refine ⟨vs, hl, ?_, fun i hi => (hs i hi).to hk (fun _ _ h => h) (fun b h1 h2 => hX b h1 h2.1)⟩
  refine ⟨ho.1, ?_⟩
  rcases ho.2 with h0 | ⟨g, cap, cur, rfl, h1, h2, h3⟩
  · exact .inl h0
  · exact .inr ⟨g, cap, cur, rfl, h1, hk.keep _ _ h2 (hv _ rfl), h3⟩
theorem RowT.kept {base : Nat} {K : BQ} {W W' : World} {v : Value} {l : List Ty} (h : RowT base K W v l) (hk : Below W.heap.size W W') : RowT base K W' v l :=
  h.to (X := fun _ => False) (Kx.of_whole hk) (fun _ _ h => h) (fun _ _ _ h => h)
/-- types more -/
theorem RowT.join {base : Nat} {K : BQ} {W W1 : World} {v : Value} {l l2 : List Ty} {vs vs2 : List V3} (hl : vs.length = l.length)
    (hs : ∀ i (hi : i < l.length), Prt (fun b => K b ∧ v.ownBlock ≠ some b) W l[i] (vs[i]'(hl ▸ hi)).n (vs[i]'(hl ▸ hi)).m (vs[i]'(hl ▸ hi)).k) (hl2 : vs2.length = l2.length)
    (hs2 : ∀ i (hi : i < l2.length), Prt (fun b => K b ∧ v.ownBlock ≠ some b) W l2[i] (vs2[i]'(hl2 ▸ hi)).n (vs2[i]'(hl2 ▸ hi)).m (vs2[i]'(hl2 ▸ hi)).k) {g cap : Nat}
    (hg : W.grownBy W1 v.ownBlock) (hat : v.ownBlock = some g ∨ g = W.heap.size)
    (ho1 : W1.ownsRow base 26 7 (.slice (some ⟨g, 0, none⟩) (l.length + l2.length) cap) (l.length + l2.length) (flatT l vs ++ flatT l2 vs2)) :
    RowT base K W1 (.slice (some ⟨g, 0, none⟩) (l.length + l2.length) cap) (l ++ l2) := by
  have hk := grownBy_kx hg
  have conv : ∀ {x : Ty} {a b c : Value}, Prt (fun b => K b ∧ v.ownBlock ≠ some b) W x a b c → Prt (fun b => K b ∧ (Value.slice (some ⟨g, 0, none⟩) (l.length + l2.length) cap).ownBlock ≠ some b) W1 x a b c := fun hz =>
    hz.to hk (fun b h1 h2 => ⟨h2.1, fun e => by
      have e' : g = b := by simpa [Value.ownBlock] using e
      rcases hat with h3 | h3
      · exact h2.2 (by rw [h3, e'])
      · omega⟩) (fun b _ h2 e => h2.2 e)
  have hl1 : (vs ++ vs2).length = (l ++ l2).length := by simp [hl, hl2]
  refine ⟨vs ++ vs2, hl1, ?_, fun i hi => ?_⟩
  · rw [flatT_append l vs hl, List.length_append]
    exact ho1
  · rcases Nat.lt_or_ge i l.length with h1 | h1
    · have := conv (hs i h1)
      simpa [List.getElem_append, h1, hl ▸ h1] using this
    · have hi2 : i - l.length < l2.length := by simp at hi; omega
      have := conv (hs2 (i - l.length) hi2)
      simpa [List.getElem_append, show ¬ i < l.length by omega, show ¬ i < vs.length by omega, hl] using this
/-- the row read as a slice -/
theorem RowT.read {base : Nat} {K B : BQ} {W : World} {v : Value} {l : List Ty} (h : RowT base K W v l) (hm : (l.length : Int) ≤ 9223372036854775807) (hK : ∀ b, b < W.heap.size → K b → B b) (hv : ∀ b, v.ownBlock = some b → base ≤ b → B b) : SlT B W v l := by
  obtain ⟨vs, hl, ho, hs⟩ := h.ex
  rcases ho.2 with ⟨h0, h1⟩ | ⟨g, cap, cur, rfl, h1, h2, h3, h4, h5, h6⟩
  · exact .inl ⟨_, _, h0, List.eq_nil_of_length_eq_zero h1⟩
  · refine .inr ⟨g, 0, cap, rfl, hm, (Array.getElem?_eq_some_iff.1 h2).1, hv g rfl h1, liesT_of fun i hi => ?_⟩
    have hc : ∀ j, j < 7 → W.cell? ⟨g, 0 + i * 7 + j, none⟩ = (cel l[i] (vs[i]'(hl ▸ hi)))[j]? := fun j hj => by
      rw [← flatT_get l vs hl i hi j hj, cell_of h2, ← h6, List.getElem?_take, if_pos (by omega), Array.getElem?_toList]
      congr 1; omega
    have c0 := hc 0 (by omega)
    rw [Nat.add_zero] at c0
    exact lies_iff.2 ⟨c0, hc 1 (by omega), hc 2 (by omega), hc 3 (by omega), _, _, _, hc 4 (by omega), hc 5 (by omega), hc 6 (by omega), (hs i hi).with (fun b h7 h8 => hK b h7 h8.1)⟩
theorem flatT_one (l : List Ty) (vs : List V3) (h : vs.length = l.length) (h1 : ∀ i (hi : i < l.length), (vs[i]'(h ▸ hi)).n.oneCell' = true ∧ (vs[i]'(h ▸ hi)).m.oneCell' = true ∧ (vs[i]'(h ▸ hi)).k.oneCell' = true) : ∀ u ∈ flatT l vs, u.oneCell' = true := by
  induction l generalizing vs with
  | nil => intro u hu; simp [flatT] at hu
  | cons x l ih =>
    cases vs with
    | nil => simp at h
    | cons v vs =>
      intro u hu
      simp only [flatT, List.mem_append, cel, List.mem_cons, List.not_mem_nil, or_false] at hu
      have h0 := h1 0 (by simp)
      rcases hu with (rfl | rfl | rfl | rfl | rfl | rfl | rfl) | hu
      · rfl
      · rfl
      · rfl
      · rfl
      · exact h0.1
      · exact h0.2.1
      · exact h0.2.2
      · exact ih vs (by simpa using h) (fun i hi => h1 (i + 1) (by simpa using hi)) u hu
theorem Prt.one {B : BQ} {W : World} {t : Ty} {vn vm vk : Value} (h : Prt B W t vn vm vk) : vn.oneCell' = true ∧ vm.oneCell' = true ∧ vk.oneCell' = true := by
  obtain ⟨an, cn, am, cm, ak, ck, rfl, rfl, rfl⟩ := h.form
  exact ⟨rfl, rfl, rfl⟩
/-- types that lie in a slice, cell by cell -/
theorem liesT_flat {B : BQ} {W : World} (l : List Ty) : ∀ (b o : Nat), liesT B W l b o → ∃ vs : List V3, ∃ h : vs.length = l.length, (∀ j u, (flatT l vs)[j]? = some u → W.cell? ⟨b, o + j, none⟩ = some u) ∧ ∀ i (hi : i < l.length), Prt B W l[i] (vs[i]'(h ▸ hi)).n (vs[i]'(h ▸ hi)).m (vs[i]'(h ▸ hi)).k := by
  induction l with
  | nil => intro b o _; exact ⟨[], rfl, (fun j u h => by simp [flatT] at h), fun i hi => by cases hi⟩
  | cons x l ih =>
    intro b o h
    obtain ⟨h1, h2⟩ := liesT_cons.1 h
    obtain ⟨vs, hl, hc, hs⟩ := ih b (o + 7) h2
    obtain ⟨k0, k1, k2, k3, vn, vm, vk, k4, k5, k6, hp⟩ := lies_iff.1 h1
    refine ⟨⟨vn, vm, vk⟩ :: vs, by simp [hl], fun j u hj => ?_, fun i hi => ?_⟩
    · match j with
      | 0 => simp [flatT, cel] at hj; subst hj; exact k0
      | 1 => simp [flatT, cel] at hj; subst hj; exact k1
      | 2 => simp [flatT, cel] at hj; subst hj; exact k2
      | 3 => simp [flatT, cel] at hj; subst hj; exact k3
      | 4 => simp [flatT, cel] at hj; subst hj; exact k4
      | 5 => simp [flatT, cel] at hj; subst hj; exact k5
      | 6 => simp [flatT, cel] at hj; subst hj; exact k6
      | j + 7 =>
        have := hc j u (by simpa [flatT, cel] using hj)
        rwa [show o + (j + 7) = o + 7 + j by omega]
    · cases i with
      | zero => exact hp
      | succ i => exact hs i (by simpa using hi)
set_option maxRecDepth 100000 in
theorem infoT_ex : ∃ i0, Try.prog.info? 26 = some i0 ∧ i0.zero = some (.agg #[.int .i64 0, .string ⟨#[]⟩, .int .i64 0, .bool false, .slice none 0 0, .slice none 0 0, .slice none 0 0]) ∧ i0.size = 7 ∧ i0.bytes = 112 := ⟨_, rfl, rfl, rfl, rfl⟩
end Go.Proofs.Ytcmnhkopmkaiaaa

