/-
  Writing into what was answered: what such writes leave as it was.
-/
import Derived.Test.YtgknigjpdnfkdaaAt
import Derived.Test.YtgknigjpdnfkdaaInts
import Derived.Test.YtgknigjpdnfkdaaAwake
namespace Go.Proofs.Ytgknigjpdnfkdaa
open Go.RowKit
/-- lists of nodes of the call's own, within a range of blocks -/
def Bw (lo hi : Nat) : BP := fun b o ob => lo ≤ b ∧ b < hi ∧ o = 0 ∧ ∃ cs, ob = .cells cs 24 (0, 0)
/-- writes into nodes of that range have left the slices of kids alone -/
structure WrI (lo hi : Nat) (V W : World) : Prop where
  keep : Kx (fun b => lo ≤ b ∧ b < hi) V W
  same : ∀ b cs, lo ≤ b → b < hi → V.heap[b]? = some (.cells cs 24 (0, 0)) → ∃ cs', W.heap[b]? = some (.cells cs' 24 (0, 0)) ∧ cs'.size = cs.size ∧ ∀ i, i % 5 = 4 → cs'[i]? = cs[i]?
theorem WrI.refl (lo hi : Nat) (V : World) : WrI lo hi V V := ⟨Kx.refl _ _, fun _ cs _ _ h => ⟨cs, h, rfl, fun _ _ => rfl⟩⟩
theorem WrI.set {lo hi : Nat} {V W : World} (h : WrI lo hi V W) {b o : Nat} (h1 : lo ≤ b) (h2 : b < hi) (ho : o % 5 ≠ 4) (u : Value) : WrI lo hi V (W.setCell ⟨b, o, none⟩ u) := by
  refine ⟨h.keep.set ⟨h1, h2⟩ u, fun b' cs k1 k2 k3 => ?_⟩
  obtain ⟨cs', e1, e2, e3⟩ := h.same b' cs k1 k2 k3
  by_cases hb : b' = b
  · subst hb
    refine ⟨cs'.setIfInBounds o u, heap_setCell_same W b' o cs' 24 u e1, by simp [e2], fun i hi => ?_⟩
    rw [Array.getElem?_setIfInBounds_ne (by rintro rfl; exact ho hi)]
    exact e3 i hi
  · exact ⟨cs', (heap_setCell_other W ⟨b, o, none⟩ b' u hb).trans e1, e2, e3⟩
/-- a node of such a list, in the world that has been written -/
theorem WrI.node {lo hi : Nat} {V W : World} (h : WrI lo hi V W) {v : Value} {l : List Nd} (hs : SlV (Bw lo hi) V v l) (i : Nat) (hi' : i < l.length) : ∃ b c u, v = .slice (some ⟨b, 0, none⟩) l.length c ∧ lo ≤ b ∧ b < hi ∧ SlV (Bw lo hi) V u l[i].kids ∧ W.cell? ⟨b, i * 5 + 4, none⟩ = some u ∧
    (∃ z, W.cell? ⟨b, i * 5, none⟩ = some z) ∧ (∃ z, W.cell? ⟨b, i * 5 + 3, none⟩ = some z) ∧ W.frozen? ⟨b, i * 5, none⟩ = false ∧ W.frozen? ⟨b, i * 5 + 3, none⟩ = false := by
  obtain ⟨a, c, rfl, _, hg⟩ := hs.open
  obtain ⟨b, o, rfl, ⟨ob, hob, k1, k2, rfl, cs, rfl⟩, hl⟩ := hg i hi'
  obtain ⟨_, _, _, _, u, p4, su⟩ := lies_iff.1 hl
  rw [Nat.zero_add] at p4
  rw [cell_of hob] at p4
  obtain ⟨cs', e1, e2, e3⟩ := h.same b cs k1 k2 hob
  have hlt : i * 5 + 4 < cs.size := (Array.getElem?_eq_some_iff.1 p4).1
  refine ⟨b, c, u, rfl, k1, k2, su, ?_, ⟨cs'[i * 5]'(by omega), ?_⟩, ⟨cs'[i * 5 + 3]'(by omega), ?_⟩, by simp [World.frozen?, e1], by simp [World.frozen?, e1]⟩
  · rw [cell_of e1, e3 _ (by omega), p4]
  · rw [cell_of e1]; simp [show i * 5 < cs'.size by omega]
  · rw [cell_of e1]; simp [show i * 5 + 3 < cs'.size by omega]
theorem Bf.bw {lo hi : Nat} {W : World} (hW : W.heap.size ≤ hi) : ∀ b o ob, W.heap[b]? = some ob → Bf lo b o ob → Bw lo hi b o ob := fun b o ob h ⟨h1, h2, h3⟩ => ⟨h1, by have := (Array.getElem?_eq_some_iff.1 h).1; omega, h2, h3⟩
set_option maxRecDepth 100000 in
set_option maxHeartbeats 2000000 in
theorem rall_low (n0 : Nat) (n : Nd) (hz : n.sz ≤ 1000000) (w : World) (va : Value) (hn0 : n0 ≤ w.heap.size) (ha : SlV (Bl n0) w va n.kids) :
    Calls Try.prog 31 #[aggN n va] w fun e w' => ∃ a c, e = .returned (.slice a (AL n).length c) ∧ RowN n0 (Bl n0) w' (.slice a (AL n).length c) (AL n) ∧ (∀ b, (Value.slice a (AL n).length c).ownBlock = some b → w.heap.size ≤ b) ∧ Below w.heap.size w w' := by
  have IC := flat_any n0 n 0 (w.alloc (.cells (encN n va) 24)) va (.slice none 0 0) (.slice none 0 0) [] [] (by simp; omega) (ha.kept (below_alloc _ _)) (RowN.nil _ _ _) (World.ownsRow_nil _ _ _ _) rfl (by simpa using hz) (by have := dep_le_sz n; omega)
  obtain ⟨a1, c1, rfl, -, -⟩ := ha.open
  clear ha
  rw [List.nil_append, List.nil_append] at IC
  obtain ⟨L, hL⟩ : ∃ y, AL n = y := ⟨_, rfl⟩
  have hL' := hL
  unfold AL at hL'
  rw [hL'] at IC
  rw [hL]
  generalize (n.flat 0).map (fun e => (e.1 : Int)) = D at IC
  simp only [aggN, encN, Int.natCast_zero] at IC ⊢
  clear hL hL' hz
  go_enter Try.func31, Try.ntmps31
  go_wp2_with (go_at_call 10; refine IC.mono ?_; clear IC; rintro e w1 ⟨a2, c2, a3, c3, rfl, hq⟩)
  go_ret
  refine ⟨a2, c2, rfl, hq.r1, fun b hb => ?_, ?_⟩
  · rcases hq.at1 b hb with h | h
    · simp [Value.ownBlock] at h
    · simp at h; omega
  · have h1 : Below w.heap.size w (w.alloc (.cells (encN n (.slice a1 n.kids.length c1)) 24)) := below_alloc _ _
    exact h1.trans (hq.keep.below (by simp) (fun b _ h => by rcases h with h | h <;> simp [Value.ownBlock] at h))
end Go.Proofs.Ytgknigjpdnfkdaa
