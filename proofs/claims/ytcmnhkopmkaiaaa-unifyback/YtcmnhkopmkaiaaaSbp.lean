/-
  The document's Subst, walked.
-/
import Derived.Test.YtcmnhkopmkaiaaaRmk
namespace Go.Proofs.Ytcmnhkopmkaiaaa
open Go.RowKit
attribute [local go_sem ↓] Go.wp_at_zero Go.wp_at_succ
mutual
/-- with its arguments -/
def Ty.sbs (args : List Ty) : Ty → Ty
  | .mk k nm n f ns ms ks => if k = 9 then (if 0 ≤ n ∧ n < (args.length : Int) then args[n.toNat]?.getD (.mk k nm n f ns ms ks) else .mk k nm n f ns ms ks) else .mk k nm n f ns ms (sbsL args ks)
def sbsL (args : List Ty) : List Ty → List Ty
  | [] => []
  | x :: r => x.sbs args :: sbsL args r
end
theorem sbsL_len (args : List Ty) (l : List Ty) : (sbsL args l).length = l.length := by
  induction l with
  | nil => rfl
  | cons x r ih => simp [sbsL, ih]
theorem sbsL_append (args : List Ty) (l l' : List Ty) : sbsL args (l ++ l') = sbsL args l ++ sbsL args l' := by
  induction l with
  | nil => rfl
  | cons x r ih => simp [sbsL, ih]
/-- no more kids than are looked at -/
inductive Sml : Ty → Prop
  | mk (t : Ty) : t.kids.length ≤ 1000 → (∀ x ∈ t.kids, Sml x) → Sml t
theorem tszL_sml (ks : List Ty) (ih : ∀ x ∈ ks, ∀ m, 0 ≤ m → m ≤ 120 → x.tsz m ≤ m → Sml x) : ∀ m s, 1 ≤ s → m ≤ 120 → tszL ks m s ≤ m → (∀ x ∈ ks, Sml x) ∧ s + ks.length ≤ m := by
  induction ks with
  | nil => intro m s h1 h2 h3; simp only [tszL] at h3; exact ⟨(fun x hx => by cases hx), by simpa using h3⟩
  | cons x r ih2 =>
    intro m s h1 h2 h3
    simp only [tszL] at h3
    by_cases hs : s ≤ m
    · rw [if_pos hs] at h3
      have hx := tsz_le x (m - s) (by omega)
      obtain ⟨h4, h5⟩ := ih2 (fun y hy => ih y (by simp [hy])) m (s + x.tsz (m - s)) (by omega) h2 h3
      refine ⟨fun y hy => ?_, by simp; omega⟩
      rcases List.mem_cons.1 hy with rfl | hy
      · exact ih y (by simp) (m - s) (by omega) (by omega) (by omega)
      · exact h4 y hy
    · rw [if_neg hs] at h3; omega
theorem tsz_sml : ∀ t : Ty, ∀ m, 0 ≤ m → m ≤ 120 → t.tsz m ≤ m → Sml t :=
  Ty.ind fun k nm n f ns ms ks ih m h0 h1 h2 => by
    simp only [Ty.tsz] at h2
    obtain ⟨h3, h4⟩ := tszL_sml ks ih m 1 (by omega) h1 h2
    exact .mk _ (by simp [Ty.kids]; omega) h3
theorem own_kept {base size n : Nat} {e : TypeId} {v : Value} {xs : List Value} {W W' : World} (h : W.ownsRow base e size v n xs) (hk : Below W.heap.size W W') : W'.ownsRow base e size v n xs := by
  refine ⟨h.1, ?_⟩
  rcases h.2 with h0 | ⟨g, cap, cur, rfl, h1, h2, h3⟩
  · exact .inl h0
  · exact .inr ⟨g, cap, cur, rfl, h1, (hk.block g (Array.getElem?_eq_some_iff.1 h2).1).trans h2, h3⟩
/-- where the loop of Subst stands -/
structure SbI (B : BQ) (w : World) (x1 x2 x3 : Obj) (acc : List Ty) (u : Value) (wr : World) : Prop where
  bl : Below w.heap.size w wr
  b1 : wr.heap[w.heap.size]? = some x1
  b2 : wr.heap[w.heap.size + 1]? = some x2
  b3 : wr.heap[w.heap.size + 2]? = some x3
  row : RowT (w.heap.size + 3) (fun b => (B b ∧ b < w.heap.size) ∨ w.heap.size + 3 ≤ b) wr u acc
theorem bx7_set6 {w : World} {X : Nat} {a b c d e f g v : Value} {T : TypeId} (h : w.heap[X]? = some (.cells #[a, b, c, d, e, f, g] T (0, 0))) : (w.setCell ⟨X, 6, none⟩ v).heap[X]? = some (.cells #[a, b, c, d, e, f, v] T (0, 0)) := by
  simp [World.setCell, Array.getElem?_modify, h]
/-- a type more in the row, and the row stored -/
theorem SbI.push {B : BQ} {w : World} {x1 x2 : Obj} {p0 p1 p2 p3 p4 p5 : Value} {acc : List Ty} {u : Value} {wr w1 w9 : World} {y : Ty} {vn vm vk : Value} {vs : List V3} {gg cap : Nat}
    (h1 : wr.heap[w.heap.size]? = some x1) (h2 : wr.heap[w.heap.size + 1]? = some x2) (h3 : wr.heap[w.heap.size + 2]? = some (.cells #[p0, p1, p2, p3, p4, p5, u] 26 (0, 0))) (hb : Below w.heap.size w wr)
    (hvl : vs.length = acc.length) (hlt : ∀ k, u.ownBlock = some k → w.heap.size + 3 ≤ k ∧ k < wr.heap.size)
    (hsv : ∀ i (hi : i < acc.length), Prt (fun b => ((B b ∧ b < w.heap.size) ∨ w.heap.size + 3 ≤ b) ∧ u.ownBlock ≠ some b) wr acc[i] (vs[i]'(hvl ▸ hi)).n (vs[i]'(hvl ▸ hi)).m (vs[i]'(hvl ▸ hi)).k)
    (hb1 : Below wr.heap.size wr w1) (hy : Prt (fun b => (B b ∧ b < w.heap.size) ∨ wr.heap.size ≤ b) w1 y vn vm vk)
    (hg : (w1.alloc (.cells (cel y ⟨vn, vm, vk⟩).toArray 26)).grownBy w9 u.ownBlock) (hat : u.ownBlock = some gg ∨ gg = w1.heap.size + 1)
    (hown : w9.ownsRow (w.heap.size + 3) 26 7 (.slice (some ⟨gg, 0, none⟩) (acc.length + 1) cap) (acc.length + 1) (flatT acc vs ++ cel y ⟨vn, vm, vk⟩)) :
    SbI B w x1 x2 (.cells #[p0, p1, p2, p3, p4, p5, .slice (some ⟨gg, 0, none⟩) (acc.length + 1) cap] 26 (0, 0)) (acc ++ [y]) (.slice (some ⟨gg, 0, none⟩) (acc.length + 1) cap) (w9.setCell ⟨w.heap.size + 2, 6, none⟩ (.slice (some ⟨gg, 0, none⟩) (acc.length + 1) cap)) := by
  have hz := hb.size
  have hz1 := hb1.size
  have hx3 : w.heap.size + 2 < wr.heap.size := (Array.getElem?_eq_some_iff.1 h3).1
  have hba : Below w1.heap.size w1 (w1.alloc (.cells (cel y ⟨vn, vm, vk⟩).toArray 26)) := below_alloc _ _
  have hb2 : Below wr.heap.size wr (w1.alloc (.cells (cel y ⟨vn, vm, vk⟩).toArray 26)) := bthen hb1 hba
  have hk9 := grownBy_kx hg
  have hks : Kx (· = w.heap.size + 2) w9 (w9.setCell ⟨w.heap.size + 2, 6, none⟩ (.slice (some ⟨gg, 0, none⟩) (acc.length + 1) cap)) := kx_set
  have go9 : ∀ b o, b < w.heap.size + 3 → wr.heap[b]? = some o → w9.heap[b]? = some o := fun b o h4 h5 => hk9.keep b o (blk_kept hb2 h5) (fun e => by have := (hlt b e).1; omega)
  have hrow : RowT (w.heap.size + 3) (fun b => (B b ∧ b < w.heap.size) ∨ w.heap.size + 3 ≤ b) w9 (.slice (some ⟨gg, 0, none⟩) (acc.length + 1) cap) (acc ++ [y]) := by
    have hj := RowT.join (base := w.heap.size + 3) (K := fun b => (B b ∧ b < w.heap.size) ∨ w.heap.size + 3 ≤ b) (W := w1.alloc (.cells (cel y ⟨vn, vm, vk⟩).toArray 26)) (W1 := w9) (v := u) (l := acc) (l2 := [y]) (vs := vs) (vs2 := [⟨vn, vm, vk⟩]) hvl (fun i hi => (hsv i hi).kept hb2) rfl (fun i hi => by
      have hi0 : i = 0 := by simp at hi; omega
      subst hi0
      exact (hy.kept hba).with (fun b _ hb => ⟨by rcases hb with hb | hb; exact .inl hb; exact .inr (by omega), fun e => by
        have := hlt b e
        rcases hb with hb | hb
        · omega
        · omega⟩)) (g := gg) (cap := cap) hg (by rcases hat with h | h; exact .inl h; exact .inr (by simp [h])) (by simpa [flatT] using hown)
    simpa using hj
  refine ⟨⟨?_, ?_, ?_, ?_, ?_⟩, ?_, ?_, ?_, ?_⟩
  · rw [hks.os, hk9.os, hb2.os, hb.os]
  · rw [hks.tape, hk9.tape, hb2.tape, hb.tape]
  · rw [hks.output, hk9.output, hb2.output, hb.output]
  · exact Nat.le_trans hz (Nat.le_trans hb2.size (Nat.le_trans hk9.size hks.size))
  · intro k hk
    have h5 := hb.block k hk
    have h6 : w.heap[k]? = some w.heap[k] := by simp [hk]
    rw [h6] at h5 ⊢
    exact hks.keep k _ (go9 k _ (by omega) h5) (by omega)
  · exact hks.keep _ _ (go9 _ _ (by omega) h1) (by omega)
  · exact hks.keep _ _ (go9 _ _ (by omega) h2) (by omega)
  · exact bx7_set6 (go9 _ _ (by omega) h3)
  · refine hrow.to hks (fun b hb e => ?_) (fun b _ hb e => ?_)
    · have := (hrow.lt b hb).1; omega
    · rcases hb with hb | hb <;> omega
end Go.Proofs.Ytcmnhkopmkaiaaa

