/-
  A row of types that is written to: what type parameters stand for.
-/
import Derived.Test.YtcmnhkopmkaiaaaMtp
import Derived.Test.YtcmnhkopmkaiaaaRmk
namespace Go.Proofs.Ytcmnhkopmkaiaaa
open Go.RowKit
attribute [local go_sem ↓] Go.wp_at_zero Go.wp_at_succ
/-- the row that is written to lies at block g from cell o on, and reads as xs; what its types hold lies elsewhere -/
def ArgS (E : Nat → Prop) (g o : Nat) (W : World) (v : Value) (xs : List Ty) : Prop :=
  (∃ a c, v = .slice a 0 c ∧ xs = []) ∨ ∃ c cs, v = .slice (some ⟨g, o, none⟩) xs.length c ∧ W.heap[g]? = some (.cells cs 26 (0, 0)) ∧ o + xs.length * 7 ≤ cs.size ∧ (xs.length : Int) ≤ 9223372036854775807 ∧ liesT (fun b => ¬ E b) W xs g o
theorem ArgS.kept {E : Nat → Prop} {g o : Nat} {W W' : World} {v : Value} {xs : List Ty} (h : ArgS E g o W v xs) (hk : Below W.heap.size W W') : ArgS E g o W' v xs := by
  rcases h with h | ⟨c, cs, e, h1, h2, h3, h4⟩
  · exact .inl h
  · exact .inr ⟨c, cs, e, blk_kept hk h1, h2, h3, liesT_of fun i hi => lies_to (X := fun _ => False) (Kx.of_whole hk) (fun _ _ h => h) (fun _ _ _ h => h) _ g _ (fun h => h) (liesT_get h4 i hi)⟩
theorem ArgS.form {E : Nat → Prop} {g o : Nat} {W : World} {v : Value} {xs : List Ty} (h : ArgS E g o W v xs) : ∃ a c, v = .slice a xs.length c ∧ (xs.length : Int) ≤ 9223372036854775807 := by
  rcases h with ⟨a, c, rfl, rfl⟩ | ⟨c, cs, rfl, _, _, h, _⟩
  · exact ⟨a, c, rfl, by simp⟩
  · exact ⟨_, c, rfl, h⟩
theorem cell_set {w : World} {a b : Addr} {v u : Value} (h : w.cell? a = some u) (hne : a ≠ b) : (w.setCell b v).cell? a = some u := by
  rw [World.cell?_setCell_other (h := Ne.symm hne)]
  exact h
theorem cell_same {w : World} {a : Addr} {v u : Value} (h : w.cell? a = some u) : (w.setCell a v).cell? a = some v := World.cell?_setCell_same (h := h) ..
/-- seven cells are written -/
abbrev set7 (w : World) (g k : Nat) (a b c d x y z : Value) : World := ((((((w.setCell ⟨g, k, none⟩ a).setCell ⟨g, k + 1, none⟩ b).setCell ⟨g, k + 2, none⟩ c).setCell ⟨g, k + 3, none⟩ d).setCell ⟨g, k + 4, none⟩ x).setCell ⟨g, k + 5, none⟩ y).setCell ⟨g, k + 6, none⟩ z
theorem kx_set7k {w : World} {g k : Nat} {a b c d x y z : Value} : Kx (· = g) w (set7 w g k a b c d x y z) :=
  (((((kx_set.trans kx_set).trans kx_set).trans kx_set).trans kx_set).trans kx_set).trans kx_set
theorem set7k_far {w : World} {g k j : Nat} {a b c d x y z u : Value} (h : w.cell? ⟨g, j, none⟩ = some u) (hj : j < k ∨ k + 7 ≤ j) : (set7 w g k a b c d x y z).cell? ⟨g, j, none⟩ = some u := by
  have ne : ∀ i, i < 7 → (⟨g, j, none⟩ : Addr) ≠ ⟨g, k + i, none⟩ := fun i hi e => by
    injection e with _ e2
    omega
  exact cell_set (cell_set (cell_set (cell_set (cell_set (cell_set (cell_set h (ne 0 (by omega))) (ne 1 (by omega))) (ne 2 (by omega))) (ne 3 (by omega))) (ne 4 (by omega))) (ne 5 (by omega))) (ne 6 (by omega))
theorem set_blk {w : World} {g j : Nat} {v : Value} {cs : Array Value} {T : TypeId} (h : w.heap[g]? = some (.cells cs T (0, 0))) : (w.setCell ⟨g, j, none⟩ v).heap[g]? = some (.cells (cs.setIfInBounds j v) T (0, 0)) := by
  simp [World.setCell, Array.getElem?_modify, h]
theorem set7_blk {w : World} {g k : Nat} {a b c d x y z : Value} {cs : Array Value} {T : TypeId} (h : w.heap[g]? = some (.cells cs T (0, 0))) : ∃ cs', (set7 w g k a b c d x y z).heap[g]? = some (.cells cs' T (0, 0)) ∧ cs'.size = cs.size :=
  ⟨_, set_blk (set_blk (set_blk (set_blk (set_blk (set_blk (set_blk h)))))), by simp⟩
theorem set7_in {w : World} {g k : Nat} {a b c d x y z : Value} {cs : Array Value} {T : TypeId} (h : w.heap[g]? = some (.cells cs T (0, 0))) (hk : k + 7 ≤ cs.size) :
    (set7 w g k a b c d x y z).cell? ⟨g, k, none⟩ = some a ∧ (set7 w g k a b c d x y z).cell? ⟨g, k + 1, none⟩ = some b ∧ (set7 w g k a b c d x y z).cell? ⟨g, k + 2, none⟩ = some c ∧ (set7 w g k a b c d x y z).cell? ⟨g, k + 3, none⟩ = some d ∧ (set7 w g k a b c d x y z).cell? ⟨g, k + 4, none⟩ = some x ∧ (set7 w g k a b c d x y z).cell? ⟨g, k + 5, none⟩ = some y ∧ (set7 w g k a b c d x y z).cell? ⟨g, k + 6, none⟩ = some z := by
  have ne : ∀ i j, i ≠ j → (⟨g, k + i, none⟩ : Addr) ≠ ⟨g, k + j, none⟩ := fun i j hi e => by
    injection e with _ e2
    omega
  have ex : ∀ i, i < 7 → ∃ u, w.cell? ⟨g, k + i, none⟩ = some u := fun i hi => ⟨cs[k + i]'(by omega), by simp [World.cell?, h, show k + i < cs.size by omega]⟩
  obtain ⟨u0, e0⟩ := ex 0 (by omega)
  obtain ⟨u1, e1⟩ := ex 1 (by omega)
  obtain ⟨u2, e2⟩ := ex 2 (by omega)
  obtain ⟨u3, e3⟩ := ex 3 (by omega)
  obtain ⟨u4, e4⟩ := ex 4 (by omega)
  obtain ⟨u5, e5⟩ := ex 5 (by omega)
  obtain ⟨u6, e6⟩ := ex 6 (by omega)
  refine ⟨?_, ?_, ?_, ?_, ?_, ?_, ?_⟩
  · exact (cell_set (cell_set (cell_set (cell_set (cell_set (cell_set (cell_same e0) (ne 0 1 (by omega))) (ne 0 2 (by omega))) (ne 0 3 (by omega))) (ne 0 4 (by omega))) (ne 0 5 (by omega))) (ne 0 6 (by omega)))
  · exact (cell_set (cell_set (cell_set (cell_set (cell_set (cell_same (cell_set e1 (ne 1 0 (by omega)))) (ne 1 2 (by omega))) (ne 1 3 (by omega))) (ne 1 4 (by omega))) (ne 1 5 (by omega))) (ne 1 6 (by omega)))
  · exact (cell_set (cell_set (cell_set (cell_set (cell_same (cell_set (cell_set e2 (ne 2 0 (by omega))) (ne 2 1 (by omega)))) (ne 2 3 (by omega))) (ne 2 4 (by omega))) (ne 2 5 (by omega))) (ne 2 6 (by omega)))
  · exact (cell_set (cell_set (cell_set (cell_same (cell_set (cell_set (cell_set e3 (ne 3 0 (by omega))) (ne 3 1 (by omega))) (ne 3 2 (by omega)))) (ne 3 4 (by omega))) (ne 3 5 (by omega))) (ne 3 6 (by omega)))
  · exact (cell_set (cell_set (cell_same (cell_set (cell_set (cell_set (cell_set e4 (ne 4 0 (by omega))) (ne 4 1 (by omega))) (ne 4 2 (by omega))) (ne 4 3 (by omega)))) (ne 4 5 (by omega))) (ne 4 6 (by omega)))
  · exact (cell_set (cell_same (cell_set (cell_set (cell_set (cell_set (cell_set e5 (ne 5 0 (by omega))) (ne 5 1 (by omega))) (ne 5 2 (by omega))) (ne 5 3 (by omega))) (ne 5 4 (by omega)))) (ne 5 6 (by omega)))
  · exact (cell_same (cell_set (cell_set (cell_set (cell_set (cell_set (cell_set e6 (ne 6 0 (by omega))) (ne 6 1 (by omega))) (ne 6 2 (by omega))) (ne 6 3 (by omega))) (ne 6 4 (by omega))) (ne 6 5 (by omega))))
/-- a type is written into the row -/
theorem ArgS.put {E : Nat → Prop} {g o c : Nat} {W : World} {xs : List Ty} {t : Ty} {vn vm vk : Value} (hE : E g) (h : ArgS E g o W (.slice (some ⟨g, o, none⟩) xs.length c) xs) (hp : Prt (fun b => ¬ E b) W t vn vm vk) (i : Nat) (hi : i < xs.length) :
    ArgS E g o (set7 W g (o + i * 7) (.int .i64 t.kind) (.string t.name) (.int .i64 t.n) (.bool t.flag) vn vm vk) (.slice (some ⟨g, o, none⟩) xs.length c) (xs.set i t) := by
  rcases h with ⟨a, c', e, rfl⟩ | ⟨c', cs, e, h1, h2, h3, h4⟩
  · cases hi
  · have hkx : Kx (· = g) W (set7 W g (o + i * 7) (.int .i64 t.kind) (.string t.name) (.int .i64 t.n) (.bool t.flag) vn vm vk) := kx_set7k
    have hto : ∀ b : Nat, b < W.heap.size → ¬ E b → ¬ b = g := fun b _ h e => h (by rw [e]; exact hE)
    obtain ⟨cs', b1, b2⟩ := set7_blk (w := W) (g := g) (k := o + i * 7) (a := .int .i64 t.kind) (b := .string t.name) (c := .int .i64 t.n) (d := .bool t.flag) (x := vn) (y := vm) (z := vk) h1
    obtain ⟨q0, q1, q2, q3, q4, q5, q6⟩ := set7_in (w := W) (g := g) (k := o + i * 7) (a := .int .i64 t.kind) (b := .string t.name) (c := .int .i64 t.n) (d := .bool t.flag) (x := vn) (y := vm) (z := vk) h1 (by omega)
    refine .inr ⟨c, cs', by simp, b1, by simp; omega, by simpa using h3, liesT_of fun j hj => ?_⟩
    have hj' : j < xs.length := by simpa using hj
    by_cases hji : j = i
    · subst hji
      have e9 : (xs.set j t)[j] = t := by simp
      rw [e9]
      exact lies_iff.2 ⟨q0, q1, q2, q3, vn, vm, vk, q4, q5, q6, hp.to hkx (fun _ _ h => h) hto⟩
    · have e9 : (xs.set i t)[j] = xs[j] := by simp [Ne.symm hji]
      rw [e9]
      obtain ⟨r0, r1, r2, r3, wn, wm, wk, r4, r5, r6, hpj⟩ := lies_iff.1 (liesT_get h4 j hj')
      have hf : ∀ q, q < 7 → (o + j * 7 + q < o + i * 7 ∨ o + i * 7 + 7 ≤ o + j * 7 + q) := fun q hq => by omega
      exact lies_iff.2 ⟨set7k_far r0 (hf 0 (by omega)), set7k_far r1 (hf 1 (by omega)), set7k_far r2 (hf 2 (by omega)), set7k_far r3 (hf 3 (by omega)), wn, wm, wk, set7k_far r4 (hf 4 (by omega)), set7k_far r5 (hf 5 (by omega)), set7k_far r6 (hf 6 (by omega)), hpj.to hkx (fun _ _ h => h) hto⟩
/-- what Match answers -/
structure MtQ (E : Nat → Prop) (g o : Nat) (w : World) (v : Value) (r : Bool × List Ty) (e : Ending) (w' : World) : Prop where
  val : e = .returned (.bool r.1)
  kx : Kx (· = g) w w'
  arg : ArgS E g o w' v r.2
end Go.Proofs.Ytcmnhkopmkaiaaa

