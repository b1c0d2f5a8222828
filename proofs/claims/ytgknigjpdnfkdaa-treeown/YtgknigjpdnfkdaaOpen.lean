/-
  A tree that came in as an argument, opened.
-/
import Derived.Test.YtgknigjpdnfkdaaAwake
import Derived.Deep.Slices
import Derived.ProofKit
import Derived.OpenShut
import Derived.ShutString
import Derived.Carry
import Derived.Lib.SmallJoins
namespace Go.Proofs.Ytgknigjpdnfkdaa
open Go.ChangeShapes Go.WideShapes Go.ChangeAt Go.RowKit
theorem cells24 : Try.prog.cellsOf 24 = 5 := by kernel_rfl
theorem cells22 : Try.prog.cellsOf 22 = 1 := by kernel_rfl
theorem cells9 : Try.prog.cellsOf 9 = 1 := by kernel_rfl
theorem cells3 : Try.prog.cellsOf 3 = 1 := by kernel_rfl
instance : Inhabited Nd := ⟨.mk 0 0 0 ⟨#[]⟩ []⟩
theorem spot_none {W : World} {a : Addr} {v : Value} (h : W.cell? a = some v) : a.spot = none := by
  unfold World.cell? at h
  split at h
  · split at h
    · cases h
    · rename_i h1; simpa using h1
  · cases h
/-- what a node's cells read as -/
theorem open_node {H : Type} {enc : TypeId × Value → H} {W : World} {spare : Nat → Bool} {held : Bool} : ∀ (fuel : Nat) {cs : List Value} {x : DataW H × List MemPlace}, DataW.trod enc Try.prog W 0 spare held fuel 24 cs = some x →
    ∃ (n : Nd) (v : Value), cs = (encN n v).toList ∧ SlV (Bl W.heap.size) W v n.kids := by
  intro fuel
  induction fuel using Nat.strongRecOn with
  | ind fuel ih =>
    intro cs x h
    obtain ⟨xs, k, rfl, rfl, hl, hxl, hf⟩ := DataW.trod_struct Try.underlying24 h
    rw [cells24] at hl
    match cs, hl with
    | [c0, c1, c2, c3, c4], _ =>
      have g0 : DataW.trod enc Try.prog W 0 spare held k 3 [c0] = xs[0]? := by have h := hf 0 _ rfl; simpa [cells3] using h
      have g1 : DataW.trod enc Try.prog W 0 spare held k 3 [c1] = xs[1]? := by have h := hf 1 _ rfl; simpa [cells3] using h
      have g2 : DataW.trod enc Try.prog W 0 spare held k 3 [c2] = xs[2]? := by have h := hf 2 _ rfl; simpa [cells3] using h
      have g3 : DataW.trod enc Try.prog W 0 spare held k 9 [c3] = xs[3]? := by have h := hf 3 _ rfl; simpa [cells9] using h
      have g4 : DataW.trod enc Try.prog W 0 spare held k 22 [c4] = xs[4]? := by have h := hf 4 _ rfl; simpa [cells22] using h
      match xs, hxl with
      | [y0, y1, y2, y3, y4], _ =>
        simp only [List.getElem?_cons_zero, List.getElem?_cons_succ] at g0 g1 g2 g3 g4
        obtain ⟨s0, e0, r0, _⟩ := DataW.trod_int Try.underlying3 g0
        obtain ⟨s1, e1, r1, _⟩ := DataW.trod_int Try.underlying3 g1
        obtain ⟨s2, e2, r2, _⟩ := DataW.trod_int Try.underlying3 g2
        obtain ⟨s3, e3, r3, _⟩ := DataW.trod_string Try.underlying9 g3
        simp at e0 e1 e2 e3
        subst e0 e1 e2 e3
        suffices hk : ∃ ks : List Nd, SlV (Bl W.heap.size) W c4 ks by
          obtain ⟨ks, hk⟩ := hk
          exact ⟨.mk s0 s1 s2 s3 ks, c4, rfl, hk⟩
        rcases DataW.trod_slice Try.underlying22 g4 with ⟨hcs, _⟩ | ⟨a', len, cap, elems, rest, n', hfu, hcs, hx, _, hlc, hcm, hlen, hel, _, _⟩
        · simp at hcs
          subst hcs
          exact ⟨[], .inl ⟨_, _, rfl, rfl⟩⟩
        · simp at hcs
          subst hcs
          by_cases h0 : len = 0
          · subst h0
            exact ⟨[], .inl ⟨_, _, rfl, rfl⟩⟩
          have each : ∀ i, i < len → ∃ p : Nd × Value, (∀ j, j < 5 → W.cell? ((a'.add (i * 5)).add j) = (encN p.1 p.2).toList[j]?) ∧ SlV (Bl W.heap.size) W p.2 p.1.kids := fun i hi => by
            have key := hel i hi
            rw [cells24, List.getElem?_eq_getElem (by omega)] at key
            obtain ⟨cs', h1, h2⟩ := Option.bind_eq_some_iff.1 key
            obtain ⟨nd, v, rfl, hv⟩ := ih n' (by omega) h2
            obtain ⟨_, _, h3⟩ := World.cells?_some h1
            exact ⟨(nd, v), fun j hj => h3 j hj, hv⟩
          obtain ⟨f, hf'⟩ := Go.Deep.choose_lt each
          obtain ⟨B, o, sp⟩ := a'
          have hsp : sp = none := by
            have h1 : W.cell? ⟨B, o, sp⟩ = some (.int .i64 (f 0).1.kind) := by
              have := (hf' 0 (by omega)).1 0 (by omega)
              simpa [Addr.add, encN] using this
            exact spot_none h1
          subst hsp
          have hcell : ∀ i, i < len → ∀ j, j < 5 → W.cell? ⟨B, o + i * 5 + j, none⟩ = (encN (f i).1 (f i).2).toList[j]? := fun i hi j hj => by
            have := (hf' i hi).1 j hj
            rw [Go.Deep.add_add, add_plain] at this
            rw [Nat.add_assoc]
            exact this
          have hob : ∃ ob, W.heap[B]? = some ob := by
            have h2 : W.cell? ⟨B, o, none⟩ = some (.int .i64 (f 0).1.kind) := by
              have := hcell 0 (by omega) 0 (by omega)
              simpa [encN] using this
            have h1 := World.block_lt_of_cell? W ⟨B, o, none⟩ h2
            exact ⟨W.heap[B], by simp [show B < W.heap.size from h1]⟩
          obtain ⟨ob, hob⟩ := hob
          have hkl : ((List.range len).map fun i => (f i).1).length = len := by simp
          refine ⟨(List.range len).map fun i => (f i).1, .inr ⟨B, o, cap, ob, by rw [hkl], by rw [hkl]; unfold maxLen at hcm; omega, hob, (Array.getElem?_eq_some_iff.1 hob).1, liesL_of fun i hi => ?_⟩⟩
          have hi' : i < len := by omega
          have hg : ((List.range len).map fun i => (f i).1)[i] = (f i).1 := by simp
          rw [hg]
          have k := hcell i hi'
          exact lies_iff.2 ⟨by simpa [encN] using k 0 (by omega), by simpa [encN] using k 1 (by omega), by simpa [encN] using k 2 (by omega), by simpa [encN] using k 3 (by omega), (f i).2, by simpa [encN] using k 4 (by omega), (hf' i hi').2⟩
/-- an argument that is a node -/
theorem open_tree {H : Type} {enc : TypeId × Value → H} {W : World} {base : Nat} {v : Value} {d : DataW H} {ps : List MemPlace} (hv : Value.okWide Try.prog W .any base 24 v) (h : DataW.Trod enc Try.prog W 0 (fun _ => true) true 24 v d ps) :
    ∃ (n : Nd) (u : Value), v = aggN n u ∧ SlV (Bl W.heap.size) W u n.kids := by
  obtain ⟨cs, rfl, _⟩ := okWide_struct Try.underlying24 hv
  obtain ⟨fuel, hf⟩ := h
  obtain ⟨n, u, hc, hs⟩ := open_node fuel hf
  refine ⟨n, u, ?_, hs⟩
  simp only [Value.cells] at hc
  unfold aggN
  congr 1
  exact Array.toList_inj.1 hc
end Go.Proofs.Ytgknigjpdnfkdaa
