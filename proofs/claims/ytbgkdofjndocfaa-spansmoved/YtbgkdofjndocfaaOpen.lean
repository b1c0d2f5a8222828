/-
  A slice of edits that came in, opened: the edits that it holds.
-/
import Derived.Test.YtbgkdofjndocfaaBoth
import Derived.Deep.Slices
import Derived.SizedLaws
import Derived.WalkKit
import Derived.ProofKit
import Derived.OpenShut
import Derived.ShutString
import Derived.Carry
namespace Go.Proofs.Ytbgkdofjndocfaa
open Go.ChangeShapes Go.WideShapes Go.ChangeAt Go.RowKit
set_option maxRecDepth 100000 in
theorem ok_slice {W : World} {base len cap : Nat} {a : Addr} (h : Value.okWide Try.prog W .any base 22 (.slice (some a) len cap)) : a.spot = none ∧ a.block < W.heap.size := by
  have h' : len ≤ cap ∧ (cap : Int) ≤ IntKind.i64.max ∧ W.has Try.prog .any base a 33 cap := by simpa [Value.okWide, Cell.okWide, Cell.ok, Try.underlying22] using h
  obtain ⟨_, _, _, hsp, row, cells, hs, _⟩ := h'
  refine ⟨hsp, ?_⟩
  unfold World.shape? at hs
  rcases Nat.lt_or_ge a.block W.heap.size with h | h
  · exact h
  · rw [Array.getElem?_eq_none h] at hs; cases hs
theorem cells33 : Try.prog.cellsOf 33 = 4 := by kernel_rfl
theorem cells9' : Try.prog.cellsOf 9 = 1 := by kernel_rfl
theorem cells3' : Try.prog.cellsOf 3 = 1 := by kernel_rfl
set_option maxRecDepth 100000 in
theorem open_edit {H : Type} {enc : TypeId × Value → H} {W : World} {base n : Nat} {spare : Nat → Bool} {held : Bool} {cs : List Value} {x : DataW H × List MemPlace} (h : DataW.trod enc Try.prog W base spare held n 33 cs = some x) :
    ∃ e : Ed, cs = encE e ∧ x.1 = .agg [.lit (.string e.1.data.toList), .lit (.int .i64 e.2.1), .lit (.int .i64 e.2.2.1), .lit (.string e.2.2.2.data.toList)] := by
  obtain ⟨xs, k, rfl, rfl, hl, hxl, hf⟩ := DataW.trod_struct Try.underlying33 h
  rw [cells33] at hl
  match cs, hl with
  | [c0, c1, c2, c3], _ =>
    have g0 : DataW.trod enc Try.prog W base spare held k 9 [c0] = xs[0]? := by have h := hf 0 ⟨ "Path", 9, 0, false, "", "", 0⟩ rfl; simpa [cells9'] using h
    have g1 : DataW.trod enc Try.prog W base spare held k 3 [c1] = xs[1]? := by have h := hf 1 ⟨ "From", 3, 1, false, "", "", 16⟩ rfl; simpa [cells3'] using h
    have g2 : DataW.trod enc Try.prog W base spare held k 3 [c2] = xs[2]? := by have h := hf 2 ⟨ "To", 3, 2, false, "", "", 24⟩ rfl; simpa [cells3'] using h
    have g3 : DataW.trod enc Try.prog W base spare held k 9 [c3] = xs[3]? := by have h := hf 3 ⟨ "Text", 9, 3, false, "", "", 32⟩ rfl; simpa [cells9'] using h
    match xs, hxl with
    | [y0, y1, y2, y3], _ =>
      simp only [List.getElem?_cons_zero, List.getElem?_cons_succ] at g0 g1 g2 g3
      obtain ⟨s0, e0, r0, _⟩ := DataW.trod_string Try.underlying9 g0
      obtain ⟨s1, e1, r1, _⟩ := DataW.trod_int Try.underlying3 g1
      obtain ⟨s2, e2, r2, _⟩ := DataW.trod_int Try.underlying3 g2
      obtain ⟨s3, e3, r3, _⟩ := DataW.trod_string Try.underlying9 g3
      simp at e0 e1 e2 e3
      subst e0 e1 e2 e3 r0 r1 r2 r3
      exact ⟨(s0, s1, s2, s3), rfl, rfl⟩
theorem flat_map (f : Nat → Ed) (n : Nat) (W : World) (B o : Nat) (h : ∀ i, i < n → ∀ k, k < 4 → W.cell? ⟨B, o + (i * 4 + k), none⟩ = (encE (f i))[k]?) : EdsAt W B o ((List.range n).map f) := by
  intro j u hu
  have hl : ((List.range n).map f).length = n := by simp
  have hj : j < n * 4 := by have := (List.getElem?_eq_some_iff.1 hu).1; rw [flatE_len, hl] at this; exact this
  have e := flatE_get ((List.range n).map f) (j / 4) (j % 4) (by rw [hl]; omega) (Nat.mod_lt _ (by omega))
  rw [show j / 4 * 4 + j % 4 = j by omega, hu] at e
  have h1 := h (j / 4) (by omega) (j % 4) (Nat.mod_lt _ (by omega))
  rw [show j / 4 * 4 + j % 4 = j by omega] at h1
  rw [h1, e]
  simp [List.getD_eq_getElem?_getD, (by omega : j / 4 < n)]
set_option maxRecDepth 100000 in
theorem open_edits {H : Type} {enc : TypeId × Value → H} {W : World} {base : Nat} {v : Value} {d : DataW H} {ps : List MemPlace} (hv : Value.okWide Try.prog W .any base 22 v) (h : DataW.Trod enc Try.prog W 0 (fun _ => true) true 22 v d ps) :
    ∃ l : List Ed, EdArg W v l ∧ (l = [] ∨ ∃ elems spare, d = .slice elems spare ∧ elems.length = l.length) := by
  obtain ⟨a, len, cap, rfl⟩ := okWide_slice Try.underlying22 hv
  obtain ⟨fuel, hf⟩ := h
  rcases Go.Deep.open_slice Try.underlying22 hf with ⟨hcs, hx⟩ | ⟨a', len', cap', m, n, D, Pl, hcs, _, hl, _, hm, hx, hc⟩
  · simp [Value.cells] at hcs
    obtain ⟨rfl, rfl, rfl⟩ := hcs
    exact ⟨[], .inl ⟨rfl, rfl⟩, .inl rfl⟩
  · simp [Value.cells] at hcs
    obtain ⟨rfl, rfl, rfl⟩ := hcs
    simp only [if_true] at hm
    subst hm
    obtain ⟨hsp, hbk⟩ := ok_slice hv
    obtain ⟨B, o, sp⟩ := a'
    simp only at hsp hbk
    subst hsp
    have each : ∀ i, i < len → ∃ e : Ed, ∀ k, k < 4 → W.cell? ⟨B, o + (i * 4 + k), none⟩ = (encE e)[k]? := fun i hi => by
      obtain ⟨cs', h1, h2⟩ := hc i (by omega)
      obtain ⟨e, rfl, _⟩ := open_edit h2
      rw [cells33] at h1
      obtain ⟨_, _, h3⟩ := World.cells?_some h1
      refine ⟨e, fun k hk => ?_⟩
      have := h3 k hk
      rw [Go.Deep.add_add, add_plain] at this
      exact this
    obtain ⟨f, hf'⟩ := Go.Deep.choose_lt each
    refine ⟨(List.range len).map f, .inr ⟨B, o, _, by simp; rfl, fun _ => hbk, flat_map f len W B o hf'⟩, .inr ⟨_, _, (Prod.mk.inj hx).1, by simp⟩⟩
end Go.Proofs.Ytbgkdofjndocfaa
