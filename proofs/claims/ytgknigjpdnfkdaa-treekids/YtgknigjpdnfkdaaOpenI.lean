/-
  A list of ints that came in as an argument, opened.
-/
import Derived.Test.YtgknigjpdnfkdaaOpen
import Derived.Test.YtgknigjpdnfkdaaInts
namespace Go.Proofs.Ytgknigjpdnfkdaa
open Go.ChangeShapes Go.WideShapes Go.ChangeAt Go.RowKit
set_option maxRecDepth 100000 in
theorem ok_ints {W : World} {base len cap : Nat} {a : Addr} (h : Value.okWide Try.prog W .any base 27 (.slice (some a) len cap)) : a.spot = none := by
  have h' : len ≤ cap ∧ (cap : Int) ≤ IntKind.i64.max ∧ W.has Try.prog .any base a 3 cap := by simpa [Value.okWide, Cell.okWide, Cell.ok, Try.underlying27] using h
  obtain ⟨_, _, _, hsp, _⟩ := h'
  exact hsp
set_option maxRecDepth 100000 in
theorem open_ints4 {H : Type} {enc : TypeId × Value → H} {W : World} {base : Nat} {v : Value} {d : DataW H} {ps : List MemPlace} (hv : Value.okWide Try.prog W .any base 27 v) (h : DataW.Trod enc Try.prog W 0 (fun _ => true) true 27 v d ps) :
    ∃ ks : List Int, InV W v ks ∧ (ks.length : Int) ≤ 9223372036854775807 := by
  obtain ⟨a, len, cap, rfl⟩ := okWide_slice Try.underlying27 hv
  obtain ⟨fuel, hf⟩ := h
  rcases Go.Deep.open_slice1 Try.underlying27 cells3 hf with ⟨hcs, hx⟩ | ⟨a', len', cap', m, n, V, D, Pl, hcs, _, hl, hcm, hm, hx, hc⟩
  · simp [Value.cells] at hcs
    obtain ⟨rfl, rfl, rfl⟩ := hcs
    exact ⟨[], .inl ⟨rfl, rfl⟩, by simp⟩
  · simp [Value.cells] at hcs
    obtain ⟨rfl, rfl, rfl⟩ := hcs
    simp only [if_true] at hm
    have hsp := ok_ints hv
    obtain ⟨B, o, sp⟩ := a'
    simp only at hsp
    subst hsp
    have each : ∀ i, i < len → ∃ y : Int, W.cell? ⟨B, o + i, none⟩ = some (.int .i64 y) := fun i hi => by
      obtain ⟨h1, h2⟩ := hc i (by omega)
      obtain ⟨s, e, _, _⟩ := DataW.trod_int Try.underlying3 h2
      rw [add_plain] at h1
      simp at e
      exact ⟨s, by rw [h1, e]⟩
    obtain ⟨f, hf'⟩ := Go.Deep.choose_lt each
    have hkl : ((List.range len).map f).length = len := by simp
    refine ⟨(List.range len).map f, .inr ⟨B, o, cap, by rw [hkl], fun i hi => ?_⟩, by rw [hkl]; unfold maxLen at hcm; omega⟩
    rw [hf' i (by omega)]
    simp
end Go.Proofs.Ytgknigjpdnfkdaa
