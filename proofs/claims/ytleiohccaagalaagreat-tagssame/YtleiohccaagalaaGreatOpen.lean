/-
  Arguments opened.
-/
import Derived.Test.YtleiohccaagalaaGreatLaw
import Derived.SliceStrings
import Derived.ProofKit
import Derived.OpenShut
import Derived.HandedShaped
import Derived.Shelf.Vars
namespace Go.Proofs.YtleiohccaagalaaGreat
open Go.ChangeShapes Go.WideShapes Go.ChangeAt Go.RowKit
set_option maxRecDepth 100000 in
theorem ok_texts {W : World} {base len cap : Nat} {a : Addr} (h : Value.okWide Tryz.prog W .any base 22 (.slice (some a) len cap)) : a.spot = none ∧ a.block < W.heap.size := by
  have h' : len ≤ cap ∧ (cap : Int) ≤ IntKind.i64.max ∧ W.has Tryz.prog .any base a 9 cap := by simpa [Value.okWide, Cell.okWide, Cell.ok, Tryz.underlying22] using h
  obtain ⟨_, _, _, hsp, row, cells, hs, _⟩ := h'
  refine ⟨hsp, ?_⟩
  unfold World.shape? at hs
  rcases Nat.lt_or_ge a.block W.heap.size with h | h
  · exact h
  · rw [Array.getElem?_eq_none h] at hs; cases hs
theorem cells9' : Tryz.prog.cellsOf 9 = 1 := by kernel_rfl
theorem bytes9' : Tryz.prog.bytesOf 9 = 16 := by kernel_rfl
set_option maxRecDepth 100000 in
theorem open_texts {H : Type} {enc : TypeId × Value → H} {W : World} {base : Nat} {v : Value} {d : DataW H} {ps : List MemPlace} (hv : Value.okWide Tryz.prog W .any base 22 v) (h : DataW.Trod enc Tryz.prog W 0 (fun _ => true) true 22 v d ps) :
    ∃ a n c l, v = .slice a n c ∧ TxV W a n c l ∧ n ≤ 9223372036854775807 ∧ (l = [] ∨ ∃ elems spare, d = .slice elems spare ∧ elems.length = l.length) := by
  obtain ⟨a, len, cap, rfl⟩ := okWide_slice Tryz.underlying22 hv
  obtain ⟨fuel, hf⟩ := h
  rcases open_strings Tryz.underlying22 Tryz.underlying9 cells9' hf with ⟨hcs, hx⟩ | ⟨a', len', cap', ss, hcs, _, hl, hm, hz, hx, hcell, hws⟩
  · simp [Value.cells] at hcs
    obtain ⟨rfl, rfl, rfl⟩ := hcs
    exact ⟨none, 0, 0, [], rfl, ⟨rfl, Nat.le_refl _, .inl ⟨rfl, rfl⟩⟩, by omega, .inl rfl⟩
  · simp [Value.cells] at hcs
    obtain ⟨rfl, rfl, rfl⟩ := hcs
    obtain ⟨hsp, hbk⟩ := ok_texts hv
    obtain ⟨B, o, sp⟩ := a'
    simp only at hsp
    subst hsp
    unfold maxLen at hm
    simp only [if_true] at hz
    refine ⟨some ⟨B, o, none⟩, len, cap, (ss.take len).map fun s => s.data.toList, rfl, ⟨by simp; omega, hl, .inr ⟨B, o, rfl, fun i t ht => ?_⟩⟩, by omega, .inr ⟨_, _, (Prod.mk.inj hx).1, by simp [strs]⟩⟩
    rw [List.getElem?_map, Option.map_eq_some_iff] at ht
    obtain ⟨s, hs, rfl⟩ := ht
    have hi := (List.getElem?_eq_some_iff.1 hs).1
    rw [List.length_take] at hi
    rw [List.getElem?_take_of_lt (by omega)] at hs
    have := hcell i (by omega)
    rw [add_plain] at this
    rw [this, List.getD, hs, Option.getD_some, bs_of]
theorem mx_of {W : World} (hs : W.ShapedOpen Tryz.prog) : Mx W := Go.Proofs.cell_of_shapedOpen_int (zero := #[.int .i64 0]) (t := 3) hs (of_decide_eq_true (by kernel_rfl)) (by kernel_rfl) rfl (by kernel_rfl) (by kernel_rfl) Tryz.underlying3
end Go.Proofs.YtleiohccaagalaaGreat
