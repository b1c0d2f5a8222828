/-
  A number that came in, opened: its sign and its words; a nil row has no room.
-/
import Derived.Test.YtimjafgaadafdaaDoorOpen
namespace Go.Proofs.YtimjafgaadafdaaDoor
open Go.ChangeShapes Go.WideShapes Go.ChangeAt Go.RowKit Go.Joins
set_option maxRecDepth 100000 in
theorem open_big2 {H : Type} {enc : TypeId × Value → H} {W : World} {base : Nat} {v : Value} {d : DataW H} {ps : List MemPlace} (hv : Value.okWide Tryd.prog W .any base 24 v) (h : DataW.Trod enc Tryd.prog W 0 (fun _ => true) true 24 v d ps) :
    ∃ (s : Bool) (ao : Option Addr) (n cap : Nat) (l : List Nat), v = .agg #[.bool s, .slice ao n cap] ∧ Sl W ao n cap l ∧ (ao = none → cap = 0) := by
  obtain ⟨c0, c1, y0, y1, m, rfl, rfl, rfl, hy0, hy1⟩ := open_agg2 Tryd.underlying24 (by kernel_rfl) cells24 hv h
  obtain ⟨s, e0, _⟩ := DataW.trod_bool Tryd.underlying4 hy0
  simp at e0
  subst e0
  rcases open_ints Tryd.underlying22 Tryd.underlying47 cells47 hy1 with ⟨hcs, _⟩ | ⟨a, len, cap, zs, hcs, _, hl, hm, hz, _, hcell, hwz⟩
  · simp at hcs
    subst hcs
    exact ⟨s, none, 0, 0, [], rfl, Sl.nil W, fun _ => rfl⟩
  · simp at hcs
    subst hcs
    simp only [if_true] at hz
    have hget : ∀ j, j < len → ((zs.map Int.toNat).take len).getD j 0 = (zs.getD j 0).toNat := fun j hj => by
      simp only [List.getD_eq_getElem?_getD, List.getElem?_take, hj, if_true, List.getElem?_map]
      rw [List.getElem?_eq_getElem (by omega)]; simp
    refine ⟨s, some a, len, cap, (zs.map Int.toNat).take len, rfl, ⟨by simp; omega, hl, by unfold maxLen at hm; omega, ?_, fun h0 => ?_⟩, fun h => by cases h⟩
    · intro x hx
      obtain ⟨z, hz1, rfl⟩ := List.mem_map.1 (List.mem_of_mem_take hx)
      have := u32_wf (hwz z hz1)
      omega
    · obtain ⟨b, off, rfl, hc⟩ := ints_at hcell (by omega)
      refine ⟨b, off, rfl, ?_, fun j hj => ?_⟩
      · have h1 := hc 0 (by omega)
        rcases Nat.lt_or_ge b W.heap.size with h2 | h2
        · exact h2
        · simp only [World.cell?, Array.getElem?_eq_none h2] at h1; cases h1
      · rw [hc j (by omega), hget j hj]
        have hw := u32_wf (hwz (zs.getD j 0) (by rw [List.getD_eq_getElem?_getD, List.getElem?_eq_getElem (by omega)]; exact List.getElem_mem _))
        rw [Int.toNat_of_nonneg hw.1]
end Go.Proofs.YtimjafgaadafdaaDoor
