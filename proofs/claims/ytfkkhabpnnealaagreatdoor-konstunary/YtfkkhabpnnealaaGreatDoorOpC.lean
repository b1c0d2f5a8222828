/-
  A constant that came in, opened: its kind, sign, words, text, truth.
-/
import Derived.Test.YtfkkhabpnnealaaGreatDoorKpG
import Derived.Lib.SmallJoins
import Derived.SizedLaws
import Derived.WalkKit
import Derived.ProofKit
import Derived.OpenShut
import Derived.ShutString
import Derived.Carry
namespace Go.Proofs.YtfkkhabpnnealaaGreatDoor
open Go.ChangeShapes Go.WideShapes Go.ChangeAt Go.RowKit Go.Joins
theorem cells_i : Tryz.prog.cellsOf 24 = 2 := by kernel_rfl
theorem cells_c : Tryz.prog.cellsOf 26 = 5 := by kernel_rfl
theorem cells_u : Tryz.prog.cellsOf 70 = 1 := by kernel_rfl
theorem cells_s : Tryz.prog.cellsOf 9 = 1 := by kernel_rfl
theorem cells_b : Tryz.prog.cellsOf 4 = 1 := by kernel_rfl
theorem cells_n : Tryz.prog.cellsOf 3 = 1 := by kernel_rfl
theorem cells_w : Tryz.prog.cellsOf 22 = 1 := by kernel_rfl
theorem u32_wf {n : Int} (h : (Lit.int .u32 n).wf = true) : 0 ≤ n ∧ n < 4294967296 := by
  simp only [Lit.wf, IntKind.min, IntKind.max, IntKind.signed, IntKind.bits, Bool.and_eq_true] at h
  simp at h
  omega
theorem array5 {α : Type} {cs : Array α} (h : cs.size = 5) : ∃ c0 c1 c2 c3 c4, cs = #[c0, c1, c2, c3, c4] := by
  obtain ⟨l⟩ := cs
  match l, h with
  | [c0, c1, c2, c3, c4], _ => exact ⟨c0, c1, c2, c3, c4, rfl⟩
set_option maxRecDepth 100000 in
theorem open_row {H : Type} {enc : TypeId × Value → H} {W : World} {n : Nat} {v : Value} {y : DataW H × List MemPlace} (hy1 : DataW.trod enc Tryz.prog W 0 (fun _ => true) true n 22 [v] = some y) :
    ∃ (ao : Option Addr) (n cap : Nat) (l : List Nat), v = .slice ao n cap ∧ Sl W ao n cap l ∧ (ao = none → cap = 0) := by
  rcases open_ints Tryz.underlying22 Tryz.underlying70 cells_u hy1 with ⟨hcs, _⟩ | ⟨a, len, cap, zs, hcs, _, hl, hm, hz, _, hcell, hwz⟩
  · simp at hcs
    subst hcs
    exact ⟨none, 0, 0, [], rfl, Sl.nil W, fun _ => rfl⟩
  · simp at hcs
    subst hcs
    simp only [if_true] at hz
    have hget : ∀ j, j < len → ((zs.map Int.toNat).take len).getD j 0 = (zs.getD j 0).toNat := fun j hj => by
      simp only [List.getD_eq_getElem?_getD, List.getElem?_take, hj, if_true, List.getElem?_map]
      rw [List.getElem?_eq_getElem (by omega)]; simp
    refine ⟨some a, len, cap, (zs.map Int.toNat).take len, rfl, ⟨by simp; omega, hl, by unfold maxLen at hm; omega, ?_, fun h0 => ?_⟩, fun h => by cases h⟩
    · intro x hx
      obtain ⟨z, hz1, rfl⟩ := List.mem_map.1 (List.mem_of_mem_take hx)
      have := u32_wf (hwz z hz1)
      omega
    · obtain ⟨b, off, rfl, hc⟩ := ints_at hcell (by omega)
      refine ⟨b, off, rfl, ?_, fun j hj => ?_⟩
      · have h1 := hc 0 (by omega)
        rcases Nat.lt_or_ge b W.heap.size with h2 | h2
        · exact h2
        · simp only [World.cell?, Array.getElem?_eq_none h2] at h1; cases h1
      · rw [hc j (by omega), hget j hj]
        have hw := u32_wf (hwz (zs.getD j 0) (by rw [List.getD_eq_getElem?_getD, List.getElem?_eq_getElem (by omega)]; exact List.getElem_mem _))
        rw [Int.toNat_of_nonneg hw.1]
set_option maxRecDepth 100000 in
theorem open_const {H : Type} {enc : TypeId × Value → H} {W : World} {base : Nat} {v : Value} {d : DataW H} {ps : List MemPlace} (hv : Value.okWide Tryz.prog W .any base 26 v) (h : DataW.Trod enc Tryz.prog W 0 (fun _ => true) true 26 v d ps) :
    ∃ (k : Int) (s : Bool) (ao : Option Addr) (n cap : Nat) (l : List Nat) (t : ByteArray) (b : Bool), v = cnV k s ao n cap t b ∧ Sl W ao n cap l ∧ (ao = none → cap = 0) ∧ t.size ≤ 9223372036854775807 := by
  obtain ⟨cs, rfl, hsz⟩ := okWide_struct Tryz.underlying26 hv
  obtain ⟨c0, c1, c2, c3, c4, rfl⟩ := array5 (hsz.trans cells_c)
  obtain ⟨fuel, hf⟩ := h
  obtain ⟨y0, y1, y2, y3, n, hx, _, h0, h1, h2, h3⟩ := trod_struct4 Tryz.underlying26 hf
  simp [Value.cells, cells_n, cells_i, cells_s, cells_b] at h0 h1 h2 h3
  obtain ⟨z0, z1, m, hz, _, g0, g1⟩ := trod_struct2 Tryz.underlying24 h1
  simp [cells_b, cells_w] at g0 g1
  obtain ⟨k, e0, _⟩ := DataW.trod_int Tryz.underlying3 h0
  obtain ⟨s, e1, _⟩ := DataW.trod_bool Tryz.underlying4 g0
  obtain ⟨t, e2, _, hs⟩ := DataW.trod_string Tryz.underlying9 h2
  obtain ⟨b, e3, _⟩ := DataW.trod_bool Tryz.underlying4 h3
  obtain ⟨ao, len, cap, l, e4, S, Z⟩ := open_row g1
  simp at e0 e1 e2 e3
  subst e0 e1 e2 e3 e4
  exact ⟨k, s, ao, len, cap, l, t, b, rfl, S, Z, by unfold maxLen at hs; omega⟩
end Go.Proofs.YtfkkhabpnnealaaGreatDoor

