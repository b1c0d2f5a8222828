/-
  The law TypesMake, walked.
-/
import Derived.Test.YtifcikhgbafegabAwk
import Derived.Test.YtifcikhgbafegabInn
import Derived.Test.YtifcikhgbafegabTyt
import Derived.Deep.RegionHeld3
namespace Go.Proofs.Ytifcikhgbafegab
open Go.RowKit
attribute [local go_sem ↓] Go.wp_at_zero Go.wp_at_succ
theorem lkd_cnt {x : Ty} (h : Lkd x) : x.cnt ≤ 120 := by
  have := tsz_cnt x 120 (by omega) h.1
  have := h.1
  omega
theorem lkd_cntL : ∀ (l : List Ty), (∀ x ∈ l, Lkd x) → cntL l ≤ 120 * l.length
  | [], _ => by simp [cntL]
  | x :: r, h => by
    have h1 := lkd_cnt (h x (by simp))
    have h2 := lkd_cntL r (fun y hy => h y (by simp [hy]))
    simp [cntL]; omega
/-- a plain block with so many cells -/
def NBz (W : World) (b m : Nat) : Prop := ∃ cs T, W.heap[b]? = some (.cells cs T (0, 0)) ∧ m ≤ cs.size
theorem NBz.cell {W : World} {b m : Nat} (h : NBz W b m) {o : Nat} (ho : o < m) : ∃ v, W.cell? ⟨b, o, none⟩ = some v := by
  obtain ⟨cs, T, hb, hs⟩ := h
  exact ⟨cs[o], by rw [cell_of hb, Array.getElem?_eq_getElem]⟩
theorem NBz.frozen {W : World} {b m : Nat} (h : NBz W b m) (o : Nat) : W.frozen? ⟨b, o, none⟩ = false := by
  obtain ⟨cs, T, hb, _⟩ := h
  simp [World.frozen?, hb]
theorem NBz.set {W : World} {b m o : Nat} {v : Value} (h : NBz W b m) : NBz (W.setCell ⟨b, o, none⟩ v) b m := by
  obtain ⟨cs, T, hb, hs⟩ := h
  obtain ⟨hlt, hk⟩ := Array.getElem?_eq_some_iff.1 hb
  refine ⟨cs.setIfInBounds o v, T, ?_, by simpa using hs⟩
  show (W.heap.modify b _)[b]? = _
  rw [Array.getElem?_eq_getElem (by rw [Array.size_modify]; exact hlt), Array.getElem_modify_self, hk]
  rfl
theorem types_same {B B' : BQ} {w : World} {x : Ty} {vn vm vk un um uk : Value} (hp : Prt B w x vn vm vk) (hq : Prt B' w x un um uk) :
    Calls Try.prog 8 #[agT x vn vm vk, agT x un um uk] w fun e w' => e = .returned (.bool true) ∧ Below w.heap.size w w' := by
  have h := types_any B B' x x w vn vm vk un um uk hp hq
  rw [tyEq_true rfl] at h
  exact h
theorem types_mk {B B' : BQ} {w : World} {kind m : Int} {ks : List Ty} {bn bm bk : Option Addr} {en em ek i : Nat} {un um uk : Value} (hm : (mkT kind ks).n = m) (hp : Prt B w (mkT kind ks) (.slice bn 0 en) (.slice bm 0 em) (.slice bk i ek)) (hq : Prt B' w (mkT kind ks) un um uk) :
    Calls Try.prog 8 #[.agg #[.int .i64 kind, .string ⟨#[]⟩, .int .i64 m, .bool false, .slice bn 0 en, .slice bm 0 em, .slice bk i ek], agT (mkT kind ks) un um uk] w fun e w' => e = .returned (.bool true) ∧ Below w.heap.size w w' := by
  subst hm
  exact types_same hp hq
end Go.Proofs.Ytifcikhgbafegab

