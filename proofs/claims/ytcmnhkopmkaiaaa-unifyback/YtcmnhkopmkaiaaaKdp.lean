/-
  types.kids, walked: where the kids of a type stand.
-/
import Derived.Test.YtcmnhkopmkaiaaaWkp
namespace Go.Proofs.Ytcmnhkopmkaiaaa
open Go.RowKit
attribute [local go_sem ↓] Go.wp_at_zero Go.wp_at_succ
/-- where n types stand in a row -/
def kidA (b o n : Nat) : List Addr := (List.range n).map fun i => ⟨b, o + i * 7, none⟩
theorem kidA_len (b o n : Nat) : (kidA b o n).length = n := by simp [kidA]
theorem kidA_succ (b o n : Nat) : kidA b o (n + 1) = kidA b o n ++ [⟨b, o + n * 7, none⟩] := by simp [kidA, List.range_succ]
theorem kidA_get (b o n i : Nat) (h : i < n) : (kidA b o n)[i]? = some ⟨b, o + i * 7, none⟩ := by simp [kidA, h]
/-- what kids answers -/
structure KdQ (w : World) (l : List Addr) (e : Ending) (w' : World) : Prop where
  ex : ∃ a c, e = .returned (.slice a l.length c) ∧ w'.ownsRow w.heap.size 40 1 (.slice a l.length c) l.length (l.map pv)
  bl : Below w.heap.size w w'
set_option maxRecDepth 100000 in
set_option maxHeartbeats 2000000 in
theorem kids_any {w : World} {b o kb ko n c : Nat} {a : Option Addr} (h : w.cell? ⟨b, o + 6, none⟩ = some (.slice a n c)) (ha : 0 < n → a = some ⟨kb, ko, none⟩) (hn : n ≤ 1000000) : Calls Try.prog 27 #[pv ⟨b, o, none⟩] w (KdQ w (kidA kb ko n)) := by
  have hb : b < w.heap.size := World.block_lt_of_cell? _ _ h
  obtain ⟨i0, hi, hz0, hz1, hz2⟩ := infoP_ex
  go_enter Try.func27, Try.ntmps27
  go_wp2_with (at_make; refine wpList_make_own _ rfl _ _ 49 rfl w.heap.size 40 i0 (.pointer none) 1 Try.underlying49 hi hz0 hz1 .i64 .i64 _ n rfl rfl (by first | rfl | omega) (by rw [hz2]; omega) (by unfold maxLen; omega) (Nat.le_refl _) ?_; intro w0 hown0 hgrow0; have hB0 : Below w.heap.size w w0 := (Below.refl _ w).grown hgrow0 (Nat.le_refl _) (fun k e => by cases e); have h0 : w0.cell? ⟨b, o + 6, none⟩ = some (.slice a n c) := kept_cell hB0 h; have HB0 : Hid (Below w.heap.size w w0) := hB0; have HO0 : Hid (w0.ownsRow w.heap.size 40 1 (.slice (some ⟨w.heap.size, 0, none⟩) 0 n) 0 []) := hown0; clear hB0 hown0 hgrow0)
  have H : Hid (w.cell? ⟨b, o + 6, none⟩ = some (.slice a n c)) := h
  clear h h0
  go_loopg [3, 16] n (fun g u3 u16 wr => ∃ (k : Nat) (a' : Option Addr) (c' : Nat), k ≤ n ∧ n - k ≤ g ∧ u16 = .int .i64 k ∧ u3 = .slice a' k c' ∧ Hid (wr.ownsRow w.heap.size 40 1 (.slice a' k c') k ((kidA kb ko k).map pv)) ∧ Hid (Below w.heap.size w wr))
  case atStart => exact ⟨0, _, _, Nat.zero_le _, Nat.le_refl _, rfl, rfl, HO0, HB0⟩
  case round =>
    obtain ⟨k, a', c', hk, hg, rfl, rfl, HO, HB⟩ := hrel
    clear HO0 HB0
    have hcr : wr.cell? ⟨b, o + 6, none⟩ = some (.slice a n c) := kept_cell HB.out H.out
    have hszr := HB.out.size
    by_cases hlt : k < n
    · obtain rfl := ha (by omega)
      have z1 : (k : Int) < (n : Int) := by omega
      go_wp2_with (at_builtin; refine wpList_append_own _ rfl _ _ 49 rfl w.heap.size 40 i0 (.pointer none) 1 8 Try.underlying49 hi hz0 hz1 hz2 rfl (by decide) _ _ _ rfl (HO.out.alloc _) ⟨wr.heap.size, 0, none⟩ 1 1 [pv ⟨kb, ko + k * 7, none⟩] rfl rfl (cell_one_new _ _ _) (by simp [Value.oneCell']) (by simp [maxLen]; omega) (by omega) (by simp; omega) ?_; intro v' w1 hown' hgrow _; obtain ⟨g9, cap9, rfl⟩ := ownsRow_succ hown'; have hB1 : Below w.heap.size w w1 := (HB.out.trans ((Below.refl _ wr).alloc hszr _)).grown hgrow (by simp; omega) (fun j ej => (HO.out.lt j ej).1); have HB1 : Hid (Below w.heap.size w w1) := hB1; have HO1 : Hid (w1.ownsRow w.heap.size 40 1 (.slice (some ⟨g9, 0, none⟩) (k + 1) cap9) (k + 1) ((kidA kb ko k).map pv ++ [pv ⟨kb, ko + k * 7, none⟩])) := hown'; clear hown' hgrow hB1)
      go_roundg (n - (k + 1))
      case measure => omega
      case rel => exact ⟨k + 1, _, _, by omega, Nat.le_refl _, by go_num, rfl, by rw [kidA_succ, List.map_append]; exact HO1, HB1⟩
    · obtain rfl : k = n := by omega
      have z1 : ¬ (k : Int) < (k : Int) := by omega
      go_wp2_with fail
      go_ret
      exact ⟨⟨a', c', by rw [kidA_len]; rfl, by rw [kidA_len]; exact HO.out⟩, HB.out⟩
end Go.Proofs.Ytcmnhkopmkaiaaa

