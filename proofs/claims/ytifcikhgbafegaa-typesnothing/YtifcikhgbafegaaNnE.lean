/-
  types.World without declared types: Named, walked.
-/
import Derived.Test.YtifcikhgbafegaaNnC
import Derived.Test.YtifcikhgbafegaaCln
import Derived.Deep.RegionLaw
namespace Go.Proofs.Ytifcikhgbafegaa
open Go.RowKit
attribute [local go_sem ↓] Go.wp_at_zero Go.wp_at_succ
theorem bx9 {w : World} {B : Nat} {a b c d e f g h i : Value} {T : TypeId} (hb : w.heap[B]? = some (.cells #[a, b, c, d, e, f, g, h, i] T (0, 0))) : w.cell? ⟨B, 0, none⟩ = some a ∧ w.cell? ⟨B, 1, none⟩ = some b ∧ w.cell? ⟨B, 2, none⟩ = some c ∧ w.cell? ⟨B, 3, none⟩ = some d ∧ w.cell? ⟨B, 4, none⟩ = some e ∧ w.cell? ⟨B, 5, none⟩ = some f ∧ w.cell? ⟨B, 6, none⟩ = some g ∧ w.cell? ⟨B, 7, none⟩ = some h ∧ w.cell? ⟨B, 8, none⟩ = some i := by
  simp [World.cell?, hb]
theorem bx9f {w : World} {B : Nat} {a b c d e f g h i : Value} {T : TypeId} (hb : w.heap[B]? = some (.cells #[a, b, c, d, e, f, g, h, i] T (0, 0))) : w.frozen? ⟨B, 0, none⟩ = false ∧ w.frozen? ⟨B, 1, none⟩ = false ∧ w.frozen? ⟨B, 2, none⟩ = false ∧ w.frozen? ⟨B, 3, none⟩ = false ∧ w.frozen? ⟨B, 4, none⟩ = false ∧ w.frozen? ⟨B, 5, none⟩ = false ∧ w.frozen? ⟨B, 6, none⟩ = false ∧ w.frozen? ⟨B, 7, none⟩ = false ∧ w.frozen? ⟨B, 8, none⟩ = false := by
  simp [World.frozen?, hb]
set_option maxRecDepth 100000 in
set_option maxHeartbeats 1000000 in
theorem cloneM_nil (w : World) : Calls Try.prog 107 #[.slice none 0 0] w fun e w' => e = .returned (.slice none 0 0) ∧ w' = w := by
  have q22 : ∀ (w : World) (a : Option Addr) (n c n' c' : Nat), (binOp .eql 46 (.slice a n c) (.slice none n' c')).run Try.prog w = .ok (.bool a.isNone) w := fun w a n c n' c' => Go.Lib.run_eql_slice_nil w _ _ a n c n' c' Try.underlying46
  go_enter Try.func107, Try.ntmps107
  go_wp2_with fail
  go_ret
  exact ⟨rfl, rfl⟩
set_option maxRecDepth 100000 in
set_option maxHeartbeats 4000000 in
theorem freshNamed_zero (w : World) : Calls Try.prog 68 #[.agg #[.string ⟨#[]⟩, .int .i64 0, .string ⟨#[]⟩, .int .i64 0, .bool false, .slice none 0 0, .slice none 0 0, .slice none 0 0, .slice none 0 0]] w fun e w' => (∃ bn en bm em bk ek, e = .returned (.agg #[.string ⟨#[]⟩, .int .i64 0, .string ⟨#[]⟩, .int .i64 0, .bool false, .slice bn 0 en, .slice bm 0 em, .slice bk 0 ek, .slice none 0 0])) ∧ Below w.heap.size w w' := by
  have hfr : ∀ W : World, Calls Try.prog 54 #[.agg #[.int .i64 0, .string ⟨#[]⟩, .int .i64 0, .bool false, .slice none 0 0, .slice none 0 0, .slice none 0 0]] W (fun e w' => (∃ bn en bm em bk ek, e = .returned (.agg #[.int .i64 0, .string ⟨#[]⟩, .int .i64 0, .bool false, .slice bn 0 en, .slice bm 0 em, .slice bk 0 ek])) ∧ Below W.heap.size W w') := fun W =>
    (fresh_any (B := fun _ => True) (t := .mk 0 ⟨#[]⟩ 0 false [] [] []) (prt_nil _ _ _ _) (.mk _ (by simp [Ty.names]) (by simp [Ty.marks]) (by simp [Ty.kids])) (by decide)).mono fun e w' h => by
      obtain ⟨vn, vm, vk, rfl, h2⟩ := h.ex
      obtain ⟨bn, en, bm, em, bk, ek, rfl, rfl, rfl⟩ := h2.form
      exact ⟨⟨_, _, _, _, _, _, rfl⟩, h.bl⟩
  have HB9 : Hid (Below w.heap.size w ((w.alloc (.cells #[.string ⟨#[]⟩, .int .i64 0, .string ⟨#[]⟩, .int .i64 0, .bool false, .slice none 0 0, .slice none 0 0, .slice none 0 0, .slice none 0 0] 48)).alloc (.cells #[.string ⟨#[]⟩, .int .i64 0, .string ⟨#[]⟩, .int .i64 0, .bool false, .slice none 0 0, .slice none 0 0, .slice none 0 0, .slice none 0 0] 48))) := bthen (below_alloc _ _) (below_alloc _ _)
  have HN8 : Hid (((w.alloc (.cells #[.string ⟨#[]⟩, .int .i64 0, .string ⟨#[]⟩, .int .i64 0, .bool false, .slice none 0 0, .slice none 0 0, .slice none 0 0, .slice none 0 0] 48)).alloc (.cells #[.string ⟨#[]⟩, .int .i64 0, .string ⟨#[]⟩, .int .i64 0, .bool false, .slice none 0 0, .slice none 0 0, .slice none 0 0, .slice none 0 0] 48)).heap[w.heap.size]? = some (.cells #[.string ⟨#[]⟩, .int .i64 0, .string ⟨#[]⟩, .int .i64 0, .bool false, .slice none 0 0, .slice none 0 0, .slice none 0 0, .slice none 0 0] 48 (0, 0))) := blk_kept (below_alloc _ _) (heap_new w _)
  have HN9 : Hid (((w.alloc (.cells #[.string ⟨#[]⟩, .int .i64 0, .string ⟨#[]⟩, .int .i64 0, .bool false, .slice none 0 0, .slice none 0 0, .slice none 0 0, .slice none 0 0] 48)).alloc (.cells #[.string ⟨#[]⟩, .int .i64 0, .string ⟨#[]⟩, .int .i64 0, .bool false, .slice none 0 0, .slice none 0 0, .slice none 0 0, .slice none 0 0] 48)).heap[w.heap.size + 1]? = some (.cells #[.string ⟨#[]⟩, .int .i64 0, .string ⟨#[]⟩, .int .i64 0, .bool false, .slice none 0 0, .slice none 0 0, .slice none 0 0, .slice none 0 0] 48 (0, 0))) := heap_new2 w _ _
  go_enter Try.func68, Try.ntmps68
  go_wp2_with fail
  go_region_law
    (go_simp; go_wp2_with (first | (go_at_call 54; refine (hfr _).mono ?_; rintro e x1 ⟨⟨bn, en, bm, em, bk, ek, rfl⟩, hq⟩; have HB1 : Hid (Below ((w.alloc (.cells #[.string ⟨#[]⟩, .int .i64 0, .string ⟨#[]⟩, .int .i64 0, .bool false, .slice none 0 0, .slice none 0 0, .slice none 0 0, .slice none 0 0] 48)).alloc (.cells #[.string ⟨#[]⟩, .int .i64 0, .string ⟨#[]⟩, .int .i64 0, .bool false, .slice none 0 0, .slice none 0 0, .slice none 0 0, .slice none 0 0] 48)).heap.size ((w.alloc (.cells #[.string ⟨#[]⟩, .int .i64 0, .string ⟨#[]⟩, .int .i64 0, .bool false, .slice none 0 0, .slice none 0 0, .slice none 0 0, .slice none 0 0] 48)).alloc (.cells #[.string ⟨#[]⟩, .int .i64 0, .string ⟨#[]⟩, .int .i64 0, .bool false, .slice none 0 0, .slice none 0 0, .slice none 0 0, .slice none 0 0] 48)) x1) := bthen (below_drew1 _) hq; have k8 := bx9 (blk_kept HB1.out HN8.out); have k8f := bx9f (blk_kept HB1.out HN8.out); clear hq) | (go_at_call 107; refine (cloneM_nil _).mono ?_; rintro e x2 ⟨rfl, hx⟩; obtain rfl := hx.symm)))
  all_goals
    clear hfr
    have hN8 := blk_kept HB1.out HN8.out
    have hz1 : w.heap.size + 1 < x1.heap.size := by
      have := HB1.out.size
      simp at this
      omega
    have h8 : ((((((((x1.setCell ⟨w.heap.size, 1, none⟩ (.int .i64 0)).setCell ⟨w.heap.size, 2, none⟩ (.string ⟨#[]⟩)).setCell ⟨w.heap.size, 3, none⟩ (.int .i64 0)).setCell ⟨w.heap.size, 4, none⟩ (.bool false)).setCell ⟨w.heap.size, 5, none⟩ (.slice bn 0 en)).setCell ⟨w.heap.size, 6, none⟩ (.slice bm 0 em)).setCell ⟨w.heap.size, 7, none⟩ (.slice bk 0 ek)).setCell ⟨w.heap.size, 8, none⟩ (.slice none 0 0)).heap[w.heap.size]? = some (.cells #[.string ⟨#[]⟩, .int .i64 0, .string ⟨#[]⟩, .int .i64 0, .bool false, .slice bn 0 en, .slice bm 0 em, .slice bk 0 ek, .slice none 0 0] 48 (0, 0)) := by
      simp [World.setCell, Array.getElem?_modify, hN8]
    have hk8 : Kx (· = w.heap.size) x1 ((((((((x1.setCell ⟨w.heap.size, 1, none⟩ (.int .i64 0)).setCell ⟨w.heap.size, 2, none⟩ (.string ⟨#[]⟩)).setCell ⟨w.heap.size, 3, none⟩ (.int .i64 0)).setCell ⟨w.heap.size, 4, none⟩ (.bool false)).setCell ⟨w.heap.size, 5, none⟩ (.slice bn 0 en)).setCell ⟨w.heap.size, 6, none⟩ (.slice bm 0 em)).setCell ⟨w.heap.size, 7, none⟩ (.slice bk 0 ek)).setCell ⟨w.heap.size, 8, none⟩ (.slice none 0 0)) := (((((((kx_set.trans kx_set).trans kx_set).trans kx_set).trans kx_set).trans kx_set).trans kx_set).trans kx_set)
    have HBX : Hid (Below w.heap.size w ((((((((x1.setCell ⟨w.heap.size, 1, none⟩ (.int .i64 0)).setCell ⟨w.heap.size, 2, none⟩ (.string ⟨#[]⟩)).setCell ⟨w.heap.size, 3, none⟩ (.int .i64 0)).setCell ⟨w.heap.size, 4, none⟩ (.bool false)).setCell ⟨w.heap.size, 5, none⟩ (.slice bn 0 en)).setCell ⟨w.heap.size, 6, none⟩ (.slice bm 0 em)).setCell ⟨w.heap.size, 7, none⟩ (.slice bk 0 ek)).setCell ⟨w.heap.size, 8, none⟩ (.slice none 0 0))) := below_kx1 (bthen HB9.out HB1.out) hk8 (Nat.le_refl _)
    have h9 : ((((((((x1.setCell ⟨w.heap.size, 1, none⟩ (.int .i64 0)).setCell ⟨w.heap.size, 2, none⟩ (.string ⟨#[]⟩)).setCell ⟨w.heap.size, 3, none⟩ (.int .i64 0)).setCell ⟨w.heap.size, 4, none⟩ (.bool false)).setCell ⟨w.heap.size, 5, none⟩ (.slice bn 0 en)).setCell ⟨w.heap.size, 6, none⟩ (.slice bm 0 em)).setCell ⟨w.heap.size, 7, none⟩ (.slice bk 0 ek)).setCell ⟨w.heap.size, 8, none⟩ (.slice none 0 0)).heap[w.heap.size + 1]? = some (.cells #[.string ⟨#[]⟩, .int .i64 0, .string ⟨#[]⟩, .int .i64 0, .bool false, .slice none 0 0, .slice none 0 0, .slice none 0 0, .slice none 0 0] 48 (0, 0)) := hk8.keep _ _ (blk_kept HB1.out HN9.out) (by simp)
    have hz8 : x1.heap.size ≤ ((((((((x1.setCell ⟨w.heap.size, 1, none⟩ (.int .i64 0)).setCell ⟨w.heap.size, 2, none⟩ (.string ⟨#[]⟩)).setCell ⟨w.heap.size, 3, none⟩ (.int .i64 0)).setCell ⟨w.heap.size, 4, none⟩ (.bool false)).setCell ⟨w.heap.size, 5, none⟩ (.slice bn 0 en)).setCell ⟨w.heap.size, 6, none⟩ (.slice bm 0 em)).setCell ⟨w.heap.size, 7, none⟩ (.slice bk 0 ek)).setCell ⟨w.heap.size, 8, none⟩ (.slice none 0 0)).heap.size := hk8.size
    clear k8 k8f HN8 HN9 HB9 HB1 hN8 hk8
    generalize ((((((((x1.setCell ⟨w.heap.size, 1, none⟩ (.int .i64 0)).setCell ⟨w.heap.size, 2, none⟩ (.string ⟨#[]⟩)).setCell ⟨w.heap.size, 3, none⟩ (.int .i64 0)).setCell ⟨w.heap.size, 4, none⟩ (.bool false)).setCell ⟨w.heap.size, 5, none⟩ (.slice bn 0 en)).setCell ⟨w.heap.size, 6, none⟩ (.slice bm 0 em)).setCell ⟨w.heap.size, 7, none⟩ (.slice bk 0 ek)).setCell ⟨w.heap.size, 8, none⟩ (.slice none 0 0)) = X at *
    have HN9 : Hid (X.heap[w.heap.size + 1]? = some (.cells #[.string ⟨#[]⟩, .int .i64 0, .string ⟨#[]⟩, .int .i64 0, .bool false, .slice none 0 0, .slice none 0 0, .slice none 0 0, .slice none 0 0] 48 (0, 0))) := h9
    have k8 := bx9 h8
    have k9 := bx9 h9
    have k9f := bx9f h9
    clear h8 h9
    go_wp2_with fail
    go_loopg [15] 0 (fun g u15 wr => u15 = .int .i64 0 ∧ wr = X)
    case atStart => exact ⟨rfl, rfl⟩
    case round =>
      obtain ⟨rfl, hw⟩ := hrel
      obtain rfl := hw.symm
      clear hw
      go_wp2_with fail
      have hN9 := HN9.out
      have hx : (((((((((X.setCell ⟨w.heap.size + 1, 0, none⟩ (.string ⟨#[]⟩)).setCell ⟨w.heap.size + 1, 1, none⟩ (.int .i64 0)).setCell ⟨w.heap.size + 1, 2, none⟩ (.string ⟨#[]⟩)).setCell ⟨w.heap.size + 1, 3, none⟩ (.int .i64 0)).setCell ⟨w.heap.size + 1, 4, none⟩ (.bool false)).setCell ⟨w.heap.size + 1, 5, none⟩ (.slice bn 0 en)).setCell ⟨w.heap.size + 1, 6, none⟩ (.slice bm 0 em)).setCell ⟨w.heap.size + 1, 7, none⟩ (.slice bk 0 ek)).setCell ⟨w.heap.size + 1, 8, none⟩ (.slice none 0 0)).heap[w.heap.size + 1]? = some (.cells #[.string ⟨#[]⟩, .int .i64 0, .string ⟨#[]⟩, .int .i64 0, .bool false, .slice bn 0 en, .slice bm 0 em, .slice bk 0 ek, .slice none 0 0] 48 (0, 0)) := by
        simp [World.setCell, Array.getElem?_modify, hN9]
      have hk9 : Kx (· = w.heap.size + 1) X (((((((((X.setCell ⟨w.heap.size + 1, 0, none⟩ (.string ⟨#[]⟩)).setCell ⟨w.heap.size + 1, 1, none⟩ (.int .i64 0)).setCell ⟨w.heap.size + 1, 2, none⟩ (.string ⟨#[]⟩)).setCell ⟨w.heap.size + 1, 3, none⟩ (.int .i64 0)).setCell ⟨w.heap.size + 1, 4, none⟩ (.bool false)).setCell ⟨w.heap.size + 1, 5, none⟩ (.slice bn 0 en)).setCell ⟨w.heap.size + 1, 6, none⟩ (.slice bm 0 em)).setCell ⟨w.heap.size + 1, 7, none⟩ (.slice bk 0 ek)).setCell ⟨w.heap.size + 1, 8, none⟩ (.slice none 0 0)) := ((((((((kx_set.trans kx_set).trans kx_set).trans kx_set).trans kx_set).trans kx_set).trans kx_set).trans kx_set).trans kx_set)
      have hB := below_kx1 HBX.out hk9 (Nat.le_succ _)
      clear hk9 hN9
      exact bodyPost_ret (v := .agg #[.string ⟨#[]⟩, .int .i64 0, .string ⟨#[]⟩, .int .i64 0, .bool false, .slice bn 0 en, .slice bm 0 em, .slice bk 0 ek, .slice none 0 0]) (results_cell rfl rfl (resN hx)) rfl ⟨⟨_, _, _, _, _, _, rfl⟩, hB⟩
end Go.Proofs.Ytifcikhgbafegaa
/-
  types.World without declared types: Named, walked.
-/
namespace Go.Proofs.Ytifcikhgbafegaa
open Go.RowKit
attribute [local go_sem ↓] Go.wp_at_zero Go.wp_at_succ
set_option maxRecDepth 100000 in
set_option maxHeartbeats 4000000 in
theorem named_none (s : ByteArray) (w : World) : Calls Try.prog 27 #[.pointer none, .string s] w fun e w' => (∃ bn en bm em bk ek, e = .returned (.tuple #[.agg #[.string ⟨#[]⟩, .int .i64 0, .string ⟨#[]⟩, .int .i64 0, .bool false, .slice bn 0 en, .slice bm 0 em, .slice bk 0 ek, .slice none 0 0], .bool false])) ∧ Below w.heap.size w w' := by
  have HN8 : Hid ((w.alloc (.cells #[.string ⟨#[]⟩, .int .i64 0, .string ⟨#[]⟩, .int .i64 0, .bool false, .slice none 0 0, .slice none 0 0, .slice none 0 0, .slice none 0 0] 48)).heap[w.heap.size]? = some (.cells #[.string ⟨#[]⟩, .int .i64 0, .string ⟨#[]⟩, .int .i64 0, .bool false, .slice none 0 0, .slice none 0 0, .slice none 0 0, .slice none 0 0] 48 (0, 0))) := heap_new w _
  go_enter Try.func27, Try.ntmps27
  go_wp2_with (first | (go_at_call 66; refine (ornone_any _).mono ?_; rintro e x1 ⟨rfl, rfl⟩) | (go_at_call 67; refine (find_none _ _).mono ?_; rintro e x2 ⟨rfl, hq⟩; have HB2 : Hid (Below (w.alloc (.cells #[.string ⟨#[]⟩, .int .i64 0, .string ⟨#[]⟩, .int .i64 0, .bool false, .slice none 0 0, .slice none 0 0, .slice none 0 0, .slice none 0 0] 48)).heap.size (w.alloc (.cells #[.string ⟨#[]⟩, .int .i64 0, .string ⟨#[]⟩, .int .i64 0, .bool false, .slice none 0 0, .slice none 0 0, .slice none 0 0, .slice none 0 0] 48)) x2) := bthen (below_alloc _ _) hq; clear hq))
  all_goals
    have HN8b : Hid ((x2.alloc (.cells #[.string ⟨#[]⟩, .int .i64 0, .string ⟨#[]⟩, .int .i64 0, .bool false, .slice none 0 0, .slice none 0 0, .slice none 0 0, .slice none 0 0] 48)).heap[w.heap.size]? = some (.cells #[.string ⟨#[]⟩, .int .i64 0, .string ⟨#[]⟩, .int .i64 0, .bool false, .slice none 0 0, .slice none 0 0, .slice none 0 0, .slice none 0 0] 48 (0, 0))) := blk_kept (bthen HB2.out (below_alloc _ _)) HN8.out
    have HBX : Hid (Below w.heap.size w (x2.alloc (.cells #[.string ⟨#[]⟩, .int .i64 0, .string ⟨#[]⟩, .int .i64 0, .bool false, .slice none 0 0, .slice none 0 0, .slice none 0 0, .slice none 0 0] 48))) := bthen (below_alloc _ _) (bthen HB2.out (below_alloc _ _))
    refine (freshNamed_zero _).mono ?_
    rintro e x3 ⟨⟨bn, en, bm, em, bk, ek, rfl⟩, hq⟩
    have HN8c : Hid (x3.heap[w.heap.size]? = some (.cells #[.string ⟨#[]⟩, .int .i64 0, .string ⟨#[]⟩, .int .i64 0, .bool false, .slice none 0 0, .slice none 0 0, .slice none 0 0, .slice none 0 0] 48 (0, 0))) := blk_kept hq HN8b.out
    have HB3 : Hid (Below w.heap.size w x3) := bthen HBX.out hq
    have k8 := bx9 (blk_kept hq HN8b.out)
    have k8f := bx9f (blk_kept hq HN8b.out)
    clear hq HN8b HBX HN8 HB2
    go_wp2_with fail
    have hN9 := HN8c.out
    have hx : (((((((((x3.setCell ⟨w.heap.size, 0, none⟩ (.string ⟨#[]⟩)).setCell ⟨w.heap.size, 1, none⟩ (.int .i64 0)).setCell ⟨w.heap.size, 2, none⟩ (.string ⟨#[]⟩)).setCell ⟨w.heap.size, 3, none⟩ (.int .i64 0)).setCell ⟨w.heap.size, 4, none⟩ (.bool false)).setCell ⟨w.heap.size, 5, none⟩ (.slice bn 0 en)).setCell ⟨w.heap.size, 6, none⟩ (.slice bm 0 em)).setCell ⟨w.heap.size, 7, none⟩ (.slice bk 0 ek)).setCell ⟨w.heap.size, 8, none⟩ (.slice none 0 0)).heap[w.heap.size]? = some (.cells #[.string ⟨#[]⟩, .int .i64 0, .string ⟨#[]⟩, .int .i64 0, .bool false, .slice bn 0 en, .slice bm 0 em, .slice bk 0 ek, .slice none 0 0] 48 (0, 0)) := by
      simp [World.setCell, Array.getElem?_modify, hN9]
    have hk9 : Kx (· = w.heap.size) x3 (((((((((x3.setCell ⟨w.heap.size, 0, none⟩ (.string ⟨#[]⟩)).setCell ⟨w.heap.size, 1, none⟩ (.int .i64 0)).setCell ⟨w.heap.size, 2, none⟩ (.string ⟨#[]⟩)).setCell ⟨w.heap.size, 3, none⟩ (.int .i64 0)).setCell ⟨w.heap.size, 4, none⟩ (.bool false)).setCell ⟨w.heap.size, 5, none⟩ (.slice bn 0 en)).setCell ⟨w.heap.size, 6, none⟩ (.slice bm 0 em)).setCell ⟨w.heap.size, 7, none⟩ (.slice bk 0 ek)).setCell ⟨w.heap.size, 8, none⟩ (.slice none 0 0)) := ((((((((kx_set.trans kx_set).trans kx_set).trans kx_set).trans kx_set).trans kx_set).trans kx_set).trans kx_set).trans kx_set)
    have hB := below_kx1 HB3.out hk9 (Nat.le_refl _)
    clear hk9 hN9
    exact bodyPost_ret (v := .tuple #[.agg #[.string ⟨#[]⟩, .int .i64 0, .string ⟨#[]⟩, .int .i64 0, .bool false, .slice bn 0 en, .slice bm 0 em, .slice bk 0 ek, .slice none 0 0], .bool false]) (results_ct rfl rfl rfl (resN hx)) rfl ⟨⟨_, _, _, _, _, _, rfl⟩, hB⟩
end Go.Proofs.Ytifcikhgbafegaa
