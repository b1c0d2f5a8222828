/-
  The document's one, walked: nothing is left.
-/
import Derived.Test.YtleiohccaagalaaGreatRfy
namespace Go.Proofs.YtleiohccaagalaaGreat
open Go.RowKit
attribute [local go_sem ↓] Go.wp_at_zero Go.wp_at_succ
set_option maxRecDepth 100000 in
set_option maxHeartbeats 4000000 in
theorem oneR_nil {B n c : Nat} {a : Option Addr} {ts : List Bs} {top m : Nat} (i : Nat) (w : World) (hi : i = ts.length) (htop : ts.length ≤ top) (hrv : RestV B w a n c ts) (h : Rz B a n c w i false) :
    Calls Tryz.prog 29 #[.pointer (some ⟨B, 0, none⟩)] w (RdR B a n c i w ts (one (m + 1) (ts.drop i)) top) := by
  have hlt : B < w.heap.size := (Array.getElem?_eq_some_iff.1 h).1
  have HR : Hid (one (m + 1) (ts.drop i) = none) := by show _ = _; rw [List.drop_of_length_le (by omega)]; rfl
  generalize one (m + 1) (ts.drop i) = RES at *
  have HS : Hid (OSt B a n c w i false (w.alloc (.cells #[.int .i64 0, .string ⟨#[]⟩, .slice none 0 0] 31))) := OSt.init h
  have hn := hrv.len
  have z1 : (n : Int) ≤ (i : Int) := by omega
  have HT : Hid (i ≤ top) := by show _ ≤ _; omega
  clear hrv h hn hi htop
  go_enter Tryz.func29, Tryz.ntmps29
  go_wp2_with fail
  obtain ⟨c0, c1, c2, f0, f1, f2⟩ := bx3 HS.out.rz
  obtain ⟨e0, e1, e2, g0, g1, g2⟩ := bx3 HS.out.r0
  have hBR : B ≠ w.heap.size := by omega
  have hRB : w.heap.size ≠ B := by omega
  generalize w.alloc (.cells #[.int .i64 0, .string ⟨#[]⟩, .slice none 0 0] 31) = W0 at *
  go_quiet (fail)
  go_wp2_with fail
  have HE := (HS.out.whole (below_dn _ nq)).setB hlt
  refine bodyPost_ret (v := .agg #[.int .i64 0, .string ⟨#[]⟩, .slice none 0 0]) (results_cell rfl rfl (resR (bx3_set3 HE.r0))) rfl ?_
  exact one_end (x := .mk 0 [] []) HE hlt slv_nil HT.out (Nat.le_refl _) (fun h => by rcases h with h | h <;> cases h) (by simp [Rl.kids]) (fun h => by cases h) (fun _ => HR.out) _ _ _
end Go.Proofs.YtleiohccaagalaaGreat
