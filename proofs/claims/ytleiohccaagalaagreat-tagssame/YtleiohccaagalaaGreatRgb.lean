/-
  The document's one, walked: true.
-/
import Derived.Test.YtleiohccaagalaaGreatRga
namespace Go.Proofs.YtleiohccaagalaaGreat
open Go.RowKit
attribute [local go_sem ↓] Go.wp_at_zero Go.wp_at_succ
set_option maxRecDepth 100000 in
set_option maxHeartbeats 4000000 in
theorem oneR_true {B n c : Nat} {a : Option Addr} {ts : List Bs} {m : Nat} (htop : ts.length + m + 1 ≤ 100000) (i : Nat) (w : World) (hi : i < ts.length) (hrv : RestV B w a n c ts) (h : Rz B a n c w i false) (ht : ts[i] = sTrue) :
    Calls Tryz.prog 29 #[.pointer (some ⟨B, 0, none⟩)] w (RdR B a n c i w ts (one (m + 1) (ts.drop i)) (ts.length + (m + 1))) := by
  have HR : Hid (one (m + 1) (ts.drop i) = some (.yes, ts.drop (i + 1))) := by
    show _ = _
    rw [one_at hi, ht]; rfl
  generalize one (m + 1) (ts.drop i) = RES at *
  have H1 : Hid (∀ W, OSt B a n c w i false W → Calls Tryz.prog 30 #[.pointer (some ⟨B, 0, none⟩), .string (bs sNot)] W fun e w' => e = .returned (.bool false) ∧ Below W.heap.size W w') := fun W => is_at hrv sNot (by rw [isB_get hi]; exact decide_eq_false (by rw [ht]; decide))
  have H2 : Hid (∀ W, OSt B a n c w i false W → Calls Tryz.prog 30 #[.pointer (some ⟨B, 0, none⟩), .string (bs sO)] W fun e w' => e = .returned (.bool false) ∧ Below W.heap.size W w') := fun W => is_at hrv sO (by rw [isB_get hi]; exact decide_eq_false (by rw [ht]; decide))
  have H3 : Hid (∀ W, OSt B a n c w i false W → Calls Tryz.prog 30 #[.pointer (some ⟨B, 0, none⟩), .string (bs sTrue)] W fun e w' => e = .returned (.bool true) ∧ Below W.heap.size W w') := fun W => is_at hrv sTrue (by rw [isB_get hi]; exact decide_eq_true ht)
  have hlt : B < w.heap.size := (Array.getElem?_eq_some_iff.1 h).1
  have HS : Hid (OSt B a n c w i false (w.alloc (.cells #[.int .i64 0, .string ⟨#[]⟩, .slice none 0 0] 31))) := OSt.init h
  have hn := hrv.len
  have z1 : ¬ (n : Int) ≤ (i : Int) := by omega
  have hi9 : i ≤ 100000 := by omega
  clear h hn
  go_enter Tryz.func29, Tryz.ntmps29
  go_wp2_with fail
  have hBR : B ≠ w.heap.size := by omega
  have hRB : w.heap.size ≠ B := by omega
  obtain ⟨c0, c1, c2, f0, f1, f2⟩ := bx3 HS.out.rz
  generalize w.alloc (.cells #[.int .i64 0, .string ⟨#[]⟩, .slice none 0 0] 31) = W0 at *
  go_quiet (fail)
  have HS0 : Hid (OSt B a n c w i false (W0.drewN nq)) := HS.out.whole (below_dn _ nq)
  clear HS c0 c1 c2 f0 f1 f2
  generalize W0.drewN nq = w0 at *
  go_wp2_with (first
    | (go_at_call 30; refine (H1.out _ HS0.out).mono ?_; rintro e w1 ⟨rfl, hb1⟩; have HS1 : Hid (OSt B a n c w i false w1) := HS0.out.whole hb1; clear hb1 H1)
    | (go_at_call 30; refine (H2.out _ HS1.out).mono ?_; rintro e w2 ⟨rfl, hb2⟩; have HS2 : Hid (OSt B a n c w i false w2) := HS1.out.whole hb2; clear hb2 H2)
    | (go_at_call 30; refine (H3.out _ HS2.out).mono ?_; rintro e w3 ⟨rfl, hb3⟩; have HS3 : Hid (OSt B a n c w i false w3) := HS2.out.whole hb3; clear hb3 H3; have hzl := HS3.out.lt; obtain ⟨r0, r1, r2, fr0, fr1, fr2⟩ := bx3 HS3.out.rz; obtain ⟨o0, o1, o2, fo0, fo1, fo2⟩ := bx3 HS3.out.r0))
  have HE := HS3.out.setI (i' := i + 1) hlt (z := (i : Int) + 1) (by omega)
  refine bodyPost_ret (v := .agg #[.int .i64 0, .string ⟨#[]⟩, .slice none 0 0]) (results_cell rfl rfl (resR (bx3_set3 HE.r0))) rfl ?_
  exact one_end (x := .mk 0 [] []) HE hlt slv_nil (by omega) (by omega) (fun h => by rcases h with h | h <;> cases h) (by simp [Rl.kids]; omega) (fun _ => ⟨.yes, _, HR.out, rfl, rfl, by omega⟩) (fun h => by cases h) _ _ _
end Go.Proofs.YtleiohccaagalaaGreat
