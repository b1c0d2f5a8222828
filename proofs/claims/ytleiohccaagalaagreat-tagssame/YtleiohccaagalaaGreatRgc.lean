/-
  The document's one, walked: a tag, or what is none.
-/
import Derived.Test.YtleiohccaagalaaGreatRga
namespace Go.Proofs.YtleiohccaagalaaGreat
open Go.RowKit
attribute [local go_sem ↓] Go.wp_at_zero Go.wp_at_succ
theorem RestV.get {B : Nat} {w : World} {a : Option Addr} {n c : Nat} {ts : List Bs} (h : RestV B w a n c ts) {i : Nat} (hi : i < ts.length) : ∃ g o, a = some ⟨g, o, none⟩ ∧ g ≠ B ∧ w.cell? ⟨g, o + i, none⟩ = some (.string (bs ts[i])) := by
  obtain ⟨g, o, e, hg, hc⟩ := h.at_ (by intro e; rw [e] at hi; simp at hi)
  exact ⟨g, o, e, hg, hc i _ (List.getElem?_eq_getElem hi)⟩
set_option maxRecDepth 100000 in
set_option maxHeartbeats 4000000 in
theorem oneR_tag {B n c : Nat} {a : Option Addr} {ts : List Bs} {m : Nat} (htop : ts.length + m + 1 ≤ 100000) (i : Nat) (w : World) (hi : i < ts.length) (hrv : RestV B w a n c ts) (h : Rz B a n c w i false) (hp : plB ts[i] = idB ts[i]) (n1 : ts[i] ≠ sNot) (n2 : ts[i] ≠ sO) (n3 : ts[i] ≠ sTrue) (hid : idB ts[i] = true) :
    Calls Tryz.prog 29 #[.pointer (some ⟨B, 0, none⟩)] w (RdR B a n c i w ts (one (m + 1) (ts.drop i)) (ts.length + (m + 1))) := by
  have HR : Hid (one (m + 1) (ts.drop i) = some (.tag ts[i], ts.drop (i + 1))) := by
    show _ = _
    rw [one_at hi]; simp only [oneF]; rw [if_neg n1, if_neg n2, if_neg n3, hid]; rfl
  generalize one (m + 1) (ts.drop i) = RES at *
  have H1 : Hid (∀ W, OSt B a n c w i false W → Calls Tryz.prog 30 #[.pointer (some ⟨B, 0, none⟩), .string (bs sNot)] W fun e w' => e = .returned (.bool false) ∧ Below W.heap.size W w') := fun W => is_at hrv sNot (by rw [isB_get hi]; exact decide_eq_false n1)
  have H2 : Hid (∀ W, OSt B a n c w i false W → Calls Tryz.prog 30 #[.pointer (some ⟨B, 0, none⟩), .string (bs sO)] W fun e w' => e = .returned (.bool false) ∧ Below W.heap.size W w') := fun W => is_at hrv sO (by rw [isB_get hi]; exact decide_eq_false n2)
  have H3 : Hid (∀ W, OSt B a n c w i false W → Calls Tryz.prog 30 #[.pointer (some ⟨B, 0, none⟩), .string (bs sTrue)] W fun e w' => e = .returned (.bool false) ∧ Below W.heap.size W w') := fun W => is_at hrv sTrue (by rw [isB_get hi]; exact decide_eq_false n3)
  have HP : Hid (∀ W, Calls Tryz.prog 42 #[.string (bs ts[i])] W fun e w' => e = .returned (.bool true) ∧ w' = W) := fun W => by
    have := plain_any ts[i] W
    rwa [hp, hid] at this
  obtain ⟨g, o, rfl, hgB, hgc⟩ := hrv.get hi
  have HGC : Hid (∀ W, Kx (· = B) w W → W.cell? ⟨g, o + i, none⟩ = some (.string (bs ts[i]))) := fun W k => k.cell hgc hgB
  have hgl : g < w.heap.size := World.block_lt_of_cell? _ _ hgc
  have z2 : (0 : Int) ≤ (i : Int) := by omega
  have z3 : (i : Int) < (n : Int) := by have := hrv.len; omega
  clear hgc hp n1 n2 n3 hid
  have hlt : B < w.heap.size := (Array.getElem?_eq_some_iff.1 h).1
  have HS : Hid (OSt B (some ⟨g, o, none⟩) n c w i false (w.alloc (.cells #[.int .i64 0, .string ⟨#[]⟩, .slice none 0 0] 31))) := OSt.init h
  have hn := hrv.len
  have z1 : ¬ (n : Int) ≤ (i : Int) := by omega
  have hi9 : i ≤ 100000 := by omega
  clear h hn hrv
  go_enter Tryz.func29, Tryz.ntmps29
  go_wp2_with fail
  have hBR : B ≠ w.heap.size := by omega
  have hRB : w.heap.size ≠ B := by omega
  obtain ⟨c0, c1, c2, f0, f1, f2⟩ := bx3 HS.out.rz
  generalize w.alloc (.cells #[.int .i64 0, .string ⟨#[]⟩, .slice none 0 0] 31) = W0 at *
  go_quiet (fail)
  have HS0 : Hid (OSt B (some ⟨g, o, none⟩) n c w i false (W0.drewN nq)) := HS.out.whole (below_dn _ nq)
  clear HS c0 c1 c2 f0 f1 f2
  generalize W0.drewN nq = w0 at *
  go_wp2_with (first
    | (go_at_call 30; refine (H1.out _ HS0.out).mono ?_; rintro e w1 ⟨rfl, hb1⟩; have HS1 : Hid (OSt B (some ⟨g, o, none⟩) n c w i false w1) := HS0.out.whole hb1; clear hb1 H1)
    | (go_at_call 30; refine (H2.out _ HS1.out).mono ?_; rintro e w2 ⟨rfl, hb2⟩; have HS2 : Hid (OSt B (some ⟨g, o, none⟩) n c w i false w2) := HS1.out.whole hb2; clear hb2 H2)
    | (go_at_call 30; refine (H3.out _ HS2.out).mono ?_; rintro e w3 ⟨rfl, hb3⟩; have HS3 : Hid (OSt B (some ⟨g, o, none⟩) n c w i false w3) := HS2.out.whole hb3; clear hb3 H3; have hzl := HS3.out.lt; obtain ⟨r0, r1, r2, fr0, fr1, fr2⟩ := bx3 HS3.out.rz; obtain ⟨o0, o1, o2, fo0, fo1, fo2⟩ := bx3 HS3.out.r0))
  have hgR : g ≠ w.heap.size := by omega
  have hRg : w.heap.size ≠ g := by omega
  have hBg : B ≠ g := fun e => hgB e.symm
  have gc := HGC.out _ HS3.out.kp
  generalize hT : ts[i] = T at *
  have HTT : Hid (ts[i] = T) := hT
  clear hT
  go_quiet ((go_at_call 42; exact Calls.quiet_of_same (HP.out _)))
  have HS4 : Hid (OSt B (some ⟨g, o, none⟩) n c w i false (w3.drewN nq)) := HS3.out.whole (below_dn _ nq)
  clear HS3 HP r0 r1 r2 fr0 fr1 fr2 o0 o1 o2 fo0 fo1 fo2 gc
  generalize w3.drewN nq = w4 at *
  obtain ⟨r0, r1, r2, fr0, fr1, fr2⟩ := bx3 HS4.out.rz
  obtain ⟨o0, o1, o2, fo0, fo1, fo2⟩ := bx3 HS4.out.r0
  have hzl := HS4.out.lt
  go_wp2_with fail
  have hs5 : OSt B (some ⟨g, o, none⟩) n c w (i + 1) false (w4.setCell ⟨B, 1, none⟩ (.int .i64 ((i : Int) + 1))) := HS4.out.setI hlt (by omega)
  have gc5 := HGC.out _ hs5.kp
  obtain ⟨p0, p1, p2, fp0, fp1, fp2⟩ := bx3 hs5.rz
  obtain ⟨q0, q1, q2, fq0, fq1, fq2⟩ := bx3 hs5.r0
  have HS5 : Hid (OSt B (some ⟨g, o, none⟩) n c w (i + 1) false (w4.setCell ⟨B, 1, none⟩ (.int .i64 ((i : Int) + 1)))) := hs5
  have hz5 := hs5.lt
  clear hs5 HS4 r0 r1 r2 fr0 fr1 fr2 o0 o1 o2 fo0 fo1 fo2
  generalize w4.setCell ⟨B, 1, none⟩ (.int .i64 ((i : Int) + 1)) = w5 at *
  have kS : w5.cell? ⟨B, 0, none⟩ = some (.slice (some ⟨g, o, none⟩) n c) ∧ w5.cell? ⟨B, 1, none⟩ = some (.int .i64 ((i : Int) + 1)) ∧ w5.cell? ⟨g, o + i, none⟩ = some (.string (bs T)) := ⟨p0, by rw [p1]; rfl, gc5⟩
  have kw : IntKind.i64.wrap (i : Int) = (i : Int) := by rw [IntKind.wrap_i64]; omega
  clear p0 p1
  go_region_held3 (fun w' => w'.cell? ⟨B, 0, none⟩ = some (.slice (some ⟨g, o, none⟩) n c) ∧ w'.cell? ⟨B, 1, none⟩ = some (.int .i64 ((i : Int) + 1)) ∧ w'.cell? ⟨g, o + i, none⟩ = some (.string (bs T)))
    (first | exact kS | go_keep)
    (fail)
  go_wp2_with fail
  have hk6 : Kx (· = w.heap.size) w5 (((w5.setCell ⟨w.heap.size, 0, none⟩ (.int .i64 1)).setCell ⟨w.heap.size, 1, none⟩ (.string (bs T))).setCell ⟨w.heap.size, 2, none⟩ (.slice none 0 0)).drew := Kx.drew kx_set3
  have hx6 : (((w5.setCell ⟨w.heap.size, 0, none⟩ (.int .i64 1)).setCell ⟨w.heap.size, 1, none⟩ (.string (bs T))).setCell ⟨w.heap.size, 2, none⟩ (.slice none 0 0)).drew.heap[w.heap.size]? = some (.cells #[.int .i64 1, .string (bs T), .slice none 0 0] 31 (0, 0)) := bx3_set3 HS5.out.r0
  refine bodyPost_ret (v := .agg #[.int .i64 1, .string (bs T), .slice none 0 0]) (results_cell rfl rfl (resR hx6)) rfl ?_
  exact one_endK (x := .mk 1 T []) HS5.out hlt hk6 slv_nil (by omega) (by omega) (fun h => by rcases h with h | h <;> cases h) (by simp [Rl.kids]; omega) (fun _ => ⟨.tag T, _, HR.out, rfl, rfl, by omega⟩) (fun h => by cases h)
set_option maxRecDepth 100000 in
set_option maxHeartbeats 4000000 in
theorem oneR_bad {B n c : Nat} {a : Option Addr} {ts : List Bs} {m : Nat} (htop : ts.length + m + 1 ≤ 100000) (i : Nat) (w : World) (hi : i < ts.length) (hrv : RestV B w a n c ts) (h : Rz B a n c w i false) (hp : plB ts[i] = idB ts[i]) (n1 : ts[i] ≠ sNot) (n2 : ts[i] ≠ sO) (n3 : ts[i] ≠ sTrue) (hid : idB ts[i] = false) :
    Calls Tryz.prog 29 #[.pointer (some ⟨B, 0, none⟩)] w (RdR B a n c i w ts (one (m + 1) (ts.drop i)) (ts.length + (m + 1))) := by
  have HR : Hid (one (m + 1) (ts.drop i) = none) := by
    show _ = _
    rw [one_at hi]; simp only [oneF]; rw [if_neg n1, if_neg n2, if_neg n3, hid]; rfl
  generalize one (m + 1) (ts.drop i) = RES at *
  have H1 : Hid (∀ W, OSt B a n c w i false W → Calls Tryz.prog 30 #[.pointer (some ⟨B, 0, none⟩), .string (bs sNot)] W fun e w' => e = .returned (.bool false) ∧ Below W.heap.size W w') := fun W => is_at hrv sNot (by rw [isB_get hi]; exact decide_eq_false n1)
  have H2 : Hid (∀ W, OSt B a n c w i false W → Calls Tryz.prog 30 #[.pointer (some ⟨B, 0, none⟩), .string (bs sO)] W fun e w' => e = .returned (.bool false) ∧ Below W.heap.size W w') := fun W => is_at hrv sO (by rw [isB_get hi]; exact decide_eq_false n2)
  have H3 : Hid (∀ W, OSt B a n c w i false W → Calls Tryz.prog 30 #[.pointer (some ⟨B, 0, none⟩), .string (bs sTrue)] W fun e w' => e = .returned (.bool false) ∧ Below W.heap.size W w') := fun W => is_at hrv sTrue (by rw [isB_get hi]; exact decide_eq_false n3)
  have HP : Hid (∀ W, Calls Tryz.prog 42 #[.string (bs ts[i])] W fun e w' => e = .returned (.bool false) ∧ w' = W) := fun W => by
    have := plain_any ts[i] W
    rwa [hp, hid] at this
  obtain ⟨g, o, rfl, hgB, hgc⟩ := hrv.get hi
  have HGC : Hid (∀ W, Kx (· = B) w W → W.cell? ⟨g, o + i, none⟩ = some (.string (bs ts[i]))) := fun W k => k.cell hgc hgB
  have hgl : g < w.heap.size := World.block_lt_of_cell? _ _ hgc
  have z2 : (0 : Int) ≤ (i : Int) := by omega
  have z3 : (i : Int) < (n : Int) := by have := hrv.len; omega
  clear hgc hp n1 n2 n3 hid
  have hlt : B < w.heap.size := (Array.getElem?_eq_some_iff.1 h).1
  have HS : Hid (OSt B (some ⟨g, o, none⟩) n c w i false (w.alloc (.cells #[.int .i64 0, .string ⟨#[]⟩, .slice none 0 0] 31))) := OSt.init h
  have hn := hrv.len
  have z1 : ¬ (n : Int) ≤ (i : Int) := by omega
  have hi9 : i ≤ 100000 := by omega
  clear h hn hrv
  go_enter Tryz.func29, Tryz.ntmps29
  go_wp2_with fail
  have hBR : B ≠ w.heap.size := by omega
  have hRB : w.heap.size ≠ B := by omega
  obtain ⟨c0, c1, c2, f0, f1, f2⟩ := bx3 HS.out.rz
  generalize w.alloc (.cells #[.int .i64 0, .string ⟨#[]⟩, .slice none 0 0] 31) = W0 at *
  go_quiet (fail)
  have HS0 : Hid (OSt B (some ⟨g, o, none⟩) n c w i false (W0.drewN nq)) := HS.out.whole (below_dn _ nq)
  clear HS c0 c1 c2 f0 f1 f2
  generalize W0.drewN nq = w0 at *
  go_wp2_with (first
    | (go_at_call 30; refine (H1.out _ HS0.out).mono ?_; rintro e w1 ⟨rfl, hb1⟩; have HS1 : Hid (OSt B (some ⟨g, o, none⟩) n c w i false w1) := HS0.out.whole hb1; clear hb1 H1)
    | (go_at_call 30; refine (H2.out _ HS1.out).mono ?_; rintro e w2 ⟨rfl, hb2⟩; have HS2 : Hid (OSt B (some ⟨g, o, none⟩) n c w i false w2) := HS1.out.whole hb2; clear hb2 H2)
    | (go_at_call 30; refine (H3.out _ HS2.out).mono ?_; rintro e w3 ⟨rfl, hb3⟩; have HS3 : Hid (OSt B (some ⟨g, o, none⟩) n c w i false w3) := HS2.out.whole hb3; clear hb3 H3; have hzl := HS3.out.lt; obtain ⟨r0, r1, r2, fr0, fr1, fr2⟩ := bx3 HS3.out.rz; obtain ⟨o0, o1, o2, fo0, fo1, fo2⟩ := bx3 HS3.out.r0))
  have hgR : g ≠ w.heap.size := by omega
  have hRg : w.heap.size ≠ g := by omega
  have hBg : B ≠ g := fun e => hgB e.symm
  have gc := HGC.out _ HS3.out.kp
  generalize hT : ts[i] = T at *
  have HTT : Hid (ts[i] = T) := hT
  clear hT
  go_quiet ((go_at_call 42; exact Calls.quiet_of_same (HP.out _)))
  have HS4 : Hid (OSt B (some ⟨g, o, none⟩) n c w i false (w3.drewN nq)) := HS3.out.whole (below_dn _ nq)
  clear HS3 HP r0 r1 r2 fr0 fr1 fr2 o0 o1 o2 fo0 fo1 fo2 gc
  generalize w3.drewN nq = w4 at *
  obtain ⟨r0, r1, r2, fr0, fr1, fr2⟩ := bx3 HS4.out.rz
  obtain ⟨o0, o1, o2, fo0, fo1, fo2⟩ := bx3 HS4.out.r0
  have hzl := HS4.out.lt
  go_wp2_with fail
  have HE := HS4.out.setB hlt
  refine bodyPost_ret (v := .agg #[.int .i64 0, .string ⟨#[]⟩, .slice none 0 0]) (results_cell rfl rfl (resR (bx3_set3 HE.r0))) rfl ?_
  exact one_end (x := .mk 0 [] []) HE hlt slv_nil (by omega) (by omega) (fun h => by rcases h with h | h <;> cases h) (by simp [Rl.kids]) (fun h => by cases h) (fun _ => HR.out) _ _ _
end Go.Proofs.YtleiohccaagalaaGreat
