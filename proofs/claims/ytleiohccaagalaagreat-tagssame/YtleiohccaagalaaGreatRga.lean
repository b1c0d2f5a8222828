/-
  The document's one, walked: not.
-/
import Derived.Test.YtleiohccaagalaaGreatRfz
namespace Go.Proofs.YtleiohccaagalaaGreat
open Go.RowKit
attribute [local go_sem ↓] Go.wp_at_zero Go.wp_at_succ
/-- what the end of one answers, in the form in which the walk has it -/
theorem one_endK {B n c i0 : Nat} {a : Option Addr} {w : World} {ts : List Bs} {RES : Option (Pt × List Bs)} {top j : Nat} {bad : Bool} {v : Value} {we W' : World} {x : Rl} (h : OSt B a n c w j bad we) (hB : B < w.heap.size) (hs : Kx (· = w.heap.size) we W') (hv : SlV (Bf (w.heap.size + 1)) W' v x.kids) (hj : j ≤ top) (h0 : i0 ≤ j) (h2 : x.kind = 3 ∨ x.kind = 4 → 2 ≤ x.kids.length) (h3 : x.kids.length + i0 ≤ j + 1)
    (hy : bad = false → ∃ p r, RES = some (p, r) ∧ x = nf p ∧ ts.drop j = r ∧ j ≤ ts.length) (hn : bad = true → RES = none) :
    RdR B a n c i0 w ts RES top (.returned (.agg #[.int .i64 x.kind, .string (bs x.tag), v])) W' := by
  have hr0 := h.lt
  refine ⟨h.kp.andThen hs (fun _ _ h => h) (fun b hb e => by omega), x, v, j, bad, rfl, ?_, hs.keep _ _ h.rz (by omega), hj, h0, h2, h3, hy, hn⟩
  exact hv.to' (Kx.refl (fun _ => False) _) (fun b o ob _ hb => Bf.mono (by omega) b o ob hb) (fun b o ob _ hb e => e)
theorem slv_one {base : Nat} {W : World} {x : Rl} {v : Value} (h : SlV (Bf base) W v x.kids) (hb : base ≤ W.heap.size) : SlV (Bf base) (W.alloc (.cells #[.int .i64 x.kind, .string (bs x.tag), v] 31)) (.slice (some ⟨W.heap.size, 0, none⟩) 1 1) [x] := by
  have hk : Below W.heap.size W (W.alloc (.cells #[.int .i64 x.kind, .string (bs x.tag), v] 31)) := (Below.refl _ W).alloc (Nat.le_refl _) _
  have hn := heap_new W (.cells #[.int .i64 x.kind, .string (bs x.tag), v] 31)
  obtain ⟨n0, n1, n2, _, _, _⟩ := bx3 hn
  exact .inr ⟨_, 0, 1, _, rfl, by simp, hn, ⟨hb, rfl, _, rfl⟩, liesL_cons.2 ⟨lies_iff.2 ⟨n0, n1, _, n2, h.kept hk⟩, liesL_nil⟩⟩
theorem is_at {B n c i : Nat} {a : Option Addr} {bad : Bool} {w W : World} {ts : List Bs} (hrv : RestV B w a n c ts) (s : Bs) {b : Bool} (hb : isB ts i s = b) (h : OSt B a n c w i bad W) : Calls Tryz.prog 30 #[.pointer (some ⟨B, 0, none⟩), .string (bs s)] W fun e w' => e = .returned (.bool b) ∧ Below W.heap.size W w' := by
  rw [← hb]; exact is_any (h.rq hrv) s
theorem one_at {ts : List Bs} {i : Nat} (hi : i < ts.length) (m : Nat) : one (m + 1) (ts.drop i) = oneF (one m) (ts[i] :: ts.drop (i + 1)) := by
  rw [List.drop_eq_getElem_cons hi]; rfl
theorem isB_get {ts : List Bs} {i : Nat} (hi : i < ts.length) (s : Bs) : isB ts i s = decide (ts[i] = s) := by
  unfold isB; rw [List.getElem?_eq_getElem hi]; simp
set_option maxRecDepth 100000 in
set_option maxHeartbeats 4000000 in
theorem oneR_not {B n c : Nat} {a : Option Addr} {ts : List Bs} {m : Nat} (htop : ts.length + m + 1 ≤ 100000) (i : Nat) (w : World) (hi : i < ts.length) (hrv : RestV B w a n c ts) (h : Rz B a n c w i false) (hc : ∀ W, RestV B W a n c ts → Rz B a n c W (i + 1) false → Calls Tryz.prog 29 #[.pointer (some ⟨B, 0, none⟩)] W (RdR B a n c (i + 1) W ts (one m (ts.drop (i + 1))) (ts.length + m))) (ht : ts[i] = sNot) :
    Calls Tryz.prog 29 #[.pointer (some ⟨B, 0, none⟩)] w (RdR B a n c i w ts (one (m + 1) (ts.drop i)) (ts.length + (m + 1))) := by
  have HR : Hid (one (m + 1) (ts.drop i) = (one m (ts.drop (i + 1))).map fun x => (.not x.1, x.2)) := by
    show _ = _
    rw [one_at hi, ht]; simp [oneF]
  generalize one (m + 1) (ts.drop i) = RES at *
  have H1 : Hid (∀ W, OSt B a n c w i false W → Calls Tryz.prog 30 #[.pointer (some ⟨B, 0, none⟩), .string (bs sNot)] W fun e w' => e = .returned (.bool true) ∧ Below W.heap.size W w') := fun W => is_at hrv sNot (by rw [isB_get hi]; exact decide_eq_true ht)
  have HC : Hid (∀ W, OSt B a n c w (i + 1) false W → Calls Tryz.prog 29 #[.pointer (some ⟨B, 0, none⟩)] W (RdR B a n c (i + 1) W ts (one m (ts.drop (i + 1))) (ts.length + m))) := fun W h => hc W (hrv.kept h.kp) h.rz
  clear hc
  have hlt : B < w.heap.size := (Array.getElem?_eq_some_iff.1 h).1
  have HS : Hid (OSt B a n c w i false (w.alloc (.cells #[.int .i64 0, .string ⟨#[]⟩, .slice none 0 0] 31))) := OSt.init h
  have hn := hrv.len
  have z1 : ¬ (n : Int) ≤ (i : Int) := by omega
  have hi9 : i ≤ 100000 := by omega
  clear h hn
  go_enter Tryz.func29, Tryz.ntmps29
  go_wp2_with fail
  have hBR : B ≠ w.heap.size := by omega
  have hRB : w.heap.size ≠ B := by omega
  obtain ⟨c0, c1, c2, f0, f1, f2⟩ := bx3 HS.out.rz
  generalize w.alloc (.cells #[.int .i64 0, .string ⟨#[]⟩, .slice none 0 0] 31) = W0 at *
  go_quiet (fail)
  have HS0 : Hid (OSt B a n c w i false (W0.drewN nq)) := HS.out.whole (below_dn _ nq)
  clear HS c0 c1 c2 f0 f1 f2
  generalize W0.drewN nq = w0 at *
  go_wp2_with (first
    | (go_at_call 30; refine (H1.out _ HS0.out).mono ?_; rintro e w1 ⟨rfl, hb1⟩; have HS1 : Hid (OSt B a n c w i false w1) := HS0.out.whole hb1; have hz1 := HS1.out.lt; obtain ⟨r0, r1, r2, fr0, fr1, fr2⟩ := bx3 HS1.out.rz; obtain ⟨o0, o1, o2, fo0, fo1, fo2⟩ := bx3 HS1.out.r0; clear hb1 H1)
    | (go_at_call 29; have hs2 : OSt B a n c w (i + 1) false (w1.setCell ⟨B, 1, none⟩ (.int .i64 ((i : Int) + 1))) := HS1.out.setI hlt (by omega); have hz2 := hs2.lt; refine (HC.out _ hs2).mono ?_; intro e w2 hq; obtain ⟨x, v, i1, bad, rfl, hsl, hrz, htp, hi01, hne, hlen, hyes, hno⟩ := hq.ex; obtain ⟨va, vc, rfl⟩ := hsl.slice; have HS2 : Hid (OSt B a n c w i1 bad w2) := hs2.on hlt hq.kp hrz; have HSL : Hid (SlV (Bf (w.heap.size + 1)) w2 (.slice va x.kids.length vc) x.kids) := hsl.to' (Kx.refl (fun _ => False) w2) (fun b o ob _ hb => Bf.mono (by omega) b o ob hb) (fun _ _ _ _ _ h => h); have HY : Hid (bad = false → ∃ p r, one m (ts.drop (i + 1)) = some (p, r) ∧ x = nf p ∧ ts.drop i1 = r ∧ i1 ≤ ts.length) := hyes; have HN : Hid (bad = true → one m (ts.drop (i + 1)) = none) := hno; have hl2 := HS2.out.lt; obtain ⟨o0, o1, o2, fo0, fo1, fo2⟩ := bx3 HS2.out.r0; clear hq hsl hrz hne hyes hno hs2 HC r0 r1 r2 fr0 fr1 fr2))
  have hk1 : Kx (· = w.heap.size) w2 (((w2.setCell ⟨w.heap.size, 0, none⟩ (.int .i64 2)).setCell ⟨w.heap.size, 1, none⟩ (.string ⟨#[]⟩)).setCell ⟨w.heap.size, 2, none⟩ (.slice (some ⟨w2.heap.size + 1, 0, none⟩) 1 1)) := kx_set3
  have hx1 := bx3_set3 (x := .int .i64 2) (y := .string ⟨#[]⟩) (z := .slice (some ⟨w2.heap.size + 1, 0, none⟩) 1 1) HS2.out.r0
  have hsz : (((w2.setCell ⟨w.heap.size, 0, none⟩ (.int .i64 2)).setCell ⟨w.heap.size, 1, none⟩ (.string ⟨#[]⟩)).setCell ⟨w.heap.size, 2, none⟩ (.slice (some ⟨w2.heap.size + 1, 0, none⟩) 1 1)).heap.size = w2.heap.size := by simp [World.setCell]
  have hv1 := HSL.out.to' hk1 (fun _ _ _ _ h => h) (fun b o ob _ hb e => by have := hb.1; omega)
  generalize (((w2.setCell ⟨w.heap.size, 0, none⟩ (.int .i64 2)).setCell ⟨w.heap.size, 1, none⟩ (.string ⟨#[]⟩)).setCell ⟨w.heap.size, 2, none⟩ (.slice (some ⟨w2.heap.size + 1, 0, none⟩) 1 1)) = W3 at *
  have hb4 := below_alloc W3 (.cells #[.int .i64 x.kind, .string (bs x.tag), .slice va x.kids.length vc] 31)
  have hx2 := blk_kept hb4 hx1
  have hk2 := hk1.trans (Kx.of_whole hb4)
  have hv2 := hv1.kept hb4
  have hsz2 : (W3.alloc (.cells #[.int .i64 x.kind, .string (bs x.tag), .slice va x.kids.length vc] 31)).heap.size = w2.heap.size + 1 := by simp [hsz]
  generalize W3.alloc (.cells #[.int .i64 x.kind, .string (bs x.tag), .slice va x.kids.length vc] 31) = W4 at *
  have hb5 := below_alloc W4 (.cells #[.int .i64 x.kind, .string (bs x.tag), .slice va x.kids.length vc] 31)
  have hv3 := slv_one hv2 (by omega)
  rw [hsz2] at hv3
  refine bodyPost_ret (v := .agg #[.int .i64 2, .string ⟨#[]⟩, .slice (some ⟨w2.heap.size + 1, 0, none⟩) 1 1]) (results_cell rfl rfl (resR (blk_kept hb5 hx2))) rfl ?_
  exact one_endK (x := .mk 2 [] [x]) HS2.out hlt (hk2.trans (Kx.of_whole hb5)) hv3 (by omega) (by omega) (fun h => by rcases h with h | h <;> cases h) (by simp [Rl.kids]; omega) (fun hb => by
    obtain ⟨p, r, e1, e2, e3, e4⟩ := HY.out hb
    exact ⟨.not p, r, by rw [HR.out, e1]; rfl, by rw [e2]; rfl, e3, e4⟩) (fun hb => by rw [HR.out, HN.out hb]; rfl)
end Go.Proofs.YtleiohccaagalaaGreat
