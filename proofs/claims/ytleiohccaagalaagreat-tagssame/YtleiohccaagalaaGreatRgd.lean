/-
  The document's one, walked: brackets.
-/
import Derived.Test.YtleiohccaagalaaGreatRga
namespace Go.Proofs.YtleiohccaagalaaGreat
open Go.RowKit
attribute [local go_sem ↓] Go.wp_at_zero Go.wp_at_succ
theorem isB_true {ts : List Bs} {i : Nat} {s : Bs} (h : isB ts i s = true) : i + 1 ≤ ts.length ∧ ts.drop i = s :: ts.drop (i + 1) := by
  have h1 : ts[i]? = some s := by simpa [isB] using h
  obtain ⟨hi, e⟩ := List.getElem?_eq_some_iff.1 h1
  exact ⟨hi, by rw [List.drop_eq_getElem_cons hi, e]⟩
theorem shut_no {ts : List Bs} {i : Nat} (p : Pt) (h : isB ts i sC = false) : shut (p, ts.drop i) = none := by
  cases hd : ts.drop i with
  | nil => rfl
  | cons t r =>
    have h1 : ts[i]? = some t := by rw [← List.head?_drop, hd]; rfl
    have h2 : t ≠ sC := fun e => by simp [isB, h1, e] at h
    simp [shut, h2]
set_option maxRecDepth 100000 in
set_option maxHeartbeats 4000000 in
theorem oneR_open {B n c : Nat} {a : Option Addr} {ts : List Bs} {m : Nat} (htop : ts.length + m + 1 ≤ 100000) (i : Nat) (w : World) (hi : i < ts.length) (hrv : RestV B w a n c ts) (h : Rz B a n c w i false) (hc : ∀ W, RestV B W a n c ts → Rz B a n c W (i + 1) false → Calls Tryz.prog 17 #[.pointer (some ⟨B, 0, none⟩), .int .i64 4, .string (bs sOr)] W (RdR B a n c (i + 1) W ts (ruleF (one m) (ts.drop (i + 1))) (ts.length + m))) (ht : ts[i] = sO) :
    Calls Tryz.prog 29 #[.pointer (some ⟨B, 0, none⟩)] w (RdR B a n c i w ts (one (m + 1) (ts.drop i)) (ts.length + (m + 1))) := by
  have HR : Hid (one (m + 1) (ts.drop i) = (ruleF (one m) (ts.drop (i + 1))).bind shut) := by
    show _ = _
    rw [one_at hi, ht]; rfl
  generalize one (m + 1) (ts.drop i) = RES at *
  have H1 : Hid (∀ W, OSt B a n c w i false W → Calls Tryz.prog 30 #[.pointer (some ⟨B, 0, none⟩), .string (bs sNot)] W fun e w' => e = .returned (.bool false) ∧ Below W.heap.size W w') := fun W => is_at hrv sNot (by rw [isB_get hi]; exact decide_eq_false (by rw [ht]; decide))
  have H2 : Hid (∀ W, OSt B a n c w i false W → Calls Tryz.prog 30 #[.pointer (some ⟨B, 0, none⟩), .string (bs sO)] W fun e w' => e = .returned (.bool true) ∧ Below W.heap.size W w') := fun W => is_at hrv sO (by rw [isB_get hi]; exact decide_eq_true ht)
  have HC : Hid (∀ W, OSt B a n c w (i + 1) false W → Calls Tryz.prog 17 #[.pointer (some ⟨B, 0, none⟩), .int .i64 4, .string (bs sOr)] W (RdR B a n c (i + 1) W ts (ruleF (one m) (ts.drop (i + 1))) (ts.length + m))) := fun W h => hc W (hrv.kept h.kp) h.rz
  clear hc
  have H3 : Hid (∀ W j bad, OSt B a n c w j bad W → Calls Tryz.prog 30 #[.pointer (some ⟨B, 0, none⟩), .string (bs sC)] W fun e w' => e = .returned (.bool (isB ts j sC)) ∧ Below W.heap.size W w') := fun W j bad h => is_at hrv sC rfl h
  have hlt : B < w.heap.size := (Array.getElem?_eq_some_iff.1 h).1
  have HS : Hid (OSt B a n c w i false (w.alloc (.cells #[.int .i64 0, .string ⟨#[]⟩, .slice none 0 0] 31))) := OSt.init h
  have hn := hrv.len
  have z1 : ¬ (n : Int) ≤ (i : Int) := by omega
  have hi9 : i ≤ 100000 := by omega
  clear h hn
  go_enter Tryz.func29, Tryz.ntmps29
  go_wp2_with fail
  have hBR : B ≠ w.heap.size := by omega
  have hRB : w.heap.size ≠ B := by omega
  obtain ⟨c0, c1, c2, f0, f1, f2⟩ := bx3 HS.out.rz
  generalize w.alloc (.cells #[.int .i64 0, .string ⟨#[]⟩, .slice none 0 0] 31) = W0 at *
  go_quiet (fail)
  have HS0 : Hid (OSt B a n c w i false (W0.drewN nq)) := HS.out.whole (below_dn _ nq)
  clear HS c0 c1 c2 f0 f1 f2
  generalize W0.drewN nq = w0 at *
  go_wp2_with (first
    | (go_at_call 30; refine (H1.out _ HS0.out).mono ?_; rintro e w1 ⟨rfl, hb1⟩; have HS1 : Hid (OSt B a n c w i false w1) := HS0.out.whole hb1; clear hb1 H1)
    | (go_at_call 30; refine (H2.out _ HS1.out).mono ?_; rintro e w2 ⟨rfl, hb2⟩; have HS2 : Hid (OSt B a n c w i false w2) := HS1.out.whole hb2; clear hb2 H2; have hzl := HS2.out.lt; obtain ⟨r0, r1, r2, fr0, fr1, fr2⟩ := bx3 HS2.out.rz; obtain ⟨o0, o1, o2, fo0, fo1, fo2⟩ := bx3 HS2.out.r0)
    | (go_at_call 17; have hs2 : OSt B a n c w (i + 1) false (w2.setCell ⟨B, 1, none⟩ (.int .i64 ((i : Int) + 1))) := HS2.out.setI hlt (by omega); have hz2 := hs2.lt; refine (HC.out _ hs2).mono ?_; intro e w3 hq; obtain ⟨x, v, i1, bad, rfl, hsl, hrz, htp, hi01, hne, hlen, hyes, hno⟩ := hq.ex; obtain ⟨va, vc, rfl⟩ := hsl.slice; have HS3 : Hid (OSt B a n c w i1 bad w3) := hs2.on hlt hq.kp hrz; have HSL : Hid (SlV (Bf (w.heap.size + 1)) w3 (.slice va x.kids.length vc) x.kids) := hsl.to' (Kx.refl (fun _ => False) w3) (fun b o ob _ hb => Bf.mono (by omega) b o ob hb) (fun _ _ _ _ _ h => h); have HNE : Hid (x.kind = 3 ∨ x.kind = 4 → 2 ≤ x.kids.length) := hne; have HY : Hid (bad = false → ∃ p r, ruleF (one m) (ts.drop (i + 1)) = some (p, r) ∧ x = nf p ∧ ts.drop i1 = r ∧ i1 ≤ ts.length) := hyes; have HN : Hid (bad = true → ruleF (one m) (ts.drop (i + 1)) = none) := hno; have hl2 := HS3.out.lt; have hB3 : B < w3.heap.size := (Array.getElem?_eq_some_iff.1 HS3.out.rz).1; clear hq hsl hrz hne hyes hno hs2 HC r0 r1 r2 fr0 fr1 fr2 o0 o1 o2 fo0 fo1 fo2))
  have hs4 : OSt B a n c w i1 bad (w3.alloc (.cells #[.int .i64 x.kind, .string (bs x.tag), .slice va x.kids.length vc] 31)) := HS3.out.whole (below_alloc _ _)
  have hv4 := HSL.out.kept (below_alloc w3 (.cells #[.int .i64 x.kind, .string (bs x.tag), .slice va x.kids.length vc] 31))
  have hx4 := heap_new w3 (.cells #[.int .i64 x.kind, .string (bs x.tag), .slice va x.kids.length vc] 31)
  have h3 := H3.out _ _ _ hs4
  clear H3
  generalize w3.alloc (.cells #[.int .i64 x.kind, .string (bs x.tag), .slice va x.kids.length vc] 31) = w4 at *
  go_at_call 30
  refine h3.mono ?_
  rintro e w5 ⟨rfl, hb5⟩
  have HS5 : Hid (OSt B a n c w i1 bad w5) := hs4.whole hb5
  have HV5 : Hid (SlV (Bf (w.heap.size + 1)) w5 (.slice va x.kids.length vc) x.kids) := hv4.kept hb5
  obtain ⟨u0, u1, u2, fu0, fu1, fu2⟩ := bx3 (blk_kept hb5 hx4)
  obtain ⟨r0, r1, r2, fr0, fr1, fr2⟩ := bx3 HS5.out.rz
  obtain ⟨o0, o1, o2, fo0, fo1, fo2⟩ := bx3 HS5.out.r0
  have hz5 := HS5.out.lt
  have b1 : w3.heap.size ≠ B := by omega
  have b2 : B ≠ w3.heap.size := by omega
  have b3 : w3.heap.size ≠ w.heap.size := by omega
  have b4 : w.heap.size ≠ w3.heap.size := by omega
  clear h3 hs4 hv4 hx4 hb5 HS3 HSL
  cases hsb : isB ts i1 sC with
  | true =>
    have HT : Hid (isB ts i1 sC = true) := hsb
    clear hsb
    go_wp2_with fail
    have HE := HS5.out.setI (i' := i1 + 1) hlt (z := (i1 : Int) + 1) (by omega)
    refine bodyPost_ret (v := .agg #[.int .i64 x.kind, .string (bs x.tag), .slice va x.kids.length vc]) (results_cell rfl rfl (resR (bx3_set3 HE.r0))) rfl ?_
    exact one_end (x := x) HE hlt (HV5.out.to' kx_set (fun _ _ _ _ h => h) (fun b o ob _ hb e => by have := hb.1; omega)) (by omega) (by omega) HNE.out (by omega) (fun hb => by
      obtain ⟨p, r, e1, e2, e3, e4⟩ := HY.out hb
      obtain ⟨q1, q2⟩ := isB_true HT.out
      exact ⟨p, ts.drop (i1 + 1), by rw [HR.out, e1, ← e3, q2]; rfl, e2, rfl, q1⟩) (fun hb => by rw [HR.out, HN.out hb]; rfl) _ _ _
  | false =>
    have HT : Hid (isB ts i1 sC = false) := hsb
    clear hsb
    have HRN : Hid (RES = none) := by
      show _ = _
      rw [HR.out]
      cases bad with
      | true => rw [HN.out rfl]; rfl
      | false =>
        obtain ⟨p, r, e1, e2, e3, e4⟩ := HY.out rfl
        rw [e1, ← e3]
        exact shut_no p HT.out
    go_wp2_with fail
    have HE := (HS5.out.setB hlt).setI (i' := i1 + 1) hlt (z := (i1 : Int) + 1) (by omega)
    refine bodyPost_ret (v := .agg #[.int .i64 x.kind, .string (bs x.tag), .slice va x.kids.length vc]) (results_cell rfl rfl (resR (bx3_set3 HE.r0))) rfl ?_
    exact one_end (x := x) HE hlt (HV5.out.to' ((kx_set (B := B)).trans kx_set) (fun _ _ _ _ h => h) (fun b o ob _ hb e => by have := hb.1; omega)) (by omega) (by omega) HNE.out (by omega) (fun h => by cases h) (fun _ => HRN.out) _ _ _
end Go.Proofs.YtleiohccaagalaaGreat
