/-
  The document's Same, walked.
-/
import Derived.Test.YtleiohccaagalaaGreatRgf
import Derived.Test.YtleiohccaagalaaGreatRfT
namespace Go.Proofs.YtleiohccaagalaaGreat
open Go.RowKit Go.Sort
attribute [local go_sem ↓] Go.wp_at_zero Go.wp_at_succ
theorem all_len (P : List Bs → Bool) (L : List (List Bs)) : L.all P = true ↔ ∀ j (h : j < L.length), P L[j] = true := by
  rw [List.all_eq_true]
  constructor
  · intro h j hj; exact h _ (List.getElem_mem _)
  · intro h x hx
    obtain ⟨j, hj, rfl⟩ := List.getElem_of_mem hx
    exact h j hj
theorem eo_idem (l : List Bs) : eo (eo l) = eo l := by
  exact eo_of (eo_facts l).1 (fun x => Iff.rfl)
set_option maxRecDepth 100000 in
set_option maxHeartbeats 4000000 in
theorem rsame_any (Q1 Q2 : BP) {p q : Pt} {v1 v2 : Value} (w : World) (hv1 : SlV Q1 w v1 (nf p).kids) (hv2 : SlV Q2 w v2 (nf q).kids) {a : Option Addr} {n c : Nat} {l : List Bs} (hT : TxV w a n c l) (hn : n ≤ 8796093021952) :
    Calls Tryz.prog 9 #[.agg #[.int .i64 (nf p).kind, .string (bs (nf p).tag), v1], .agg #[.int .i64 (nf q).kind, .string (bs (nf q).tag), v2], .slice a n c] w fun e w' => e = .returned (.bool (alike p q (eo l))) ∧ Below w.heap.size w w' := by
  obtain ⟨va, vc, rfl⟩ := hv1.slice
  obtain ⟨ua, uc, rfl⟩ := hv2.slice
  obtain ⟨W0, hW0⟩ : ∃ W0, W0 = (w.alloc (.cells #[.int .i64 (nf p).kind, .string (bs (nf p).tag), .slice va (nf p).kids.length vc] 31)).alloc (.cells #[.int .i64 (nf q).kind, .string (bs (nf q).tag), .slice ua (nf q).kids.length uc] 31) := ⟨_, rfl⟩
  have hb0 : Below w.heap.size w W0 := by rw [hW0]; exact below_alloc2 _ _ _
  have hz0 := hb0.size
  have hk1 : W0.heap[w.heap.size]? = some (.cells #[.int .i64 (nf p).kind, .string (bs (nf p).tag), .slice va (nf p).kids.length vc] 31 (0, 0)) := by rw [hW0]; exact heap_old _ _ (heap_new _ _)
  have hk2 : W0.heap[w.heap.size + 1]? = some (.cells #[.int .i64 (nf q).kind, .string (bs (nf q).tag), .slice ua (nf q).kids.length uc] 31 (0, 0)) := by
    rw [hW0]
    have := heap_new (w.alloc (.cells #[.int .i64 (nf p).kind, .string (bs (nf p).tag), .slice va (nf p).kids.length vc] 31)) (.cells #[.int .i64 (nf q).kind, .string (bs (nf q).tag), .slice ua (nf q).kids.length uc] 31)
    simpa using this
  have HB0 : Hid (Below w.heap.size w W0) := hb0
  have HV1 : Hid (SlV Q1 W0 (.slice va (nf p).kids.length vc) (nf p).kids) := hv1.kept hb0
  have HV2 : Hid (SlV Q2 W0 (.slice ua (nf q).kids.length uc) (nf q).kids) := hv2.kept hb0
  have HK1 : Hid (W0.heap[w.heap.size]? = some (.cells #[.int .i64 (nf p).kind, .string (bs (nf p).tag), .slice va (nf p).kids.length vc] 31 (0, 0))) := hk1
  have HK2 : Hid (W0.heap[w.heap.size + 1]? = some (.cells #[.int .i64 (nf q).kind, .string (bs (nf q).tag), .slice ua (nf q).kids.length uc] 31 (0, 0))) := hk2
  have h1 := rsorted_any (hT.whole hb0) hn
  have hle : (eo l).length ≤ n := by rw [hT.len]; exact eo_le l
  have HLE : Hid ((eo l).length ≤ 8796093021952) := Nat.le_trans hle hn
  clear hv1 hv2 hT hn hb0 hk1 hk2 hle
  have hid := eo_idem l
  generalize eo l = T at *
  have HID : Hid (eo T = T) := hid
  clear hid
  subst hW0
  by_cases h10 : T.length ≤ 10
  · have k10 : ¬ (10 : Int) < (T.length : Int) := by omega
    obtain ⟨L, hL⟩ : ∃ L, L = fst T (2 ^ T.length) := ⟨_, rfl⟩
    obtain ⟨R, hR⟩ : ∃ R, R = L.all fun s => p.holds s == q.holds s := ⟨_, rfl⟩
    have HAL : Hid (alike p q T = R) := by show _ = _; unfold alike; rw [decide_eq_true h10, hR, hL]; rfl
    have HST : Hid (sets (eo T) = L) := by show _ = _; rw [HID.out, hL]; unfold sets; rw [if_pos h10]
    have HRL : Hid (R = L.all fun s => p.holds s == q.holds s) := hR
    rw [HAL.out]
    clear hL hR
    go_enter Tryz.func9, Tryz.ntmps9
    go_wp2_with fail
    generalize (w.alloc (.cells #[.int .i64 (nf p).kind, .string (bs (nf p).tag), .slice va (nf p).kids.length vc] 31)).alloc (.cells #[.int .i64 (nf q).kind, .string (bs (nf q).tag), .slice ua (nf q).kids.length uc] 31) = W0 at *
    go_wp2_with (first
      | (go_at_call 20; refine h1.mono ?_; intro e w1 hq; obtain ⟨a1, c1, rfl, hr1⟩ := hq.ex; have HB1 : Hid (Below W0.heap.size W0 w1) := hq.bl; have hz1 := hq.bl.size; have h2 := rsets_any hr1.txv HLE.out; rw [HST.out] at h2; clear hq hr1 h1)
      | (go_at_call 21; refine h2.mono ?_; intro e w2 hq; obtain ⟨a2, c2, rfl, hr2⟩ := hq.ex; have HB2 : Hid (Below W0.heap.size W0 w2) := HB1.out.trans (hq.bl.mono hz1); have HR2 : Hid (Rw2 w2 w1.heap.size (.slice a2 L.length c2) L) := hr2; clear hq hr2 h2))
    clear HST HAL h10 k10
    have hLs := HR2.out.small
    have hz2 := HB2.out.size
    go_loopg [9] L.length (fun g u9 wr => ∃ i : Nat, i ≤ L.length ∧ L.length - i ≤ g ∧ u9 = .int .i64 i ∧ Hid (Below w2.heap.size w2 wr ∧ ∀ j (_ : j < i) (h : j < L.length), p.holds L[j] = q.holds L[j]))
    case atStart => exact ⟨0, Nat.zero_le _, Nat.le_refl _, rfl, Below.refl _ _, fun j hj => by omega⟩
    case round =>
      obtain ⟨i, hi, hg, rfl, HX⟩ := hrel
      by_cases hlt : i < L.length
      · have z1 : (i : Int) < (L.length : Int) := by omega
        have z0 : (0 : Int) ≤ (i : Int) := by omega
        have hbr : Below W0.heap.size W0 wr := HB2.out.trans (HX.out.1.mono hz2)
        have HBR : Hid (Below W0.heap.size W0 wr) := hbr
        obtain ⟨g, b, d, rfl, hc, hTT, hsm⟩ := (HR2.out.whole HX.out.1).at hlt
        have H1 : Hid (∀ W, Below wr.heap.size wr W → Calls Tryz.prog 22 #[.agg #[.int .i64 (nf p).kind, .string (bs (nf p).tag), .slice va (nf p).kids.length vc], .slice b (L[i]).length d] W fun e w' => e = .returned (.bool (p.holds L[i])) ∧ Below W.heap.size W w') := fun W h => by
          have := rholds_any Q1 b (L[i]).length d L[i] hsm (nf p) (nf_wf p) W _ (HV1.out.kept (HBR.out.trans (h.mono HBR.out.size))) (hTT.whole h)
          rwa [nf_hold] at this
        have H2 : Hid (∀ W, Below wr.heap.size wr W → Calls Tryz.prog 22 #[.agg #[.int .i64 (nf q).kind, .string (bs (nf q).tag), .slice ua (nf q).kids.length uc], .slice b (L[i]).length d] W fun e w' => e = .returned (.bool (q.holds L[i])) ∧ Below W.heap.size W w') := fun W h => by
          have := rholds_any Q2 b (L[i]).length d L[i] hsm (nf q) (nf_wf q) W _ (HV2.out.kept (HBR.out.trans (h.mono HBR.out.size))) (hTT.whole h)
          rwa [nf_hold] at this
        obtain ⟨k0, k1, k2, _, _, _⟩ := bx3 (blk_kept hbr HK1.out)
        obtain ⟨j0, j1, j2, _, _, _⟩ := bx3 (blk_kept hbr HK2.out)
        have HKP : Hid (∀ W, Below wr.heap.size wr W → (W.cell? ⟨w.heap.size, 0, none⟩ = some (.int .i64 (nf p).kind) ∧ W.cell? ⟨w.heap.size, 1, none⟩ = some (.string (bs (nf p).tag)) ∧ W.cell? ⟨w.heap.size, 2, none⟩ = some (.slice va (nf p).kids.length vc)) ∧ (W.cell? ⟨w.heap.size + 1, 0, none⟩ = some (.int .i64 (nf q).kind) ∧ W.cell? ⟨w.heap.size + 1, 1, none⟩ = some (.string (bs (nf q).tag)) ∧ W.cell? ⟨w.heap.size + 1, 2, none⟩ = some (.slice ua (nf q).kids.length uc)) ∧ W.cell? ⟨g, i, none⟩ = some (.slice b (L[i]).length d)) := fun W h => ⟨⟨kept_cell h k0, kept_cell h k1, kept_cell h k2⟩, ⟨kept_cell h j0, kept_cell h j1, kept_cell h j2⟩, kept_cell h hc⟩
        have HEQ : Hid (∀ (P Q : Bool), p.holds L[i] = P → q.holds L[i] = Q → P ≠ Q → R = false) := fun P Q e1 e2 h3 => by
          rw [HRL.out]
          rw [Bool.eq_false_iff]
          intro h4
          have := (all_len _ _).1 h4 i hlt
          rw [e1, e2] at this
          exact h3 (by simpa using this)
        have HEX : Hid (p.holds L[i] = q.holds L[i] → ∀ j (_ : j < i + 1) (h : j < L.length), p.holds L[j] = q.holds L[j]) := fun e j hj h => by
          rcases Nat.lt_or_ge j i with h2 | h2
          · exact HX.out.2 j h2 h
          · have : j = i := by omega
            subst this; exact e
        have HXB : Hid (Below w2.heap.size w2 wr) := HX.out.1
        clear hbr hc hTT hsm k0 k1 k2 j0 j1 j2 HX
        obtain ⟨P, hP⟩ : ∃ P, p.holds L[i] = P := ⟨_, rfl⟩
        obtain ⟨Q, hQ⟩ : ∃ Q, q.holds L[i] = Q := ⟨_, rfl⟩
        have HNE : Hid (P ≠ Q → R = false) := HEQ.out P Q hP hQ
        rw [hP] at H1 HEX
        rw [hQ] at H2 HEX
        generalize L[i] = s at *
        generalize (nf p).kind = kp at *
        generalize (nf q).kind = kq at *
        generalize (nf p).kids.length = np at *
        generalize (nf q).kids.length = nq' at *
        generalize bs (nf p).tag = tp at *
        generalize bs (nf q).tag = tq at *
        clear hP hQ HEQ
        have kS := HKP.out wr (Below.refl _ _)
        cases P <;> cases Q
        all_goals
          go_wp2_with fail
          go_region_held3 (fun W => (W.cell? ⟨w.heap.size, 0, none⟩ = some (.int .i64 kp) ∧ W.cell? ⟨w.heap.size, 1, none⟩ = some (.string tp) ∧ W.cell? ⟨w.heap.size, 2, none⟩ = some (.slice va np vc)) ∧ (W.cell? ⟨w.heap.size + 1, 0, none⟩ = some (.int .i64 kq) ∧ W.cell? ⟨w.heap.size + 1, 1, none⟩ = some (.string tq) ∧ W.cell? ⟨w.heap.size + 1, 2, none⟩ = some (.slice ua nq' uc)) ∧ W.cell? ⟨g, i, none⟩ = some (.slice b s.length d))
            (first | exact kS | go_keep)
            (first
              | (go_at_call 22; refine (H1.out _ (below_drew1 _)).mono ?_; rintro e w3 ⟨rfl, hb3⟩; have HB3 : Hid (Below wr.heap.size wr w3) := (below_drew1 _).trans hb3; have kS := HKP.out w3 HB3.out; have hz3 := HB3.out.size; clear hb3 H1)
              | (go_at_call 22; refine (H2.out _ HB3.out).mono ?_; rintro e w4 ⟨rfl, hb4⟩; have HB4 : Hid (Below wr.heap.size wr w4) := HB3.out.trans (hb4.mono hz3); have kS := HKP.out w4 HB4.out; clear hb4 H2))
        · go_wp2_with fail
          go_roundg (L.length - (i + 1))
          case measure => omega
          case rel => exact ⟨i + 1, by omega, Nat.le_refl _, by go_num, HXB.out.trans (HB4.out.mono HXB.out.size), HEX.out (by first | trivial | rfl)⟩
        · go_wp2_with fail
          go_ret
          exact ⟨by rw [HNE.out (by simp)]; rfl, HB0.out.trans ((HB2.out.trans ((HXB.out.trans (HB4.out.mono HXB.out.size)).mono hz2)).mono hz0)⟩
        · go_wp2_with fail
          go_ret
          exact ⟨by rw [HNE.out (by simp)]; rfl, HB0.out.trans ((HB2.out.trans ((HXB.out.trans (HB4.out.mono HXB.out.size)).mono hz2)).mono hz0)⟩
        · go_wp2_with fail
          go_roundg (L.length - (i + 1))
          case measure => omega
          case rel => exact ⟨i + 1, by omega, Nat.le_refl _, by go_num, HXB.out.trans (HB4.out.mono HXB.out.size), HEX.out (by first | trivial | rfl)⟩
      · have z1 : ¬ (i : Int) < (L.length : Int) := by omega
        go_wp2_with fail
        go_ret
        refine ⟨ret_bool ?_, HB0.out.trans ((HB2.out.trans (HX.out.1.mono hz2)).mono hz0)⟩
        symm
        rw [HRL.out]
        exact (all_len _ _).2 fun j hj => by rw [HX.out.2 j (by omega) hj]; simp
  · have k10 : (10 : Int) < (T.length : Int) := by omega
    have HAL : Hid (alike p q T = false) := by show _ = _; unfold alike; rw [decide_eq_false h10]; rfl
    rw [HAL.out]
    go_enter Tryz.func9, Tryz.ntmps9
    go_wp2_with fail
    generalize (w.alloc (.cells #[.int .i64 (nf p).kind, .string (bs (nf p).tag), .slice va (nf p).kids.length vc] 31)).alloc (.cells #[.int .i64 (nf q).kind, .string (bs (nf q).tag), .slice ua (nf q).kids.length uc] 31) = W0 at *
    go_wp2_with (go_at_call 20; refine h1.mono ?_; intro e w1 hq; obtain ⟨a1, c1, rfl, hr1⟩ := hq.ex; have HB1 : Hid (Below W0.heap.size W0 w1) := hq.bl; clear hq hr1 h1)
    go_ret
    exact ⟨rfl, HB0.out.trans (HB1.out.mono hz0)⟩
end Go.Proofs.YtleiohccaagalaaGreat
