/-
  The document's Text, walked.
-/
import Derived.Test.YtleiohccaagalaaRfh
namespace Go.Proofs.Ytleiohccaagalaa
open Go.RowKit
attribute [local go_sem ↓] Go.wp_at_zero Go.wp_at_succ
theorem rbk_le (b : Bool) (s : Bs) : s.length ≤ (rbk b s).length ∧ (rbk b s).length ≤ s.length + 2 := by unfold rbk; split <;> simp <;> omega
theorem txtL_len (k : Nat) : ∀ (ks : List Rl) (f : Bool), ∀ x ∈ ks, x.txt.length ≤ (txtL k f ks).length := by
  intro ks
  induction ks with
  | nil => intro f x hx; cases hx
  | cons y r ih =>
    intro f x hx
    simp only [txtL, List.length_append]
    rcases List.mem_cons.1 hx with rfl | hx
    · have := (rbk_le (k == 3 && x.kind == 4) x.txt).1; omega
    · have := ih false x hx; omega
theorem txtL_drop (k : Nat) (ks : List Rl) (i : Nat) (hi : i < ks.length) (f : Bool) : txtL k f (ks.drop i) = (if f then [] else if k = 3 then [32, 38, 38, 32] else [32, 124, 124, 32]) ++ rbk (k == 3 && (ks[i]).kind == 4) (ks[i]).txt ++ txtL k false (ks.drop (i + 1)) := by
  rw [List.drop_eq_getElem_cons hi]; simp only [txtL]
set_option maxRecDepth 100000 in
set_option maxHeartbeats 8000000 in
theorem rtext_any (Q : BP) : ∀ x : Rl, Wf x → x.txt.length ≤ 1000000 → ∀ (w : World) (v : Value), SlV Q w v x.kids → Calls Try.prog 15 #[.agg #[.int .i64 x.kind, .string (bs x.tag), v]] w fun e w' => e = .returned (.string (bs x.txt)) ∧ Below w.heap.size w w' := by
  refine Rl.ind fun k t ks ih hwf htl w v hv => ?_
  simp only [Rl.kind, Rl.tag, Rl.kids] at hv ⊢
  have hwf2 : (k = 2 → ks ≠ []) ∧ ∀ x ∈ ks, Wf x := by cases hwf with | mk _ _ _ h1 h2 => exact ⟨h1, h2⟩
  have HNE : Hid (k = 2 → ks ≠ []) := hwf2.1
  have HI : Hid (∀ x ∈ ks, x.txt.length ≤ 1000000 → ∀ (w : World) (v : Value), SlV Q w v x.kids → Calls Try.prog 15 #[.agg #[.int .i64 x.kind, .string (bs x.tag), v]] w fun e w' => e = .returned (.string (bs x.txt)) ∧ Below w.heap.size w w') := fun x hx hl => ih x hx (hwf2.2 x hx) hl
  clear ih hwf hwf2
  obtain ⟨va, vc, rfl⟩ := hv.slice
  obtain ⟨W0, hW0⟩ : ∃ W0, W0 = w.alloc (.cells #[.int .i64 k, .string (bs t), .slice va ks.length vc] 29) := ⟨_, rfl⟩
  have hb0 : Below w.heap.size w W0 := by rw [hW0]; exact (Below.refl _ w).alloc (Nat.le_refl _) _
  have HB0 : Hid (Below w.heap.size w W0) := hb0
  have hz0 : w.heap.size ≤ W0.heap.size := hb0.size
  obtain ⟨a0, c0, e0, hlen, hel⟩ := (hv.kept hb0).open
  obtain ⟨rfl, rfl⟩ : va = a0 ∧ vc = c0 := by simpa using e0
  have HEL : Hid (∀ i (hi : i < ks.length), ∃ b o, va = some ⟨b, o, none⟩ ∧ (∃ ob, W0.heap[b]? = some ob ∧ Q b o ob) ∧ (ks[i]).lies Q W0 b (o + i * 3)) := hel
  have HKK : Hid (W0.cell? ⟨w.heap.size, 0, none⟩ = some (.int .i64 k) ∧ W0.cell? ⟨w.heap.size, 1, none⟩ = some (.string (bs t)) ∧ W0.cell? ⟨w.heap.size, 2, none⟩ = some (.slice va ks.length vc)) := by
    obtain ⟨k0, k1, k2, _, _, _⟩ := bx3 (by rw [hW0]; exact heap_new w _ : W0.heap[w.heap.size]? = some (.cells #[.int .i64 k, .string (bs t), .slice va ks.length vc] 29 (0, 0)))
    exact ⟨k0, k1, k2⟩
  clear hv hb0 e0 hel
  subst hW0
  by_cases h0 : k = 0
  · subst h0
    rw [show Rl.txt (.mk 0 t ks) = [116, 114, 117, 101] by simp [Rl.txt]]
    go_enter Try.func15, Try.ntmps15
    go_wp2_with fail
    go_ret
    exact ⟨rfl, HB0.out⟩
  by_cases h1 : k = 1
  · subst h1
    rw [show Rl.txt (.mk 1 t ks) = t by simp [Rl.txt]]
    go_enter Try.func15, Try.ntmps15
    go_wp2_with fail
    go_ret
    exact ⟨rfl, HB0.out⟩
  by_cases h2 : k = 2
  · subst h2
    cases ks with
    | nil => exact absurd rfl (HNE.out rfl)
    | cons x r =>
      have htx : Rl.txt (.mk 2 t (x :: r)) = 33 :: rbk (x.kind == 3 || x.kind == 4) x.txt := by simp [Rl.txt, txtH]
      rw [htx] at htl ⊢
      have hxl : x.txt.length ≤ 1000000 := by have := (rbk_le (x.kind == 3 || x.kind == 4) x.txt).1; simp at htl; omega
      have z0 : (0 : Int) < ((x :: r).length : Int) := by simp
      obtain ⟨b, o, rfl, _, hli⟩ := HEL.out 0 (by simp)
      rw [Nat.zero_mul, Nat.add_zero] at hli
      obtain ⟨e0, e1, vi, e2, hvi⟩ := lies_iff.1 hli
      obtain ⟨ai, ci, rfl⟩ := hvi.slice
      have hc := HI.out x (by simp) hxl _ _ hvi
      simp only [List.getElem_cons_zero] at e0 e1 e2
      simp only [show ((2 : Nat) : Int) = 2 from rfl] at e0 e1 e2
      have hX : (bs x.txt).size ≤ 1000000 := by rw [bs_size]; exact hxl
      have HY1 : Hid ((⟨#[33, 40]⟩ : ByteArray) ++ bs x.txt ++ ⟨#[41]⟩ = bs (33 :: rbk true x.txt)) := by
        show _ = _
        rw [show (⟨#[33, 40]⟩ : ByteArray) = bs [33, 40] from rfl, show (⟨#[41]⟩ : ByteArray) = bs [41] from rfl, bs_app, bs_app]; rfl
      have HY2 : Hid ((⟨#[33]⟩ : ByteArray) ++ bs x.txt = bs (33 :: rbk false x.txt)) := by
        show _ = _
        rw [show (⟨#[33]⟩ : ByteArray) = bs [33] from rfl, bs_app]; rfl
      clear hli hvi HEL HNE HI HKK htx htl hxl
      by_cases hk3 : x.kind = 3
      · have q3 : ((x.kind : Int) == 3) = true := nat_beq (b := 3) hk3
        rw [show (x.kind == 3 || x.kind == 4) = true by simp [hk3], ← HY1.out]
        clear HY1 HY2 hk3
        generalize bs x.txt = X at *
        generalize x.kind = ki at *
        generalize (x :: r).length = LL at *
        go_enter Try.func15, Try.ntmps15
        go_wp2_with (go_at_call 15; refine hc.mono ?_; rintro e w1 ⟨rfl, hb1⟩; have HB1 : Hid _ := hb1; clear hb1 hc)
        go_ret
        exact ⟨rfl, HB0.out.trans (HB1.out.mono hz0)⟩
      · have q3 : ((x.kind : Int) == 3) = false := nat_bne (b := 3) hk3
        by_cases hk4 : x.kind = 4
        · have q4 : ((x.kind : Int) == 4) = true := nat_beq (b := 4) hk4
          rw [show (x.kind == 3 || x.kind == 4) = true by simp [hk4], ← HY1.out]
          clear HY1 HY2 hk3 hk4
          generalize bs x.txt = X at *
          generalize x.kind = ki at *
          generalize (x :: r).length = LL at *
          go_enter Try.func15, Try.ntmps15
          go_wp2_with (go_at_call 15; refine hc.mono ?_; rintro e w1 ⟨rfl, hb1⟩; have HB1 : Hid _ := hb1; clear hb1 hc)
          go_ret
          exact ⟨rfl, HB0.out.trans (HB1.out.mono hz0)⟩
        · have q4 : ((x.kind : Int) == 4) = false := nat_bne (b := 4) hk4
          rw [show (x.kind == 3 || x.kind == 4) = false by simp [hk3, hk4], ← HY2.out]
          clear HY1 HY2 hk3 hk4
          generalize bs x.txt = X at *
          generalize x.kind = ki at *
          generalize (x :: r).length = LL at *
          go_enter Try.func15, Try.ntmps15
          go_wp2_with (go_at_call 15; refine hc.mono ?_; rintro e w1 ⟨rfl, hb1⟩; have HB1 : Hid _ := hb1; clear hb1 hc)
          go_ret
          exact ⟨rfl, HB0.out.trans (HB1.out.mono hz0)⟩
  have q0 : ((k : Int) == 0) = false := nat_bne (b := 0) h0
  have q1 : ((k : Int) == 1) = false := nat_bne (b := 1) h1
  have q2 : ((k : Int) == 2) = false := nat_bne (b := 2) h2
  have htx : Rl.txt (.mk k t ks) = txtL k true ks := by simp [Rl.txt, h0, h1, h2]
  rw [htx] at htl ⊢
  have HTL : Hid ((txtL k true ks).length ≤ 1000000) := htl
  have HXL : Hid (∀ x ∈ ks, x.txt.length ≤ 1000000) := fun x hx => Nat.le_trans (txtL_len k ks true x hx) htl
  have HK3 : Hid (((k : Int) == 3) = decide (k = 3)) := by
    by_cases h3 : k = 3
    · rw [decide_eq_true h3]; exact nat_beq (b := 3) h3
    · rw [decide_eq_false h3]; exact nat_bne (b := 3) h3
  clear HNE htx htl h0 h1 h2
  go_enter Try.func15, Try.ntmps15
  go_wp2_with fail
  generalize w.alloc (.cells #[.int .i64 k, .string (bs t), .slice va ks.length vc] 29) = W0 at *
  generalize hTX : txtL k true ks = TX at *
  go_loopg [3, 4] ks.length (fun g u3 u4 wr => ∃ (i : Nat) (PS : ByteArray), i ≤ ks.length ∧ ks.length - i ≤ g ∧ u4 = .int .i64 i ∧ u3 = .string PS ∧ Hid (Below W0.heap.size W0 wr ∧ ∃ P, PS = bs P ∧ P ++ txtL k (decide (i = 0)) (ks.drop i) = TX))
  case atStart => exact ⟨0, ByteArray.empty, Nat.zero_le _, Nat.le_refl _, rfl, rfl, Below.refl _ _, [], rfl, by rw [← hTX]; rfl⟩
  case round =>
    obtain ⟨i, PS, hi, hg, rfl, rfl, HX⟩ := hrel
    have x0 := kept_cell HX.out.1 HKK.out.1
    have x1 := kept_cell HX.out.1 HKK.out.2.1
    have x2 := kept_cell HX.out.1 HKK.out.2.2
    obtain ⟨P, hP, hPT⟩ := HX.out.2
    by_cases hlt : i < ks.length
    · have z1 : (i : Int) < (ks.length : Int) := by omega
      have z0 : (0 : Int) ≤ (i : Int) := by omega
      obtain ⟨b, o, rfl, _, hli⟩ := HEL.out i hlt
      obtain ⟨e0, e1, vi, e2, hvi⟩ := lies_iff.1 hli
      obtain ⟨ai, ci, rfl⟩ := hvi.slice
      have e0 := kept_cell HX.out.1 e0
      have e1 := kept_cell HX.out.1 e1
      have e2 := kept_cell HX.out.1 e2
      have hxl := HXL.out ks[i] (List.getElem_mem _)
      have hc := HI.out ks[i] (List.getElem_mem _) hxl wr _ (hvi.kept HX.out.1)
      rw [txtL_drop k ks i hlt] at hPT
      have hPL : P.length ≤ 1000000 := by have := HTL.out; rw [← hPT] at this; simp only [List.length_append] at this; omega
      have hps : PS.size ≤ 1000000 := by rw [hP, bs_size]; exact hPL
      have hX : (bs (ks[i]).txt).size ≤ 1000000 := by rw [bs_size]; exact hxl
      have HPT : Hid (P ++ ((if (decide (i = 0)) = true then [] else if k = 3 then [32, 38, 38, 32] else [32, 124, 124, 32]) ++ rbk (k == 3 && (ks[i]).kind == 4) (ks[i]).txt ++ txtL k false (ks.drop (i + 1))) = TX) := hPT
      have HP : Hid (PS = bs P) := hP
      have HXX : Hid (Below W0.heap.size W0 wr) := HX.out.1
      have HK4 : Hid ((((ks[i]).kind : Int) == 4) = decide ((ks[i]).kind = 4)) := by
        by_cases h3 : (ks[i]).kind = 4
        · rw [decide_eq_true h3]; exact nat_beq (b := 4) h3
        · rw [decide_eq_false h3]; exact nat_bne (b := 4) h3
      clear hli hvi hP hPT hPL hxl HX
      generalize (ks[i]).txt = xt at *
      generalize (ks[i]).kind = ki at *
      generalize (ks[i]).tag = ti at *
      generalize (ks[i]).kids.length = li at *
      by_cases h3 : k = 3
      · have q3 : ((k : Int) == 3) = true := by rw [HK3.out, decide_eq_true h3]
        by_cases h4 : ki = 4
        · have q4 : ((ki : Int) == 4) = true := by rw [HK4.out, decide_eq_true h4]
          by_cases hi0 : i = 0
          · have zi : ¬ (0 : Int) < (i : Int) := by omega
            have HN : Hid (PS ++ (⟨#[40]⟩ ++ bs xt ++ ⟨#[41]⟩) = bs (P ++ (40 :: (xt ++ [41])))) := by
              show _ = _
              rw [HP.out, show (⟨#[40]⟩ : ByteArray) = bs [40] from rfl, show (⟨#[41]⟩ : ByteArray) = bs [41] from rfl, bs_app, bs_app, bs_app]; rfl
            have HQ : Hid ((P ++ (40 :: (xt ++ [41]))) ++ txtL k (decide (i + 1 = 0)) (ks.drop (i + 1)) = TX) := by
              show _ = _
              rw [← HPT.out, show decide (i + 1 = 0) = false from decide_eq_false (by omega)]
              simp [rbk, h3, h4, hi0]
            clear HPT HP HK3 HK4 h3 h4 hi0
            generalize bs xt = X at *
            go_wp2_with (go_at_call 15; refine hc.mono ?_; rintro e w1 ⟨rfl, hb1⟩; have HB1 : Hid (Below W0.heap.size W0 w1) := HXX.out.trans (hb1.mono HXX.out.size); have y0 := kept_cell HB1.out HKK.out.1; have y1 := kept_cell HB1.out HKK.out.2.1; have y2 := kept_cell HB1.out HKK.out.2.2; have d0 := kept_cell hb1 e0; clear hb1 hc)
            go_roundg (ks.length - (i + 1))
            case measure => omega
            case rel => exact ⟨i + 1, _, by omega, Nat.le_refl _, by go_num, rfl, HB1.out, _, HN.out, HQ.out⟩
          · have zi : (0 : Int) < (i : Int) := by omega
            have HN : Hid ((PS ++ ⟨#[32, 38, 38, 32]⟩) ++ (⟨#[40]⟩ ++ bs xt ++ ⟨#[41]⟩) = bs ((P ++ [32, 38, 38, 32]) ++ (40 :: (xt ++ [41])))) := by
              show _ = _
              rw [HP.out, show (⟨#[32, 38, 38, 32]⟩ : ByteArray) = bs [32, 38, 38, 32] from rfl, bs_app, show (⟨#[40]⟩ : ByteArray) = bs [40] from rfl, show (⟨#[41]⟩ : ByteArray) = bs [41] from rfl, bs_app, bs_app, bs_app]; rfl
            have HQ : Hid (((P ++ [32, 38, 38, 32]) ++ (40 :: (xt ++ [41]))) ++ txtL k (decide (i + 1 = 0)) (ks.drop (i + 1)) = TX) := by
              show _ = _
              rw [← HPT.out, show decide (i + 1 = 0) = false from decide_eq_false (by omega)]
              simp [rbk, h3, h4, hi0]
            clear HPT HP HK3 HK4 h3 h4 hi0
            generalize bs xt = X at *
            go_wp2_with (go_at_call 15; refine hc.mono ?_; rintro e w1 ⟨rfl, hb1⟩; have HB1 : Hid (Below W0.heap.size W0 w1) := HXX.out.trans (hb1.mono HXX.out.size); have y0 := kept_cell HB1.out HKK.out.1; have y1 := kept_cell HB1.out HKK.out.2.1; have y2 := kept_cell HB1.out HKK.out.2.2; have d0 := kept_cell hb1 e0; clear hb1 hc)
            go_roundg (ks.length - (i + 1))
            case measure => omega
            case rel => exact ⟨i + 1, _, by omega, Nat.le_refl _, by go_num, rfl, HB1.out, _, HN.out, HQ.out⟩
        · have q4 : ((ki : Int) == 4) = false := by rw [HK4.out, decide_eq_false h4]
          by_cases hi0 : i = 0
          · have zi : ¬ (0 : Int) < (i : Int) := by omega
            have HN : Hid (PS ++ bs xt = bs (P ++ xt)) := by
              show _ = _
              rw [HP.out, bs_app]
            have HQ : Hid ((P ++ xt) ++ txtL k (decide (i + 1 = 0)) (ks.drop (i + 1)) = TX) := by
              show _ = _
              rw [← HPT.out, show decide (i + 1 = 0) = false from decide_eq_false (by omega)]
              simp [rbk, h3, h4, hi0]
            clear HPT HP HK3 HK4 h3 h4 hi0
            generalize bs xt = X at *
            go_wp2_with (go_at_call 15; refine hc.mono ?_; rintro e w1 ⟨rfl, hb1⟩; have HB1 : Hid (Below W0.heap.size W0 w1) := HXX.out.trans (hb1.mono HXX.out.size); have y0 := kept_cell HB1.out HKK.out.1; have y1 := kept_cell HB1.out HKK.out.2.1; have y2 := kept_cell HB1.out HKK.out.2.2; have d0 := kept_cell hb1 e0; clear hb1 hc)
            go_roundg (ks.length - (i + 1))
            case measure => omega
            case rel => exact ⟨i + 1, _, by omega, Nat.le_refl _, by go_num, rfl, HB1.out, _, HN.out, HQ.out⟩
          · have zi : (0 : Int) < (i : Int) := by omega
            have HN : Hid ((PS ++ ⟨#[32, 38, 38, 32]⟩) ++ bs xt = bs ((P ++ [32, 38, 38, 32]) ++ xt)) := by
              show _ = _
              rw [HP.out, show (⟨#[32, 38, 38, 32]⟩ : ByteArray) = bs [32, 38, 38, 32] from rfl, bs_app, bs_app]
            have HQ : Hid (((P ++ [32, 38, 38, 32]) ++ xt) ++ txtL k (decide (i + 1 = 0)) (ks.drop (i + 1)) = TX) := by
              show _ = _
              rw [← HPT.out, show decide (i + 1 = 0) = false from decide_eq_false (by omega)]
              simp [rbk, h3, h4, hi0]
            clear HPT HP HK3 HK4 h3 h4 hi0
            generalize bs xt = X at *
            go_wp2_with (go_at_call 15; refine hc.mono ?_; rintro e w1 ⟨rfl, hb1⟩; have HB1 : Hid (Below W0.heap.size W0 w1) := HXX.out.trans (hb1.mono HXX.out.size); have y0 := kept_cell HB1.out HKK.out.1; have y1 := kept_cell HB1.out HKK.out.2.1; have y2 := kept_cell HB1.out HKK.out.2.2; have d0 := kept_cell hb1 e0; clear hb1 hc)
            go_roundg (ks.length - (i + 1))
            case measure => omega
            case rel => exact ⟨i + 1, _, by omega, Nat.le_refl _, by go_num, rfl, HB1.out, _, HN.out, HQ.out⟩
      · have q3 : ((k : Int) == 3) = false := by rw [HK3.out, decide_eq_false h3]
        by_cases hi0 : i = 0
        · have zi : ¬ (0 : Int) < (i : Int) := by omega
          have HN : Hid (PS ++ bs xt = bs (P ++ xt)) := by
            show _ = _
            rw [HP.out, bs_app]
          have HQ : Hid ((P ++ xt) ++ txtL k (decide (i + 1 = 0)) (ks.drop (i + 1)) = TX) := by
            show _ = _
            rw [← HPT.out, show decide (i + 1 = 0) = false from decide_eq_false (by omega)]
            simp [rbk, h3, hi0]
          clear HPT HP HK3 HK4 h3 hi0
          generalize bs xt = X at *
          go_wp2_with (go_at_call 15; refine hc.mono ?_; rintro e w1 ⟨rfl, hb1⟩; have HB1 : Hid (Below W0.heap.size W0 w1) := HXX.out.trans (hb1.mono HXX.out.size); have y0 := kept_cell HB1.out HKK.out.1; have y1 := kept_cell HB1.out HKK.out.2.1; have y2 := kept_cell HB1.out HKK.out.2.2; have d0 := kept_cell hb1 e0; clear hb1 hc)
          go_roundg (ks.length - (i + 1))
          case measure => omega
          case rel => exact ⟨i + 1, _, by omega, Nat.le_refl _, by go_num, rfl, HB1.out, _, HN.out, HQ.out⟩
        · have zi : (0 : Int) < (i : Int) := by omega
          have HN : Hid ((PS ++ ⟨#[32, 124, 124, 32]⟩) ++ bs xt = bs ((P ++ [32, 124, 124, 32]) ++ xt)) := by
            show _ = _
            rw [HP.out, show (⟨#[32, 124, 124, 32]⟩ : ByteArray) = bs [32, 124, 124, 32] from rfl, bs_app, bs_app]
          have HQ : Hid (((P ++ [32, 124, 124, 32]) ++ xt) ++ txtL k (decide (i + 1 = 0)) (ks.drop (i + 1)) = TX) := by
            show _ = _
            rw [← HPT.out, show decide (i + 1 = 0) = false from decide_eq_false (by omega)]
            simp [rbk, h3, hi0]
          clear HPT HP HK3 HK4 h3 hi0
          generalize bs xt = X at *
          go_wp2_with (go_at_call 15; refine hc.mono ?_; rintro e w1 ⟨rfl, hb1⟩; have HB1 : Hid (Below W0.heap.size W0 w1) := HXX.out.trans (hb1.mono HXX.out.size); have y0 := kept_cell HB1.out HKK.out.1; have y1 := kept_cell HB1.out HKK.out.2.1; have y2 := kept_cell HB1.out HKK.out.2.2; have d0 := kept_cell hb1 e0; clear hb1 hc)
          go_roundg (ks.length - (i + 1))
          case measure => omega
          case rel => exact ⟨i + 1, _, by omega, Nat.le_refl _, by go_num, rfl, HB1.out, _, HN.out, HQ.out⟩
    · have z1 : ¬ (i : Int) < (ks.length : Int) := by omega
      have HR : Hid (PS = bs TX) := by
        show _ = _
        rw [hP, ← hPT, List.drop_of_length_le (by omega)]; simp [txtL]
      have HXX : Hid (Below W0.heap.size W0 wr) := HX.out.1
      clear hP hPT HX
      go_wp2_with fail
      go_ret
      exact ⟨by rw [← HR.out]; rfl, HB0.out.trans (HXX.out.mono hz0)⟩
end Go.Proofs.Ytleiohccaagalaa
