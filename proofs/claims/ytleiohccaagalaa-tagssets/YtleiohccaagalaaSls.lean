/-
  TagsSets, walked.
-/
import Derived.Test.YtleiohccaagalaaRfT
import Derived.Test.YtleiohccaagalaaFew
namespace Go.Proofs.Ytleiohccaagalaa
open Go.RowKit Go.Sort
attribute [local go_sem ↓] Go.wp_at_zero Go.wp_at_succ
set_option maxRecDepth 100000 in
set_option maxHeartbeats 4000000 in
theorem setsLaw_any {w : World} {a : Option Addr} {n c : Nat} {l : List Bs} (hT : TxV w a n c l) (hn : n ≤ 9223372036854775807) (hM : Mx w) : Calls Try.prog 5 #[.slice a n c] w fun e w' => e = .returned (.bool true) ∧ Below w.heap.size w w' := by
  have hf := few_any hT hn
  have HA : Hid (∀ W, Below w.heap.size w W → Calls Try.prog 8 #[] W fun e w' => e = .returned (.bool true) ∧ Below W.heap.size W w') := fun W h => awake_any W (hM.below hM.lt h)
  by_cases h30 : n ≤ 30
  · have k1 : ¬ (30 : Int) < (n : Int) := by omega
    have h1 := Sets_any hT (by omega)
    have HS : Hid (∀ W, Below w.heap.size w W → Calls Try.prog 20 #[.slice a n c] W (SetQ W (sets (eo l)))) := fun W h => rsets_any (hT.whole h) (by omega)
    clear hT hM
    generalize sets (eo l) = L at *
    go_enter Try.func5, Try.ntmps5
    go_wp2_with (go_at_call 16; refine hf.mono ?_; intro e w1 hq; obtain ⟨b, rfl⟩ := hq.ex; obtain rfl := hq.same.symm; clear hq hf; cases b)
    · refine (HA.out _ (Below.refl _ _)).mono ?_
      rintro e w2 ⟨rfl, hb2⟩
      go_wp2_with fail
      go_ret
      exact ⟨rfl, hb2⟩
    · refine h1.mono ?_
      intro e w1 hq
      obtain ⟨a1, c1, rfl, hr1⟩ := hq.ex
      have HB1 : Hid (Below w.heap.size w w1) := hq.bl
      have HR1 : Hid (Rw2 w1 w.heap.size (.slice a1 L.length c1) L) := hr1
      have hz1 := hq.bl.size
      have hLs := hr1.small
      have kL : ((L.length : Int) == (L.length : Int)) = true := by simp
      clear hq hr1 h1
      go_wp2_with (go_at_call 20; refine (HS.out _ HB1.out).mono ?_; intro e w2 hq; obtain ⟨a2, c2, rfl, hr2⟩ := hq.ex; have HB2 : Hid (Below w.heap.size w w2) := HB1.out.trans (hq.bl.mono hz1); have HR2 : Hid (Rw2 w2 w1.heap.size (.slice a2 L.length c2) L) := hr2; have HS2 : Hid (Rw2 w2 w.heap.size (.slice a1 L.length c1) L) := HR1.out.whole hq.bl; have hz2 := HB2.out.size; clear hq hr2)
      go_loopg [5] L.length (fun g u5 wr => ∃ i : Nat, i ≤ L.length ∧ L.length - i ≤ g ∧ u5 = .int .i64 i ∧ Hid (Below w2.heap.size w2 wr))
      case atStart => exact ⟨0, Nat.zero_le _, Nat.le_refl _, rfl, Below.refl _ _⟩
      case round =>
        obtain ⟨i, hi, hg, rfl, HX⟩ := hrel
        have hzr := HX.out.size
        by_cases hlt : i < L.length
        · have z1 : (i : Int) < (L.length : Int) := by omega
          have z0 : (0 : Int) ≤ (i : Int) := by omega
          obtain ⟨g1, b1, d1, rfl, hc1, hT1, hsm⟩ := (HS2.out.whole HX.out).at hlt
          obtain ⟨g2, b2, d2, rfl, hc2, hT2, _⟩ := (HR2.out.whole HX.out).at hlt
          have H1 : Hid (∀ W, Below wr.heap.size wr W → Calls Try.prog 11 #[.slice b1 (L[i]).length d1, .slice b2 (L[i]).length d2] W fun e w' => e = .returned (.bool true) ∧ ∃ q, w' = W.drewN q) := fun W h => by
            have := texts_any (hT1.whole h) (hT2.whole h) hsm
            rwa [decide_eq_true rfl] at this
          clear hT1 hT2 hsm
          generalize L[i] = s at *
          have kS : wr.cell? ⟨g1, i, none⟩ = some (.slice b1 s.length d1) ∧ wr.cell? ⟨g2, i, none⟩ = some (.slice b2 s.length d2) := ⟨hc1, hc2⟩
          go_wp2_with fail
          go_region_held3 (fun w' => w'.cell? ⟨g1, i, none⟩ = some (.slice b1 s.length d1) ∧ w'.cell? ⟨g2, i, none⟩ = some (.slice b2 s.length d2))
            (first | exact kS | go_keep)
            (first
              | (go_at_call 11; refine (H1.out _ (below_drew1 _)).mono ?_; rintro e w6 ⟨rfl, q, hw6⟩; have hb6 : Below wr.heap.size wr w6 := by (rw [hw6]; exact (below_drew1 _).trans (below_draws _ _ _))
                 have kS : w6.cell? ⟨g1, i, none⟩ = some (.slice b1 s.length d1) ∧ w6.cell? ⟨g2, i, none⟩ = some (.slice b2 s.length d2) := ⟨kept_cell hb6 hc1, kept_cell hb6 hc2⟩; have HB6 : Hid (Below wr.heap.size wr w6) := hb6; clear hb6 hw6))
          all_goals
            go_wp2_with fail
            go_roundg (L.length - (i + 1))
            case measure => omega
            case rel => exact ⟨i + 1, by omega, Nat.le_refl _, by go_num, HX.out.trans (HB6.out.mono hzr)⟩
        · have z1 : ¬ (i : Int) < (L.length : Int) := by omega
          have HBr : Hid (Below w.heap.size w wr) := HB2.out.trans (HX.out.mono hz2)
          have hzr := HBr.out.size
          go_wp2_with (go_at_call 8; refine (HA.out _ HBr.out).mono ?_; rintro e w6 ⟨rfl, hb6⟩; have HB6 : Hid (Below w.heap.size w w6) := HBr.out.trans (hb6.mono hzr); clear hb6)
          go_ret
          exact ⟨rfl, HB6.out⟩
  · have k1 : (30 : Int) < (n : Int) := by omega
    clear hT hM
    go_enter Try.func5, Try.ntmps5
    go_wp2_with (go_at_call 16; refine hf.mono ?_; intro e w1 hq; obtain ⟨b, rfl⟩ := hq.ex; obtain rfl := hq.same.symm; clear hq hf; cases b)
    all_goals
      refine (HA.out _ (Below.refl _ _)).mono ?_
      rintro e w2 ⟨rfl, hb2⟩
      go_wp2_with fail
      go_ret
      exact ⟨rfl, hb2⟩
end Go.Proofs.Ytleiohccaagalaa
