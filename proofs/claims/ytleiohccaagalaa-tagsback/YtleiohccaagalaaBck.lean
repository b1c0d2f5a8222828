/-
  TagsBack, walked.
-/
import Derived.Test.YtleiohccaagalaaLaw
import Derived.Test.YtleiohccaagalaaRul2
import Derived.Test.YtleiohccaagalaaPd
namespace Go.Proofs.Ytleiohccaagalaa
open Go.RowKit Go.Sort
attribute [local go_sem ↓] Go.wp_at_zero Go.wp_at_succ
theorem hold_same {p q : Pt} (h : Sim p q) (l : List Bs) : q.holds l = p.holds l := h.holds l
/-- the law's loop over sets -/
structure BkI (W wr : World) : Prop where
  bl : Below W.heap.size W wr
set_option maxRecDepth 100000 in
set_option maxHeartbeats 4000000 in
theorem back_in (S : ByteArray) (w : World) (hS : S.size ≤ 600) (hM : Mx w) {p : Pt} (hp : readR S.data.toList = some p) : Calls Try.prog 7 #[.string S] w fun e w' => e = .returned (.bool true) ∧ Below w.heap.size w w' := by
  have hrd := rdd_read hp
  rw [bal] at hrd
  obtain ⟨q, hsim, hq⟩ := hrd.back
  have htx := hrd.text_le (by omega)
  have hnm := hrd.names_le
  have h1 := Read_any S w (by omega) hM
  rw [hp] at h1
  have HM : Hid (∀ W, Below w.heap.size w W → Mx W) := fun W h => hM.below hM.lt h
  have HA : Hid (∀ W, Below w.heap.size w W → Calls Try.prog 8 #[] W fun e w' => e = .returned (.bool true) ∧ Below W.heap.size W w') := fun W h => awake_any W (HM.out W h)
  have hT8 : (⟨#[47, 47, 98, 117, 105, 108, 100, 32]⟩ : ByteArray) ++ bs p.text = bs (head8 ++ p.text) := by rw [show (⟨#[47, 47, 98, 117, 105, 108, 100, 32]⟩ : ByteArray) = bs head8 from rfl, bs_app]
  have HXP : Hid (∀ W v, RuleV W v p → Calls Try.prog 14 #[v] W fun e w' => e = .returned (.string (bs p.text)) ∧ Below W.heap.size W w') := fun W v hr => Text_any hr (by omega)
  have HXQ : Hid (∀ W v, RuleV W v q → Calls Try.prog 14 #[v] W fun e w' => e = .returned (.string (bs p.text)) ∧ Below W.heap.size W w') := fun W v hr => by
    have := Text_any hr (by rw [hsim.text]; omega)
    rwa [hsim.text] at this
  have HG : Hid (∀ W v, RuleV W v p → Calls Try.prog 12 #[v] W (EoQ W (eo p.names))) := fun W v hr => Tags_any hr (by omega)
  have HR2 : Hid (∀ W, Below w.heap.size w W → Calls Try.prog 9 #[.string (⟨#[47, 47, 98, 117, 105, 108, 100, 32]⟩ ++ bs p.text)] W (RulQ W (some q))) := fun W h => by
    rw [hT8]
    have := Read_any (bs (head8 ++ p.text)) W (by rw [bs_size, List.length_append]; show 8 + _ ≤ _; omega) (HM.out W h)
    rwa [bs_list, hq] at this
  have HE : Hid ((eo p.names).length ≤ 1000000) := by have := eo_le p.names; show _ ≤ _; omega
  have hz8 : (bs p.text).size ≤ 250000 := by rw [bs_size]; exact htx
  have HSIM : Hid (∀ l, q.holds l = p.holds l) := hsim.holds
  have kS : ¬ (600 : Int) < (S.size : Int) := by omega
  clear hM hp hrd hq htx hT8 hS
  generalize bs p.text = X at *
  go_enter Try.func7, Try.ntmps7
  go_wp2_with (first
    | (go_at_call 9; refine h1.mono ?_; intro e w1 hq; obtain ⟨b1, rfl, hbz, hru⟩ := hq.yes _ rfl; have HB1 : Hid (Below w.heap.size w w1) := hq.bl; have HU1 : Hid (RuleV w1 (.pointer (some ⟨b1, 0, none⟩)) p) := .inr ⟨b1, rfl, hru⟩; have hz1 := hq.bl.size; clear hq h1 hru hbz)
    | (go_at_call 14; refine (HXP.out _ _ HU1.out).mono ?_; rintro e w2 ⟨rfl, hb2⟩; have HB2 : Hid (Below w.heap.size w w2) := HB1.out.trans (hb2.mono hz1); have HU2 : Hid (RuleV w2 (.pointer (some ⟨b1, 0, none⟩)) p) := RuleV.whole HU1.out hb2; have hz2 := HB2.out.size; clear hb2)
    | (go_at_call 9; refine (HR2.out _ HB2.out).mono ?_; intro e w3 hq; obtain ⟨b3, rfl, hbz, hru⟩ := hq.yes _ rfl; have HB3 : Hid (Below w.heap.size w w3) := HB2.out.trans (hq.bl.mono hz2); have HV3 : Hid (RuleV w3 (.pointer (some ⟨b3, 0, none⟩)) q) := .inr ⟨b3, rfl, hru⟩; have HU3 : Hid (RuleV w3 (.pointer (some ⟨b1, 0, none⟩)) p) := RuleV.whole HU2.out hq.bl; have hz3 := HB3.out.size; clear hq hru hbz)
    | (go_at_call 12; refine (HG.out _ _ HU3.out).mono ?_; intro e w4 hq; obtain ⟨a4, c4, rfl, hr4⟩ := hq.ex; have HB4 : Hid (Below w.heap.size w w4) := HB3.out.trans (hq.bl.mono hz3); have HV4 : Hid (RuleV w4 (.pointer (some ⟨b3, 0, none⟩)) q) := RuleV.whole HV3.out hq.bl; have HU4 : Hid (RuleV w4 (.pointer (some ⟨b1, 0, none⟩)) p) := RuleV.whole HU3.out hq.bl; have hz4 := HB4.out.size; have h5 := Sets_any hr4.txv HE.out; clear hq hr4)
    | (go_at_call 19; refine h5.mono ?_; intro e w5 hq; obtain ⟨a5, c5, rfl, hr5⟩ := hq.ex; have HB5 : Hid (Below w.heap.size w w5) := HB4.out.trans (hq.bl.mono hz4); have HV5 : Hid (RuleV w5 (.pointer (some ⟨b3, 0, none⟩)) q) := RuleV.whole HV4.out hq.bl; have HU5 : Hid (RuleV w5 (.pointer (some ⟨b1, 0, none⟩)) p) := RuleV.whole HU4.out hq.bl; have hz5 := HB5.out.size; have HR5 : Hid (Rw2 w5 w4.heap.size (.slice a5 (sets (eo (eo p.names))).length c5) (sets (eo (eo p.names)))) := hr5; clear hq hr5 h5))
  generalize sets (eo (eo p.names)) = L at *
  have hLs := HR5.out.small
  go_loopg [8] L.length (fun g u8 wr => ∃ i : Nat, i ≤ L.length ∧ L.length - i ≤ g ∧ u8 = .int .i64 i ∧ Hid (Below w5.heap.size w5 wr))
  case atStart => exact ⟨0, Nat.zero_le _, Nat.le_refl _, rfl, Below.refl _ _⟩
  case round =>
    obtain ⟨i, hi, hg, rfl, HX⟩ := hrel
    have hzr := HX.out.size
    by_cases hlt : i < L.length
    · have z1 : (i : Int) < (L.length : Int) := by omega
      have z0 : (0 : Int) ≤ (i : Int) := by omega
      obtain ⟨g, b, d, rfl, hc, hT, hsm⟩ := (HR5.out.whole HX.out).at hlt
      have HH : Hid (∀ W v r, Below wr.heap.size wr W → RuleV W v r → Calls Try.prog 17 #[v, .slice b (L[i]).length d] W fun e w' => e = .returned (.bool (r.holds L[i])) ∧ Below W.heap.size W w') := fun W v r h hr => Holds_any hr (hT.whole h) hsm
      have HUr : Hid (RuleV wr (.pointer (some ⟨b1, 0, none⟩)) p) := RuleV.whole HU5.out HX.out
      have HVr : Hid (RuleV wr (.pointer (some ⟨b3, 0, none⟩)) q) := RuleV.whole HV5.out HX.out
      have H1 : Hid (∀ W, Below wr.heap.size wr W → Calls Try.prog 17 #[.pointer (some ⟨b1, 0, none⟩), .slice b (L[i]).length d] W fun e w' => e = .returned (.bool (p.holds L[i])) ∧ Below W.heap.size W w') := fun W h => HH.out W _ p h (RuleV.whole HUr.out h)
      have H2 : Hid (∀ W, Below wr.heap.size wr W → Calls Try.prog 17 #[.pointer (some ⟨b3, 0, none⟩), .slice b (L[i]).length d] W fun e w' => e = .returned (.bool (p.holds L[i])) ∧ Below W.heap.size W w') := fun W h => by
        have := HH.out W _ q h (RuleV.whole HVr.out h)
        rwa [HSIM.out] at this
      clear hT hsm HH HUr HVr
      generalize p.holds L[i] = B at *
      generalize L[i] = l at *
      have kS : wr.cell? ⟨g, i, none⟩ = some (.slice b l.length d) := hc
      go_wp2_with fail
      go_region_held3 (fun w' => w'.cell? ⟨g, i, none⟩ = some (.slice b l.length d))
        (first | exact kS | go_keep)
        (first
          | (go_at_call_of 17 (Value.pointer (some ⟨b1, 0, none⟩)); refine (H1.out _ (below_drew1 _)).mono ?_; rintro e w6 ⟨rfl, hb6'⟩; have hb6 : Below wr.heap.size wr w6 := (below_drew1 _).trans hb6'; have kS : w6.cell? ⟨g, i, none⟩ = some (.slice b l.length d) := kept_cell hb6 hc; have HB6 : Hid (Below wr.heap.size wr w6) := hb6; have hz6 := hb6.size; clear hb6 hb6')
          | (go_at_call_of 17 (Value.pointer (some ⟨b3, 0, none⟩)); refine (H2.out _ HB6.out).mono ?_; rintro e w7 ⟨rfl, hb7'⟩; have hb7 : Below wr.heap.size wr w7 := HB6.out.trans (hb7'.mono hz6); have kS : w7.cell? ⟨g, i, none⟩ = some (.slice b l.length d) := kept_cell hb7 hc; have HB7 : Hid (Below wr.heap.size wr w7) := hb7; clear hb7 hb7'))
      all_goals
        go_wp2_with fail
        go_roundg (L.length - (i + 1))
        case measure => omega
        case rel => exact ⟨i + 1, by omega, Nat.le_refl _, by go_num, HX.out.trans (HB7.out.mono hzr)⟩
    · have z1 : ¬ (i : Int) < (L.length : Int) := by omega
      have HBr : Hid (Below w.heap.size w wr) := HB5.out.trans (HX.out.mono hz5)
      have HUr : Hid (RuleV wr (.pointer (some ⟨b1, 0, none⟩)) p) := RuleV.whole HU5.out HX.out
      have HVr : Hid (RuleV wr (.pointer (some ⟨b3, 0, none⟩)) q) := RuleV.whole HV5.out HX.out
      have hzr := HBr.out.size
      go_wp2_with (go_at_call 14; refine (HXQ.out _ _ HVr.out).mono ?_; rintro e w6 ⟨rfl, hb6⟩; have HB6 : Hid (Below w.heap.size w w6) := HBr.out.trans (hb6.mono hzr); have HU6 : Hid (RuleV w6 (.pointer (some ⟨b1, 0, none⟩)) p) := RuleV.whole HUr.out hb6; have hz6 := HB6.out.size; clear hb6 HXQ)
      refine (HXP.out _ _ HU6.out).mono ?_
      rintro e w7 ⟨rfl, hb7⟩
      have HB7 : Hid (Below w.heap.size w w7) := HB6.out.trans (hb7.mono hz6)
      have hz7 := HB7.out.size
      clear hb7
      have kX : (X.toList == X.toList) = true := by simp
      go_wp2_with fail
      refine (HA.out _ HB7.out).mono ?_
      rintro e w8 ⟨rfl, hb8⟩
      have HB8 : Hid (Below w.heap.size w w8) := HB7.out.trans (hb8.mono hz7)
      clear hb8
      go_wp2_with fail
      go_ret
      exact ⟨rfl, HB8.out⟩
set_option maxRecDepth 100000 in
set_option maxHeartbeats 1000000 in
theorem tback_any (S : ByteArray) (w : World) (hM : Mx w) : Calls Try.prog 7 #[.string S] w fun e w' => e = .returned (.bool true) ∧ Below w.heap.size w w' := by
  have HA : Hid (∀ W, Below w.heap.size w W → Calls Try.prog 8 #[] W fun e w' => e = .returned (.bool true) ∧ Below W.heap.size W w') := fun W h => awake_any W (hM.below hM.lt h)
  by_cases hS : S.size ≤ 600
  · cases hp : readR S.data.toList with
    | some p => exact back_in S w hS hM hp
    | none =>
      have h1 := Read_any S w (by omega) hM
      rw [hp] at h1
      have kS : ¬ (600 : Int) < (S.size : Int) := by omega
      clear hM hp hS
      go_enter Try.func7, Try.ntmps7
      go_wp2_with (first
        | (go_at_call 9; refine h1.mono ?_; intro e w1 hq; obtain rfl := hq.no rfl; have HB1 : Hid (Below w.heap.size w w1) := hq.bl; have hz1 := hq.bl.size; clear hq h1)
        | (go_at_call 8; refine (HA.out _ HB1.out).mono ?_; rintro e w2 ⟨rfl, hb2⟩; have HB2 : Hid (Below w.heap.size w w2) := HB1.out.trans (hb2.mono hz1); clear hb2))
      go_ret
      exact ⟨rfl, HB2.out⟩
  · have kS : (600 : Int) < (S.size : Int) := by omega
    clear hS hM
    go_enter Try.func7, Try.ntmps7
    go_wp2_with (go_at_call 8; refine (HA.out _ (Below.refl _ _)).mono ?_; rintro e w2 ⟨rfl, hb2⟩)
    go_ret
    exact ⟨rfl, hb2⟩
end Go.Proofs.Ytleiohccaagalaa
