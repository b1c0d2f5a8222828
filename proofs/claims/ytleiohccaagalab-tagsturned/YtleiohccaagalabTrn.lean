/-
  TagsTurned, walked.
-/
import Derived.Test.YtleiohccaagalabLaw
import Derived.Test.YtleiohccaagalabPd
namespace Go.Proofs.Ytleiohccaagalab
open Go.RowKit Go.Sort
attribute [local go_sem ↓] Go.wp_at_zero Go.wp_at_succ
theorem lit8 : (⟨#[47, 47, 98, 117, 105, 108, 100, 32]⟩ : ByteArray) = bs head8 := rfl
theorem not_same (B : Bool) : (B == !B) = false := by cases B <;> rfl
/-- the first byte 10, or none -/
theorem nl_or (S : ByteArray) : (∃ i, ∃ h : i < S.size, S[i]'h = 10) ∨ ∀ c ∈ S.data.toList, c ≠ 10 := by
  by_cases h : ∀ c ∈ S.data.toList, c ≠ 10
  · exact .inr h
  · left
    have : ∃ c, c ∈ S.data.toList ∧ c = 10 := by
      apply Classical.byContradiction
      intro hn
      exact h fun c hc e => hn ⟨c, hc, e⟩
    obtain ⟨c, hc, rfl⟩ := this
    obtain ⟨i, hi, e⟩ := List.getElem_of_mem hc
    rw [bal] at hi
    exact ⟨i, hi, e⟩
set_option maxRecDepth 100000 in
set_option maxHeartbeats 4000000 in
theorem turned_in (S : ByteArray) (w : World) (hS : S.size ≤ 150) (hM : Mx w) (hnl : ∀ c ∈ S.data.toList, c ≠ 10) {p : Pt} (hp : lineR S.data.toList = some p) : Calls Try.prog 3 #[.string S] w fun e w' => e = .returned (.bool true) ∧ Below w.heap.size w w' := by
  have hrd := rdd_line hp
  have hnm := hrd.names_le
  obtain ⟨hnot, hwi⟩ := line_not hp (by rw [bal]; omega)
  have hlen := bal S
  have HM : Hid (∀ W, Below w.heap.size w W → Mx W) := fun W h => hM.below hM.lt h
  have HA : Hid (∀ W, Below w.heap.size w W → Calls Try.prog 5 #[] W fun e w' => e = .returned (.bool true) ∧ Below W.heap.size W w') := fun W h => awake_any W (HM.out W h)
  have eS : S = bs S.data.toList := (bs_of S).symm
  have HR1 : Hid (∀ W, Below w.heap.size w W → Calls Try.prog 6 #[.string (⟨#[47, 47, 98, 117, 105, 108, 100, 32]⟩ ++ S)] W (RulQ W (some p))) := fun W h => by
    rw [eS, lit8, bs_app]
    have := Read_any (bs (head8 ++ S.data.toList)) W (by rw [bs_size, List.length_append, hlen]; show 8 + _ ≤ _; omega) (HM.out W h)
    rwa [bs_list, readR_head, (eol_none _ hnl []).2, hp] at this
  have HR2 : Hid (∀ W, Below w.heap.size w W → Calls Try.prog 6 #[.string (⟨#[47, 47, 98, 117, 105, 108, 100, 32, 33, 40]⟩ ++ S ++ ⟨#[41]⟩)] W (RulQ W (some (.not p)))) := fun W h => by
    have e : (⟨#[47, 47, 98, 117, 105, 108, 100, 32, 33, 40]⟩ ++ S ++ ⟨#[41]⟩ : ByteArray) = bs (head8 ++ (33 :: 40 :: (S.data.toList ++ [41]))) := by
      rw [eS, show (⟨#[47, 47, 98, 117, 105, 108, 100, 32, 33, 40]⟩ : ByteArray) = bs (head8 ++ [33, 40]) from rfl, show (⟨#[41]⟩ : ByteArray) = bs [41] from rfl, bs_app, bs_app, bs_list]
      simp
    rw [e]
    have := Read_any (bs (head8 ++ (33 :: 40 :: (S.data.toList ++ [41])))) W (by rw [bs_size]; simp only [List.length_append, List.length_cons, List.length_nil, hlen]; show 8 + _ ≤ _; omega) (HM.out W h)
    rwa [bs_list, readR_head, (eol_none _ (by intro c hc; simp only [List.mem_cons, List.mem_append, List.not_mem_nil, or_false] at hc; rcases hc with rfl | rfl | hc | rfl; decide; decide; exact hnl c hc; decide) []).2, hnot] at this
  have HR3 : Hid (∀ W, Below w.heap.size w W → Calls Try.prog 6 #[.string (⟨#[47, 47, 98, 117, 105, 108, 100, 32, 40]⟩ ++ S ++ ⟨#[41, 10, 120]⟩)] W (RulQ W (some p))) := fun W h => by
    have e : (⟨#[47, 47, 98, 117, 105, 108, 100, 32, 40]⟩ ++ S ++ ⟨#[41, 10, 120]⟩ : ByteArray) = bs (head8 ++ ((40 :: (S.data.toList ++ [41])) ++ 10 :: [120])) := by
      rw [eS, show (⟨#[47, 47, 98, 117, 105, 108, 100, 32, 40]⟩ : ByteArray) = bs (head8 ++ [40]) from rfl, show (⟨#[41, 10, 120]⟩ : ByteArray) = bs [41, 10, 120] from rfl, bs_app, bs_app, bs_list]
      simp
    rw [e]
    have := Read_any (bs (head8 ++ ((40 :: (S.data.toList ++ [41])) ++ 10 :: [120]))) W (by rw [bs_size]; simp only [List.length_append, List.length_cons, List.length_nil, hlen]; show 8 + _ ≤ _; omega) (HM.out W h)
    rwa [bs_list, readR_head, (eol_none _ (by intro c hc; simp only [List.mem_cons, List.mem_append, List.not_mem_nil, or_false] at hc; rcases hc with rfl | hc | rfl; decide; exact hnl c hc; decide) [120]).1, hwi] at this
  have HG : Hid (∀ W v, RuleV W v p → Calls Try.prog 8 #[v] W (EoQ W (eo p.names))) := fun W v hr => Tags_any hr (by omega)
  have HE : Hid ((eo p.names).length ≤ 1000000) := by have := eo_le p.names; show _ ≤ _; omega
  have HNL : Hid (∀ i (h : i < S.size), S[i]'h ≠ 10) := fun i h => hnl _ (by
    have := bget S i h
    exact List.mem_of_getElem? this)
  have kS : ¬ (150 : Int) < (S.size : Int) := by omega
  clear hM hp hrd hnot hwi eS hlen hnl
  go_enter Try.func3, Try.ntmps3
  go_wp2_with fail
  go_loopg [3] S.size (fun g u3 wr => ∃ i : Nat, i ≤ S.size ∧ S.size - i ≤ g ∧ u3 = .int .i64 i ∧ wr = w)
  case atStart => exact ⟨0, Nat.zero_le _, Nat.le_refl _, rfl, rfl⟩
  case round =>
    obtain ⟨i, hi, hg, rfl, hw⟩ := hrel
    obtain rfl := hw.symm
    clear hw
    by_cases hlt : i < S.size
    · have z1 : (i : Int) < (S.size : Int) := by omega
      have z0 : (0 : Int) ≤ (i : Int) := by omega
      have a10 : (((S[i]'hlt).toNat : Int) == 10) = false := u8_not (n := 10) (HNL.out i hlt) (by decide)
      go_wp2_with fail
      go_roundg (S.size - (i + 1))
      case measure => omega
      case rel => exact ⟨i + 1, by omega, Nat.le_refl _, by go_num, rfl⟩
    · have z1 : ¬ (i : Int) < (S.size : Int) := by omega
      go_wp2_with (first
        | (go_at_call 6; refine (HR1.out _ (Below.refl _ _)).mono ?_; intro e w1 hq; obtain ⟨b1, rfl, hbz, hru⟩ := hq.yes _ rfl; have HB1 : Hid (Below w.heap.size w w1) := hq.bl; have HU1 : Hid (RuleV w1 (.pointer (some ⟨b1, 0, none⟩)) p) := .inr ⟨b1, rfl, hru⟩; have hz1 := hq.bl.size; clear hq hru hbz HR1)
        | (go_at_call 6; refine (HR2.out _ HB1.out).mono ?_; intro e w2 hq; obtain ⟨b2, rfl, hbz, hru⟩ := hq.yes _ rfl; have HB2 : Hid (Below w.heap.size w w2) := HB1.out.trans (hq.bl.mono hz1); have HV2 : Hid (RuleV w2 (.pointer (some ⟨b2, 0, none⟩)) (.not p)) := .inr ⟨b2, rfl, hru⟩; have HU2 : Hid (RuleV w2 (.pointer (some ⟨b1, 0, none⟩)) p) := RuleV.whole HU1.out hq.bl; have hz2 := HB2.out.size; clear hq hru hbz HR2)
        | (go_at_call 6; refine (HR3.out _ HB2.out).mono ?_; intro e w3 hq; obtain ⟨b3, rfl, hbz, hru⟩ := hq.yes _ rfl; have HB3 : Hid (Below w.heap.size w w3) := HB2.out.trans (hq.bl.mono hz2); have HX3 : Hid (RuleV w3 (.pointer (some ⟨b3, 0, none⟩)) p) := .inr ⟨b3, rfl, hru⟩; have HV3 : Hid (RuleV w3 (.pointer (some ⟨b2, 0, none⟩)) (.not p)) := RuleV.whole HV2.out hq.bl; have HU3 : Hid (RuleV w3 (.pointer (some ⟨b1, 0, none⟩)) p) := RuleV.whole HU2.out hq.bl; have hz3 := HB3.out.size; clear hq hru hbz HR3)
        | (go_at_call 8; refine (HG.out _ _ HU3.out).mono ?_; intro e w4 hq; obtain ⟨a4, c4, rfl, hr4⟩ := hq.ex; have HB4 : Hid (Below w.heap.size w w4) := HB3.out.trans (hq.bl.mono hz3); have HX4 : Hid (RuleV w4 (.pointer (some ⟨b3, 0, none⟩)) p) := RuleV.whole HX3.out hq.bl; have HV4 : Hid (RuleV w4 (.pointer (some ⟨b2, 0, none⟩)) (.not p)) := RuleV.whole HV3.out hq.bl; have HU4 : Hid (RuleV w4 (.pointer (some ⟨b1, 0, none⟩)) p) := RuleV.whole HU3.out hq.bl; have hz4 := HB4.out.size; have h5 := Sets_any hr4.txv HE.out; clear hq hr4)
        | (go_at_call 7; refine h5.mono ?_; intro e w5 hq; obtain ⟨a5, c5, rfl, hr5⟩ := hq.ex; have HB5 : Hid (Below w.heap.size w w5) := HB4.out.trans (hq.bl.mono hz4); have HX5 : Hid (RuleV w5 (.pointer (some ⟨b3, 0, none⟩)) p) := RuleV.whole HX4.out hq.bl; have HV5 : Hid (RuleV w5 (.pointer (some ⟨b2, 0, none⟩)) (.not p)) := RuleV.whole HV4.out hq.bl; have HU5 : Hid (RuleV w5 (.pointer (some ⟨b1, 0, none⟩)) p) := RuleV.whole HU4.out hq.bl; have hz5 := HB5.out.size; have HR5 : Hid (Rw2 w5 w4.heap.size (.slice a5 (sets (eo (eo p.names))).length c5) (sets (eo (eo p.names)))) := hr5; clear hq hr5 h5))
      generalize sets (eo (eo p.names)) = L at *
      have hLs := HR5.out.small
      go_loopg [11] L.length (fun g u11 wr => ∃ i : Nat, i ≤ L.length ∧ L.length - i ≤ g ∧ u11 = .int .i64 i ∧ Hid (Below w5.heap.size w5 wr))
      case atStart => exact ⟨0, Nat.zero_le _, Nat.le_refl _, rfl, Below.refl _ _⟩
      case round =>
        obtain ⟨j, hj, hgj, rfl, HX⟩ := hrel
        have hzr := HX.out.size
        by_cases hjl : j < L.length
        · have y1 : (j : Int) < (L.length : Int) := by omega
          have y0 : (0 : Int) ≤ (j : Int) := by omega
          obtain ⟨g, b, d, rfl, hc, hT, hsm⟩ := (HR5.out.whole HX.out).at hjl
          have HH : Hid (∀ W v r, Below wr.heap.size wr W → RuleV w5 v r → Calls Try.prog 9 #[v, .slice b (L[j]).length d] W fun e w' => e = .returned (.bool (r.holds L[j])) ∧ Below W.heap.size W w') := fun W v r h hr => Holds_any (RuleV.whole (RuleV.whole hr HX.out) h) (hT.whole h) hsm
          have H1 : Hid (∀ W, Below wr.heap.size wr W → Calls Try.prog 9 #[.pointer (some ⟨b1, 0, none⟩), .slice b (L[j]).length d] W fun e w' => e = .returned (.bool (p.holds L[j])) ∧ Below W.heap.size W w') := fun W h => HH.out W _ p h HU5.out
          have H2 : Hid (∀ W, Below wr.heap.size wr W → Calls Try.prog 9 #[.pointer (some ⟨b2, 0, none⟩), .slice b (L[j]).length d] W fun e w' => e = .returned (.bool (!p.holds L[j])) ∧ Below W.heap.size W w') := fun W h => HH.out W _ (.not p) h HV5.out
          have H3 : Hid (∀ W, Below wr.heap.size wr W → Calls Try.prog 9 #[.pointer (some ⟨b3, 0, none⟩), .slice b (L[j]).length d] W fun e w' => e = .returned (.bool (p.holds L[j])) ∧ Below W.heap.size W w') := fun W h => HH.out W _ p h HX5.out
          clear hT hsm HH
          generalize p.holds L[j] = B at *
          generalize L[j] = l at *
          have kS : wr.cell? ⟨g, j, none⟩ = some (.slice b l.length d) := hc
          have HBc : Hid (Below wr.heap.size wr wr.drew) := below_drew1 _
          have hzc : wr.heap.size ≤ wr.drew.heap.size := HBc.out.size
          cases B
          all_goals
            go_wp2_with fail
            go_region_held3 (fun w' => w'.cell? ⟨g, j, none⟩ = some (.slice b l.length d))
              (first | exact kS | go_keep)
              (first
                | (go_at_call_of 9 (Value.pointer (some ⟨b1, 0, none⟩)); refine (H1.out _ HBc.out).mono ?_; rintro e w6 ⟨rfl, hb6⟩; have HBn : Hid (Below wr.heap.size wr w6) := HBc.out.trans (hb6.mono hzc); clear HBc hzc hb6; have HBc := HBn; have hzc := HBc.out.size; have kS : w6.cell? ⟨g, j, none⟩ = some (.slice b l.length d) := kept_cell HBc.out hc; clear HBn)
                | (go_at_call_of 9 (Value.pointer (some ⟨b2, 0, none⟩)); refine (H2.out _ HBc.out).mono ?_; rintro e w6 ⟨rfl, hb6⟩; have HBn : Hid (Below wr.heap.size wr w6) := HBc.out.trans (hb6.mono hzc); clear HBc hzc hb6; have HBc := HBn; have hzc := HBc.out.size; have kS : w6.cell? ⟨g, j, none⟩ = some (.slice b l.length d) := kept_cell HBc.out hc; clear HBn)
                | (go_at_call_of 9 (Value.pointer (some ⟨b3, 0, none⟩)); refine (H3.out _ HBc.out).mono ?_; rintro e w6 ⟨rfl, hb6⟩; have HBn : Hid (Below wr.heap.size wr w6) := HBc.out.trans (hb6.mono hzc); clear HBc hzc hb6; have HBc := HBn; have hzc := HBc.out.size; have kS : w6.cell? ⟨g, j, none⟩ = some (.slice b l.length d) := kept_cell HBc.out hc; clear HBn))
            all_goals
              go_wp2_with fail
              go_roundg (L.length - (j + 1))
              case measure => omega
              case rel => exact ⟨j + 1, by omega, Nat.le_refl _, by go_num, HX.out.trans (HBc.out.mono hzr)⟩
        · have y1 : ¬ (j : Int) < (L.length : Int) := by omega
          have HBr : Hid (Below w.heap.size w wr) := HB5.out.trans (HX.out.mono hz5)
          have hzr := HBr.out.size
          go_wp2_with (go_at_call 5; refine (HA.out _ HBr.out).mono ?_; rintro e w6 ⟨rfl, hb6⟩; have HB6 : Hid (Below w.heap.size w w6) := HBr.out.trans (hb6.mono hzr); clear hb6)
          go_ret
          exact ⟨rfl, HB6.out⟩
set_option maxRecDepth 100000 in
set_option maxHeartbeats 2000000 in
theorem turned_any (S : ByteArray) (w : World) (hM : Mx w) : Calls Try.prog 3 #[.string S] w fun e w' => e = .returned (.bool true) ∧ Below w.heap.size w w' := by
  have HA : Hid (∀ W, Below w.heap.size w W → Calls Try.prog 5 #[] W fun e w' => e = .returned (.bool true) ∧ Below W.heap.size W w') := fun W h => awake_any W (hM.below hM.lt h)
  by_cases hS : S.size ≤ 150
  · have kS : ¬ (150 : Int) < (S.size : Int) := by omega
    rcases nl_or S with hnl | hnl
    · have HN : Hid (∃ i, ∃ h : i < S.size, S[i]'h = 10) := hnl
      clear hnl hM
      go_enter Try.func3, Try.ntmps3
      go_wp2_with fail
      go_loopg [3] S.size (fun g u3 wr => ∃ i : Nat, i ≤ S.size ∧ S.size - i ≤ g ∧ u3 = .int .i64 i ∧ wr = w ∧ Hid (∃ j, i ≤ j ∧ ∃ h : j < S.size, S[j]'h = 10))
      case atStart => exact ⟨0, Nat.zero_le _, Nat.le_refl _, rfl, rfl, by obtain ⟨j, h⟩ := HN.out; exact ⟨j, Nat.zero_le _, h⟩⟩
      case round =>
        obtain ⟨i, hi, hg, rfl, hw, HX⟩ := hrel
        obtain rfl := hw.symm
        clear hw
        have hlt : i < S.size := by obtain ⟨j, hj, h, _⟩ := HX.out; omega
        have z1 : (i : Int) < (S.size : Int) := by omega
        have z0 : (0 : Int) ≤ (i : Int) := by omega
        by_cases h10 : S[i]'hlt = 10
        · have a10 : (((S[i]'hlt).toNat : Int) == 10) = true := u8_is (n := 10) h10 (by decide)
          go_wp2_with (go_at_call 5; refine (HA.out _ (Below.refl _ _)).mono ?_; rintro e w2 ⟨rfl, hb2⟩)
          go_ret
          exact ⟨rfl, hb2⟩
        · have a10 : (((S[i]'hlt).toNat : Int) == 10) = false := u8_not (n := 10) h10 (by decide)
          have HX2 : Hid (∃ j, i + 1 ≤ j ∧ ∃ h : j < S.size, S[j]'h = 10) := by
            obtain ⟨j, hj, h, e⟩ := HX.out
            refine ⟨j, ?_, h, e⟩
            rcases Nat.lt_or_ge i j with h1 | h1
            · exact h1
            · have : j = i := by omega
              subst this
              exact absurd e h10
          clear h10 HX
          go_wp2_with fail
          go_roundg (S.size - (i + 1))
          case measure => omega
          case rel => exact ⟨i + 1, by omega, Nat.le_refl _, by go_num, rfl, HX2.out⟩
    · cases hp : lineR S.data.toList with
      | some p => exact turned_in S w hS hM hnl hp
      | none =>
        have hlen := bal S
        have h1 : Calls Try.prog 6 #[.string (⟨#[47, 47, 98, 117, 105, 108, 100, 32]⟩ ++ S)] w (RulQ w none) := by
          have eS : S = bs S.data.toList := (bs_of S).symm
          rw [eS, lit8, bs_app]
          have := Read_any (bs (head8 ++ S.data.toList)) w (by rw [bs_size, List.length_append, hlen]; show 8 + _ ≤ _; omega) hM
          rwa [bs_list, readR_head, (eol_none _ hnl []).2, hp] at this
        have HNL : Hid (∀ i (h : i < S.size), S[i]'h ≠ 10) := fun i h => hnl _ (by
          have := bget S i h
          exact List.mem_of_getElem? this)
        have H1 : Hid (Calls Try.prog 6 #[.string (⟨#[47, 47, 98, 117, 105, 108, 100, 32]⟩ ++ S)] w (RulQ w none)) := h1
        clear hM hp hnl hlen h1
        go_enter Try.func3, Try.ntmps3
        go_wp2_with fail
        go_loopg [3] S.size (fun g u3 wr => ∃ i : Nat, i ≤ S.size ∧ S.size - i ≤ g ∧ u3 = .int .i64 i ∧ wr = w)
        case atStart => exact ⟨0, Nat.zero_le _, Nat.le_refl _, rfl, rfl⟩
        case round =>
          obtain ⟨i, hi, hg, rfl, hw⟩ := hrel
          obtain rfl := hw.symm
          clear hw
          by_cases hlt : i < S.size
          · have z1 : (i : Int) < (S.size : Int) := by omega
            have z0 : (0 : Int) ≤ (i : Int) := by omega
            have a10 : (((S[i]'hlt).toNat : Int) == 10) = false := u8_not (n := 10) (HNL.out i hlt) (by decide)
            go_wp2_with fail
            go_roundg (S.size - (i + 1))
            case measure => omega
            case rel => exact ⟨i + 1, by omega, Nat.le_refl _, by go_num, rfl⟩
          · have z1 : ¬ (i : Int) < (S.size : Int) := by omega
            go_wp2_with (first
              | (go_at_call 6; refine Calls.mono H1.out ?_; intro e w1 hq; obtain rfl := hq.no rfl; have HB1 : Hid (Below w.heap.size w w1) := hq.bl; have hz1 := hq.bl.size; clear hq)
              | (go_at_call 5; refine (HA.out _ HB1.out).mono ?_; rintro e w2 ⟨rfl, hb2⟩; have HB2 : Hid (Below w.heap.size w w2) := HB1.out.trans (hb2.mono hz1); clear hb2))
            go_ret
            exact ⟨rfl, HB2.out⟩
  · have kS : (150 : Int) < (S.size : Int) := by omega
    clear hS hM
    go_enter Try.func3, Try.ntmps3
    go_wp2_with (go_at_call 5; refine (HA.out _ (Below.refl _ _)).mono ?_; rintro e w2 ⟨rfl, hb2⟩)
    go_ret
    exact ⟨rfl, hb2⟩
end Go.Proofs.Ytleiohccaagalab
