/-
  TagsNothing, walked.
-/
import Derived.Test.YtleiohccaagalaaFew
import Derived.Test.YtleiohccaagalaaRul2
namespace Go.Proofs.Ytleiohccaagalaa
open Go.RowKit Go.Sort
attribute [local go_sem ↓] Go.wp_at_zero Go.wp_at_succ
theorem alike_nil : alike .yes .yes (eo []) = true := by rw [eo_nil]; decide
set_option maxRecDepth 100000 in
set_option maxHeartbeats 4000000 in
theorem nothing_any {w : World} {a : Option Addr} {n c : Nat} {l : List Bs} (hT : TxV w a n c l) (hn : n ≤ 9223372036854775807) (S : ByteArray) (hM : Mx w) : Calls Try.prog 6 #[.slice a n c, .string S] w fun e w' => e = .returned (.bool true) ∧ Below w.heap.size w w' := by
  have hf := few_any hT hn
  have HA : Hid (∀ W, Below w.heap.size w W → Calls Try.prog 8 #[] W fun e w' => e = .returned (.bool true) ∧ Below W.heap.size W w') := fun W h => awake_any W (hM.below hM.lt h)
  have HH : Hid (∀ W v, Below w.heap.size w W → RuleV W v .yes → Calls Try.prog 17 #[v, .slice a n c] W fun e w' => e = .returned (.bool true) ∧ Below W.heap.size W w') := fun W v h hr => Holds_any hr (hT.whole h) hn
  have HG : Hid (∀ W v, RuleV W v .yes → Calls Try.prog 12 #[v] W (EoQ W [])) := fun W v hr => by have := Tags_any hr (by decide); rwa [show Pt.yes.names = [] from rfl, eo_nil] at this
  have HX : Hid (∀ W v, RuleV W v .yes → Calls Try.prog 14 #[v] W fun e w' => e = .returned (.string ⟨#[116, 114, 117, 101]⟩) ∧ Below W.heap.size W w') := fun W v hr => Text_any hr (by decide)
  have HS : Hid (∀ W v u, RuleV W v .yes → RuleV W u .yes → Calls Try.prog 21 #[v, u, .slice none 0 0] W fun e w' => e = .returned (.bool true) ∧ Below W.heap.size W w') := fun W v u h1 h2 => by
    have := Same_any h1 h2 (a := none) (n := 0) (c := 0) (l := []) ⟨rfl, Nat.le_refl _, .inl ⟨rfl, rfl⟩⟩ (by omega)
    rwa [alike_nil] at this
  have HN : Hid (∀ W, RuleV W (.pointer none) .yes) := fun W => .inl ⟨rfl, rfl⟩
  clear hT hM
  by_cases hz : S.size ≤ 600
  · have k1 : ¬ (600 : Int) < (S.size : Int) := by omega
    clear hz
    have HZ : Hid (RuleV (w.alloc (.cells #[.nilIface] 47)) (.pointer (some ⟨w.heap.size, 0, none⟩)) .yes) := .inr ⟨_, rfl, _, Go.heap_alloc_new _ _, .inr ⟨rfl, rfl⟩⟩
    have HB0 : Hid (Below w.heap.size w (w.alloc (.cells #[.nilIface] 47))) := (Below.refl _ _).alloc (Nat.le_refl _) _
    go_enter Try.func6, Try.ntmps6
    go_wp2_with (go_at_call 16; refine hf.mono ?_; intro e w1 hq; obtain ⟨b, rfl⟩ := hq.ex; obtain rfl := hq.same.symm; clear hq hf; cases b)
    · refine (HA.out _ (Below.refl _ _)).mono ?_
      rintro e w2 ⟨rfl, hb2⟩
      go_wp2_with fail
      go_ret
      exact ⟨rfl, hb2⟩
    · have hz0 : w.heap.size ≤ (w.alloc (.cells #[.nilIface] 47)).heap.size := HB0.out.size
      refine (HH.out _ _ HB0.out (HN.out _)).mono ?_
      rintro e w1 ⟨rfl, hb1⟩
      have HB1 : Hid (Below w.heap.size w w1) := HB0.out.trans (hb1.mono hz0)
      have HZ1 : Hid (RuleV w1 (.pointer (some ⟨w.heap.size, 0, none⟩)) .yes) := RuleV.whole HZ.out hb1
      have hz1 := HB1.out.size
      clear hb1
      go_wp2_with fail
      refine (HH.out _ _ HB1.out HZ1.out).mono ?_
      rintro e w2 ⟨rfl, hb2⟩
      have HB2 : Hid (Below w.heap.size w w2) := HB1.out.trans (hb2.mono hz1)
      have HZ2 : Hid (RuleV w2 (.pointer (some ⟨w.heap.size, 0, none⟩)) .yes) := RuleV.whole HZ1.out hb2
      have hz2 := HB2.out.size
      clear hb2
      go_wp2_with fail
      refine (HG.out _ _ (HN.out _)).mono ?_
      intro e w3 hq
      obtain ⟨a3, c3, rfl, _⟩ := hq.ex
      have hb3 := hq.bl
      have HB3 : Hid (Below w.heap.size w w3) := HB2.out.trans (hb3.mono hz2)
      have HZ3 : Hid (RuleV w3 (.pointer (some ⟨w.heap.size, 0, none⟩)) .yes) := RuleV.whole HZ2.out hb3
      have hz3 := HB3.out.size
      clear hb3 hq
      go_wp2_with fail
      refine (HX.out _ _ (HN.out _)).mono ?_
      rintro e w4 ⟨rfl, hb4⟩
      have HB4 : Hid (Below w.heap.size w w4) := HB3.out.trans (hb4.mono hz3)
      have HZ4 : Hid (RuleV w4 (.pointer (some ⟨w.heap.size, 0, none⟩)) .yes) := RuleV.whole HZ3.out hb4
      have hz4 := HB4.out.size
      clear hb4
      go_wp2_with fail
      refine (HX.out _ _ HZ4.out).mono ?_
      rintro e w5 ⟨rfl, hb5⟩
      have HB5 : Hid (Below w.heap.size w w5) := HB4.out.trans (hb5.mono hz4)
      have HZ5 : Hid (RuleV w5 (.pointer (some ⟨w.heap.size, 0, none⟩)) .yes) := RuleV.whole HZ4.out hb5
      have hz5 := HB5.out.size
      clear hb5
      go_wp2_with fail
      refine (HS.out _ _ _ (HN.out _) HZ5.out).mono ?_
      rintro e w6 ⟨rfl, hb6⟩
      have HB6 : Hid (Below w.heap.size w w6) := HB5.out.trans (hb6.mono hz5)
      have HZ6 : Hid (RuleV w6 (.pointer (some ⟨w.heap.size, 0, none⟩)) .yes) := RuleV.whole HZ5.out hb6
      have hz6 := HB6.out.size
      clear hb6
      go_wp2_with fail
      refine (HA.out _ HB6.out).mono ?_
      rintro e w7 ⟨rfl, hb7⟩
      have HB7 : Hid (Below w.heap.size w w7) := HB6.out.trans (hb7.mono hz6)
      have HZ7 : Hid (RuleV w7 (.pointer (some ⟨w.heap.size, 0, none⟩)) .yes) := RuleV.whole HZ6.out hb7
      have hz7 := HB7.out.size
      clear hb7
      go_wp2_with fail
      go_ret
      exact ⟨rfl, HB7.out⟩
  · have k1 : (600 : Int) < (S.size : Int) := by omega
    clear hz HH HG HX HS HN
    go_enter Try.func6, Try.ntmps6
    go_wp2_with (go_at_call 16; refine hf.mono ?_; intro e w1 hq; obtain ⟨b, rfl⟩ := hq.ex; obtain rfl := hq.same.symm; clear hq hf; cases b)
    all_goals
      refine (HA.out _ (Below.refl _ _)).mono ?_
      rintro e w2 ⟨rfl, hb2⟩
      go_wp2_with fail
      go_ret
      exact ⟨rfl, hb2⟩
end Go.Proofs.Ytleiohccaagalaa
