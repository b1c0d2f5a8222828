/-
  Text, walked.
-/
import Derived.Test.YtleiohccaagalaaRul
import Derived.Test.YtleiohccaagalaaTxt
namespace Go.Proofs.Ytleiohccaagalaa
open Go.RowKit
attribute [local go_sem ↓] Go.wp_at_zero Go.wp_at_succ
set_option maxRecDepth 100000 in
theorem Text_any {w : World} {v : Value} {p : Pt} (h : RuleV w v p) (hp : p.text.length ≤ 1000000) : Calls Try.prog 14 #[v] w fun e w' => e = .returned (.string (bs p.text)) ∧ Below w.heap.size w w' := by
  have h1 := whole_any h
  obtain ⟨t, x, K, y, hm, hc⟩ := text_any p hp
  rw [hm.e] at h1
  have mm := hm.m
  have cc := hm.c
  have h2 := hc w
  clear hm hc h
  generalize bs p.text = B at *
  go_enter Try.func14, Try.ntmps14
  go_wp2_with (go_at_call 28; refine h1.mono ?_; rintro e w1 ⟨rfl, hw1⟩; obtain rfl := hw1.symm; clear h1)
  refine h2.mono ?_
  rintro e w2 ⟨rfl, hb2⟩
  go_wp2_with fail
  go_ret
  exact ⟨rfl, hb2⟩
end Go.Proofs.Ytleiohccaagalaa
