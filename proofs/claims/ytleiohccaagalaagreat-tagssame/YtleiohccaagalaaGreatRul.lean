/-
  whole, Holds, walked.
-/
import Derived.Test.YtleiohccaagalaaGreatNam
namespace Go.Proofs.YtleiohccaagalaaGreat
open Go.RowKit
attribute [local go_sem ↓] Go.wp_at_zero Go.wp_at_succ
/-- a pointer to a rule, or none -/
def RuleV (w : World) (v : Value) (p : Pt) : Prop := (v = .pointer none ∧ p = .yes) ∨ ∃ b, v = .pointer (some ⟨b, 0, none⟩) ∧ RuleAt w b p
theorem RuleV.whole {w w' : World} {v : Value} {p : Pt} (h : RuleV w v p) (k : Below w.heap.size w w') : RuleV w' v p := by
  rcases h with h | ⟨b, hv, h⟩
  · exact .inl h
  · exact .inr ⟨b, hv, h.whole k⟩
set_option maxRecDepth 100000 in
set_option maxHeartbeats 2000000 in
theorem whole_any {w : World} {v : Value} {p : Pt} (h : RuleV w v p) : Calls Tryz.prog 23 #[v] w fun e w' => e = .returned (enc p) ∧ w' = w := by
  rcases h with ⟨rfl, rfl⟩ | ⟨b, rfl, hr⟩
  · rw [show enc .yes = .iface 70 (.agg #[]) from rfl]
    go_enter Tryz.func23, Tryz.ntmps23
    go_wp2_with fail
    go_ret
    exact ⟨rfl, rfl⟩
  · have hlt := hr.lt
    obtain ⟨u, hb, hu⟩ := hr
    obtain ⟨c0, f0⟩ := bx1 hb
    clear hb
    rcases hu with rfl | ⟨rfl, rfl⟩
    · obtain ⟨t, x, e⟩ := enc_if p
      rw [e] at c0 ⊢
      clear e
      have he : ∀ w : World, (binOp .eql 42 (.iface t x) .nilIface).run Tryz.prog w = .ok (.bool false) w := fun w => by rfl
      go_enter Tryz.func23, Tryz.ntmps23
      go_wp2_with fail
      go_ret
      exact ⟨rfl, rfl⟩
    · have he : ∀ w : World, (binOp .eql 42 .nilIface .nilIface).run Tryz.prog w = .ok (.bool true) w := fun w => by rfl
      rw [show enc .yes = .iface 70 (.agg #[]) from rfl]
      go_enter Tryz.func23, Tryz.ntmps23
      go_wp2_with fail
      go_ret
      exact ⟨rfl, rfl⟩
set_option maxRecDepth 100000 in
theorem Holds_any {w : World} {v : Value} {p : Pt} (h : RuleV w v p) {a : Option Addr} {n c : Nat} {l : List Bs} (hT : TxV w a n c l) (hn : n ≤ 9223372036854775807) : Calls Tryz.prog 10 #[v, .slice a n c] w fun e w' => e = .returned (.bool (p.holds l)) ∧ Below w.heap.size w w' := by
  have h1 := whole_any h
  obtain ⟨t, x, K, y, hm, hc⟩ := holds_any p
  rw [hm.e] at h1
  have mm := hm.m
  have cc := hm.c
  have h2 := hc w a n c l hT hn
  clear hm hc h hT
  generalize p.holds l = B at *
  go_enter Tryz.func10, Tryz.ntmps10
  go_wp2_with (go_at_call 23; refine h1.mono ?_; rintro e w1 ⟨rfl, hw1⟩; obtain rfl := hw1.symm; clear h1)
  refine h2.mono ?_
  rintro e w2 ⟨rfl, hb2⟩
  go_wp2_with fail
  go_ret
  exact ⟨rfl, hb2⟩
end Go.Proofs.YtleiohccaagalaaGreat
