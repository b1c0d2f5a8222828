/-
  word, and lay of types that are words or functions, walked.
-/
import Derived.Test.YtifcikhgbafegabSgf
namespace Go.Proofs.Ytifcikhgbafegab
open Go.RowKit
attribute [local go_sem ↓] Go.wp_at_zero Go.wp_at_succ
/-- the text of a kind that has no other parts -/
def wrd (k : Int) : ByteArray := if k = 1 then ⟨#[105, 110, 116]⟩ else if k = 2 then ⟨#[115, 116, 114, 105, 110, 103]⟩ else if k = 3 then ⟨#[98, 111, 111, 108]⟩ else if k = 4 then ⟨#[99, 111, 110, 115, 116, 97, 110, 116, 32, 105, 110, 116]⟩ else if k = 5 then ⟨#[99, 111, 110, 115, 116, 97, 110, 116, 32, 115, 116, 114, 105, 110, 103]⟩ else if k = 6 then ⟨#[99, 111, 110, 115, 116, 97, 110, 116, 32, 98, 111, 111, 108]⟩ else if k = 7 then ⟨#[110, 105, 108]⟩ else ⟨#[]⟩
set_option maxRecDepth 100000 in
set_option maxHeartbeats 2000000 in
theorem word_any (k : Int) (w : World) : Calls Try.prog 45 #[.int .i64 k] w fun e w' => e = .returned (.string (wrd k)) ∧ w' = w := by
  by_cases h1 : k = 1
  · subst h1
    go_enter Try.func45, Try.ntmps45
    go_wp2_with fail
    go_ret
    exact ⟨rfl, rfl⟩
  by_cases h2 : k = 2
  · subst h2
    go_enter Try.func45, Try.ntmps45
    go_wp2_with fail
    go_ret
    exact ⟨rfl, rfl⟩
  by_cases h3 : k = 3
  · subst h3
    go_enter Try.func45, Try.ntmps45
    go_wp2_with fail
    go_ret
    exact ⟨rfl, rfl⟩
  by_cases h4 : k = 4
  · subst h4
    go_enter Try.func45, Try.ntmps45
    go_wp2_with fail
    go_ret
    exact ⟨rfl, rfl⟩
  by_cases h5 : k = 5
  · subst h5
    go_enter Try.func45, Try.ntmps45
    go_wp2_with fail
    go_ret
    exact ⟨rfl, rfl⟩
  by_cases h6 : k = 6
  · subst h6
    go_enter Try.func45, Try.ntmps45
    go_wp2_with fail
    go_ret
    exact ⟨rfl, rfl⟩
  by_cases h7 : k = 7
  · subst h7
    go_enter Try.func45, Try.ntmps45
    go_wp2_with fail
    go_ret
    exact ⟨rfl, rfl⟩
  have k1 := int_bne h1
  have k2 := int_bne h2
  have k3 := int_bne h3
  have k4 := int_bne h4
  have k5 := int_bne h5
  have k6 := int_bne h6
  have k7 := int_bne h7
  have HW : Hid (wrd k = ⟨#[]⟩) := by show _ = _; simp [wrd, h1, h2, h3, h4, h5, h6, h7]
  go_enter Try.func45, Try.ntmps45
  go_wp2_with fail
  go_ret
  exact ⟨by rw [HW.out]; rfl, rfl⟩
set_option maxRecDepth 100000 in
set_option maxHeartbeats 4000000 in
theorem lay_word {w : World} {L : Nat} {rb : Option Nat} {ps : List ElQ} {b o : Nat} {k : Int} (h : Ln w L rb ps) (h0 : w.cell? ⟨b, o, none⟩ = some (.int .i64 k)) (hk : k ≤ 7) (hm : ps.length + 1 ≤ 1000000) :
    Calls Try.prog 19 #[.pointer (some ⟨L, 0, none⟩), pv ⟨b, o, none⟩] w fun e w' => (∃ u, e = .returned u) ∧ LQ w L rb (ps ++ [tx (wrd k)]) w' := by
  have n8 : (k == 8) = false := int_bne (by omega)
  have n9 : (k == 9) = false := int_bne (by omega)
  have n10 : (k == 10) = false := int_bne (by omega)
  have n11 : (k == 11) = false := int_bne (by omega)
  have n12 : (k == 12) = false := int_bne (by omega)
  have n13 : (k == 13) = false := int_bne (by omega)
  have n14 : (k == 14) = false := int_bne (by omega)
  have n15 : (k == 15) = false := int_bne (by omega)
  have n16 : (k == 16) = false := int_bne (by omega)
  have n17 : (k == 17) = false := int_bne (by omega)
  have hw := word_any k w
  have HQ : Hid (LQ w L rb ps w) := LQ.refl h
  clear h hk
  go_enter Try.func19, Try.ntmps19
  go_wp2_with fail
  refine hw.mono ?_
  rintro e w1 ⟨rfl, hw1⟩
  obtain rfl := hw1.symm
  clear hw hw1
  go_wp2_with fail
  refine (HQ.out.put (wrd k) hm).mono ?_
  rintro e w2 ⟨⟨u2, rfl⟩, hq⟩
  have HQ2 : Hid _ := hq
  clear hq
  go_wp2_with fail
  go_end0
  exact ⟨⟨_, rfl⟩, HQ2.out⟩
set_option maxRecDepth 100000 in
set_option maxHeartbeats 4000000 in
theorem lay_func {w : World} {L : Nat} {rb : Option Nat} {ps : List ElQ} {b o : Nat} {P : List ElQ} (h : Ln w L rb ps) (h0 : w.cell? ⟨b, o, none⟩ = some (.int .i64 13)) (hm : ps.length + 1 ≤ 1000000)
    (hs : ∀ w1, LQ w L rb (ps ++ [tx ⟨#[102, 117, 110, 99]⟩]) w1 → Calls Try.prog 39 #[.pointer (some ⟨L, 0, none⟩), pv ⟨b, o, none⟩] w1 fun e w' => (∃ u, e = .returned u) ∧ LQ w L rb P w') :
    Calls Try.prog 19 #[.pointer (some ⟨L, 0, none⟩), pv ⟨b, o, none⟩] w fun e w' => (∃ u, e = .returned u) ∧ LQ w L rb P w' := by
  have HQ : Hid (LQ w L rb ps w) := LQ.refl h
  have HS : Hid (∀ w1, LQ w L rb (ps ++ [tx ⟨#[102, 117, 110, 99]⟩]) w1 → Calls Try.prog 39 #[.pointer (some ⟨L, 0, none⟩), pv ⟨b, o, none⟩] w1 fun e w' => (∃ u, e = .returned u) ∧ LQ w L rb P w') := hs
  clear h hs
  go_enter Try.func19, Try.ntmps19
  go_wp2_with fail
  refine (HQ.out.put ⟨#[102, 117, 110, 99]⟩ hm).mono ?_
  rintro e w2 ⟨⟨u2, rfl⟩, hq⟩
  have HQ2 : Hid _ := hq
  clear hq
  go_wp2_with fail
  refine (HS.out _ HQ2.out).mono ?_
  rintro e w3 ⟨⟨u3, rfl⟩, hq⟩
  have HQ3 : Hid _ := hq
  clear hq
  go_wp2_with fail
  go_end0
  exact ⟨⟨_, rfl⟩, HQ3.out⟩
end Go.Proofs.Ytifcikhgbafegab

