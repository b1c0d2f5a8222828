/-
  scan.Ident, walked.
-/
import Derived.Test.YtmfdfkbcommjfaaDoorWalkR
namespace Go.Proofs.YtmfdfkbcommjfaaDoor
open Go.RowKit
attribute [local go_sem ↓] Go.wp_at_zero Go.wp_at_succ
/-- an identifier -/
def idn (S : ByteArray) : Bool := decide (S.size ≤ 60) && !word S.toList && (if h : 0 < S.size then ltr (S[0]'h) else false) && decide (run lod S.data.toList = S.size)
theorem nil_of (S : ByteArray) (h : S.size = 0) : S.toList = [] := by
  rw [Lib.toList_data]; exact List.eq_nil_of_length_eq_zero (by rw [bal]; exact h)
theorem ne_nil_of (S : ByteArray) (h : 0 < S.size) : (S.toList == []) = false := by
  rw [Bool.eq_false_iff]; intro e
  have e := eq_of_beq e
  rw [Lib.toList_data] at e
  have : S.data.toList.length = 0 := by rw [e]; rfl
  rw [bal] at this; omega
set_option maxRecDepth 100000 in
set_option maxHeartbeats 400000 in
theorem ident_empty (S : ByteArray) (w : World) (h0 : S.size = 0) : Calls Tryd.prog 15 #[.string S] w fun e w' => e = .returned (.bool false) ∧ Below w.heap.size w w' := by
  have k0 : (S.toList == []) = true := by rw [nil_of S h0]; rfl
  clear h0
  go_enter Tryd.func15, Tryd.ntmps15
  go_wp2_with fail
  go_ret
  exact ⟨rfl, Below.refl _ _⟩
set_option maxRecDepth 100000 in
set_option maxHeartbeats 400000 in
theorem ident_great (S : ByteArray) (w : World) (h0 : 0 < S.size) (h1 : 60 < S.size) : Calls Tryd.prog 15 #[.string S] w fun e w' => e = .returned (.bool false) ∧ Below w.heap.size w w' := by
  have k0 := ne_nil_of S h0
  have k1 : (60 : Int) < (S.size : Int) := by omega
  clear h0 h1
  go_enter Tryd.func15, Tryd.ntmps15
  go_wp2_with fail
  go_ret
  exact ⟨rfl, Below.refl _ _⟩
set_option maxRecDepth 100000 in
set_option maxHeartbeats 400000 in
theorem ident_word (S : ByteArray) (w : World) (h0 : 0 < S.size) (h1 : S.size ≤ 60) (hw : word S.toList = true) : Calls Tryd.prog 15 #[.string S] w fun e w' => e = .returned (.bool false) ∧ Below w.heap.size w w' := by
  have k0 := ne_nil_of S h0
  have k1 : ¬ (60 : Int) < (S.size : Int) := by omega
  have h13 := word_any S
  rw [hw] at h13
  clear h0 h1 hw
  go_enter Tryd.func15, Tryd.ntmps15
  go_wp2_with (go_at_call 13; refine (h13 _).mono ?_; rintro e w1 ⟨rfl, hw1⟩; obtain rfl := hw1.symm)
  go_ret
  exact ⟨rfl, Below.refl _ _⟩
set_option maxRecDepth 100000 in
set_option maxHeartbeats 400000 in
theorem ident_head (S : ByteArray) (w : World) (h0 : 0 < S.size) (h1 : S.size ≤ 60) (hw : word S.toList = false) (hl : ltr (S[0]'h0) = false) : Calls Tryd.prog 15 #[.string S] w fun e w' => e = .returned (.bool false) ∧ Below w.heap.size w w' := by
  have k0 := ne_nil_of S h0
  have k1 : ¬ (60 : Int) < (S.size : Int) := by omega
  have k2 : (0 : Int) < (S.size : Int) := by omega
  have h13 := word_any S
  rw [hw] at h13
  have h24 := letter_any (wrap32 ((S[0]'h0).toNat : Int))
  rw [show ltrZ (wrap32 ((S[0]'h0).toNat : Int)) = ltr (S[0]'h0) by rw [w32, ltrZ_nat], hl] at h24
  clear h1 hw hl
  go_enter Tryd.func15, Tryd.ntmps15
  go_wp2_with (first | (go_at_call 13; refine (h13 _).mono ?_; rintro e w1 ⟨rfl, hw1⟩; obtain rfl := hw1.symm) | (go_at_call 24; refine (h24 _).mono ?_; rintro e w1 ⟨rfl, hw1⟩; obtain rfl := hw1.symm))
  go_ret
  exact ⟨rfl, Below.refl _ _⟩
set_option maxRecDepth 100000 in
set_option maxHeartbeats 400000 in
theorem ident_rest (S : ByteArray) (w : World) (h0 : 0 < S.size) (h1 : S.size ≤ 60) (hw : word S.toList = false) (hl : ltr (S[0]'h0) = true) : Calls Tryd.prog 15 #[.string S] w fun e w' => e = .returned (.bool (decide (run lod S.data.toList = S.size))) ∧ Below w.heap.size w w' := by
  have k0 := ne_nil_of S h0
  have k1 : ¬ (60 : Int) < (S.size : Int) := by omega
  have k2 : (0 : Int) < (S.size : Int) := by omega
  have h13 := word_any S
  rw [hw] at h13
  have h24 := letter_any (wrap32 ((S[0]'h0).toNat : Int))
  rw [show ltrZ (wrap32 ((S[0]'h0).toNat : Int)) = ltr (S[0]'h0) by rw [w32, ltrZ_nat], hl] at h24
  have h25 := fun w => runLod_any S w (by omega)
  generalize run lod S.data.toList = n at *
  have HE : Hid ((((n : Nat) : Int) == ((S.size : Nat) : Int)) = decide (n = S.size)) := by
    show _ = _
    by_cases q : n = S.size
    · rw [decide_eq_true q]; exact nat_beq q
    · rw [decide_eq_false q]; exact nat_bne q
  clear h1 hw hl
  go_enter Tryd.func15, Tryd.ntmps15
  go_wp2_with (first | (go_at_call 13; refine (h13 _).mono ?_; rintro e w1 ⟨rfl, hw1⟩; obtain rfl := hw1.symm) | (go_at_call 24; refine (h24 _).mono ?_; rintro e w1 ⟨rfl, hw1⟩; obtain rfl := hw1.symm) | (go_at_call 25; refine (h25 _).mono ?_; rintro e w2 ⟨rfl, hb2⟩))
  all_goals
    go_ret
    exact ⟨ret_bool (by first | exact HE.out | (rw [← HE.out]; simp_all)), hb2⟩
theorem ident_any (S : ByteArray) (w : World) : Calls Tryd.prog 15 #[.string S] w fun e w' => e = .returned (.bool (idn S)) ∧ Below w.heap.size w w' := by
  unfold idn
  by_cases h0 : 0 < S.size
  · rw [dif_pos h0]
    by_cases h1 : S.size ≤ 60
    · rw [decide_eq_true h1, Bool.true_and]
      cases hw : word S.toList with
      | true => exact ident_word S w h0 h1 hw
      | false =>
        cases hl : ltr (S[0]'h0) with
        | false => exact ident_head S w h0 h1 hw hl
        | true => exact ident_rest S w h0 h1 hw hl
    · rw [decide_eq_false h1]; exact ident_great S w h0 (by omega)
  · rw [dif_neg h0, Bool.and_false, Bool.false_and]; exact ident_empty S w (by omega)
end Go.Proofs.YtmfdfkbcommjfaaDoor
