/-
  The document's own Ident, walked.
-/
import Derived.Test.YtmfdfkbcommjfaaDoorWalkT
namespace Go.Proofs.YtmfdfkbcommjfaaDoor
open Go.RowKit
attribute [local go_sem ↓] Go.wp_at_zero Go.wp_at_succ
set_option maxRecDepth 100000 in
set_option maxHeartbeats 400000 in
theorem rident_empty (S : ByteArray) (w : World) (h0 : S.size = 0) : Calls Tryd.prog 16 #[.string S] w fun e w' => e = .returned (.bool false) ∧ w' = w := by
  have k0 : (S.toList == []) = true := by rw [nil_of S h0]; rfl
  clear h0
  go_enter Tryd.func16, Tryd.ntmps16
  go_wp2_with fail
  go_ret
  exact ⟨rfl, rfl⟩
set_option maxRecDepth 100000 in
set_option maxHeartbeats 400000 in
theorem rident_head (S : ByteArray) (w : World) (h0 : 0 < S.size) (hl : ltr (S[0]'h0) = false) : Calls Tryd.prog 16 #[.string S] w fun e w' => e = .returned (.bool false) ∧ w' = w := by
  have k0 := ne_nil_of S h0
  have k2 : (0 : Int) < (S.size : Int) := by omega
  have h27 := rletter_any (S[0]'h0)
  rw [hl] at h27
  clear hl
  go_enter Tryd.func16, Tryd.ntmps16
  go_wp2_with (go_at_call 27; refine (h27 _).mono ?_; rintro e w1 ⟨rfl, hw1⟩; obtain rfl := hw1.symm)
  go_ret
  exact ⟨rfl, rfl⟩
set_option maxRecDepth 100000 in
set_option maxHeartbeats 400000 in
theorem rident_great (S : ByteArray) (w : World) (h0 : 0 < S.size) (hl : ltr (S[0]'h0) = true) (h1 : 60 < S.size) : Calls Tryd.prog 16 #[.string S] w fun e w' => e = .returned (.bool false) ∧ w' = w := by
  have k0 := ne_nil_of S h0
  have k1 : (60 : Int) < (S.size : Int) := by omega
  have k2 : (0 : Int) < (S.size : Int) := by omega
  have h27 := rletter_any (S[0]'h0)
  rw [hl] at h27
  clear hl
  go_enter Tryd.func16, Tryd.ntmps16
  go_wp2_with (go_at_call 27; refine (h27 _).mono ?_; rintro e w1 ⟨rfl, hw1⟩; obtain rfl := hw1.symm)
  go_ret
  exact ⟨rfl, rfl⟩
set_option maxRecDepth 100000 in
set_option maxHeartbeats 1000000 in
theorem rident_rest (S : ByteArray) (w : World) (h0 : 0 < S.size) (hl : ltr (S[0]'h0) = true) (h1 : S.size ≤ 60) : Calls Tryd.prog 16 #[.string S] w fun e w' => e = .returned (.bool (decide (run lod S.data.toList = S.size) && !word S.toList)) ∧ w' = w := by
  have k0 := ne_nil_of S h0
  have k1 : ¬ (60 : Int) < (S.size : Int) := by omega
  have k2 : (0 : Int) < (S.size : Int) := by omega
  have h27 := fun i (h : i < S.size) => rletter_any (S[i]'h)
  have h28 := fun i (h : i < S.size) => rdigit_any (S[i]'h)
  have h27' := rletter_any (S[0]'h0)
  rw [hl] at h27'
  have h14 := rword_any S
  generalize word S.toList = W at *
  obtain ⟨V, hV⟩ : ∃ V, run lod S.data.toList = V := ⟨_, rfl⟩
  have HV : Hid (run lod S.data.toList = V) := hV
  rw [hV]
  have HL : Hid (V ≤ S.size) := (by rw [← hV]; have := run_le lod S.data.toList; rw [bal] at this; exact this : V ≤ S.size)
  clear hV
  go_enter Tryd.func16, Tryd.ntmps16
  go_wp2_with (go_at_call 27; refine (h27' _).mono ?_; rintro e w1 ⟨rfl, hw1⟩; obtain rfl := hw1.symm)
  go_loop [3] (fun i => ∃ k : Nat, k ≤ S.size ∧ i = .int .i64 k ∧ Hid (k + run lod (S.data.toList.drop k) = V)) (fun i => S.size - (intOf i).toNat)
  case atStart => exact ⟨0, Nat.zero_le _, rfl, by rw [Nat.zero_add]; exact HV.out⟩
  case round =>
    obtain ⟨k, hk, rfl, HK⟩ := hrel
    by_cases hkl : k < S.size
    · have z1 : (k : Int) < (S.size : Int) := by omega
      have z2 : (0 : Int) ≤ (k : Int) := by omega
      have g27 := h27 k hkl
      have g28 := h28 k hkl
      cases q1 : ltr (S[k]'hkl) with
      | true =>
        rw [q1] at g27
        have HE : Hid (run lod (S.data.toList.drop k) = run lod (S.data.toList.drop (k + 1)) + 1) := run_yes hkl (by simp [lod, q1])
        clear q1 h27 h28 h27'
        go_wp2_with (go_at_call 27; refine (g27 _).mono ?_; rintro e w1 ⟨rfl, hw1⟩; obtain rfl := hw1.symm)
        refine ⟨⟨k + 1, by omega, by go_num, ?_⟩, by simp [intOf]; omega⟩
        have := HE.out; have := HK.out; show k + 1 + run lod (S.data.toList.drop (k + 1)) = V; omega
      | false =>
        rw [q1] at g27
        cases q2 : dgt (S[k]'hkl) with
        | true =>
          rw [q2] at g28
          have HE : Hid (run lod (S.data.toList.drop k) = run lod (S.data.toList.drop (k + 1)) + 1) := run_yes hkl (by simp [lod, q2])
          clear q1 q2 h27 h28 h27'
          go_wp2_with (first | (go_at_call 27; refine (g27 _).mono ?_; rintro e w1 ⟨rfl, hw1⟩; obtain rfl := hw1.symm) | (go_at_call 28; refine (g28 _).mono ?_; rintro e w1 ⟨rfl, hw1⟩; obtain rfl := hw1.symm))
          refine ⟨⟨k + 1, by omega, by go_num, ?_⟩, by simp [intOf]; omega⟩
          have := HE.out; have := HK.out; show k + 1 + run lod (S.data.toList.drop (k + 1)) = V; omega
        | false =>
          rw [q2] at g28
          have HE : Hid (run lod (S.data.toList.drop k) = 0) := run_no hkl (by simp [lod, q1, q2])
          clear q1 q2 h27 h28 h27'
          go_wp2_with (first | (go_at_call 27; refine (g27 _).mono ?_; rintro e w1 ⟨rfl, hw1⟩; obtain rfl := hw1.symm) | (go_at_call 28; refine (g28 _).mono ?_; rintro e w1 ⟨rfl, hw1⟩; obtain rfl := hw1.symm))
          go_ret
          refine ⟨ret_bool ?_, rfl⟩
          have := HE.out; have := HK.out
          rw [decide_eq_false (by omega)]; rfl
    · have z1 : ¬ (k : Int) < (S.size : Int) := by omega
      have HE : Hid (run lod (S.data.toList.drop k) = 0) := run_end hkl
      clear h27 h28 h27'
      go_wp2_with (go_at_call 14; refine (h14 _).mono ?_; rintro e w1 ⟨rfl, hw1⟩; obtain rfl := hw1.symm)
      go_ret
      refine ⟨ret_bool ?_, rfl⟩
      have := HE.out; have := HK.out
      rw [decide_eq_true (by omega)]; rfl
theorem rident_any (S : ByteArray) (w : World) : Calls Tryd.prog 16 #[.string S] w fun e w' => e = .returned (.bool (idn S)) ∧ w' = w := by
  unfold idn
  by_cases h0 : 0 < S.size
  · rw [dif_pos h0]
    cases hl : ltr (S[0]'h0) with
    | false => rw [Bool.and_false, Bool.false_and]; exact rident_head S w h0 hl
    | true =>
      by_cases h1 : S.size ≤ 60
      · rw [decide_eq_true h1, Bool.true_and, Bool.and_true, Bool.and_comm]; exact rident_rest S w h0 hl h1
      · rw [decide_eq_false h1]; exact rident_great S w h0 hl (by omega)
  · rw [dif_neg h0, Bool.and_false, Bool.false_and]; exact rident_empty S w (by omega)
end Go.Proofs.YtmfdfkbcommjfaaDoor
