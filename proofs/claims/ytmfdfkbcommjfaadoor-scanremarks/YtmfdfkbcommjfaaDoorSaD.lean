/-
  awake, walked.
-/
import Derived.Test.YtmfdfkbcommjfaaDoorSaC
namespace Go.Proofs.YtmfdfkbcommjfaaDoor
open Go.RowKit
attribute [local go_sem ↓] Go.wp_at_zero Go.wp_at_succ
theorem ok_awake : okT ⟨#[97, 58, 61, 49]⟩ = true := by decide +kernel
theorem read_awake : readOf ⟨#[97, 58, 61, 49]⟩ = .ok ⟨[⟨1, 0, 1, [97]⟩, ⟨5, 1, 3, [58, 61]⟩, ⟨2, 3, 4, [49]⟩, ⟨6, 4, 4, [10]⟩, ⟨7, 4, 4, []⟩], []⟩ := by
  unfold readOf
  rw [if_neg (by decide), ok_awake, if_neg (by decide)]
  rfl
theorem idn_func : idn ⟨#[102, 117, 110, 99]⟩ = false := by decide +kernel
theorem word_func : word (⟨#[102, 117, 110, 99]⟩ : ByteArray).toList = true := by decide +kernel
def awakeT : List Tk := [⟨1, 0, 1, [97]⟩, ⟨5, 1, 3, [58, 61]⟩, ⟨2, 3, 4, [49]⟩, ⟨6, 4, 4, [10]⟩, ⟨7, 4, 4, []⟩]
theorem awake_cells {w : World} {base : Nat} {tv : Value} (ht : w.ownsRow base 38 4 tv 5 (flT awakeT)) :
    ∃ g cap, tv = .slice (some ⟨g, 0, none⟩) 5 cap ∧ g < w.heap.size ∧ w.cell? ⟨g, 7, none⟩ = some (.string ⟨#[58, 61]⟩) ∧ w.cell? ⟨g, 12, none⟩ = some (.int .i64 6) ∧ w.cell? ⟨g, 13, none⟩ = some (.int .i64 4) ∧ w.cell? ⟨g, 14, none⟩ = some (.int .i64 4) ∧ w.cell? ⟨g, 15, none⟩ = some (.string ⟨#[10]⟩) := by
  obtain ⟨g, cap, hv, _, hlt⟩ := ht.form (by decide)
  have hc := ht.cells (g := g) (by rw [hv]; rfl)
  have ad : ∀ j : Nat, (⟨g, 0, none⟩ : Addr).add j = ⟨g, 0 + j, none⟩ := fun j => Go.WideShapes.add_plain _ _ _
  refine ⟨g, cap, hv, hlt, ?_, ?_, ?_, ?_, ?_⟩
  · have := hc 7 _ (show (flT awakeT)[7]? = some (.string ⟨#[58, 61]⟩) from rfl); rw [ad] at this; simpa using this
  · have := hc 12 _ (show (flT awakeT)[12]? = some (.int .i64 6) from rfl); rw [ad] at this; simpa using this
  · have := hc 13 _ (show (flT awakeT)[13]? = some (.int .i64 4) from rfl); rw [ad] at this; simpa using this
  · have := hc 14 _ (show (flT awakeT)[14]? = some (.int .i64 4) from rfl); rw [ad] at this; simpa using this
  · have := hc 15 _ (show (flT awakeT)[15]? = some (.string ⟨#[10]⟩) from rfl); rw [ad] at this; simpa using this
set_option maxRecDepth 100000 in
set_option maxHeartbeats 400000 in
theorem awake_any (w : World) (hM : Mem w) : Calls Tryd.prog 9 #[] w fun e w' => e = .returned (.bool true) ∧ Below w.heap.size w w' := by
  have H10 : Hid (∀ W, Below w.heap.size w W → Calls Tryd.prog 10 #[.string ⟨#[97, 58, 61, 49]⟩] W (TokP W (readOf ⟨#[97, 58, 61, 49]⟩))) := fun W h => tokens_any _ W (hM.below h)
  rw [read_awake] at H10
  have h13 := word_any ⟨#[102, 117, 110, 99]⟩
  rw [word_func] at h13
  have h15 := ident_any ⟨#[102, 117, 110, 99]⟩
  rw [idn_func] at h15
  clear hM
  have HBZ : Hid (Below w.heap.size w (w.alloc (.cells #[.int .i64 0, .string ⟨#[]⟩, .int .i64 0] 25))) := (Below.refl _ _).alloc (Nat.le_refl _) _
  go_enter Tryd.func9, Tryd.ntmps9
  go_wp2_with (first
    | (go_at_call 13; refine (h13 _).mono ?_; rintro e w2 ⟨rfl, hw2⟩; obtain rfl := hw2.symm)
    | (go_at_call 15; refine (h15 _).mono ?_; rintro e w3 ⟨rfl, hb3⟩; have HB3 : Hid _ := hb3; clear hb3)
    | (go_at_call 10; refine (H10.out _ (by first | exact Below.refl _ _ | exact HBZ.out)).mono ?_; rintro e w1 ⟨hb1, tv, rfl, ht⟩; obtain ⟨g, cap, rfl, hg2, y7, y12, y13, y14, y15⟩ := awake_cells ht; have HB1 : Hid (Below w.heap.size w w1) := hb1; have hz1 := hb1.size; clear ht hb1; unfold fltV))
  go_ret
  exact ⟨rfl, (HB1.out.alloc hz1 _).trans (HB3.out.mono (by simp; omega))⟩
end Go.Proofs.YtmfdfkbcommjfaaDoor
/-
  The document's own Ident, walked.
-/
namespace Go.Proofs.YtmfdfkbcommjfaaDoor
open Go.RowKit
attribute [local go_sem ↓] Go.wp_at_zero Go.wp_at_succ
set_option maxRecDepth 100000 in
set_option maxHeartbeats 400000 in
theorem rident_empty (S : ByteArray) (w : World) (h0 : S.size = 0) : Calls Tryd.prog 16 #[.string S] w fun e w' => e = .returned (.bool false) ∧ w' = w := by
  have k0 : (S.toList == []) = true := by rw [nil_of S h0]; rfl
  clear h0
  go_enter Tryd.func16, Tryd.ntmps16
  go_wp2_with fail
  go_ret
  exact ⟨rfl, rfl⟩
set_option maxRecDepth 100000 in
set_option maxHeartbeats 400000 in
theorem rident_head (S : ByteArray) (w : World) (h0 : 0 < S.size) (hl : ltr (S[0]'h0) = false) : Calls Tryd.prog 16 #[.string S] w fun e w' => e = .returned (.bool false) ∧ w' = w := by
  have k0 := ne_nil_of S h0
  have k2 : (0 : Int) < (S.size : Int) := by omega
  have h27 := rletter_any (S[0]'h0)
  rw [hl] at h27
  clear hl
  go_enter Tryd.func16, Tryd.ntmps16
  go_wp2_with (go_at_call 27; refine (h27 _).mono ?_; rintro e w1 ⟨rfl, hw1⟩; obtain rfl := hw1.symm)
  go_ret
  exact ⟨rfl, rfl⟩
set_option maxRecDepth 100000 in
set_option maxHeartbeats 400000 in
theorem rident_great (S : ByteArray) (w : World) (h0 : 0 < S.size) (hl : ltr (S[0]'h0) = true) (h1 : 60 < S.size) : Calls Tryd.prog 16 #[.string S] w fun e w' => e = .returned (.bool false) ∧ w' = w := by
  have k0 := ne_nil_of S h0
  have k1 : (60 : Int) < (S.size : Int) := by omega
  have k2 : (0 : Int) < (S.size : Int) := by omega
  have h27 := rletter_any (S[0]'h0)
  rw [hl] at h27
  clear hl
  go_enter Tryd.func16, Tryd.ntmps16
  go_wp2_with (go_at_call 27; refine (h27 _).mono ?_; rintro e w1 ⟨rfl, hw1⟩; obtain rfl := hw1.symm)
  go_ret
  exact ⟨rfl, rfl⟩
set_option maxRecDepth 100000 in
set_option maxHeartbeats 1000000 in
theorem rident_rest (S : ByteArray) (w : World) (h0 : 0 < S.size) (hl : ltr (S[0]'h0) = true) (h1 : S.size ≤ 60) : Calls Tryd.prog 16 #[.string S] w fun e w' => e = .returned (.bool (decide (run lod S.data.toList = S.size) && !word S.toList)) ∧ w' = w := by
  have k0 := ne_nil_of S h0
  have k1 : ¬ (60 : Int) < (S.size : Int) := by omega
  have k2 : (0 : Int) < (S.size : Int) := by omega
  have h27 := fun i (h : i < S.size) => rletter_any (S[i]'h)
  have h28 := fun i (h : i < S.size) => rdigit_any (S[i]'h)
  have h27' := rletter_any (S[0]'h0)
  rw [hl] at h27'
  have h14 := rword_any S
  generalize word S.toList = W at *
  obtain ⟨V, hV⟩ : ∃ V, run lod S.data.toList = V := ⟨_, rfl⟩
  have HV : Hid (run lod S.data.toList = V) := hV
  rw [hV]
  have HL : Hid (V ≤ S.size) := (by rw [← hV]; have := run_le lod S.data.toList; rw [bal] at this; exact this : V ≤ S.size)
  clear hV
  go_enter Tryd.func16, Tryd.ntmps16
  go_wp2_with (go_at_call 27; refine (h27' _).mono ?_; rintro e w1 ⟨rfl, hw1⟩; obtain rfl := hw1.symm)
  go_loop [3] (fun i => ∃ k : Nat, k ≤ S.size ∧ i = .int .i64 k ∧ Hid (k + run lod (S.data.toList.drop k) = V)) (fun i => S.size - (intOf i).toNat)
  case atStart => exact ⟨0, Nat.zero_le _, rfl, by rw [Nat.zero_add]; exact HV.out⟩
  case round =>
    obtain ⟨k, hk, rfl, HK⟩ := hrel
    by_cases hkl : k < S.size
    · have z1 : (k : Int) < (S.size : Int) := by omega
      have z2 : (0 : Int) ≤ (k : Int) := by omega
      have g27 := h27 k hkl
      have g28 := h28 k hkl
      cases q1 : ltr (S[k]'hkl) with
      | true =>
        rw [q1] at g27
        have HE : Hid (run lod (S.data.toList.drop k) = run lod (S.data.toList.drop (k + 1)) + 1) := run_yes hkl (by simp [lod, q1])
        clear q1 h27 h28 h27'
        go_wp2_with (go_at_call 27; refine (g27 _).mono ?_; rintro e w1 ⟨rfl, hw1⟩; obtain rfl := hw1.symm)
        refine ⟨⟨k + 1, by omega, by go_num, ?_⟩, by simp [intOf]; omega⟩
        have := HE.out; have := HK.out; show k + 1 + run lod (S.data.toList.drop (k + 1)) = V; omega
      | false =>
        rw [q1] at g27
        cases q2 : dgt (S[k]'hkl) with
        | true =>
          rw [q2] at g28
          have HE : Hid (run lod (S.data.toList.drop k) = run lod (S.data.toList.drop (k + 1)) + 1) := run_yes hkl (by simp [lod, q2])
          clear q1 q2 h27 h28 h27'
          go_wp2_with (first | (go_at_call 27; refine (g27 _).mono ?_; rintro e w1 ⟨rfl, hw1⟩; obtain rfl := hw1.symm) | (go_at_call 28; refine (g28 _).mono ?_; rintro e w1 ⟨rfl, hw1⟩; obtain rfl := hw1.symm))
          refine ⟨⟨k + 1, by omega, by go_num, ?_⟩, by simp [intOf]; omega⟩
          have := HE.out; have := HK.out; show k + 1 + run lod (S.data.toList.drop (k + 1)) = V; omega
        | false =>
          rw [q2] at g28
          have HE : Hid (run lod (S.data.toList.drop k) = 0) := run_no hkl (by simp [lod, q1, q2])
          clear q1 q2 h27 h28 h27'
          go_wp2_with (first | (go_at_call 27; refine (g27 _).mono ?_; rintro e w1 ⟨rfl, hw1⟩; obtain rfl := hw1.symm) | (go_at_call 28; refine (g28 _).mono ?_; rintro e w1 ⟨rfl, hw1⟩; obtain rfl := hw1.symm))
          go_ret
          refine ⟨ret_bool ?_, rfl⟩
          have := HE.out; have := HK.out
          rw [decide_eq_false (by omega)]; rfl
    · have z1 : ¬ (k : Int) < (S.size : Int) := by omega
      have HE : Hid (run lod (S.data.toList.drop k) = 0) := run_end hkl
      clear h27 h28 h27'
      go_wp2_with (go_at_call 14; refine (h14 _).mono ?_; rintro e w1 ⟨rfl, hw1⟩; obtain rfl := hw1.symm)
      go_ret
      refine ⟨ret_bool ?_, rfl⟩
      have := HE.out; have := HK.out
      rw [decide_eq_true (by omega)]; rfl
theorem rident_any (S : ByteArray) (w : World) : Calls Tryd.prog 16 #[.string S] w fun e w' => e = .returned (.bool (idn S)) ∧ w' = w := by
  unfold idn
  by_cases h0 : 0 < S.size
  · rw [dif_pos h0]
    cases hl : ltr (S[0]'h0) with
    | false => rw [Bool.and_false, Bool.false_and]; exact rident_head S w h0 hl
    | true =>
      by_cases h1 : S.size ≤ 60
      · rw [decide_eq_true h1, Bool.true_and, Bool.and_true, Bool.and_comm]; exact rident_rest S w h0 hl h1
      · rw [decide_eq_false h1]; exact rident_great S w h0 hl (by omega)
  · rw [dif_neg h0, Bool.and_false, Bool.false_and]; exact rident_empty S w (by omega)
end Go.Proofs.YtmfdfkbcommjfaaDoor
