/-
  scan.Ident, walked.
-/
import Derived.Test.YtleiohccaagalaaGreatBase
import Derived.Lib.Bytealg
import Derived.Deep.DrawnRows
namespace Go.Proofs.YtleiohccaagalaaGreat
open Go.RowKit
attribute [local go_sem ↓] Go.wp_at_zero Go.wp_at_succ
theorem ret_int {k : IntKind} {a b : Int} (h : a = b) : Ending.returned (.int k a) = .returned (.int k b) := by rw [h]
theorem ret_bool {a b : Bool} (h : a = b) : Ending.returned (.bool a) = .returned (.bool b) := by rw [h]
/-- a letter, of a rune -/
def ltrZ (c : Int) : Bool := (decide (97 ≤ c) && decide (c ≤ 122)) || (decide (65 ≤ c) && decide (c ≤ 90)) || c == 95
def dgtZ (c : Int) : Bool := decide (48 ≤ c) && decide (c ≤ 57)
def lodZ (c : Int) : Bool := ltrZ c || dgtZ c
theorem ltrZ_nat (b : UInt8) : ltrZ (b.toNat : Int) = ltr b := by
  rw [Bool.eq_iff_iff]; simp only [ltrZ, ltr, Bool.or_eq_true, Bool.and_eq_true, decide_eq_true_eq, beq_iff_eq]; omega
theorem dgtZ_nat (b : UInt8) : dgtZ (b.toNat : Int) = dgt b := by
  rw [Bool.eq_iff_iff]; simp only [dgtZ, dgt, Bool.and_eq_true, decide_eq_true_eq]; omega
theorem lodZ_nat (b : UInt8) : lodZ (b.toNat : Int) = lod b := by rw [lodZ, lod, ltrZ_nat, dgtZ_nat]
theorem lodZ_high {c : Int} (h : 128 ≤ c) : lodZ c = false := by
  rw [Bool.eq_false_iff]; simp only [lodZ, ltrZ, dgtZ, ne_eq, Bool.or_eq_true, Bool.and_eq_true, decide_eq_true_eq, beq_iff_eq]; omega
theorem dgtZ_high {c : Int} (h : 128 ≤ c) : dgtZ c = false := by
  rw [Bool.eq_false_iff]; simp only [dgtZ, ne_eq, Bool.and_eq_true, decide_eq_true_eq]; omega
theorem ltrZ_high {c : Int} (h : 128 ≤ c) : ltrZ c = false := by
  rw [Bool.eq_false_iff]; simp only [ltrZ, ne_eq, Bool.or_eq_true, Bool.and_eq_true, decide_eq_true_eq, beq_iff_eq]; omega
theorem letter_any (c : Int) (w : World) : Calls Tryz.prog 78 #[.int .i32 c] w fun e w' => e = .returned (.bool (ltrZ c)) ∧ w' = w := by
  go_enter Tryz.func78, Tryz.ntmps78
  go_wp2
  all_goals (go_ret; refine ⟨ret_bool ?_, rfl⟩; rw [Bool.eq_iff_iff]; simp_all [ltrZ]; try omega)
theorem digit_any (c : Int) (w : World) : Calls Tryz.prog 82 #[.int .i32 c] w fun e w' => e = .returned (.bool (dgtZ c)) ∧ w' = w := by
  go_enter Tryz.func82, Tryz.ntmps82
  go_wp2
  all_goals (go_ret; refine ⟨ret_bool ?_, rfl⟩; rw [Bool.eq_iff_iff]; simp_all [dgtZ]; try omega)
theorem lod_any (c : Int) (w : World) : Calls Tryz.prog 80 #[.int .i32 c] w fun e w' => e = .returned (.bool (lodZ c)) ∧ w' = w := by
  have h24 := letter_any c
  have h44 := digit_any c
  unfold lodZ
  generalize ltrZ c = L at *
  generalize dgtZ c = D at *
  cases L
  · go_enter Tryz.func80, Tryz.ntmps80
    go_wp2_with (first | (go_at_call 78; refine (h24 _).mono ?_; rintro e w1 ⟨rfl, rfl⟩) | (go_at_call 82; refine (h44 _).mono ?_; rintro e w1 ⟨rfl, rfl⟩))
    go_ret
    exact ⟨rfl, rfl⟩
  · go_enter Tryz.func80, Tryz.ntmps80
    go_wp2_with (first | (go_at_call 78; refine (h24 _).mono ?_; rintro e w1 ⟨rfl, rfl⟩) | (go_at_call 82; refine (h44 _).mono ?_; rintro e w1 ⟨rfl, rfl⟩))
    go_ret
    exact ⟨rfl, rfl⟩
theorem word_any (s : ByteArray) (w : World) : Calls Tryz.prog 77 #[.string s] w fun e w' => e = .returned (.bool (word s.toList)) ∧ w' = w := by
  go_enter Tryz.func77, Tryz.ntmps77
  go_wp2
  all_goals first | (exfalso; simp_all; done) | (go_ret; refine ⟨ret_bool ?_, rfl⟩; simp_all [word, wordsL])
theorem width_pos (s : ByteArray) (pos : Nat) (h : pos < s.size) : 1 ≤ (Utf8.decode s pos).2 := by
  by_cases ha : (s[pos]'h).toNat < 128
  · rw [decode_ascii s pos h ha]
    exact Nat.le_refl _
  · exact (decode_high s pos h (by omega)).2
theorem drop_cons (s : ByteArray) (pos : Nat) (h : pos < s.size) : s.data.toList.drop pos = s[pos]'h :: s.data.toList.drop (pos + 1) := by
  have h2 : pos < s.data.toList.length := by rw [Array.length_toList]; exact h
  rw [List.drop_eq_getElem_cons h2]
  congr 1
theorem run_yes {f : UInt8 → Bool} {s : ByteArray} {pos : Nat} (h : pos < s.size) (hf : f (s[pos]'h) = true) : run f (s.data.toList.drop pos) = run f (s.data.toList.drop (pos + 1)) + 1 := by
  rw [drop_cons s pos h]; simp [run, hf]
theorem run_no {f : UInt8 → Bool} {s : ByteArray} {pos : Nat} (h : pos < s.size) (hf : f (s[pos]'h) = false) : run f (s.data.toList.drop pos) = 0 := by
  rw [drop_cons s pos h]; simp [run, hf]
theorem run_end {f : UInt8 → Bool} {s : ByteArray} {pos : Nat} (h : ¬ pos < s.size) : run f (s.data.toList.drop pos) = 0 := by
  rw [List.drop_of_length_le (by rw [Array.length_toList]; exact Nat.le_of_not_lt h)]; rfl
set_option maxRecDepth 100000 in
set_option maxHeartbeats 1000000 in
theorem runLod_any (s : ByteArray) (w : World) (hs : s.size ≤ 65536) :
    Calls Tryz.prog 79 #[.string s, .func (.func 80) #[] #[]] w fun e w' => e = .returned (.int .i64 (run lod s.data.toList)) ∧ Below w.heap.size w w' := by
  obtain ⟨V, hV⟩ : ∃ V, run lod s.data.toList = V := ⟨_, rfl⟩
  rw [hV]
  have HV : Hid (run lod s.data.toList = V) := hV
  clear hV
  go_enter Tryz.func79, Tryz.ntmps79
  go_wp2_with fail
  go_loopw [] (fun wr => ∃ pos : Nat, pos ≤ s.size ∧ wr.heap[w.heap.size]? = some (.stringIter s pos) ∧ Below w.heap.size w wr ∧ Hid (pos + run lod (s.data.toList.drop pos) = V)) (fun wr => s.size - wr.iterPos w.heap.size)
  case atStart => exact ⟨0, by omega, World.iter_heap w s 0, (Below.refl _ w).alloc (Nat.le_refl _) _, by rw [Nat.zero_add]; exact HV.out⟩
  case round =>
    obtain ⟨pos, hp, hit, hbw, HP⟩ := hrel
    by_cases hlt : pos < s.size
    · have hnx : ∀ ty, (Instr.next (.pointer (some ⟨w.heap.size, 0, none⟩)) true ty).run Tryz.prog wr = _ := fun ty => Lib.run_next_any_at wr w.heap.size s pos ty hit hlt
      have hit2 := Lib.iterAt_heap wr w.heap.size s pos (pos + (Utf8.decode s pos).2) hit
      have hbw2 := Lib.below_iterAt hbw (k := w.heap.size) (Nat.le_refl _) s (pos + (Utf8.decode s pos).2)
      have HIT : Hid (wr.heap[w.heap.size]? = some (.stringIter s pos)) := hit
      have HIT2 : Hid _ := hit2
      have HB2 : Hid _ := hbw2
      have hwd := width_pos s pos hlt
      by_cases ha : (s[pos]'hlt).toNat < 128
      · have hd := decode_ascii s pos hlt ha
        rw [hd] at hnx HIT2 HB2
        simp only at hnx HIT2 HB2
        cases hf : lod (s[pos]'hlt) with
        | true =>
          have h26 := lod_any ((s[pos]'hlt).toNat : Int)
          rw [lodZ_nat, hf] at h26
          have HE : Hid (run lod (s.data.toList.drop pos) = run lod (s.data.toList.drop (pos + 1)) + 1) := run_yes hlt hf
          clear hd hit hit2 hbw2 hbw hf hwd
          go_wp2_with (go_at_call 80; refine (h26 _).mono ?_; rintro e w1 ⟨rfl, rfl⟩)
          go_roundw
          case rel => exact ⟨pos + 1, by omega, HIT2.out, HB2.out, by have := HE.out; have := HP.out; show pos + 1 + run lod (s.data.toList.drop (pos + 1)) = V; omega⟩
          case measure =>
            simp only [World.iterPos, HIT2.out, HIT.out]
            omega
        | false =>
          have h26 := lod_any ((s[pos]'hlt).toNat : Int)
          rw [lodZ_nat, hf] at h26
          have HE : Hid (run lod (s.data.toList.drop pos) = 0) := run_no hlt hf
          clear hd hit hit2 hbw2 hbw hf hwd
          go_wp2_with (go_at_call 80; refine (h26 _).mono ?_; rintro e w1 ⟨rfl, rfl⟩)
          go_ret
          exact ⟨ret_int (by have := HE.out; have := HP.out; omega), HB2.out⟩
      · have hh := (decode_high s pos hlt (by omega)).1
        generalize hD : Utf8.decode s pos = D at *
        obtain ⟨c, n⟩ := D
        simp only at *
        have h26 := lod_any (c : Int)
        rw [lodZ_high (by omega)] at h26
        have HE : Hid (run lod (s.data.toList.drop pos) = 0) := run_no hlt (by rw [← lodZ_nat]; exact lodZ_high (by omega))
        clear hD hit hit2 hbw2 hbw
        go_wp2_with (go_at_call 80; refine (h26 _).mono ?_; rintro e w1 ⟨rfl, rfl⟩)
        go_ret
        exact ⟨ret_int (by have := HE.out; have := HP.out; omega), HB2.out⟩
    · have hnx : ∀ ty, (Instr.next (.pointer (some ⟨w.heap.size, 0, none⟩)) true ty).run Tryz.prog wr = _ := fun ty => Lib.run_next_end_at wr w.heap.size s pos ty hit hlt
      have HE : Hid (run lod (s.data.toList.drop pos) = 0) := run_end hlt
      go_wp2
      go_ret
      exact ⟨ret_int (by have := HE.out; have := HP.out; omega), hbw⟩
/-- an identifier -/
def idn (S : ByteArray) : Bool := decide (S.size ≤ 60) && !word S.toList && (if h : 0 < S.size then ltr (S[0]'h) else false) && decide (run lod S.data.toList = S.size)
theorem nil_of (S : ByteArray) (h : S.size = 0) : S.toList = [] := by
  rw [Lib.toList_data]; exact List.eq_nil_of_length_eq_zero (by rw [bal]; exact h)
theorem ne_nil_of (S : ByteArray) (h : 0 < S.size) : (S.toList == []) = false := by
  rw [Bool.eq_false_iff]; intro e
  have e := eq_of_beq e
  rw [Lib.toList_data] at e
  have : S.data.toList.length = 0 := by rw [e]; rfl
  rw [bal] at this; omega
set_option maxRecDepth 100000 in
set_option maxHeartbeats 400000 in
theorem ident_empty (S : ByteArray) (w : World) (h0 : S.size = 0) : Calls Tryz.prog 74 #[.string S] w fun e w' => e = .returned (.bool false) ∧ Below w.heap.size w w' := by
  have k0 : (S.toList == []) = true := by rw [nil_of S h0]; rfl
  clear h0
  go_enter Tryz.func74, Tryz.ntmps74
  go_wp2_with fail
  go_ret
  exact ⟨rfl, Below.refl _ _⟩
set_option maxRecDepth 100000 in
set_option maxHeartbeats 400000 in
theorem ident_great (S : ByteArray) (w : World) (h0 : 0 < S.size) (h1 : 60 < S.size) : Calls Tryz.prog 74 #[.string S] w fun e w' => e = .returned (.bool false) ∧ Below w.heap.size w w' := by
  have k0 := ne_nil_of S h0
  have k1 : (60 : Int) < (S.size : Int) := by omega
  clear h0 h1
  go_enter Tryz.func74, Tryz.ntmps74
  go_wp2_with fail
  go_ret
  exact ⟨rfl, Below.refl _ _⟩
set_option maxRecDepth 100000 in
set_option maxHeartbeats 400000 in
theorem ident_word (S : ByteArray) (w : World) (h0 : 0 < S.size) (h1 : S.size ≤ 60) (hw : word S.toList = true) : Calls Tryz.prog 74 #[.string S] w fun e w' => e = .returned (.bool false) ∧ Below w.heap.size w w' := by
  have k0 := ne_nil_of S h0
  have k1 : ¬ (60 : Int) < (S.size : Int) := by omega
  have h13 := word_any S
  rw [hw] at h13
  clear h0 h1 hw
  go_enter Tryz.func74, Tryz.ntmps74
  go_wp2_with (go_at_call 77; refine (h13 _).mono ?_; rintro e w1 ⟨rfl, hw1⟩; obtain rfl := hw1.symm)
  go_ret
  exact ⟨rfl, Below.refl _ _⟩
set_option maxRecDepth 100000 in
set_option maxHeartbeats 400000 in
theorem ident_head (S : ByteArray) (w : World) (h0 : 0 < S.size) (h1 : S.size ≤ 60) (hw : word S.toList = false) (hl : ltr (S[0]'h0) = false) : Calls Tryz.prog 74 #[.string S] w fun e w' => e = .returned (.bool false) ∧ Below w.heap.size w w' := by
  have k0 := ne_nil_of S h0
  have k1 : ¬ (60 : Int) < (S.size : Int) := by omega
  have k2 : (0 : Int) < (S.size : Int) := by omega
  have h13 := word_any S
  rw [hw] at h13
  have h24 := letter_any (wrap32 ((S[0]'h0).toNat : Int))
  rw [show ltrZ (wrap32 ((S[0]'h0).toNat : Int)) = ltr (S[0]'h0) by rw [w32, ltrZ_nat], hl] at h24
  clear h1 hw hl
  go_enter Tryz.func74, Tryz.ntmps74
  go_wp2_with (first | (go_at_call 77; refine (h13 _).mono ?_; rintro e w1 ⟨rfl, hw1⟩; obtain rfl := hw1.symm) | (go_at_call 78; refine (h24 _).mono ?_; rintro e w1 ⟨rfl, hw1⟩; obtain rfl := hw1.symm))
  go_ret
  exact ⟨rfl, Below.refl _ _⟩
set_option maxRecDepth 100000 in
set_option maxHeartbeats 400000 in
theorem ident_rest (S : ByteArray) (w : World) (h0 : 0 < S.size) (h1 : S.size ≤ 60) (hw : word S.toList = false) (hl : ltr (S[0]'h0) = true) : Calls Tryz.prog 74 #[.string S] w fun e w' => e = .returned (.bool (decide (run lod S.data.toList = S.size))) ∧ Below w.heap.size w w' := by
  have k0 := ne_nil_of S h0
  have k1 : ¬ (60 : Int) < (S.size : Int) := by omega
  have k2 : (0 : Int) < (S.size : Int) := by omega
  have h13 := word_any S
  rw [hw] at h13
  have h24 := letter_any (wrap32 ((S[0]'h0).toNat : Int))
  rw [show ltrZ (wrap32 ((S[0]'h0).toNat : Int)) = ltr (S[0]'h0) by rw [w32, ltrZ_nat], hl] at h24
  have h25 := fun w => runLod_any S w (by omega)
  generalize run lod S.data.toList = n at *
  have HE : Hid ((((n : Nat) : Int) == ((S.size : Nat) : Int)) = decide (n = S.size)) := by
    show _ = _
    by_cases q : n = S.size
    · rw [decide_eq_true q]; exact nat_beq q
    · rw [decide_eq_false q]; exact nat_bne q
  clear h1 hw hl
  go_enter Tryz.func74, Tryz.ntmps74
  go_wp2_with (first | (go_at_call 77; refine (h13 _).mono ?_; rintro e w1 ⟨rfl, hw1⟩; obtain rfl := hw1.symm) | (go_at_call 78; refine (h24 _).mono ?_; rintro e w1 ⟨rfl, hw1⟩; obtain rfl := hw1.symm) | (go_at_call 79; refine (h25 _).mono ?_; rintro e w2 ⟨rfl, hb2⟩))
  all_goals
    go_ret
    exact ⟨ret_bool (by first | exact HE.out | (rw [← HE.out]; simp_all)), hb2⟩
theorem ident_any (S : ByteArray) (w : World) : Calls Tryz.prog 74 #[.string S] w fun e w' => e = .returned (.bool (idn S)) ∧ Below w.heap.size w w' := by
  unfold idn
  by_cases h0 : 0 < S.size
  · rw [dif_pos h0]
    by_cases h1 : S.size ≤ 60
    · rw [decide_eq_true h1, Bool.true_and]
      cases hw : word S.toList with
      | true => exact ident_word S w h0 h1 hw
      | false =>
        cases hl : ltr (S[0]'h0) with
        | false => exact ident_head S w h0 h1 hw hl
        | true => exact ident_rest S w h0 h1 hw hl
    · rw [decide_eq_false h1]; exact ident_great S w h0 (by omega)
  · rw [dif_neg h0, Bool.and_false, Bool.false_and]; exact ident_empty S w (by omega)
end Go.Proofs.YtleiohccaagalaaGreat
