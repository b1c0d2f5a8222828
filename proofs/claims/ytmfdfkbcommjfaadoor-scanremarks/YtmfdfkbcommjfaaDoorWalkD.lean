/-
  runOf, walked: how many bytes fit, from the beginning on.
-/
import Derived.Test.YtmfdfkbcommjfaaDoorWalkC
import Derived.Test.YtmfdfkbcommjfaaDoorSaB
namespace Go.Proofs.YtmfdfkbcommjfaaDoor
open Go.RowKit
attribute [local go_sem ↓] Go.wp_at_zero Go.wp_at_succ
theorem run_le (f : UInt8 → Bool) (l : List UInt8) : run f l ≤ l.length := by
  induction l with
  | nil => exact Nat.le_refl _
  | cons b t ih => simp only [run, List.length_cons]; split <;> omega
theorem width_pos (s : ByteArray) (pos : Nat) (h : pos < s.size) : 1 ≤ (Utf8.decode s pos).2 := by
  by_cases ha : (s[pos]'h).toNat < 128
  · rw [decode_ascii s pos h ha]
    exact Nat.le_refl _
  · exact (decode_high s pos h (by omega)).2
theorem drop_cons (s : ByteArray) (pos : Nat) (h : pos < s.size) : s.data.toList.drop pos = s[pos]'h :: s.data.toList.drop (pos + 1) := by
  have h2 : pos < s.data.toList.length := by rw [Array.length_toList]; exact h
  rw [List.drop_eq_getElem_cons h2]
  congr 1
theorem run_yes {f : UInt8 → Bool} {s : ByteArray} {pos : Nat} (h : pos < s.size) (hf : f (s[pos]'h) = true) : run f (s.data.toList.drop pos) = run f (s.data.toList.drop (pos + 1)) + 1 := by
  rw [drop_cons s pos h]; simp [run, hf]
theorem run_no {f : UInt8 → Bool} {s : ByteArray} {pos : Nat} (h : pos < s.size) (hf : f (s[pos]'h) = false) : run f (s.data.toList.drop pos) = 0 := by
  rw [drop_cons s pos h]; simp [run, hf]
theorem run_end {f : UInt8 → Bool} {s : ByteArray} {pos : Nat} (h : ¬ pos < s.size) : run f (s.data.toList.drop pos) = 0 := by
  rw [List.drop_of_length_le (by rw [Array.length_toList]; exact Nat.le_of_not_lt h)]; rfl
set_option maxRecDepth 100000 in
set_option maxHeartbeats 1000000 in
theorem runLod_any (s : ByteArray) (w : World) (hs : s.size ≤ 65536) :
    Calls Tryd.prog 25 #[.string s, .func (.func 26) #[] #[]] w fun e w' => e = .returned (.int .i64 (run lod s.data.toList)) ∧ Below w.heap.size w w' := by
  obtain ⟨V, hV⟩ : ∃ V, run lod s.data.toList = V := ⟨_, rfl⟩
  rw [hV]
  have HV : Hid (run lod s.data.toList = V) := hV
  clear hV
  go_enter Tryd.func25, Tryd.ntmps25
  go_wp2_with fail
  go_loopw [] (fun wr => ∃ pos : Nat, pos ≤ s.size ∧ wr.heap[w.heap.size]? = some (.stringIter s pos) ∧ Below w.heap.size w wr ∧ Hid (pos + run lod (s.data.toList.drop pos) = V)) (fun wr => s.size - wr.iterPos w.heap.size)
  case atStart => exact ⟨0, by omega, World.iter_heap w s 0, (Below.refl _ w).alloc (Nat.le_refl _) _, by rw [Nat.zero_add]; exact HV.out⟩
  case round =>
    obtain ⟨pos, hp, hit, hbw, HP⟩ := hrel
    by_cases hlt : pos < s.size
    · have hnx : ∀ ty, (Instr.next (.pointer (some ⟨w.heap.size, 0, none⟩)) true ty).run Tryd.prog wr = _ := fun ty => Lib.run_next_any_at wr w.heap.size s pos ty hit hlt
      have hit2 := Lib.iterAt_heap wr w.heap.size s pos (pos + (Utf8.decode s pos).2) hit
      have hbw2 := Lib.below_iterAt hbw (k := w.heap.size) (Nat.le_refl _) s (pos + (Utf8.decode s pos).2)
      have HIT : Hid (wr.heap[w.heap.size]? = some (.stringIter s pos)) := hit
      have HIT2 : Hid _ := hit2
      have HB2 : Hid _ := hbw2
      have hwd := width_pos s pos hlt
      by_cases ha : (s[pos]'hlt).toNat < 128
      · have hd := decode_ascii s pos hlt ha
        rw [hd] at hnx HIT2 HB2
        simp only at hnx HIT2 HB2
        cases hf : lod (s[pos]'hlt) with
        | true =>
          have h26 := lod_any ((s[pos]'hlt).toNat : Int)
          rw [lodZ_nat, hf] at h26
          have HE : Hid (run lod (s.data.toList.drop pos) = run lod (s.data.toList.drop (pos + 1)) + 1) := run_yes hlt hf
          clear hd hit hit2 hbw2 hbw hf hwd
          go_wp2_with (go_at_call 26; refine (h26 _).mono ?_; rintro e w1 ⟨rfl, rfl⟩)
          go_roundw
          case rel => exact ⟨pos + 1, by omega, HIT2.out, HB2.out, by have := HE.out; have := HP.out; show pos + 1 + run lod (s.data.toList.drop (pos + 1)) = V; omega⟩
          case measure =>
            simp only [World.iterPos, HIT2.out, HIT.out]
            omega
        | false =>
          have h26 := lod_any ((s[pos]'hlt).toNat : Int)
          rw [lodZ_nat, hf] at h26
          have HE : Hid (run lod (s.data.toList.drop pos) = 0) := run_no hlt hf
          clear hd hit hit2 hbw2 hbw hf hwd
          go_wp2_with (go_at_call 26; refine (h26 _).mono ?_; rintro e w1 ⟨rfl, rfl⟩)
          go_ret
          exact ⟨ret_int (by have := HE.out; have := HP.out; omega), HB2.out⟩
      · have hh := (decode_high s pos hlt (by omega)).1
        generalize hD : Utf8.decode s pos = D at *
        obtain ⟨c, n⟩ := D
        simp only at *
        have h26 := lod_any (c : Int)
        rw [lodZ_high (by omega)] at h26
        have HE : Hid (run lod (s.data.toList.drop pos) = 0) := run_no hlt (by rw [← lodZ_nat]; exact lodZ_high (by omega))
        clear hD hit hit2 hbw2 hbw
        go_wp2_with (go_at_call 26; refine (h26 _).mono ?_; rintro e w1 ⟨rfl, rfl⟩)
        go_ret
        exact ⟨ret_int (by have := HE.out; have := HP.out; omega), HB2.out⟩
    · have hnx : ∀ ty, (Instr.next (.pointer (some ⟨w.heap.size, 0, none⟩)) true ty).run Tryd.prog wr = _ := fun ty => Lib.run_next_end_at wr w.heap.size s pos ty hit hlt
      have HE : Hid (run lod (s.data.toList.drop pos) = 0) := run_end hlt
      go_wp2
      go_ret
      exact ⟨ret_int (by have := HE.out; have := HP.out; omega), hbw⟩
set_option maxRecDepth 100000 in
set_option maxHeartbeats 1000000 in
theorem runDgt_any (s : ByteArray) (w : World) (hs : s.size ≤ 65536) :
    Calls Tryd.prog 25 #[.string s, .func (.func 44) #[] #[]] w fun e w' => e = .returned (.int .i64 (run dgt s.data.toList)) ∧ Below w.heap.size w w' := by
  obtain ⟨V, hV⟩ : ∃ V, run dgt s.data.toList = V := ⟨_, rfl⟩
  rw [hV]
  have HV : Hid (run dgt s.data.toList = V) := hV
  clear hV
  go_enter Tryd.func25, Tryd.ntmps25
  go_wp2_with fail
  go_loopw [] (fun wr => ∃ pos : Nat, pos ≤ s.size ∧ wr.heap[w.heap.size]? = some (.stringIter s pos) ∧ Below w.heap.size w wr ∧ Hid (pos + run dgt (s.data.toList.drop pos) = V)) (fun wr => s.size - wr.iterPos w.heap.size)
  case atStart => exact ⟨0, by omega, World.iter_heap w s 0, (Below.refl _ w).alloc (Nat.le_refl _) _, by rw [Nat.zero_add]; exact HV.out⟩
  case round =>
    obtain ⟨pos, hp, hit, hbw, HP⟩ := hrel
    by_cases hlt : pos < s.size
    · have hnx : ∀ ty, (Instr.next (.pointer (some ⟨w.heap.size, 0, none⟩)) true ty).run Tryd.prog wr = _ := fun ty => Lib.run_next_any_at wr w.heap.size s pos ty hit hlt
      have hit2 := Lib.iterAt_heap wr w.heap.size s pos (pos + (Utf8.decode s pos).2) hit
      have hbw2 := Lib.below_iterAt hbw (k := w.heap.size) (Nat.le_refl _) s (pos + (Utf8.decode s pos).2)
      have HIT : Hid (wr.heap[w.heap.size]? = some (.stringIter s pos)) := hit
      have HIT2 : Hid _ := hit2
      have HB2 : Hid _ := hbw2
      have hwd := width_pos s pos hlt
      by_cases ha : (s[pos]'hlt).toNat < 128
      · have hd := decode_ascii s pos hlt ha
        rw [hd] at hnx HIT2 HB2
        simp only at hnx HIT2 HB2
        cases hf : dgt (s[pos]'hlt) with
        | true =>
          have h26 := digit_any ((s[pos]'hlt).toNat : Int)
          rw [dgtZ_nat, hf] at h26
          have HE : Hid (run dgt (s.data.toList.drop pos) = run dgt (s.data.toList.drop (pos + 1)) + 1) := run_yes hlt hf
          clear hd hit hit2 hbw2 hbw hf hwd
          go_wp2_with (go_at_call 44; refine (h26 _).mono ?_; rintro e w1 ⟨rfl, rfl⟩)
          go_roundw
          case rel => exact ⟨pos + 1, by omega, HIT2.out, HB2.out, by have := HE.out; have := HP.out; show pos + 1 + run dgt (s.data.toList.drop (pos + 1)) = V; omega⟩
          case measure =>
            simp only [World.iterPos, HIT2.out, HIT.out]
            omega
        | false =>
          have h26 := digit_any ((s[pos]'hlt).toNat : Int)
          rw [dgtZ_nat, hf] at h26
          have HE : Hid (run dgt (s.data.toList.drop pos) = 0) := run_no hlt hf
          clear hd hit hit2 hbw2 hbw hf hwd
          go_wp2_with (go_at_call 44; refine (h26 _).mono ?_; rintro e w1 ⟨rfl, rfl⟩)
          go_ret
          exact ⟨ret_int (by have := HE.out; have := HP.out; omega), HB2.out⟩
      · have hh := (decode_high s pos hlt (by omega)).1
        generalize hD : Utf8.decode s pos = D at *
        obtain ⟨c, n⟩ := D
        simp only at *
        have h26 := digit_any (c : Int)
        rw [dgtZ_high (by omega)] at h26
        have HE : Hid (run dgt (s.data.toList.drop pos) = 0) := run_no hlt (by rw [← dgtZ_nat]; exact dgtZ_high (by omega))
        clear hD hit hit2 hbw2 hbw
        go_wp2_with (go_at_call 44; refine (h26 _).mono ?_; rintro e w1 ⟨rfl, rfl⟩)
        go_ret
        exact ⟨ret_int (by have := HE.out; have := HP.out; omega), HB2.out⟩
    · have hnx : ∀ ty, (Instr.next (.pointer (some ⟨w.heap.size, 0, none⟩)) true ty).run Tryd.prog wr = _ := fun ty => Lib.run_next_end_at wr w.heap.size s pos ty hit hlt
      have HE : Hid (run dgt (s.data.toList.drop pos) = 0) := run_end hlt
      go_wp2
      go_ret
      exact ⟨ret_int (by have := HE.out; have := HP.out; omega), hbw⟩
end Go.Proofs.YtmfdfkbcommjfaaDoor
