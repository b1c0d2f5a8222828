/-
  spans.lineOf and spans.Place: line and column of a byte.
-/
import Derived.Test.YtbgkdofjndocfabPlain
import Derived.Test.YtbgkdofjndocfabWalkA
import Derived.Test.YtbgkdofjndocfabShelf
import Derived.WalkKit
import Derived.WalkSpells
import Derived.WalkLawsBesides
namespace Go.Proofs.Ytbgkdofjndocfab
open Go.RowKit
theorem ext_take (s : ByteArray) (n : Nat) : (s.extract 0 n).data.toList = s.data.toList.take n := by
  simp [ByteArray.data_extract]
theorem below_iter (w : World) (s : ByteArray) (p : Nat) : Below w.heap.size w (w.iter s p) := (Below.refl _ _).alloc (Nat.le_refl _) _
set_option maxRecDepth 100000 in
set_option maxHeartbeats 1000000 in
theorem lineOf_any (s : ByteArray) (n : Nat) (w : World) (hs : s.size ≤ 1000000) (hn : n ≤ s.size) :
    Calls Try.prog 25 #[.string s, .int .i64 n] w fun e w' => e = .returned (.tuple #[.int .i64 (1 + nlT s.data.toList n), .int .i64 (bgT s.data.toList n)]) ∧ Below w.heap.size w w' := by
  have HT : Hid (∀ k, k ≤ n → nlT (s.extract 0 n).data.toList k = nlT s.data.toList k ∧ bgT (s.extract 0 n).data.toList k = bgT s.data.toList k) := fun k hk => by rw [ext_take s n]; exact nlT_take _ _ k hk
  have hz : (s.extract 0 n).size = n := by simp; omega
  have z1 : (0 : Int) ≤ (n : Int) := by omega
  have z2 : (n : Int) ≤ (s.size : Int) := by omega
  go_enter Try.func25, Try.ntmps25
  go_wp2
  generalize s.extract 0 n = u at *
  go_loopw [4, 5] (fun a b w' => ∃ pos : Nat, pos ≤ n ∧ w' = w.iter u pos ∧ a = .int .i64 (1 + nlT u.data.toList pos) ∧ b = .int .i64 (bgT u.data.toList pos)) (fun _ _ w' => n - w'.iterPos w.heap.size)
  case atStart => exact ⟨0, by omega, rfl, rfl, rfl⟩
  case round =>
    obtain ⟨pos, hp, rfl, rfl, rfl⟩ := hrel
    by_cases hlt : pos < n
    · have hps : pos < u.size := by omega
      have hnx : ∀ ty, (Instr.next (.pointer (some ⟨w.heap.size, 0, none⟩)) true ty).run Try.prog (w.iter u pos) = _ := fun ty => run_next_any w u pos ty hps
      have hst := dec_step u pos hps
      have hl1 := nlT_le u.data.toList pos
      have hl2 := bgT_le u.data.toList pos
      obtain ⟨hd1, hd2, hd3⟩ := hst
      generalize (Utf8.decode u pos).2 = d at *
      generalize (Utf8.decode u pos).1 = r at *
      rcases hd3 with ⟨rfl, e1, e2⟩ | ⟨hr, e1, e2⟩
      · have E : Hid (nlT u.data.toList (pos + d) = nlT u.data.toList pos + 1 ∧ bgT u.data.toList (pos + d) = pos + 1) := ⟨e1, e2⟩
        clear e1 e2
        go_wp2
        go_roundw
        case rel => exact ⟨pos + d, by omega, rfl, by rw [E.out.1]; go_num, by rw [E.out.2]; go_num⟩
        case measure => simp; omega
      · have E : Hid (nlT u.data.toList (pos + d) = nlT u.data.toList pos ∧ bgT u.data.toList (pos + d) = bgT u.data.toList pos) := ⟨e1, e2⟩
        have hr2 : ((r : Int) == 10) = false := by simp; omega
        clear e1 e2
        go_wp2
        go_roundw
        case rel => exact ⟨pos + d, by omega, rfl, by rw [E.out.1], by rw [E.out.2]⟩
        case measure => simp; omega
    · have hps : ¬ pos < u.size := by omega
      have hnx : ∀ ty, (Instr.next (.pointer (some ⟨w.heap.size, 0, none⟩)) true ty).run Try.prog (w.iter u pos) = _ := fun ty => run_next_end w u pos ty hps
      obtain rfl : pos = n := by omega
      go_wp2
      go_ret2
      have ht := HT.out pos (Nat.le_refl _)
      exact ⟨by rw [ht.1, ht.2]; rfl, below_iter _ _ _⟩
set_option maxHeartbeats 1000000 in
theorem place_any (s : ByteArray) (at_ : Int) (n : Nat) (w : World) (hs : s.size ≤ 1000000) (hn : (n : Int) = min (max at_ 0) s.size) :
    Calls Try.prog 13 #[.string s, .int .i64 at_] w fun e w' => e = .returned (.tuple #[.int .i64 (1 + nlT s.data.toList n), .int .i64 ((n - bgT s.data.toList n + 1 : Nat) : Int)]) ∧ Below w.heap.size w w' := by
  have h33 := clamped_any s at_ w (by unfold maxLen; omega)
  rw [← hn] at h33
  have h34 := fun w => lineOf_any s n w hs (by omega)
  have hb := bgT_le s.data.toList n
  have hle : n ≤ s.size := by omega
  generalize nlT s.data.toList n = L at *
  generalize bgT s.data.toList n = B at *
  clear hn
  go_enter Try.func13, Try.ntmps13
  go_wp2_with (first | (go_at_call 24; refine h33.mono ?_; rintro e w1 ⟨rfl, rfl⟩) | (go_at_call 25; refine (h34 _).mono ?_; rintro e w2 ⟨rfl, hb2⟩))
  go_ret2
  refine ⟨?_, hb2⟩
  rw [show ((n - B + 1 : Nat) : Int) = (n : Int) - B + 1 by omega]
  rfl
end Go.Proofs.Ytbgkdofjndocfab
