/-
  The document's own answers for Place and Offset (recastref1), walked.
-/
import Derived.Test.YtbgkdofjndocfaaDoorWalkI
import Derived.Test.YtbgkdofjndocfaaDoorWalkJ
import Derived.Test.YtbgkdofjndocfaaDoorWalkL
namespace Go.Proofs.YtbgkdofjndocfaaDoor
open Go.RowKit
theorem byte_at (s : ByteArray) (k : Nat) (h : k < s.size) : s.data.toList[k]? = some (s[k]'h) := by simp [ByteArray.getElem_eq_getElem_data]
theorem is_ten (s : ByteArray) (k : Nat) (h : k < s.size) : ((((s[k]'h).toNat : Int) == 10) = true ∧ s.data.toList[k]? = some 10) ∨ ((((s[k]'h).toNat : Int) == 10) = false ∧ s.data.toList[k]? ≠ some 10) := by
  rw [byte_at s k h]
  by_cases e : s[k]'h = 10
  · exact .inl ⟨by rw [e]; rfl, by rw [e]⟩
  · refine .inr ⟨?_, fun h' => e (by simpa using h')⟩
    have : ¬ ((s[k]'h).toNat : Int) = 10 := fun h' => e (UInt8.toNat_inj.1 (show (s[k]'h).toNat = 10 by omega))
    simpa using this
theorem snoc_ten {l : List UInt8} {k : Nat} (h : l[k]? = some 10) : nlT l (k + 1) = nlT l k + 1 ∧ k + 1 - bgT l (k + 1) + 1 = 1 := by simp [nlT, bgT, h]
theorem snoc_not {l : List UInt8} {k : Nat} (h : l[k]? ≠ some 10) : nlT l (k + 1) = nlT l k ∧ k + 1 - bgT l (k + 1) + 1 = k - bgT l k + 1 + 1 := by
  have := bgT_le l k
  simp only [nlT, bgT, h, if_false]
  omega
set_option maxHeartbeats 400000 in
theorem within_any (s : ByteArray) (at_ : Int) (n : Nat) (w : World) (hs : s.size ≤ 1000000) (hn : (n : Int) = min (max at_ 0) s.size) :
    Calls Tryd.prog 20 #[.string s, .int .i64 at_] w fun e w' => e = .returned (.int .i64 n) ∧ w' = w := by
  have hn1 : (n : Int) ≤ min (max at_ 0) s.size := by omega
  have hn2 : min (max at_ 0) s.size ≤ (n : Int) := by omega
  clear hn
  go_enter Tryd.func20, Tryd.ntmps20
  go_wp2
  all_goals go_ret
  all_goals exact ⟨ret_int (by omega), rfl⟩
set_option maxRecDepth 100000 in
set_option maxHeartbeats 1000000 in
theorem refPlace_any (s : ByteArray) (at_ : Int) (n : Nat) (w : World) (hs : s.size ≤ 1000000) (hn : (n : Int) = min (max at_ 0) s.size) :
    Calls Tryd.prog 9 #[.string s, .int .i64 at_] w fun e w' => e = .returned (.tuple #[.int .i64 (1 + nlT s.data.toList n), .int .i64 ((n - bgT s.data.toList n + 1 : Nat) : Int)]) ∧ w' = w := by
  have h20 := fun w => within_any s at_ n w hs hn
  have hns : n ≤ s.size := by omega
  clear hn
  go_enter Tryd.func9, Tryd.ntmps9
  go_wp2_with fail
  go_loopw [6, 7, 8] (fun l c i w' => ∃ k : Nat, k ≤ n ∧ i = .int .i64 k ∧ l = .int .i64 (1 + nlT s.data.toList k) ∧ c = .int .i64 ((k - bgT s.data.toList k + 1 : Nat) : Int) ∧ w' = w) (fun _ _ i _ => n - (intOf i).toNat)
  case atStart => exact ⟨0, by omega, rfl, rfl, rfl, rfl⟩
  case round =>
    obtain ⟨k, hk, rfl, rfl, rfl, rfl⟩ := hrel
    have hl1 := nlT_le s.data.toList k
    by_cases hlt : k < n
    · have hks : k < s.size := by omega
      have hcb : k - bgT s.data.toList k + 1 ≤ k + 1 := by omega
      rcases is_ten s k hks with ⟨h10, ht⟩ | ⟨h10, ht⟩
      · have HS : Hid (nlT s.data.toList (k + 1) = nlT s.data.toList k + 1 ∧ k + 1 - bgT s.data.toList (k + 1) + 1 = 1) := snoc_ten ht
        clear ht
        generalize k - bgT s.data.toList k + 1 = C at *
        generalize nlT s.data.toList k = L at *
        go_wp2_with (go_at_call 20; refine (h20 _).mono ?_; rintro e w1 ⟨rfl, rfl⟩)
        go_roundw
        case rel => exact ⟨k + 1, by omega, by go_num, by rw [HS.out.1]; go_num, by rw [HS.out.2]; rfl, trivial⟩
        case measure => simp [intOf]; omega
      · have HS : Hid (nlT s.data.toList (k + 1) = nlT s.data.toList k ∧ k + 1 - bgT s.data.toList (k + 1) + 1 = k - bgT s.data.toList k + 1 + 1) := snoc_not ht
        clear ht
        generalize k - bgT s.data.toList k + 1 = C at *
        generalize nlT s.data.toList k = L at *
        go_wp2_with (go_at_call 20; refine (h20 _).mono ?_; rintro e w1 ⟨rfl, rfl⟩)
        go_roundw
        case rel => exact ⟨k + 1, by omega, by go_num, by rw [HS.out.1], by rw [HS.out.2]; go_num, trivial⟩
        case measure => simp [intOf]; omega
    · obtain rfl : k = n := by omega
      go_wp2_with (go_at_call 20; refine (h20 _).mono ?_; rintro e w1 ⟨rfl, rfl⟩)
      go_ret2
      exact ⟨rfl, rfl⟩
theorem offPost_found {l : List UInt8} {line col : Int} {i : Nat} (hi : i ≤ l.length) (h : placeAt l line col i) : offPost l line col (.returned (.tuple #[.int .i64 i, .bool true])) := .inl ⟨i, hi, h, rfl⟩
theorem place_tests (l : List UInt8) (line col : Int) (k : Nat) : (((1 + (nlT l k : Int)) == line) = true ∧ (((k - bgT l k + 1 : Nat) : Int) == col) = true ∧ placeAt l line col k) ∨ (((1 + (nlT l k : Int)) == line) = true ∧ (((k - bgT l k + 1 : Nat) : Int) == col) = false ∧ ¬ placeAt l line col k) ∨ (((1 + (nlT l k : Int)) == line) = false ∧ ¬ placeAt l line col k) := by
  unfold placeAt
  by_cases h1 : (1 + (nlT l k : Int)) = line
  · by_cases h2 : ((k - bgT l k + 1 : Nat) : Int) = col
    · exact .inl ⟨by simpa using h1, by simpa using h2, h1, h2⟩
    · exact .inr (.inl ⟨by simpa using h1, by simpa using h2, fun h => h2 h.2⟩)
  · exact .inr (.inr ⟨by simpa using h1, fun h => h1 h.1⟩)
set_option maxRecDepth 100000 in
set_option maxHeartbeats 2000000 in
theorem refOffset_any (s : ByteArray) (line col : Int) (w : World) (hs : s.size ≤ 1000000) :
    Calls Tryd.prog 11 #[.string s, .int .i64 line, .int .i64 col] w fun e w' => offPost s.data.toList line col e ∧ w' = w := by
  go_enter Tryd.func11, Tryd.ntmps11
  go_wp2_with fail
  go_loop [8, 9, 10] (fun l c i => ∃ k j : Nat, j ≤ s.size ∧ (k = j ∨ k = j + 1 ∧ j = s.size) ∧ i = .int .i64 k ∧ l = .int .i64 (1 + nlT s.data.toList j) ∧ c = .int .i64 ((j - bgT s.data.toList j + 1 : Nat) : Int) ∧ Hid (∀ i, i < k → i ≤ s.data.toList.length → ¬ placeAt s.data.toList line col i)) (fun _ _ i => s.size + 1 - (intOf i).toNat)
  case atStart => exact ⟨0, 0, by omega, .inl rfl, rfl, rfl, rfl, fun i h => by omega⟩
  case round =>
    obtain ⟨k, j, hj, hkj, rfl, rfl, rfl, HN⟩ := hrel
    have hl1 := nlT_le s.data.toList j
    have hb1 := bgT_le s.data.toList j
    by_cases hlt : k ≤ s.size
    · obtain rfl : k = j := by omega
      clear hkj
      have HN' : ¬ placeAt s.data.toList line col k → Hid (∀ i, i < k + 1 → i ≤ s.data.toList.length → ¬ placeAt s.data.toList line col i) := fun hp i hi hl => by
        rcases Nat.lt_or_ge i k with h | h
        · exact HN.out i h hl
        · obtain rfl : i = k := by omega
          exact hp
      have hcb : k - bgT s.data.toList k + 1 ≤ k + 1 := by omega
      rcases place_tests s.data.toList line col k with ⟨t1, t2, hp⟩ | hrest
      · clear HN'
        go_wp2
        go_ret2
        exact ⟨offPost_found (by simpa using hlt) hp, rfl⟩
      · have hnp : ¬ placeAt s.data.toList line col k := by rcases hrest with ⟨_, _, h⟩ | ⟨_, h⟩ <;> exact h
        have HN2 := HN' hnp
        clear HN' HN hnp
        by_cases hks : k < s.size
        · rcases is_ten s k hks with ⟨h10, ht⟩ | ⟨h10, ht⟩
          · have HS : Hid (nlT s.data.toList (k + 1) = nlT s.data.toList k + 1 ∧ k + 1 - bgT s.data.toList (k + 1) + 1 = 1) := snoc_ten ht
            clear ht
            rcases hrest with ⟨t1, t2, _⟩ | ⟨t1, _⟩
            all_goals
              go_wp2
              go_round
              case rel => exact ⟨k + 1, k + 1, by omega, .inl rfl, by go_num, by rw [HS.out.1]; go_num, by rw [HS.out.2]; rfl, HN2⟩
              case measure => simp [intOf]; omega
          · have HS : Hid (nlT s.data.toList (k + 1) = nlT s.data.toList k ∧ k + 1 - bgT s.data.toList (k + 1) + 1 = k - bgT s.data.toList k + 1 + 1) := snoc_not ht
            clear ht
            rcases hrest with ⟨t1, t2, _⟩ | ⟨t1, _⟩
            all_goals
              go_wp2
              go_round
              case rel => exact ⟨k + 1, k + 1, by omega, .inl rfl, by go_num, by rw [HS.out.1], by rw [HS.out.2]; go_num, HN2⟩
              case measure => simp [intOf]; omega
        · rcases hrest with ⟨t1, t2, _⟩ | ⟨t1, _⟩
          all_goals
            go_wp2
            go_round
            case rel => exact ⟨k + 1, k, by omega, .inr ⟨rfl, by omega⟩, by go_num, rfl, rfl, HN2⟩
            case measure => simp [intOf]; omega
    · go_wp2
      go_ret2
      exact ⟨.inr ⟨fun i hi => HN.out i (by simp at hi; omega) hi, rfl⟩, rfl⟩
end Go.Proofs.YtbgkdofjndocfaaDoor
