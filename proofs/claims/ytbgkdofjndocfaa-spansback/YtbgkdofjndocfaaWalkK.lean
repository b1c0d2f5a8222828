/-
  SpansBack, called in whatever memory: it returns true and leaves all that lay there as it was.
-/
import Derived.Test.YtbgkdofjndocfaaWalkI
import Derived.Test.YtbgkdofjndocfaaWalkJ
namespace Go.Proofs.Ytbgkdofjndocfaa
open Go.RowKit
set_option maxRecDepth 100000 in
set_option maxHeartbeats 1000000 in
theorem back_out (s : ByteArray) (a : Int) (w : World) (hs : s.size ≤ maxLen) (h : 4000 < (s.size : Int) ∨ a < 0 ∨ (s.size : Int) < a) :
    Calls Try.prog 6 #[.string s, .int .i64 a] w fun e w' => e = .returned (.bool true) ∧ Below w.heap.size w w' := by
  unfold maxLen at hs
  by_cases h1 : 4000 < (s.size : Int)
  · clear h
    go_enter Try.func6, Try.ntmps6
    go_wp2_with (go_at_call 8; refine (awake_any _).mono ?_; rintro e w1 ⟨rfl, hb⟩)
    go_ret
    exact ⟨rfl, hb⟩
  by_cases h2 : a < 0
  · clear h
    go_enter Try.func6, Try.ntmps6
    go_wp2_with (go_at_call 8; refine (awake_any _).mono ?_; rintro e w1 ⟨rfl, hb⟩)
    go_ret
    exact ⟨rfl, hb⟩
  · have h3 : (s.size : Int) < a := by omega
    clear h
    go_enter Try.func6, Try.ntmps6
    go_wp2_with (go_at_call 8; refine (awake_any _).mono ?_; rintro e w1 ⟨rfl, hb⟩)
    go_ret
    exact ⟨rfl, hb⟩
theorem nl_snoc (s : ByteArray) (k : Nat) (h : k < s.size) : nlT s.data.toList (k + 1) = nlT s.data.toList k + if (s[k].toNat : Int) = 10 then 1 else 0 := by
  have hg : s.data.toList[k]? = some (s[k]'h) := by simp [ByteArray.getElem_eq_getElem_data]
  simp only [nlT, hg, Option.some.injEq]
  by_cases e : s[k] = 10
  · rw [if_pos e, if_pos (by rw [e]; rfl)]
  · have e2 : ¬ (s[k].toNat : Int) = 10 := fun h' => e (UInt8.toNat_inj.1 (show s[k].toNat = 10 by omega))
    rw [if_neg e, if_neg e2]
set_option maxRecDepth 100000 in
set_option maxHeartbeats 1000000 in
theorem back_in (s : ByteArray) (n : Nat) (w : World) (hs : s.size ≤ 4000) (hn : n ≤ s.size) :
    Calls Try.prog 6 #[.string s, .int .i64 n] w fun e w' => e = .returned (.bool true) ∧ Below w.heap.size w w' := by
  have h19 := place_any s n n w (by omega) (by omega)
  have hnl := nlT_le s.data.toList n
  have hbg := bgT_le s.data.toList n
  have h20 := fun w => offset_any s (1 + nlT s.data.toList n) ((n - bgT s.data.toList n + 1 : Nat) : Int) w (by omega) (by omega) (by omega) (by omega) (by omega)
  have z0 : ¬ (4000 < (s.size : Int)) := by omega
  have z1 : ¬ ((n : Int) < 0) := by omega
  have z2 : ¬ ((s.size : Int) < (n : Int)) := by omega
  go_enter Try.func6, Try.ntmps6
  go_wp2_with fail
  refine h19.mono ?_
  rintro e w1 ⟨rfl, hb1⟩
  clear h19
  have HP : Hid (placeAt s.data.toList (1 + nlT s.data.toList n) ((n - bgT s.data.toList n + 1 : Nat) : Int) n) := ⟨rfl, rfl⟩
  go_wp2_with fail
  refine (h20 _).mono ?_
  rintro e w2 ⟨hpost, rfl⟩
  clear h20
  have he : e = .returned (.tuple #[.int .i64 n, .bool true]) := by
    rcases hpost with ⟨i, _, hi, rfl⟩ | ⟨h, _⟩
    · rw [placeAt_inj hi HP.out]
    · exact absurd HP.out (h n (by simpa using hn))
  subst he
  clear hpost HP
  have hC1 : 1 ≤ n - bgT s.data.toList n + 1 := by omega
  have hC2 : n - bgT s.data.toList n + 1 ≤ 5000 := by omega
  generalize hL : nlT s.data.toList n = L at *
  generalize (n - bgT s.data.toList n + 1 : Nat) = C at *
  have HL : Hid (nlT s.data.toList n = L) := hL
  clear hL hbg
  go_wp2_with fail
  go_loop [9, 10] (fun m i => ∃ k : Nat, k ≤ n ∧ i = .int .i64 k ∧ m = .int .i64 (1 + nlT s.data.toList k)) (fun _ i => n - (intOf i).toNat)
  case atStart => exact ⟨0, by omega, rfl, rfl⟩
  case round =>
    obtain ⟨k, hk, rfl, rfl⟩ := hrel
    have hkl := nlT_le s.data.toList k
    by_cases hlt : k < n
    · have hsn := nl_snoc s k (by omega)
      by_cases h10 : ((s[k]'(by omega)).toNat : Int) = 10
      · rw [if_pos h10] at hsn
        have HS : Hid (nlT s.data.toList (k + 1) = nlT s.data.toList k + 1) := hsn
        have h10b : (((s[k]'(by omega)).toNat : Int) == 10) = true := by simpa using h10
        clear hsn h10
        go_wp2
        go_round
        case rel => exact ⟨k + 1, by omega, by go_num, by rw [HS.out]; go_num⟩
        case measure => simp [intOf]; omega
      · rw [if_neg h10] at hsn
        have HS : Hid (nlT s.data.toList (k + 1) = nlT s.data.toList k + 0) := hsn
        have h10b : (((s[k]'(by omega)).toNat : Int) == 10) = false := by simpa using h10
        clear hsn h10
        go_wp2
        go_round
        case rel => exact ⟨k + 1, by omega, by go_num, by rw [HS.out]; go_num⟩
        case measure => simp [intOf]; omega
    · obtain rfl : k = n := by omega
      rw [HL.out] at *
      go_wp2_with (go_at_call 8; refine (awake_any _).mono ?_; rintro e w3 ⟨rfl, hb3⟩)
      go_ret
      exact ⟨rfl, hb1.trans (hb3.mono hb1.size)⟩
end Go.Proofs.Ytbgkdofjndocfaa
