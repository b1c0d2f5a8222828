/-
  split and what it calls, walked.
-/
import Derived.Test.YtleiohccaagalaaGreatRdr2
import Derived.Deep.AppendLies
import Derived.Laws.OwnMore
import Derived.Deep.OwnRows
import Derived.Deep.QuietTactic
import Derived.BigQuiet
namespace Go.Proofs.YtleiohccaagalaaGreat
open Go.RowKit
attribute [local go_sem ↓] Go.wp_at_zero Go.wp_at_succ
theorem inT_nat (b : UInt8) : inT b = ((decide (97 ≤ b.toNat) && decide (b.toNat ≤ 122)) || (decide (48 ≤ b.toNat) && decide (b.toNat ≤ 57))) := by
  simp only [inT, UInt8.le_iff_toNat_le]
  rfl
theorem inTag_any (b : UInt8) (w : World) : Calls Tryz.prog 49 #[.int .u8 b.toNat] w fun e w' => e = .returned (.bool (inT b)) ∧ w' = w := by
  rw [inT_nat]
  generalize b.toNat = c
  go_enter Tryz.func49, Tryz.ntmps49
  go_wp2
  all_goals (go_ret; refine ⟨ret_bool ?_, rfl⟩; rw [Bool.eq_iff_iff]; simp_all; try omega)
theorem u8_beq (b : UInt8) (n : Nat) (hn : n < 256) : ((b.toNat : Int) == (n : Int)) = decide (b = UInt8.ofNat n) := by
  by_cases h : b.toNat = n
  · rw [nat_beq h]; symm; rw [decide_eq_true_eq]; apply UInt8.toNat_inj.1; rw [h, UInt8.toNat_ofNat']; omega
  · rw [nat_bne h]; symm; rw [decide_eq_false_iff_not]; intro e; apply h; rw [e, UInt8.toNat_ofNat']; omega
theorem bs0 (c : UInt8) (r : Bs) (h : 0 < (bs (c :: r)).size) : (bs (c :: r))[0]'h = c := by simp [bs, ByteArray.getElem_eq_getElem_data]
theorem bs1 (c d : UInt8) (r : Bs) (h : 1 < (bs (c :: d :: r)).size) : (bs (c :: d :: r))[1]'h = d := by simp [bs, ByteArray.getElem_eq_getElem_data]
theorem u8_is {b : UInt8} {n : Nat} (h : b = UInt8.ofNat n) (hn : n < 256) : ((b.toNat : Int) == (n : Int)) = true := by rw [u8_beq b n hn]; exact decide_eq_true h
theorem u8_not {b : UInt8} {n : Nat} (h : b ≠ UInt8.ofNat n) (hn : n < 256) : ((b.toNat : Int) == (n : Int)) = false := by rw [u8_beq b n hn]; exact decide_eq_false h
theorem u8_same (b c : UInt8) : ((b.toNat : Int) == (c.toNat : Int)) = decide (b = c) := by
  by_cases h : b = c
  · rw [h]; simp
  · rw [decide_eq_false h]; exact nat_bne (fun e => h (UInt8.toNat_inj.1 e))
/-- three signs of one byte -/
theorem signAt_one (c : UInt8) (r : Bs) (w : World) (h : c = 33 ∨ c = 40 ∨ c = 41) : Calls Tryz.prog 38 #[.string (bs (c :: r))] w fun e w' => e = .returned (.int .i64 1) ∧ Below w.heap.size w w' := by
  have hz : 0 < (bs (c :: r)).size := by rw [bs_size]; simp
  have g0 := bs0 c r hz
  have k0 : (0 : Int) < ((bs (c :: r)).size : Int) := by omega
  generalize bs (c :: r) = S at *
  by_cases h1 : c = 33
  · have a1 := u8_is (n := 33) h1 (by decide)
    clear h h1
    go_enter Tryz.func38, Tryz.ntmps38
    go_wp2_with fail
    go_ret
    exact ⟨rfl, Below.refl _ _⟩
  · have a1 := u8_not (n := 33) h1 (by decide)
    by_cases h2 : c = 40
    · have a2 := u8_is (n := 40) h2 (by decide)
      clear h h1 h2
      go_enter Tryz.func38, Tryz.ntmps38
      go_wp2_with fail
      go_ret
      exact ⟨rfl, Below.refl _ _⟩
    · have a2 := u8_not (n := 40) h2 (by decide)
      have a3 := u8_is (b := c) (n := 41) (by rcases h with h | h | h; exact absurd h h1; exact absurd h h2; exact h) (by decide)
      clear h h1 h2
      go_enter Tryz.func38, Tryz.ntmps38
      go_wp2_with fail
      go_ret
      exact ⟨rfl, Below.refl _ _⟩
theorem below_dn (w : World) (n : Nat) : Below w.heap.size w (w.drewN n) := ⟨rfl, rfl, rfl, Nat.le_refl _, fun _ _ => rfl⟩
theorem signAt_two (c : UInt8) (r : Bs) (w : World) (h1 : c ≠ 33) (h2 : c ≠ 40) (h3 : c ≠ 41) (h : c = 38 ∨ c = 124) : Calls Tryz.prog 38 #[.string (bs (c :: r))] w fun e w' => e = .returned (.int .i64 (if r.head? = some c then 2 else 0 : Nat)) ∧ Below w.heap.size w w' := by
  have hz : 0 < (bs (c :: r)).size := by rw [bs_size]; simp
  have g0 := bs0 c r hz
  have k0 : (0 : Int) < ((bs (c :: r)).size : Int) := by omega
  have a1 := u8_not (n := 33) h1 (by decide)
  have a2 := u8_not (n := 40) h2 (by decide)
  have a3 := u8_not (n := 41) h3 (by decide)
  have a4 : ((c.toNat : Int) == 38) = true ∨ ((c.toNat : Int) == 38) = false ∧ ((c.toNat : Int) == 124) = true := by
    by_cases h4 : c = 38
    · exact .inl (u8_is (n := 38) h4 (by decide))
    · exact .inr ⟨u8_not (n := 38) h4 (by decide), u8_is (b := c) (n := 124) (h.resolve_left h4) (by decide)⟩
  clear h h1 h2 h3
  cases r with
  | nil =>
    have k1 : ¬ (1 : Int) < ((bs [c]).size : Int) := by rw [bs_size]; simp
    have k2 : decide ((1 : Int) < ((bs [c]).size : Int)) = false := decide_eq_false k1
    generalize bs [c] = S at *
    rw [if_neg (by simp)]
    rcases a4 with a4 | ⟨a4, a5⟩
    all_goals
      go_enter Tryz.func38, Tryz.ntmps38
      go_wp2_with fail
      go_quiet (fail)
      go_wp2_with fail
      go_ret
      exact ⟨rfl, below_dn _ _⟩
  | cons d r =>
    have hz1 : 1 < (bs (c :: d :: r)).size := by rw [bs_size]; simp
    have g1 := bs1 c d r hz1
    have k1 : (1 : Int) < ((bs (c :: d :: r)).size : Int) := by omega
    have e1 : (if (d :: r).head? = some c then 2 else 0 : Nat) = if d = c then 2 else 0 := by simp
    rw [e1]
    have ks := u8_same d c
    clear e1
    generalize bs (c :: d :: r) = S at *
    by_cases hd : d = c
    · rw [if_pos hd]
      rw [decide_eq_true hd] at ks
      clear hd
      rcases a4 with a4 | ⟨a4, a5⟩
      all_goals
        go_enter Tryz.func38, Tryz.ntmps38
        go_wp2_with fail
        go_quiet (fail)
        go_wp2_with fail
        go_ret
        exact ⟨rfl, below_dn _ _⟩
    · rw [if_neg hd]
      rw [decide_eq_false hd] at ks
      clear hd
      rcases a4 with a4 | ⟨a4, a5⟩
      all_goals
        go_enter Tryz.func38, Tryz.ntmps38
        go_wp2_with fail
        go_quiet (fail)
        go_wp2_with fail
        go_ret
        exact ⟨rfl, below_dn _ _⟩
set_option maxRecDepth 100000 in
set_option maxHeartbeats 2000000 in
theorem signAt_run (S : ByteArray) (w : World) (hz : 0 < S.size) (hs : S.size ≤ 1000000) (h1 : S[0]'hz ≠ 33) (h2 : S[0]'hz ≠ 40) (h3 : S[0]'hz ≠ 41) (h4 : S[0]'hz ≠ 38) (h5 : S[0]'hz ≠ 124) : Calls Tryz.prog 38 #[.string S] w fun e w' => e = .returned (.int .i64 (run inT S.data.toList)) ∧ Below w.heap.size w w' := by
  have k0 : (0 : Int) < (S.size : Int) := by omega
  have a1 : (((S[0]'hz).toNat : Int) == 33) = false := u8_not (n := 33) h1 (by decide)
  have a2 : (((S[0]'hz).toNat : Int) == 40) = false := u8_not (n := 40) h2 (by decide)
  have a3 : (((S[0]'hz).toNat : Int) == 41) = false := u8_not (n := 41) h3 (by decide)
  have a4 : (((S[0]'hz).toNat : Int) == 38) = false := u8_not (n := 38) h4 (by decide)
  have a5 : (((S[0]'hz).toNat : Int) == 124) = false := u8_not (n := 124) h5 (by decide)
  clear h1 h2 h3 h4 h5
  obtain ⟨V, hV⟩ : ∃ V, run inT S.data.toList = V := ⟨_, rfl⟩
  rw [hV]
  have HV : Hid (run inT S.data.toList = V) := hV
  clear hV
  go_enter Tryz.func38, Tryz.ntmps38
  go_wp2_with fail
  go_loopg [3] S.size (fun g u3 wr => ∃ n : Nat, n ≤ S.size ∧ S.size - n ≤ g ∧ u3 = .int .i64 n ∧ wr = w ∧ Hid (n + run inT (S.data.toList.drop n) = V))
  case atStart => exact ⟨0, Nat.zero_le _, by omega, rfl, rfl, by show _ = _; rw [Nat.zero_add]; exact HV.out⟩
  case round =>
    obtain ⟨n, hn, hg, rfl, rfl, HP⟩ := hrel
    by_cases hlt : n < S.size
    · have z1 : (n : Int) < (S.size : Int) := by omega
      have z0 : (0 : Int) ≤ (n : Int) := by omega
      have hi := inTag_any (S[n]'hlt)
      have HE : Hid (run inT (S.data.toList.drop n) = if inT (S[n]'hlt) then run inT (S.data.toList.drop (n + 1)) + 1 else 0) := by show _ = _; rw [drop_cons S n hlt]; rfl
      cases hb : inT (S[n]'hlt) with
      | true =>
        rw [hb] at hi HE
        clear hb
        go_wp2_with (go_at_call 49; refine (hi _).mono ?_; rintro e w1 ⟨rfl, hw1⟩; obtain rfl := hw1.symm)
        go_roundg (S.size - (n + 1))
        case measure => omega
        case rel =>
          have h1 : run inT (S.data.toList.drop n) = run inT (S.data.toList.drop (n + 1)) + 1 := by simpa using HE.out
          exact ⟨n + 1, by omega, by omega, by go_num, rfl, by have h2 := HP.out; show n + 1 + run inT (S.data.toList.drop (n + 1)) = V; omega⟩
      | false =>
        rw [hb] at hi HE
        clear hb
        go_wp2_with (go_at_call 49; refine (hi _).mono ?_; rintro e w1 ⟨rfl, hw1⟩; obtain rfl := hw1.symm)
        go_ret
        exact ⟨ret_int (by have h1 := HE.out; have h2 := HP.out; rw [if_neg (by decide)] at h1; omega), Below.refl _ _⟩
    · have z1 : ¬ (n : Int) < (S.size : Int) := by omega
      go_wp2_with fail
      go_ret
      have he : n = S.size := by omega
      exact ⟨ret_int (by have := HP.out; rw [he, List.drop_of_length_le (by rw [bal]; omega)] at this; simp only [run] at this; omega), Below.refl _ _⟩
theorem signAt_any (S : ByteArray) (w : World) (hz : 0 < S.size) (hs : S.size ≤ 1000000) : Calls Tryz.prog 38 #[.string S] w fun e w' => e = .returned (.int .i64 (sgA S.data.toList)) ∧ Below w.heap.size w w' := by
  obtain ⟨c, r, hS⟩ : ∃ c r, S.data.toList = c :: r := by
    cases h : S.data.toList with
    | nil => have := bal S; rw [h] at this; simp at this; omega
    | cons c r => exact ⟨c, r, rfl⟩
  have e : S = bs (c :: r) := by rw [← hS, bs_of]
  by_cases h1 : c = 33 ∨ c = 40 ∨ c = 41
  · rw [hS, show sgA (c :: r) = 1 by simp only [sgA]; rw [if_pos h1], e]
    exact signAt_one c r w h1
  · have n1 : c ≠ 33 := fun h => h1 (.inl h)
    have n2 : c ≠ 40 := fun h => h1 (.inr (.inl h))
    have n3 : c ≠ 41 := fun h => h1 (.inr (.inr h))
    by_cases h2 : c = 38 ∨ c = 124
    · rw [hS, show sgA (c :: r) = (if r.head? = some c then 2 else 0) by simp only [sgA]; rw [if_neg h1, if_pos h2], e]
      exact signAt_two c r w n1 n2 n3 h2
    · have n4 : c ≠ 38 := fun h => h2 (.inl h)
      have n5 : c ≠ 124 := fun h => h2 (.inr h)
      rw [show sgA S.data.toList = run inT S.data.toList by rw [hS]; simp only [sgA]; rw [if_neg h1, if_neg h2]]
      have g : S[0]'hz = c := by subst e; exact bs0 c r hz
      exact signAt_run S w hz hs (by rw [g]; exact n1) (by rw [g]; exact n2) (by rw [g]; exact n3) (by rw [g]; exact n4) (by rw [g]; exact n5)
end Go.Proofs.YtleiohccaagalaaGreat
