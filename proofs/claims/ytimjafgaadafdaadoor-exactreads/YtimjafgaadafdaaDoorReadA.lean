/-
  The contract of exact.numeral at every text.
-/
import Derived.Test.YtimjafgaadafdaaDoorReadP
namespace Go.Proofs.YtimjafgaadafdaaDoor
open Go.RowKit
attribute [local go_sem ↓] Go.wp_at_zero Go.wp_at_succ
/-- what numeral answers, the first byte in order -/
structure DigC (S : ByteArray) (w : World) (e : Ending) (w' : World) : Prop where
  ex : ∃ b, e = .returned (.bool b) ∧ (b = true ↔ ∀ i, i < S.size → 48 ≤ bt S i ∧ bt S i ≤ 57)
  below : Below w.heap.size w w'
theorem dig_step {S : ByteArray} {k x : Nat} (h : ∀ i, i < k → 48 ≤ bt S i ∧ bt S i ≤ 57) (hx : x = bt S k) (h1 : ¬ x < 48) (h2 : ¬ 57 < x) : ∀ i, i < k + 1 → 48 ≤ bt S i ∧ bt S i ≤ 57 := fun i hi => by
  by_cases e : i = k
  · rw [e, ← hx]; omega
  · exact h i (by omega)
theorem DigC.no {S : ByteArray} {w w' : World} {k x : Nat} (hk : k < S.size) (hx : x = bt S k) (h : x < 48 ∨ 57 < x) (hb : Below w.heap.size w w') : DigC S w (.returned (.bool false)) w' := ⟨⟨false, rfl, ⟨(fun h => (by cases h)), fun h2 => by have := h2 k hk; rw [← hx] at this; omega⟩⟩, hb⟩
theorem DigC.yes {S : ByteArray} {w w' : World} (h : ∀ i, i < S.size → 48 ≤ bt S i ∧ bt S i ≤ 57) (hb : Below w.heap.size w w') : DigC S w (.returned (.bool true)) w' := ⟨⟨true, rfl, ⟨fun _ => h, fun _ => rfl⟩⟩, hb⟩
theorem tl_empty {S : ByteArray} (h : 0 < S.size) : S.toList.isEmpty = false := by
  rw [Lib.toList_data]
  have := bs_len S
  cases hb : S.data.toList with
  | nil => rw [hb] at this; simp at this; omega
  | cons b bs => rfl
theorem tl_none {S : ByteArray} (h : S.size = 0) : S.toList.isEmpty = true := by
  rw [Lib.toList_data]
  have := bs_len S
  cases hb : S.data.toList with
  | nil => rfl
  | cons b bs => rw [hb] at this; simp at this; omega
theorem tl_long {S : ByteArray} (h : S.size ≠ 1) : (S.toList == [48]) = false := by
  rw [Lib.toList_data]
  rw [beq_eq_false_iff_ne]
  intro e
  have := bs_len S
  rw [e] at this
  simp at this
  omega
theorem tl_zero {S : ByteArray} (h : S = ⟨#[48]⟩) : (S.toList == [48]) = true := by
  rw [Lib.toList_data, h]
  rfl
set_option maxHeartbeats 2000000 in
theorem numeral_none (S : ByteArray) (w : World) (h : S.size = 0) :
    Calls Tryd.prog 54 #[.string S] w fun e w' => e = .returned (.bool false) ∧ Below w.heap.size w w' := by
  have hE := tl_none h
  go_enter Tryd.func54, Tryd.ntmps54
  go_wp2_with fail
  go_ret
  exact ⟨rfl, Below.refl _ _⟩
set_option maxHeartbeats 2000000 in
theorem numeral_lead (S : ByteArray) (w : World) (h : 1 < S.size) (h0 : bt S 0 = 48) :
    Calls Tryd.prog 54 #[.string S] w fun e w' => e = .returned (.bool false) ∧ Below w.heap.size w w' := by
  have hp : 0 < S.size := by omega
  have hb := bt_at S 0 hp
  rw [h0] at hb
  have hb2 : ((S[0]'hp).toNat : Int) = 48 := by rw [hb]; rfl
  have hE := tl_empty hp
  have hK := tl_long (S := S) (by omega)
  clear hb h0
  go_enter Tryd.func54, Tryd.ntmps54
  go_wp2_with fail
  go_ret
  exact ⟨rfl, Below.refl _ _⟩
set_option maxHeartbeats 4000000 in
theorem numeral_on (S : ByteArray) (w : World) (hp : 0 < S.size) (hs : S.size ≤ 1000000) (h0 : bt S 0 = 48 → S = ⟨#[48]⟩) :
    Calls Tryd.prog 54 #[.string S] w fun e w' => DigC S w e w' := by
  have hE := tl_empty hp
  obtain ⟨kb, hK⟩ : ∃ kb, (S.toList == [48]) = kb := ⟨_, rfl⟩
  obtain ⟨zb, hZ⟩ : ∃ zb, (((S[0]'hp).toNat : Int) == 48) = zb := ⟨_, rfl⟩
  have hkz : (zb && !kb) = false := by
    by_cases h : bt S 0 = 48
    · have := tl_zero (h0 h)
      rw [hK] at this
      rw [this]; simp
    · rw [← hZ, bt_at S 0 hp]
      have : ((bt S 0 : Int) == 48) = false := by rw [beq_eq_false_iff_ne]; omega
      rw [this]; rfl
  clear h0
  go_enter Tryd.func54, Tryd.ntmps54
  cases zb <;> cases kb
  · go_wp2_with fail
    go_loopw [3, 17] (fun _ iv wr => ∃ k : Nat, k ≤ S.size ∧ iv = .int .i64 k ∧ Hid (∀ i, i < k → 48 ≤ bt S i ∧ bt S i ≤ 57) ∧ Hid (Below w.heap.size w wr)) (fun _ iv _ => S.size - (intOf iv).toNat)
    case atStart => exact ⟨0, Nat.zero_le _, rfl, fun i hi => by omega, Below.refl _ _⟩
    case round =>
      obtain ⟨k, hk, rfl, HD, HB⟩ := hrel
      by_cases hlt : k < S.size
      · have hbt := bt_at S k hlt
        obtain ⟨x, hx⟩ : ∃ x, x = bt S k := ⟨_, rfl⟩
        have hb2 : ((S[k]'hlt).toNat : Int) = (x : Int) := by rw [hbt, hx]
        have HX : Hid (x = bt S k) := hx
        clear hbt hx
        by_cases h1 : x < 48
        · go_wp2_with fail
          go_ret
          exact DigC.no hlt HX.out (by omega) HB.out
        · by_cases h2 : 57 < x
          · go_wp2_with fail
            go_ret
            exact DigC.no hlt HX.out (by omega) HB.out
          · go_wp2_with fail
            (try (go_quiet (fail); go_wp2_with fail))
            go_roundw
            case rel => exact ⟨k + 1, by omega, by go_num, dig_step HD.out HX.out h1 h2, HB⟩
            case measure => simp [intOf]; omega
      · obtain rfl : k = S.size := by omega
        go_wp2_with fail
        go_ret
        exact DigC.yes HD.out HB.out
  · go_wp2_with fail
    go_loopw [3, 17] (fun _ iv wr => ∃ k : Nat, k ≤ S.size ∧ iv = .int .i64 k ∧ Hid (∀ i, i < k → 48 ≤ bt S i ∧ bt S i ≤ 57) ∧ Hid (Below w.heap.size w wr)) (fun _ iv _ => S.size - (intOf iv).toNat)
    case atStart => exact ⟨0, Nat.zero_le _, rfl, fun i hi => by omega, Below.refl _ _⟩
    case round =>
      obtain ⟨k, hk, rfl, HD, HB⟩ := hrel
      by_cases hlt : k < S.size
      · have hbt := bt_at S k hlt
        obtain ⟨x, hx⟩ : ∃ x, x = bt S k := ⟨_, rfl⟩
        have hb2 : ((S[k]'hlt).toNat : Int) = (x : Int) := by rw [hbt, hx]
        have HX : Hid (x = bt S k) := hx
        clear hbt hx
        by_cases h1 : x < 48
        · go_wp2_with fail
          go_ret
          exact DigC.no hlt HX.out (by omega) HB.out
        · by_cases h2 : 57 < x
          · go_wp2_with fail
            go_ret
            exact DigC.no hlt HX.out (by omega) HB.out
          · go_wp2_with fail
            (try (go_quiet (fail); go_wp2_with fail))
            go_roundw
            case rel => exact ⟨k + 1, by omega, by go_num, dig_step HD.out HX.out h1 h2, HB⟩
            case measure => simp [intOf]; omega
      · obtain rfl : k = S.size := by omega
        go_wp2_with fail
        go_ret
        exact DigC.yes HD.out HB.out
  · simp at hkz
  · go_wp2_with fail
    go_loopw [3, 17] (fun _ iv wr => ∃ k : Nat, k ≤ S.size ∧ iv = .int .i64 k ∧ Hid (∀ i, i < k → 48 ≤ bt S i ∧ bt S i ≤ 57) ∧ Hid (Below w.heap.size w wr)) (fun _ iv _ => S.size - (intOf iv).toNat)
    case atStart => exact ⟨0, Nat.zero_le _, rfl, fun i hi => by omega, Below.refl _ _⟩
    case round =>
      obtain ⟨k, hk, rfl, HD, HB⟩ := hrel
      by_cases hlt : k < S.size
      · have hbt := bt_at S k hlt
        obtain ⟨x, hx⟩ : ∃ x, x = bt S k := ⟨_, rfl⟩
        have hb2 : ((S[k]'hlt).toNat : Int) = (x : Int) := by rw [hbt, hx]
        have HX : Hid (x = bt S k) := hx
        clear hbt hx
        by_cases h1 : x < 48
        · go_wp2_with fail
          go_ret
          exact DigC.no hlt HX.out (by omega) HB.out
        · by_cases h2 : 57 < x
          · go_wp2_with fail
            go_ret
            exact DigC.no hlt HX.out (by omega) HB.out
          · go_wp2_with fail
            (try (go_quiet (fail); go_wp2_with fail))
            go_roundw
            case rel => exact ⟨k + 1, by omega, by go_num, dig_step HD.out HX.out h1 h2, HB⟩
            case measure => simp [intOf]; omega
      · obtain rfl : k = S.size := by omega
        go_wp2_with fail
        go_ret
        exact DigC.yes HD.out HB.out
theorem numeral_any (S : ByteArray) (w : World) (hs : S.size ≤ 1000000) :
    Calls Tryd.prog 54 #[.string S] w fun e w' => ∃ b, e = .returned (.bool b) ∧ (b = true ↔ NumP S) ∧ Below w.heap.size w w' := by
  rcases Nat.eq_zero_or_pos S.size with h | hp
  · exact (numeral_none S w h).mono fun e w' ⟨he, hb⟩ => ⟨false, he, ⟨(fun h => (by cases h)), fun hn => by have := hn.pos; omega⟩, hb⟩
  by_cases h0 : bt S 0 = 48
  · by_cases h1 : S.size = 1
    · have hz : S = ⟨#[48]⟩ := by
        have hl := bs_len S
        unfold bt at h0
        apply ByteArray.ext
        apply Array.toList_inj.1
        cases hb : S.data.toList with
        | nil => rw [hb] at hl; simp at hl; omega
        | cons b bs =>
          rw [hb] at hl h0
          simp only [List.getD_cons_zero, List.length_cons] at h0 hl
          have e1 : bs = [] := List.eq_nil_of_length_eq_zero (by omega)
          have e2 : b = 48 := by apply UInt8.toNat_inj.1; rw [h0]; rfl
          rw [e1, e2]
      exact (numeral_on S w hp hs (fun _ => hz)).mono fun e w' ⟨⟨b, he, hi⟩, hb⟩ => ⟨b, he, ⟨fun h => ⟨hp, fun _ => h1, hi.1 h⟩, fun hn => hi.2 hn.dig⟩, hb⟩
    · exact (numeral_lead S w (by omega) h0).mono fun e w' ⟨he, hb⟩ => ⟨false, he, ⟨(fun h => (by cases h)), fun hn => absurd (hn.lead h0) h1⟩, hb⟩
  · exact (numeral_on S w hp hs (fun h => absurd h h0)).mono fun e w' ⟨⟨b, he, hi⟩, hb⟩ => ⟨b, he, ⟨fun h => ⟨hp, fun h2 => absurd h2 h0, hi.1 h⟩, fun hn => hi.2 hn.dig⟩, hb⟩
end Go.Proofs.YtimjafgaadafdaaDoor
