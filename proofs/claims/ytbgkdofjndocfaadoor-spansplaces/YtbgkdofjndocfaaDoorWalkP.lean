/-
  The document's own answer for Indent (recastref1), walked; and SpansPlaces, called in whatever memory: it returns true and leaves all that lay there as it was.
-/
import Derived.Test.YtbgkdofjndocfaaDoorWalkO
namespace Go.Proofs.YtbgkdofjndocfaaDoor
open Go.RowKit
theorem take_is : ∀ (l : List UInt8) (d : Nat), (∀ j, j < d → ∃ x, l[j]? = some x ∧ isBl x = true) → (l[d]? = none ∨ ∃ x, l[d]? = some x ∧ isBl x = false) → l.takeWhile isBl = l.take d
  | [], d, _, _ => by simp
  | a :: l, 0, _, h => by
    rcases h with h | ⟨x, h, hx⟩
    · simp at h
    · simp at h; subst h; simp [hx]
  | a :: l, d + 1, h1, h2 => by
    obtain ⟨x, hx, hb⟩ := h1 0 (by omega)
    simp at hx
    subst hx
    have ih := take_is l d (fun j hj => by have := h1 (j + 1) (by omega); simpa using this) (by simpa using h2)
    simp [hb, ih]
theorem is_bl (s : ByteArray) (k : Nat) (h : k < s.size) : ((((s[k]'h).toNat : Int) == 32) = true ∧ isBl (s[k]'h) = true) ∨ ((((s[k]'h).toNat : Int) == 32) = false ∧ (((s[k]'h).toNat : Int) == 9) = true ∧ isBl (s[k]'h) = true) ∨ ((((s[k]'h).toNat : Int) == 32) = false ∧ (((s[k]'h).toNat : Int) == 9) = false ∧ isBl (s[k]'h) = false) := by
  generalize s[k]'h = x
  by_cases e1 : x = 32
  · subst e1; exact .inl ⟨rfl, rfl⟩
  · have n1 : (((x.toNat : Int)) == 32) = false := by
      have : ¬ (x.toNat : Int) = 32 := fun h' => e1 (UInt8.toNat_inj.1 (show x.toNat = 32 by omega))
      simpa using this
    by_cases e2 : x = 9
    · subst e2; exact .inr (.inl ⟨n1, rfl, rfl⟩)
    · have n2 : (((x.toNat : Int)) == 9) = false := by
        have : ¬ (x.toNat : Int) = 9 := fun h' => e2 (UInt8.toNat_inj.1 (show x.toNat = 9 by omega))
        simpa using this
      exact .inr (.inr ⟨n1, n2, by simp [isBl, e1, e2]⟩)
theorem bg_ten {l : List UInt8} {k : Nat} (h : l[k]? = some 10) : bgT l (k + 1) = k + 1 := by simp [bgT, h]
theorem bg_not {l : List UInt8} {k : Nat} (h : l[k]? ≠ some 10) : bgT l (k + 1) = bgT l k := by simp [bgT, h]
theorem ext_is (s : ByteArray) (b m : Nat) (hbm : b ≤ m) (hm : m ≤ s.size) (h1 : ∀ j (h : j < s.size), b ≤ j → j < m → isBl (s[j]'h) = true) (h2 : m = s.size ∨ ∃ h : m < s.size, isBl (s[m]'h) = false) :
    s.extract b m = ⟨((s.data.toList.drop b).takeWhile isBl).toArray⟩ := by
  refine bytes_ext ?_
  rw [take_is (s.data.toList.drop b) (m - b)]
  · simp [ByteArray.data_extract]
  · intro j hj
    refine ⟨s[b + j]'(by omega), ?_, h1 _ _ (by omega) (by omega)⟩
    rw [List.getElem?_drop]
    exact byte_at s (b + j) (by omega)
  · rcases h2 with h2 | ⟨h, hx⟩
    · refine .inl ?_
      rw [List.getElem?_eq_none]
      simp; omega
    · refine .inr ⟨_, ?_, hx⟩
      rw [List.getElem?_drop, show b + (m - b) = m by omega]
      exact byte_at s m h
theorem more_bl {s : ByteArray} {b m : Nat} {hms : m < s.size} (h : ∀ j (h : j < s.size), b ≤ j → j < m → isBl (s[j]'h) = true) (hb : isBl (s[m]'hms) = true) : ∀ j (h : j < s.size), b ≤ j → j < m + 1 → isBl (s[j]'h) = true := fun j hj h1 h2 => by
  rcases Nat.lt_or_ge j m with h' | h'
  · exact h j hj h1 h'
  · obtain rfl : j = m := by omega
    exact hb
set_option maxRecDepth 100000 in
set_option maxHeartbeats 1000000 in
theorem refIndent_any (s : ByteArray) (at_ : Int) (n : Nat) (w : World) (hs : s.size ≤ 1000000) (hn : (n : Int) = min (max at_ 0) s.size) :
    Calls Tryd.prog 13 #[.string s, .int .i64 at_] w fun e w' => e = .returned (.string ⟨((s.data.toList.drop (bgT s.data.toList n)).takeWhile isBl).toArray⟩) ∧ w' = w := by
  have h20 := fun w => within_any s at_ n w hs hn
  have hns : n ≤ s.size := by omega
  have HF : Hid (∀ m, bgT s.data.toList n ≤ m → m ≤ s.size → (∀ j (h : j < s.size), bgT s.data.toList n ≤ j → j < m → isBl (s[j]'h) = true) → (m = s.size ∨ ∃ h : m < s.size, isBl (s[m]'h) = false) → s.extract (bgT s.data.toList n) m = ⟨((s.data.toList.drop (bgT s.data.toList n)).takeWhile isBl).toArray⟩) := fun m a b c d => ext_is s _ m a b c d
  generalize hR : (⟨((s.data.toList.drop (bgT s.data.toList n)).takeWhile isBl).toArray⟩ : ByteArray) = R at *
  clear hR hn
  go_enter Tryd.func13, Tryd.ntmps13
  go_wp2_with (go_at_call 20; refine (h20 _).mono ?_; rintro e w1 ⟨rfl, rfl⟩)
  go_loop [5] (fun i => ∃ k : Nat, k ≤ n ∧ i = .int .i64 k ∧ Hid (bgT s.data.toList k = bgT s.data.toList n)) (fun i => (intOf i).toNat)
  case atStart => exact ⟨n, Nat.le_refl _, rfl, rfl⟩
  case round =>
    obtain ⟨k, hk, rfl, HB⟩ := hrel
    rcases k with _ | k
    case zero =>
      have HK : Hid (bgT s.data.toList n = 0) := HB.out.symm
      clear HB
      go_wp2_with fail
      go_loop [6] (fun i => ∃ m : Nat, 0 ≤ m ∧ m ≤ s.size ∧ i = .int .i64 m ∧ Hid (∀ j (h : j < s.size), 0 ≤ j → j < m → isBl (s[j]'h) = true)) (fun i => s.size - (intOf i).toNat)
      case atStart => exact ⟨0, Nat.le_refl _, by omega, rfl, fun j _ h1 h2 => by omega⟩
      case round =>
        obtain ⟨m, hm1, hm2, rfl, HM⟩ := hrel
        have z0 : (0 : Int) ≤ ((0 : Nat) : Int) := by omega
        have z1 : ((0 : Nat) : Int) ≤ (m : Int) := by omega
        have z2 : (m : Int) ≤ (s.size : Int) := by omega
        by_cases hms : m < s.size
        · rcases is_bl s m hms with ⟨t1, hb⟩ | ⟨t1, t2, hb⟩ | ⟨t1, t2, hb⟩
          · have HM' : Hid (∀ j (h : j < s.size), 0 ≤ j → j < m + 1 → isBl (s[j]'h) = true) := more_bl HM.out hb
            clear HM hb
            go_wp2
            go_round
            case rel => exact ⟨m + 1, by omega, by omega, by go_num, HM'⟩
            case measure => simp [intOf]; omega
          · have HM' : Hid (∀ j (h : j < s.size), 0 ≤ j → j < m + 1 → isBl (s[j]'h) = true) := more_bl HM.out hb
            clear HM hb
            go_wp2
            go_round
            case rel => exact ⟨m + 1, by omega, by omega, by go_num, HM'⟩
            case measure => simp [intOf]; omega
          · have HE : Hid (s.extract 0 m = R) := by have := HF.out m; rw [HK.out] at this; exact this hm1 hm2 HM.out (.inr ⟨hms, hb⟩)
            clear HM hb HF
            go_wp2
            go_ret
            exact ⟨ret_str HE.out, rfl⟩
        · have HE : Hid (s.extract 0 m = R) := by have := HF.out m; rw [HK.out] at this; exact this hm1 hm2 HM.out (.inl (by omega))
          clear HM HF
          go_wp2
          go_ret
          exact ⟨ret_str HE.out, rfl⟩
    case succ =>
      have hks : k < s.size := by omega
      rcases is_ten s k hks with ⟨h10, ht⟩ | ⟨h10, ht⟩
      · have HK : Hid (bgT s.data.toList n = k + 1) := HB.out.symm.trans (bg_ten ht)
        clear HB ht
        go_wp2_with fail
        go_loop [6] (fun i => ∃ m : Nat, (k + 1) ≤ m ∧ m ≤ s.size ∧ i = .int .i64 m ∧ Hid (∀ j (h : j < s.size), (k + 1) ≤ j → j < m → isBl (s[j]'h) = true)) (fun i => s.size - (intOf i).toNat)
        case atStart => exact ⟨(k + 1), Nat.le_refl _, by omega, rfl, fun j _ h1 h2 => by omega⟩
        case round =>
          obtain ⟨m, hm1, hm2, rfl, HM⟩ := hrel
          have z0 : (0 : Int) ≤ (((k + 1) : Nat) : Int) := by omega
          have z1 : (((k + 1) : Nat) : Int) ≤ (m : Int) := by omega
          have z2 : (m : Int) ≤ (s.size : Int) := by omega
          by_cases hms : m < s.size
          · rcases is_bl s m hms with ⟨t1, hb⟩ | ⟨t1, t2, hb⟩ | ⟨t1, t2, hb⟩
            · have HM' : Hid (∀ j (h : j < s.size), (k + 1) ≤ j → j < m + 1 → isBl (s[j]'h) = true) := more_bl HM.out hb
              clear HM hb
              go_wp2
              go_round
              case rel => exact ⟨m + 1, by omega, by omega, by go_num, HM'⟩
              case measure => simp [intOf]; omega
            · have HM' : Hid (∀ j (h : j < s.size), (k + 1) ≤ j → j < m + 1 → isBl (s[j]'h) = true) := more_bl HM.out hb
              clear HM hb
              go_wp2
              go_round
              case rel => exact ⟨m + 1, by omega, by omega, by go_num, HM'⟩
              case measure => simp [intOf]; omega
            · have HE : Hid (s.extract (k + 1) m = R) := by have := HF.out m; rw [HK.out] at this; exact this hm1 hm2 HM.out (.inr ⟨hms, hb⟩)
              clear HM hb HF
              go_wp2
              go_ret
              exact ⟨ret_str HE.out, rfl⟩
          · have HE : Hid (s.extract (k + 1) m = R) := by have := HF.out m; rw [HK.out] at this; exact this hm1 hm2 HM.out (.inl (by omega))
            clear HM HF
            go_wp2
            go_ret
            exact ⟨ret_str HE.out, rfl⟩
      · have HB' : Hid (bgT s.data.toList k = bgT s.data.toList n) := (bg_not ht).symm.trans HB.out
        have hne : (((s[k]'hks).toNat : Int) != 10) = true := by rw [bne, h10]; rfl
        clear HB ht h10
        go_wp2
        go_round
        case rel => exact ⟨k, by omega, by go_num, HB'⟩
        case measure => simp [intOf]
theorem offPost_same {l : List UInt8} {line col : Int} {e e' : Ending} (h : offPost l line col e) (h' : offPost l line col e') : ∃ (x : Int) (b : Bool), e = .returned (.tuple #[.int .i64 x, .bool b]) ∧ e' = .returned (.tuple #[.int .i64 x, .bool b]) := by
  rcases h with ⟨i, hi, hp, rfl⟩ | ⟨hn, rfl⟩ <;> rcases h' with ⟨j, hj, hq, rfl⟩ | ⟨hm, rfl⟩
  · obtain rfl := placeAt_inj hp hq
    exact ⟨_, _, rfl, rfl⟩
  · exact absurd hp (hm i hi)
  · exact absurd hq (hn j hj)
  · exact ⟨_, _, rfl, rfl⟩
set_option maxRecDepth 100000 in
set_option maxHeartbeats 1000000 in
theorem places_out (s : ByteArray) (a line col : Int) (w : World) (h : 4000 < (s.size : Int)) :
    Calls Tryd.prog 4 #[.string s, .int .i64 a, .int .i64 line, .int .i64 col] w fun e w' => e = .returned (.bool true) ∧ Below w.heap.size w w' := by
  go_enter Tryd.func4, Tryd.ntmps4
  go_wp2_with (go_at_call 7; refine (awake_any _).mono ?_; rintro e w1 ⟨rfl, hb⟩)
  go_ret
  exact ⟨rfl, hb⟩
set_option maxRecDepth 100000 in
set_option maxHeartbeats 1000000 in
theorem places_in (s : ByteArray) (a line col : Int) (n : Nat) (w : World) (hs : ¬ 4000 < (s.size : Int)) (hn : (n : Int) = min (max a 0) s.size) (hl1 : -9223372036854775808 ≤ line) (hl2 : line ≤ 9223372036854775807) (hc1 : -9223372036854775808 ≤ col) (hc2 : col ≤ 9223372036854775807) :
    Calls Tryd.prog 4 #[.string s, .int .i64 a, .int .i64 line, .int .i64 col] w fun e w' => e = .returned (.bool true) ∧ Below w.heap.size w w' := by
  have hsz : s.size ≤ 1000000 := by omega
  have h8 := fun w => place_any s a n w hsz hn
  have h9 := fun w => refPlace_any s a n w hsz hn
  have h10 := fun w => offset_any s line col w hsz hl1 hl2 hc1 hc2
  have h11 := fun w => refOffset_any s line col w hsz
  have h12 := fun w => indent_any s a n w hsz hn
  have h13 := fun w => refIndent_any s a n w hsz hn
  generalize (⟨((s.data.toList.drop (bgT s.data.toList n)).takeWhile isBl).toArray⟩ : ByteArray) = R at *
  generalize (1 + (nlT s.data.toList n : Int)) = L at *
  generalize ((n - bgT s.data.toList n + 1 : Nat) : Int) = C at *
  clear hn hl1 hl2 hc1 hc2 hsz
  go_enter Tryd.func4, Tryd.ntmps4
  go_wp2_with fail
  refine (h8 _).mono ?_
  rintro e w1 ⟨rfl, hb1⟩
  go_wp2_with fail
  refine (h9 _).mono ?_
  rintro e w2 ⟨rfl, rfl⟩
  go_wp2_with fail
  refine (h10 _).mono ?_
  rintro e3 w3 ⟨hp3, rfl⟩
  clear h8 h9 h10
  obtain ⟨x, b, he, _⟩ := offPost_same hp3 hp3
  rw [he] at hp3 ⊢
  clear he
  go_wp2_with fail
  refine (h11 _).mono ?_
  rintro e4 w4 ⟨hp4, rfl⟩
  clear h11
  obtain ⟨x', b', he3, he4⟩ := offPost_same hp3 hp4
  simp only [Ending.returned.injEq, Value.tuple.injEq, Array.mk.injEq, List.cons.injEq, Value.int.injEq, Value.bool.injEq, and_true, true_and] at he3
  obtain ⟨rfl, rfl⟩ := he3
  rw [he4]
  clear he4 hp3 hp4
  go_wp2_with (first | (go_at_call 12; refine (h12 _).mono ?_; rintro e w5 ⟨rfl, hb5⟩) | (go_at_call 13; refine (h13 _).mono ?_; rintro e w6 ⟨rfl, rfl⟩) | (go_at_call 7; refine (awake_any _).mono ?_; rintro e w7 ⟨rfl, hb7⟩))
  go_ret
  exact ⟨rfl, (hb1.trans (hb5.mono hb1.size)).trans (hb7.mono (Nat.le_trans hb1.size hb5.size))⟩
end Go.Proofs.YtbgkdofjndocfaaDoor
