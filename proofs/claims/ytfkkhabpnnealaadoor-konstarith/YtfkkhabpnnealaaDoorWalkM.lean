/-
  The contract of strings.TrimLeft at noughts, and what the text of digits is.
-/
import Derived.Test.YtfkkhabpnnealaaDoorWalkK
import Derived.Lib.Strings
namespace Go.Proofs.YtfkkhabpnnealaaDoor
open Go.RowKit
attribute [local go_sem ↓] Go.wp_at_zero Go.wp_at_succ
theorem txt_size (D : List Nat) : (txt D).size = D.length := by
  show ((D.reverse.map dch).toArray).size = _
  simp
theorem txt_data (D : List Nat) : (txt D).data.toList = D.reverse.map dch := rfl
theorem txt_head (D : List Nat) (k : Nat) (hk : D.length = k + 1) (h : 0 < (txt D).size) : (txt D)[0]'h = dch (D.getD k 0) := by
  have h1 : (txt D).data.toList[0]? = some (dch (D.getD k 0)) := by
    rw [txt_data, List.getElem?_map, List.getElem?_reverse (by omega), hk]
    simp [List.getD_eq_getElem?_getD, List.getElem?_eq_getElem (show k < D.length by omega)]
  have h2 : (txt D)[0]'h = (txt D).data.toList[0]'(by simpa using h) := by
    rw [ByteArray.getElem_eq_getElem_data]; simp
  rw [h2]
  exact (List.getElem_eq_iff _).2 h1
theorem txt_tail (D : List Nat) (k : Nat) (hk : D.length = k + 1) : (txt D).extract 1 (txt D).size = txt (D.take k) := by
  apply ByteArray.ext
  rw [ByteArray.data_extract]
  apply Array.toList_inj.1
  rw [Array.toList_extract, txt_data, txt_data, txt_size, hk]
  have e : D.reverse = D.getD k 0 :: (D.take k).reverse := by
    have h1 : D = D.take k ++ [D.getD k 0] := by
      have h2 := List.take_succ_eq_append_getElem (l := D) (i := k) (by omega)
      rw [List.take_of_length_le (by omega)] at h2
      rw [List.getD_eq_getElem?_getD, List.getElem?_eq_getElem (by omega)]
      exact h2
    conv => lhs; rw [h1]
    simp
  rw [e]
  have h3 : ((D.take k).reverse.map dch).length = k := by simp; omega
  simp only [List.map_cons, List.extract_eq_take_drop, List.drop_succ_cons, List.drop_zero]
  rw [List.take_of_length_le (by omega)]
theorem txt_app (D E : List Nat) : txt E ++ txt D = txt (D ++ E) := by
  apply ByteArray.ext
  apply Array.toList_inj.1
  simp [txt, ByteArray.data_append]
def strLen : Value → Nat | .string s => s.size | _ => 0
set_option maxRecDepth 100000 in
set_option maxHeartbeats 2000000 in
theorem trimByte_any (D : List Nat) (w : World) (hD : Wd 10 D) (hs : D.length ≤ 1000000) :
    Calls Tryd.prog 75 #[.string (txt D), .int .u8 48] w fun e w' => e = .returned (.string (txt (D.take (tk D)))) ∧ w' = w := by
  go_enter Tryd.func75, Tryd.ntmps75
  go_wp2
  go_loop [0] (fun v => ∃ k : Nat, k ≤ D.length ∧ v = .string (txt (D.take k)) ∧ Hid (∀ j, k ≤ j → j < D.length → D.getD j 0 = 0)) (fun v => strLen v)
  case atStart => exact ⟨D.length, Nat.le_refl _, by rw [List.take_of_length_le (Nat.le_refl _)], fun j h1 h2 => by omega⟩
  case round =>
    obtain ⟨k, hk, rfl, HZ⟩ := hrel
    have hlen : (D.take k).length = k := by simp; omega
    have hsz : (txt (D.take k)).size = k := by rw [txt_size, hlen]
    by_cases h0 : k = 0
    · subst h0
      generalize hS : txt (D.take 0) = S at *
      have HS : Hid (txt (D.take 0) = S) := hS
      have h1 : S.size ≤ 0 := by omega
      clear hS hsz hlen
      go_wp2
      go_ret
      have ht : tk D = 0 := (tk_trim D).uniq ⟨Nat.zero_le _, fun j h1 h2 => HZ.out j h1 h2, fun h => by omega⟩
      rw [ht, HS.out]
      exact ⟨rfl, rfl⟩
    · obtain ⟨i, rfl⟩ : ∃ i, k = i + 1 := ⟨k - 1, by omega⟩
      have hpos : 0 < (txt (D.take (i + 1))).size := by omega
      have hh := txt_head (D.take (i + 1)) i hlen hpos
      rw [getD_take D (i + 1) i (by omega)] at hh
      have htl := txt_tail (D.take (i + 1)) i hlen
      rw [List.take_take, Nat.min_eq_left (by omega)] at htl
      obtain ⟨x, hx⟩ : ∃ x, x = D.getD i 0 := ⟨_, rfl⟩
      have hxb : x < 10 := by rw [hx]; exact hD.at (by omega) i
      rw [← hx] at hh
      have hx0 : ((txt (D.take (i + 1)))[0]'hpos).toNat = 48 + x := by rw [hh, dch_toNat hxb]
      have HX : Hid (x = D.getD i 0) := hx
      clear hx hh
      generalize hS : txt (D.take (i + 1)) = S at *
      have HS : Hid (txt (D.take (i + 1)) = S) := hS
      have HT : Hid (S.extract 1 S.size = txt (D.take i)) := htl
      have hsb : S.size ≤ 1000000 := by omega
      have HSZ : Hid (S.size = i + 1) := hsz
      clear hS htl hsz hlen
      by_cases hx1 : x = 0
      · have hx2 : ((S[0]'hpos).toNat : Int) = 48 := by omega
        clear hx0
        go_wp2
        go_round
        case rel => exact ⟨i, by omega, by rw [HT.out], fun j h1 h2 => by
          by_cases hj : j = i
          · rw [hj, ← HX.out]; exact hx1
          · exact HZ.out j (by omega) h2⟩
        case measure =>
          simp only [strLen]
          rw [HT.out, HSZ.out, txt_size, List.length_take]; omega
      · have hx2 : 49 ≤ ((S[0]'hpos).toNat : Int) := by omega
        clear hx0
        go_wp2
        go_ret
        have ht : tk D = i + 1 := (tk_trim D).uniq ⟨hk, fun j h1 h2 => HZ.out j h1 h2, fun _ => by rw [Nat.add_sub_cancel, ← HX.out]; exact hx1⟩
        rw [ht, HS.out]
        exact ⟨rfl, rfl⟩
set_option maxHeartbeats 2000000 in
set_option maxRecDepth 100000 in
theorem trimLeft_any (D : List Nat) (w : World) (hD : Wd 10 D) (hs : D.length ≤ 1000000) (h0 : 0 < D.length) :
    Calls Tryd.prog 59 #[.string (txt D), .string ⟨#[48]⟩] w fun e w' => e = .returned (.string (txt (D.take (tk D)))) ∧ w' = w := by
  have hne : ((txt D).toList == []) = false := by
    have h1 : (txt D).toList.length = D.length := by
      rw [Lib.toList_data, txt_data]; simp
    cases h2 : (txt D).toList with
    | nil => rw [h2] at h1; simp at h1; omega
    | cons a b => rfl
  go_enter Tryd.func59, Tryd.ntmps59
  go_wp2_with (go_at_call 75; refine (trimByte_any D _ hD hs).mono ?_; rintro e w' ⟨rfl, rfl⟩)
  go_ret
  exact ⟨rfl, rfl⟩
end Go.Proofs.YtfkkhabpnnealaaDoor

