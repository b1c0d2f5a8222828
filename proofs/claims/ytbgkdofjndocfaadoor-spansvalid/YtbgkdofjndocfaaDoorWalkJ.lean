/-
  spans.Offset: the byte of a line and column, or none.
-/
import Derived.Test.YtbgkdofjndocfaaDoorWalkH
namespace Go.Proofs.YtbgkdofjndocfaaDoor
open Go.RowKit
def DropAt (s u : ByteArray) (p : Nat) : Prop := u.data.toList = s.data.toList.drop p
theorem DropAt.size {s u : ByteArray} {p : Nat} (h : DropAt s u p) : u.size = s.size - p := by
  have := congrArg List.length h
  simpa using this
theorem DropAt.next {s u : ByteArray} {p e : Nat} (h : DropAt s u p) : DropAt s (u.extract (e + 1) u.size) (p + e + 1) := by
  show (u.extract (e + 1) u.size).data.toList = _
  have : (u.extract (e + 1) u.size).data.toList = u.data.toList.drop (e + 1) := by
    simp [ByteArray.data_extract]
    rw [List.take_of_length_le (by simp)]
  rw [this, h, List.drop_drop, Nat.add_assoc]
theorem idx_any (s u : ByteArray) (p : Nat) (w : World) (h : DropAt s u p) :
    Calls Tryd.prog 15 #[.string u, .int .u8 10] w fun e w' => e = .returned (.int .i64 (Lib.indexByte (s.data.toList.drop p) 10)) ∧ w' = w := by
  have := Tryd.strings_IndexByte u 10 w
  rw [h] at this
  exact this
def strSize : Value → Nat | .string s => s.size | _ => 0
def offPost (l : List UInt8) (line col : Int) (e : Ending) : Prop :=
  (∃ i : Nat, i ≤ l.length ∧ placeAt l line col i ∧ e = .returned (.tuple #[.int .i64 i, .bool true])) ∨ ((∀ i : Nat, i ≤ l.length → ¬ placeAt l line col i) ∧ e = .returned (.tuple #[.int .i64 0, .bool false]))
theorem offPost_low {l : List UInt8} {line col : Int} (h : line < 1 ∨ col < 1) : offPost l line col (.returned (.tuple #[.int .i64 0, .bool false])) :=
  .inr ⟨fun i _ ⟨h1, h2⟩ => by omega, rfl⟩
set_option maxRecDepth 100000 in
set_option maxHeartbeats 1000000 in
theorem offset_any (s : ByteArray) (line col : Int) (w : World) (hs : s.size ≤ 1000000) (hl1 : -9223372036854775808 ≤ line) (hl2 : line ≤ 9223372036854775807) (hc1 : -9223372036854775808 ≤ col) (hc2 : col ≤ 9223372036854775807) :
    Calls Tryd.prog 10 #[.string s, .int .i64 line, .int .i64 col] w fun e w' => offPost s.data.toList line col e ∧ w' = w := by
  by_cases hL : line < 1
  · go_enter Tryd.func10, Tryd.ntmps10
    go_wp2
    go_ret2
    exact ⟨offPost_low (.inl hL), rfl⟩
  by_cases hC : col < 1
  · go_enter Tryd.func10, Tryd.ntmps10
    go_wp2
    go_ret2
    exact ⟨offPost_low (.inr hC), rfl⟩
  go_enter Tryd.func10, Tryd.ntmps10
  go_wp2_with fail
  go_loopw [1, 8] (fun lv rv w' => ∃ (p : Nat) (u : ByteArray) (k : Int), p ≤ s.size ∧ lv = .int .i64 k ∧ rv = .string u ∧ DropAt s u p ∧ 1 ≤ k ∧ Hid (1 + (nlT s.data.toList p : Int) + (k - 1) = line ∧ bgT s.data.toList p = p) ∧ w' = w) (fun _ rv _ => strSize rv)
  case atStart => exact ⟨0, s, line, by omega, rfl, rfl, rfl, by omega, ⟨by simp [nlT]; omega, rfl⟩, rfl⟩
  case round =>
    obtain ⟨p, u, k, hp, rfl, rfl, hd, hk, HK, rfl⟩ := hrel
    have hus := hd.size
    have hnl := nlT_le s.data.toList p
    have hkl : k ≤ 9223372036854775807 := by have := HK.out.1; omega
    have hll : s.data.toList.length = s.size := by simp
    have hi := Lib.indexByte_ge (s.data.toList.drop p) 10
    have hcon := fun w => idx_any s u p w hd
    by_cases hneg : Lib.indexByte (s.data.toList.drop p) 10 = -1
    · rw [hneg] at hcon
      have HN : Hid (Lib.indexByte (s.data.toList.drop p) 10 = -1) := hneg
      have HH : Hid (DropAt s u p ∧ u.size = s.size - p ∧ s.data.toList.length = s.size) := ⟨hd, hus, hll⟩
      have hu1 : u.size ≤ s.size - p := by omega
      have hu2 : s.size - p ≤ u.size := by omega
      clear hneg hi hd hus hll
      by_cases hgt : 1 < k
      · go_wp2_with (go_at_call 15; refine (hcon _).mono ?_; rintro e w1 ⟨rfl, rfl⟩)
        go_ret2
        exact ⟨.inr ⟨off_none _ p HN.out line col (by have := HK.out.1; omega), rfl⟩, rfl⟩
      · by_cases hcol : (u.size : Int) < col - 1
        · go_wp2_with (go_at_call 15; refine (hcon _).mono ?_; rintro e w1 ⟨rfl, rfl⟩)
          go_ret2
          exact ⟨.inr ⟨off_out _ p u.size line col (by have := HK.out.1; omega) HK.out.2 hcol (fun k _ => off_last_none _ p HK.out.2 HN.out k) (.inl (by have := HH.out.2; omega)), rfl⟩, rfl⟩
        · go_wp2_with (go_at_call 15; refine (hcon _).mono ?_; rintro e w1 ⟨rfl, rfl⟩)
          go_ret2
          refine ⟨.inl ⟨p + (col - 1).toNat, by have := HH.out.2; omega, off_in _ p u.size line col (by have := HK.out.1; omega) (by omega) (by omega) (fun k _ => off_last_none _ p HK.out.2 HN.out k), ?_⟩, rfl⟩
          rw [show ((p + (col - 1).toNat : Nat) : Int) = (s.size : Int) - u.size + col - 1 by omega]
          rfl
    · obtain ⟨e, he⟩ : ∃ e : Nat, Lib.indexByte (s.data.toList.drop p) 10 = e := ⟨(Lib.indexByte (s.data.toList.drop p) 10).toNat, by omega⟩
      rw [he] at hcon
      have ho := off_some _ p e he
      have HE : Hid (Lib.indexByte (s.data.toList.drop p) 10 = e) := he
      have HH : Hid (DropAt s u p ∧ u.size = s.size - p ∧ s.data.toList.length = s.size) := ⟨hd, hus, hll⟩
      have HO : Hid (nlT s.data.toList (p + e) = nlT s.data.toList p ∧ bgT s.data.toList (p + e) = bgT s.data.toList p ∧ nlT s.data.toList (p + e + 1) = nlT s.data.toList p + 1 ∧ bgT s.data.toList (p + e + 1) = p + e + 1 ∧ s.data.toList[p + e]? = some 10) := ho.2
      have hpe : p + e < s.size := by have := ho.1; omega
      have hu1 : u.size ≤ s.size - p := by omega
      have hu2 : s.size - p ≤ u.size := by omega
      clear hneg hi he ho hd hus hll
      by_cases hgt : 1 < k
      · go_wp2_with (go_at_call 15; refine (hcon _).mono ?_; rintro e w1 ⟨rfl, rfl⟩)
        go_roundw
        case rel => exact ⟨p + e + 1, _, k - 1, by omega, rfl, rfl, HH.out.1.next, by omega, ⟨by have := HK.out.1; rw [HO.out.2.2.1]; omega, HO.out.2.2.2.1⟩, trivial⟩
        case measure => simp [strSize]; omega
      · by_cases hcol : (e : Int) < col - 1
        · go_wp2_with (go_at_call 15; refine (hcon _).mono ?_; rintro e w1 ⟨rfl, rfl⟩)
          go_ret2
          exact ⟨.inr ⟨off_out _ p e line col (by have := HK.out.1; omega) HK.out.2 hcol (fun k hk => off_last_some _ p e HK.out.2 HE.out k hk) (.inr HO.out.2.2.2.2), rfl⟩, rfl⟩
        · go_wp2_with (go_at_call 15; refine (hcon _).mono ?_; rintro e w1 ⟨rfl, rfl⟩)
          go_ret2
          refine ⟨.inl ⟨p + (col - 1).toNat, by have := HH.out.2; omega, off_in _ p e line col (by have := HK.out.1; omega) (by omega) (by omega) (fun k hk => off_last_some _ p e HK.out.2 HE.out k hk), ?_⟩, rfl⟩
          rw [show ((p + (col - 1).toNat : Nat) : Int) = (s.size : Int) - u.size + col - 1 by omega]
          rfl
end Go.Proofs.YtbgkdofjndocfaaDoor
