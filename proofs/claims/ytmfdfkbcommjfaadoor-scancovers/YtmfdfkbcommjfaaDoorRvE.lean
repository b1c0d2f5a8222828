/-
  The document's own Valid (recastref1), walked.
-/
import Derived.Test.YtmfdfkbcommjfaaDoorRvC
import Derived.Test.YtmfdfkbcommjfaaDoorRvD
namespace Go.Proofs.YtmfdfkbcommjfaaDoor
open Go.RowKit
theorem back_list (u : ByteArray) : (⟨u.data.toList.toArray⟩ : ByteArray) = u := by cases u; simp
theorem ne_nil {u : ByteArray} (h : 0 < u.size) : u.data.toList ≠ [] := fun e => by
  have h1 : u.data.toList.length = 0 := by rw [e]; rfl
  rw [Array.length_toList] at h1
  exact absurd h1 (show u.size ≠ 0 by omega)
theorem head_of {u : ByteArray} (h : 0 < u.size) : u.data.toList.head? = some (u[0]'h) := by
  rw [List.head?_eq_getElem?]
  simp [ByteArray.getElem_eq_getElem_data]
theorem vld_no_rune {u : ByteArray} {m : Nat} (h : 0 < u.size) (hm : u.size ≤ m) (hr : rs u = 0) : vld m u.data.toList = false := by
  obtain ⟨k, rfl⟩ : ∃ k, m = k + 1 := ⟨m - 1, by omega⟩
  simp only [vld, ne_nil h, if_false, back_list]
  rw [if_pos (.inl hr)]
theorem vld_zero {u : ByteArray} {m : Nat} (h : 0 < u.size) (hm : u.size ≤ m) (hz : u[0]'h = 0) : vld m u.data.toList = false := by
  obtain ⟨k, rfl⟩ : ∃ k, m = k + 1 := ⟨m - 1, by omega⟩
  simp only [vld, ne_nil h, if_false]
  rw [if_pos (.inr (by rw [head_of h, hz]))]
theorem vld_next {u : ByteArray} {m : Nat} (h : 0 < u.size) (hr : rs u ≠ 0) (hz : u[0]'h ≠ 0) : vld (m + 1) u.data.toList = vld m (u.data.toList.drop (rs u)) := by
  simp only [vld, ne_nil h, if_false, back_list]
  rw [if_neg]
  rintro (h' | h')
  · exact hr h'
  · rw [head_of h] at h'
    exact hz (by simpa using h')
theorem vld_nil {u : ByteArray} {m : Nat} (h : u.size = 0) : vld m u.data.toList = true := by
  have e : u.data.toList = [] := List.eq_nil_of_length_eq_zero (by rw [Array.length_toList]; exact h)
  rw [e]
  cases m <;> simp [vld]
theorem ext_drop' (s : ByteArray) (n : Nat) : (s.extract n s.size).data.toList = s.data.toList.drop n := by
  simp [ByteArray.data_extract]
  rw [List.take_of_length_le (by simp)]
def strSz : Value → Nat | .string s => s.size | _ => 0
set_option maxRecDepth 100000 in
set_option maxHeartbeats 1000000 in
theorem refValid_any (s : ByteArray) (w : World) (hs : s.size ≤ 65536) :
    Calls Tryd.prog 19 #[.string s] w fun e w' => e = .returned (.bool (vld s.size s.data.toList)) ∧ w' = w := by
  obtain ⟨V, hV⟩ : ∃ V, vld s.size s.data.toList = V := ⟨_, rfl⟩
  have HV : Hid (vld s.size s.data.toList = V) := hV
  rw [hV]
  clear hV
  go_enter Tryd.func19, Tryd.ntmps19
  go_wp2_with fail
  go_loopw [0] (fun sv w' => ∃ (u : ByteArray) (m : Nat), sv = .string u ∧ u.size ≤ 65536 ∧ u.size ≤ m ∧ Hid (vld m u.data.toList = V) ∧ w' = w) (fun sv _ => strSz sv)
  case atStart => exact ⟨s, s.size, rfl, hs, Nat.le_refl _, HV.out, rfl⟩
  case round =>
    obtain ⟨u, m, rfl, hu, hm, HU, rfl⟩ := hrel
    by_cases h0 : 0 < u.size
    · have h16 := fun w => size_any u w hu h0
      have hle := rs_le u h0
      have z0 : (0 : Int) < (u.size : Int) := by omega
      by_cases hr : rs u = 0
      · have HF : Hid (V = false) := HU.out.symm.trans (vld_no_rune h0 hm hr)
        rw [hr] at h16
        clear hr hle
        go_wp2_with (go_at_call 29; refine (h16 _).mono ?_; rintro e w1 ⟨rfl, rfl⟩)
        go_ret
        exact ⟨ret_bool HF.out.symm, rfl⟩
      · by_cases hz : u[0]'h0 = 0
        · have HF : Hid (V = false) := HU.out.symm.trans (vld_zero h0 hm hz)
          have hr2 : ((rs u : Int) == 0) = false := by simp; omega
          have hzb : (((u[0]'h0).toNat : Int) == 0) = true := by rw [hz]; rfl
          clear hr hz
          generalize rs u = r at *
          go_wp2_with (go_at_call 29; refine (h16 _).mono ?_; rintro e w1 ⟨rfl, rfl⟩)
          go_ret
          exact ⟨ret_bool HF.out.symm, rfl⟩
        · obtain ⟨k, rfl⟩ : ∃ k, m = k + 1 := ⟨m - 1, by omega⟩
          have HN : Hid (vld k (u.data.toList.drop (rs u)) = V) := (vld_next h0 hr hz).symm.trans HU.out
          have hr2 : ((rs u : Int) == 0) = false := by simp; omega
          have hzb : (((u[0]'h0).toNat : Int) == 0) = false := by
            have : ¬ ((u[0]'h0).toNat : Int) = 0 := fun h' => hz (UInt8.toNat_inj.1 (show (u[0]'h0).toNat = 0 by omega))
            simpa using this
          have hr1 : 1 ≤ rs u := by omega
          clear hr hz HU
          generalize rs u = r at *
          have HD : Hid ((u.extract r u.size).data.toList = u.data.toList.drop r) := ext_drop' u r
          have hz1 : (0 : Int) ≤ (r : Int) := by omega
          have hz2 : (r : Int) ≤ (u.size : Int) := by omega
          go_wp2_with (go_at_call 29; refine (h16 _).mono ?_; rintro e w1 ⟨rfl, rfl⟩)
          go_roundw
          case rel => exact ⟨u.extract r u.size, k, rfl, by simp; omega, by simp; omega, by show vld k (u.extract r u.size).data.toList = V; rw [HD.out]; exact HN.out, trivial⟩
          case measure => simp [strSz]; omega
    · have HF : Hid (V = true) := HU.out.symm.trans (vld_nil (by omega))
      go_wp2
      go_ret
      exact ⟨ret_bool HF.out.symm, rfl⟩
theorem vld_ok (S : ByteArray) : vld S.size S.data.toList = okT S := by
  rw [vld_eq S.size S.data.toList (by simp), ← idx0 S.data.toList]
  have e1 : Lib.validGoD S.size S.data.toList = Lib.validD S.data.toList := by unfold Lib.validD; simp
  rw [e1]
  rfl
theorem rvalid_any (s : ByteArray) (w : World) (hs : s.size ≤ 65536) :
    Calls Tryd.prog 19 #[.string s] w fun e w' => e = .returned (.bool (okT s)) ∧ w' = w := by
  rw [← vld_ok]; exact refValid_any s w hs
end Go.Proofs.YtmfdfkbcommjfaaDoor
