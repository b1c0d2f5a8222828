/-
  Plain facts: a text is valid, rune by rune, and holds no byte 0.
-/
import Derived.Test.YtmfdfkbcommjfaaDoorRvB
import Derived.Test.YtmfdfkbcommjfaaDoorWalkQ
import Derived.Lib.ValidU
import Derived.Test.YtmfdfkbcommjfaaDoorRvC
namespace Go.Proofs.YtmfdfkbcommjfaaDoor
open Go.RowKit
/-- valid UTF-8 without a byte 0, as the document's own function goes through it -/
def vld : Nat → List UInt8 → Bool
  | 0, _ => true
  | n + 1, l => if l = [] then true else if rs ⟨l.toArray⟩ = 0 ∨ l.head? = some 0 then false else vld n (l.drop (rs ⟨l.toArray⟩))
theorem rs_le (s : ByteArray) (h : 0 < s.size) : rs s ≤ s.size := by
  unfold rs
  split
  · omega
  · by_cases ha : (s[0]'h).toNat < 128
    · rw [decode_ascii s 0 h ha]; show 1 ≤ s.size; omega
    · have := (dec_span s 0 h (by omega)).1
      omega
theorem rs_L (l : List UInt8) : rs ⟨l.toArray⟩ = if (Lib.decodeL l).1 = 65533 ∧ (Lib.decodeL l).2 = 1 then 0 else (Lib.decodeL l).2 := rfl
/-- none of a rune's bytes is 0, but the rune 0's own -/
theorem no_zero (s : ByteArray) (h : 0 < s.size) (h0 : s.data.toList.head? ≠ some 0) : ∀ x ∈ s.data.toList.take (Utf8.decode s 0).2, x ≠ 0 := by
  intro x hx e
  by_cases ha : (s[0]'h).toNat < 128
  · rw [decode_ascii s 0 h ha] at hx
    obtain ⟨i, hi, hxi⟩ := List.getElem_of_mem hx
    have hi0 : i = 0 := by simp at hi; omega
    subst hi0
    refine h0 ?_
    rw [List.head?_eq_getElem?, ← e, ← hxi]
    simp
  · have hd := dec_span s 0 h (by omega)
    obtain ⟨i, hi, hxi⟩ := List.getElem_of_mem hx
    have hi2 : i < (Utf8.decode s 0).2 := by simp at hi; omega
    have h3 := hd.2 i hi2
    rw [Nat.zero_add] at h3
    have hg := get!_of s i (by omega)
    have : s.get! i = x := by
      rw [← hxi, List.getElem_take]
      have := List.getElem?_eq_some_iff.1 hg
      obtain ⟨_, hh⟩ := this
      exact hh.symm
    rw [this, e] at h3
    exact absurd h3 (by decide)
theorem dec_pos (s : ByteArray) (h : 0 < s.size) : 1 ≤ (Utf8.decode s 0).2 := by
  by_cases ha : (s[0]'h).toNat < 128
  · rw [decode_ascii s 0 h ha]; exact Nat.le_refl _
  · exact (decode_high s 0 h (by omega)).2
theorem idx0 (l : List UInt8) : (decide (Lib.indexByte l 0 < 0)) = decide (∀ x ∈ l, x ≠ 0) := by
  have hge := Lib.indexByte_ge l 0
  by_cases h : Lib.indexByte l 0 = -1
  · rw [h, decide_eq_true (by omega)]
    have := Lib.indexByte_none h
    refine (decide_eq_true ?_).symm
    intro x hx e
    obtain ⟨i, hi, hxi⟩ := List.getElem_of_mem hx
    exact this i (by rw [List.getElem?_eq_getElem hi, hxi, e])
  · obtain ⟨o, ho⟩ : ∃ o : Nat, Lib.indexByte l 0 = o := ⟨(Lib.indexByte l 0).toNat, by omega⟩
    have hs := (Lib.indexByte_some ho).1
    rw [decide_eq_false (by omega)]
    refine (decide_eq_false ?_).symm
    intro hall
    exact hall 0 (List.mem_of_getElem? hs) rfl
theorem vld_eq : ∀ (n : Nat) (l : List UInt8), l.length ≤ n → vld n l = (Lib.validGoD n l && decide (∀ x ∈ l, x ≠ 0))
  | 0, l, h => by
    have : l = [] := List.eq_nil_of_length_eq_zero (by omega)
    subst this
    rfl
  | n + 1, l, h => by
    by_cases hl : l = []
    · subst hl; rfl
    · have hsz : 0 < (⟨l.toArray⟩ : ByteArray).size := by
        have : 0 < l.length := List.length_pos_iff.2 hl
        simpa [ByteArray.size] using this
      simp only [vld, Lib.validGoD, hl, if_false]
      rw [rs_L]
      by_cases hb : (Lib.decodeL l).1 = 65533 ∧ (Lib.decodeL l).2 = 1
      · simp [hb]
      · rw [if_neg hb, if_neg hb]
        have hp := dec_pos ⟨l.toArray⟩ hsz
        have hd0 : ¬ (Lib.decodeL l).2 = 0 := by show ¬ (Utf8.decode ⟨l.toArray⟩ 0).2 = 0; omega
        have hle : (l.drop (Lib.decodeL l).2).length ≤ n := by rw [List.length_drop]; omega
        by_cases h0 : l.head? = some 0
        · rw [if_pos (.inr h0)]
          have hm : ¬ ∀ x ∈ l, x ≠ 0 := fun hall => hall 0 (List.mem_of_mem_head? h0) rfl
          rw [decide_eq_false hm, Bool.and_false]
        · rw [if_neg (by intro hh; rcases hh with hh | hh; exact hd0 hh; exact h0 hh), vld_eq n _ hle]
          have hz := no_zero ⟨l.toArray⟩ hsz (by simpa using h0)
          have he : (∀ x ∈ l.drop (Lib.decodeL l).2, x ≠ 0) ↔ (∀ x ∈ l, x ≠ 0) := by
            constructor
            · intro hall x hx
              rw [← List.take_append_drop (Lib.decodeL l).2 l] at hx
              rcases List.mem_append.1 hx with hx | hx
              · exact hz x hx
              · exact hall x hx
            · intro hall x hx
              exact hall x (List.mem_of_mem_drop hx)
          rw [decide_eq_decide.2 he]
end Go.Proofs.YtmfdfkbcommjfaaDoor
/-
  The document's own Valid (recastref1), walked.
-/
namespace Go.Proofs.YtmfdfkbcommjfaaDoor
open Go.RowKit
theorem back_list (u : ByteArray) : (⟨u.data.toList.toArray⟩ : ByteArray) = u := by cases u; simp
theorem ne_nil {u : ByteArray} (h : 0 < u.size) : u.data.toList ≠ [] := fun e => by
  have h1 : u.data.toList.length = 0 := by rw [e]; rfl
  rw [Array.length_toList] at h1
  exact absurd h1 (show u.size ≠ 0 by omega)
theorem head_of {u : ByteArray} (h : 0 < u.size) : u.data.toList.head? = some (u[0]'h) := by
  rw [List.head?_eq_getElem?]
  simp [ByteArray.getElem_eq_getElem_data]
theorem vld_no_rune {u : ByteArray} {m : Nat} (h : 0 < u.size) (hm : u.size ≤ m) (hr : rs u = 0) : vld m u.data.toList = false := by
  obtain ⟨k, rfl⟩ : ∃ k, m = k + 1 := ⟨m - 1, by omega⟩
  simp only [vld, ne_nil h, if_false, back_list]
  rw [if_pos (.inl hr)]
theorem vld_zero {u : ByteArray} {m : Nat} (h : 0 < u.size) (hm : u.size ≤ m) (hz : u[0]'h = 0) : vld m u.data.toList = false := by
  obtain ⟨k, rfl⟩ : ∃ k, m = k + 1 := ⟨m - 1, by omega⟩
  simp only [vld, ne_nil h, if_false]
  rw [if_pos (.inr (by rw [head_of h, hz]))]
theorem vld_next {u : ByteArray} {m : Nat} (h : 0 < u.size) (hr : rs u ≠ 0) (hz : u[0]'h ≠ 0) : vld (m + 1) u.data.toList = vld m (u.data.toList.drop (rs u)) := by
  simp only [vld, ne_nil h, if_false, back_list]
  rw [if_neg]
  rintro (h' | h')
  · exact hr h'
  · rw [head_of h] at h'
    exact hz (by simpa using h')
theorem vld_nil {u : ByteArray} {m : Nat} (h : u.size = 0) : vld m u.data.toList = true := by
  have e : u.data.toList = [] := List.eq_nil_of_length_eq_zero (by rw [Array.length_toList]; exact h)
  rw [e]
  cases m <;> simp [vld]
theorem ext_drop' (s : ByteArray) (n : Nat) : (s.extract n s.size).data.toList = s.data.toList.drop n := by
  simp [ByteArray.data_extract]
  rw [List.take_of_length_le (by simp)]
def strSz : Value → Nat | .string s => s.size | _ => 0
set_option maxRecDepth 100000 in
set_option maxHeartbeats 1000000 in
theorem refValid_any (s : ByteArray) (w : World) (hs : s.size ≤ 65536) :
    Calls Tryd.prog 19 #[.string s] w fun e w' => e = .returned (.bool (vld s.size s.data.toList)) ∧ w' = w := by
  obtain ⟨V, hV⟩ : ∃ V, vld s.size s.data.toList = V := ⟨_, rfl⟩
  have HV : Hid (vld s.size s.data.toList = V) := hV
  rw [hV]
  clear hV
  go_enter Tryd.func19, Tryd.ntmps19
  go_wp2_with fail
  go_loopw [0] (fun sv w' => ∃ (u : ByteArray) (m : Nat), sv = .string u ∧ u.size ≤ 65536 ∧ u.size ≤ m ∧ Hid (vld m u.data.toList = V) ∧ w' = w) (fun sv _ => strSz sv)
  case atStart => exact ⟨s, s.size, rfl, hs, Nat.le_refl _, HV.out, rfl⟩
  case round =>
    obtain ⟨u, m, rfl, hu, hm, HU, rfl⟩ := hrel
    by_cases h0 : 0 < u.size
    · have h16 := fun w => size_any u w hu h0
      have hle := rs_le u h0
      have z0 : (0 : Int) < (u.size : Int) := by omega
      by_cases hr : rs u = 0
      · have HF : Hid (V = false) := HU.out.symm.trans (vld_no_rune h0 hm hr)
        rw [hr] at h16
        clear hr hle
        go_wp2_with (go_at_call 29; refine (h16 _).mono ?_; rintro e w1 ⟨rfl, rfl⟩)
        go_ret
        exact ⟨ret_bool HF.out.symm, rfl⟩
      · by_cases hz : u[0]'h0 = 0
        · have HF : Hid (V = false) := HU.out.symm.trans (vld_zero h0 hm hz)
          have hr2 : ((rs u : Int) == 0) = false := by simp; omega
          have hzb : (((u[0]'h0).toNat : Int) == 0) = true := by rw [hz]; rfl
          clear hr hz
          generalize rs u = r at *
          go_wp2_with (go_at_call 29; refine (h16 _).mono ?_; rintro e w1 ⟨rfl, rfl⟩)
          go_ret
          exact ⟨ret_bool HF.out.symm, rfl⟩
        · obtain ⟨k, rfl⟩ : ∃ k, m = k + 1 := ⟨m - 1, by omega⟩
          have HN : Hid (vld k (u.data.toList.drop (rs u)) = V) := (vld_next h0 hr hz).symm.trans HU.out
          have hr2 : ((rs u : Int) == 0) = false := by simp; omega
          have hzb : (((u[0]'h0).toNat : Int) == 0) = false := by
            have : ¬ ((u[0]'h0).toNat : Int) = 0 := fun h' => hz (UInt8.toNat_inj.1 (show (u[0]'h0).toNat = 0 by omega))
            simpa using this
          have hr1 : 1 ≤ rs u := by omega
          clear hr hz HU
          generalize rs u = r at *
          have HD : Hid ((u.extract r u.size).data.toList = u.data.toList.drop r) := ext_drop' u r
          have hz1 : (0 : Int) ≤ (r : Int) := by omega
          have hz2 : (r : Int) ≤ (u.size : Int) := by omega
          go_wp2_with (go_at_call 29; refine (h16 _).mono ?_; rintro e w1 ⟨rfl, rfl⟩)
          go_roundw
          case rel => exact ⟨u.extract r u.size, k, rfl, by simp; omega, by simp; omega, by show vld k (u.extract r u.size).data.toList = V; rw [HD.out]; exact HN.out, trivial⟩
          case measure => simp [strSz]; omega
    · have HF : Hid (V = true) := HU.out.symm.trans (vld_nil (by omega))
      go_wp2
      go_ret
      exact ⟨ret_bool HF.out.symm, rfl⟩
theorem vld_ok (S : ByteArray) : vld S.size S.data.toList = okT S := by
  rw [vld_eq S.size S.data.toList (by simp), ← idx0 S.data.toList]
  have e1 : Lib.validGoD S.size S.data.toList = Lib.validD S.data.toList := by unfold Lib.validD; simp
  rw [e1]
  rfl
theorem rvalid_any (s : ByteArray) (w : World) (hs : s.size ≤ 65536) :
    Calls Tryd.prog 19 #[.string s] w fun e w' => e = .returned (.bool (okT s)) ∧ w' = w := by
  rw [← vld_ok]; exact refValid_any s w hs
end Go.Proofs.YtmfdfkbcommjfaaDoor
