/-
  Rows of words in memory, and the contracts of exact.trimmed, addTimes, takeTimes, divideByWord at every argument.
-/
import Derived.Test.YtfkkhabpnnealaaGreatDoorRows
import Derived.Test.YtfkkhabpnnealaaGreatDoorPlnA
import Derived.WalkKit
import Derived.WalkSpells
import Derived.WalkLawsBesides
import Derived.Deep.RegionHeld3
import Derived.Deep.DrawnRows
import Derived.Sort.Row
import Derived.Laws.BitsAllLaws
namespace Go.Proofs.YtfkkhabpnnealaaGreatDoor
open Go.RowKit
attribute [local go_sem ↓] Go.wp_at_zero Go.wp_at_succ
theorem ret_int {k : IntKind} {a b : Int} (h : a = b) : Ending.returned (.int k a) = .returned (.int k b) := by rw [h]
theorem ret_bool {a b : Bool} (h : a = b) : Ending.returned (.bool a) = .returned (.bool b) := by rw [h]
/-- a slice of words that reads as l -/
structure Sl (w : World) (ao : Option Addr) (n cap : Nat) (l : List Nat) : Prop where
  len : l.length = n
  lec : n ≤ cap
  mx : cap ≤ 9223372036854775807
  wd : Wd 4294967296 l
  at_ : 0 < n → ∃ b off, ao = some ⟨b, off, none⟩ ∧ b < w.heap.size ∧ ∀ j, j < n → w.cell? ⟨b, off + j, none⟩ = some (.int .u32 (l.getD j 0 : Nat))
/-- what trimmed answers -/
structure TrimP (l : List Nat) (k : Nat) : Prop where
  le : k ≤ l.length
  zero : ∀ j, k ≤ j → j < l.length → l.getD j 0 = 0
  top : 0 < k → l.getD (k-1) 0 ≠ 0
theorem TrimP.form {l : List Nat} {k : Nat} (h : TrimP l k) (hw : Wd 4294967296 l) : Form 4294967296 (l.take k) := Form.of_take hw k h.le h.top
theorem TrimP.val {l : List Nat} {k : Nat} (h : TrimP l k) : vl 4294967296 (l.take k) = vl 4294967296 l := vl_take_zeros _ _ _ h.zero
theorem getD_take (l : List Nat) (k j : Nat) (h : j < k) : (l.take k).getD j 0 = l.getD j 0 := by
  simp only [List.getD_eq_getElem?_getD, List.getElem?_take, h, if_true]
theorem Sl.take {w : World} {ao : Option Addr} {n cap : Nat} {l : List Nat} (h : Sl w ao n cap l) (k : Nat) (hk : k ≤ n) : Sl w ao k cap (l.take k) := by
  refine ⟨by have := h.len; simp; omega, by have := h.lec; omega, h.mx, h.wd.take k, fun h0 => ?_⟩
  obtain ⟨b, off, e, hb, hc⟩ := h.at_ (by omega)
  exact ⟨b, off, e, hb, fun j hj => by rw [hc j (by omega), getD_take l k j hj]⟩
set_option maxRecDepth 100000 in
set_option maxHeartbeats 1000000 in
theorem trimmed_any (ao : Option Addr) (n cap : Nat) (l : List Nat) (w : World) (hm : Sl w ao n cap l) :
    Calls Tryz.prog 48 #[.slice ao n cap] w fun e w' => ∃ k : Nat, e = .returned (.slice ao k cap) ∧ w' = w ∧ TrimP l k := by
  have hcap := hm.lec
  have hmx := hm.mx
  have HL : Hid (l.length = n) := hm.len
  have HM : Hid (Sl w ao n cap l) := hm
  clear hm
  go_enter Tryz.func48, Tryz.ntmps48
  go_wp2
  go_loop [3] (fun t => ∃ k : Nat, k ≤ n ∧ t = .int .i64 k ∧ (∀ j, k ≤ j → j < n → l.getD j 0 = 0)) (fun t => (intOf t).toNat)
  case atStart => exact ⟨n, Nat.le_refl _, rfl, fun j h1 h2 => by omega⟩
  case round =>
    obtain ⟨k, hk, rfl, hz⟩ := hrel
    have HZ : Hid (∀ j, k ≤ j → j < n → l.getD j 0 = 0) := hz
    clear hz
    by_cases h0 : k = 0
    · subst h0
      go_wp2
      go_ret
      exact ⟨0, rfl, rfl, ⟨Nat.zero_le _, fun j h1 h2 => HZ.out j h1 (by rw [← HL.out]; exact h2), fun h => by omega⟩⟩
    · obtain ⟨b, off, rfl, hb, hcl⟩ := HM.out.at_ (by omega)
      have hck := hcl (k - 1) (by omega)
      obtain ⟨x, hx⟩ : ∃ x, x = l.getD (k - 1) 0 := ⟨_, rfl⟩
      rw [← hx] at hck
      have hk1 : 1 ≤ k := by omega
      have HX : Hid (x = l.getD (k - 1) 0) := hx
      clear hx hcl
      by_cases hx0 : x = 0
      · subst hx0
        go_wp2
        go_round
        case rel =>
          exact ⟨k - 1, by omega, by go_num, fun j h1 h2 => by
            by_cases hj : j = k - 1
            · rw [hj]; exact HX.out.symm
            · exact HZ.out j (by omega) h2⟩
        case measure => simp [intOf]; omega
      · go_wp2
        go_ret
        exact ⟨k, rfl, rfl, ⟨by rw [HL.out]; exact hk, fun j h1 h2 => HZ.out j h1 (by rw [← HL.out]; exact h2), fun _ => by rw [← HX.out]; exact hx0⟩⟩
abbrev eU : Nat → Value := fun x => .int .u32 (x : Int)
open Go.Sort (Holds putRow holds_putRow putRow_self putRow_set cell?_putRow_other)
theorem getBang_list (l : List Nat) (k : Nat) : (l.toArray)[k]! = l.getD k 0 := by
  by_cases h : k < l.length
  · simp [List.getD_eq_getElem?_getD, h]
  · simp [h]
theorem holds_cell {w : World} {b off : Nat} {d : List Nat} (h : Holds eU w b off d.toArray) (k : Nat) (hk : k < d.length) : w.cell? ⟨b, off + k, none⟩ = some (.int .u32 (d.getD k 0 : Nat)) ∧ w.frozen? ⟨b, off + k, none⟩ = false := by
  have := h k (by simpa using hk)
  rw [getBang_list] at this
  exact this
theorem holds_of {w : World} {b off : Nat} {d : List Nat} (h : ∀ k, k < d.length → w.cell? ⟨b, off + k, none⟩ = some (.int .u32 (d.getD k 0 : Nat)) ∧ w.frozen? ⟨b, off + k, none⟩ = false) : Holds eU w b off d.toArray := fun j hj => by
  rw [getBang_list]
  exact h j (by simpa using hj)
/-- the row in the midst of being written from below: its cell k -/
theorem put_cell {w wr : World} {b off : Nat} {s r : List Nat} {k : Nat} (hs : Holds eU w b off s.toArray) (hr : r.length = k) (hk : k < s.length) (hW : wr = putRow eU w b off (r ++ s.drop k).toArray) :
    wr.cell? ⟨b, off + k, none⟩ = some (.int .u32 (s.getD k 0 : Nat)) ∧ wr.frozen? ⟨b, off + k, none⟩ = false := by
  subst hW
  have hz : (r ++ s.drop k).toArray.size = s.toArray.size := by simp; omega
  have h := holds_cell (holds_putRow eU w b off s.toArray _ hs hz) k (by simp; omega)
  rw [show (r ++ s.drop k).getD k 0 = s.getD k 0 from by
    simp only [List.getD_eq_getElem?_getD]
    rw [List.getElem?_append_right (by omega), hr, Nat.sub_self, List.getElem?_drop, Nat.add_zero]] at h
  exact h
theorem put_other {w wr : World} {b off : Nat} {d : List Nat} {b' o : Nat} (hne : b' ≠ b) (hW : wr = putRow eU w b off d.toArray) : wr.cell? ⟨b', o, none⟩ = w.cell? ⟨b', o, none⟩ := by
  subst hW
  exact cell?_putRow_other eU w b off _ _ (Or.inl hne)
theorem set_mid (r q : List Nat) (x t : Nat) : (r ++ x :: q).set r.length t = r ++ t :: q := by simp
theorem put_next {w wr : World} {b off : Nat} {s r : List Nat} {k t : Nat} {z : Int} (hr : r.length = k) (hk : k < s.length) (hW : wr = putRow eU w b off (r ++ s.drop k).toArray) (hz : z = (t : Int)) :
    wr.setCell ⟨b, off + k, none⟩ (.int .u32 z) = putRow eU w b off ((r ++ [t]) ++ s.drop (k + 1)).toArray := by
  subst hW; subst hz
  have h := putRow_set eU w b off (r ++ s.drop k).toArray k t (by simp; omega)
  refine h.trans (congrArg _ ?_)
  have e : (r ++ s.drop k).set k t = (r ++ [t]) ++ s.drop (k + 1) := by
    rw [List.drop_eq_getElem_cons hk]
    subst hr
    rw [set_mid]; simp
  rw [List.setIfInBounds_toArray, e]
/-- k rounds of adding -/
structure AddR (s l : List Nat) (word k : Nat) (r : List Nat) (c : Nat) : Prop where
  len : r.length = k
  wd : Wd 4294967296 r
  small : c < 4294967296
  eq : vl 4294967296 r + 4294967296 ^ k * c = vl 4294967296 (s.take k) + word * vl 4294967296 (l.take k)
theorem vl_take_next (l : List Nat) (k : Nat) : vl 4294967296 (l.take (k + 1)) = vl 4294967296 (l.take k) + 4294967296 ^ k * l.getD k 0 := by
  by_cases h : k < l.length
  · exact vl_take_succ _ l k h
  · rw [vl_take_over _ l k (by omega), List.getD_eq_getElem?_getD, List.getElem?_eq_none (by omega)]; rfl
theorem AddR.step {s l : List Nat} {word k : Nat} {r : List Nat} {c : Nat} (h : AddR s l word k r c) {x y t c' p : Nat} (hx : x = s.getD k 0) (hy : y = l.getD k 0) (hp : word * y = p) (ht : t < 4294967296) (hc : c' < 4294967296)
    (he : t + 4294967296 * c' = x + p + c) : AddR s l word (k + 1) (r ++ [t]) c' := by
  refine ⟨by simp [h.len], Wd.append.2 ⟨h.wd, by simpa [Wd] using ht⟩, hc, ?_⟩
  rw [vl_take_next, vl_take_next, vl_append, h.len, ← hx, ← hy, Nat.pow_succ]
  simp only [vl, Nat.mul_zero, Nat.add_zero]
  exact add_step _ _ _ _ _ _ _ _ _ _ _ h.eq hp.symm he
theorem mulB {y word : Nat} (hy : y ≤ 4294967295) (hw : word ≤ 4294967295) : 0 ≤ (y : Int) * (word : Int) ∧ (y : Int) * (word : Int) ≤ 18446744065119617025 := by
  have h := Nat.mul_le_mul hy hw
  have e : ((y * word : Nat) : Int) = (y : Int) * (word : Int) := by simp
  rw [← e]
  omega
set_option maxRecDepth 100000 in
set_option maxHeartbeats 2000000 in
theorem addTimes_any (b off n cap : Nat) (s : List Nat) (ao : Option Addr) (m capb : Nat) (l : List Nat) (word : Nat) (w : World)
    (hs : Holds eU w b off s.toArray) (hsl : s.length = n) (hsw : Wd 4294967296 s) (hl : Sl w ao m capb l) (hne : 0 < m → ∀ b' o', ao = some ⟨b', o', none⟩ → b' ≠ b) (hword : word ≤ 4294967295) (hn : n ≤ 1000000) :
    Calls Tryz.prog 101 #[.slice (some ⟨b, off, none⟩) n cap, .slice ao m capb, .int .u32 word] w fun e w' => ∃ (r : List Nat) (c : Nat), e = .returned (.int .u32 c) ∧ w' = putRow eU w b off r.toArray ∧ AddR s l word n r c := by
  have hmm := hl.lec
  have hmx := hl.mx
  have HL : Hid (l.length = m) := hl.len
  have HM : Hid (Sl w ao m capb l) := hl
  have HS : Hid (Holds eU w b off s.toArray) := hs
  have HSL : Hid (s.length = n) := hsl
  have HNE : Hid (0 < m → ∀ b' o', ao = some ⟨b', o', none⟩ → b' ≠ b) := hne
  clear hl hs hsl hne
  go_enter Tryz.func101, Tryz.ntmps101
  go_wp2
  go_loopw [6, 12] (fun c i wr => ∃ (k cc : Nat) (r : List Nat), k ≤ n ∧ i = .int .i64 k ∧ c = .int .u32 cc ∧ AddR s l word k r cc ∧ Hid (wr = putRow eU w b off (r ++ s.drop k).toArray)) (fun _ i _ => n - (intOf i).toNat)
  case atStart => exact ⟨0, 0, [], Nat.zero_le _, rfl, rfl, ⟨rfl, by simp [Wd], by omega, by simp [vl]⟩, by simpa [Hid] using (putRow_self eU w b off _ HS.out).symm⟩
  case round =>
    obtain ⟨k, cc, r, hk, rfl, rfl, hr, HW⟩ := hrel
    by_cases hlt : k < n
    · have hcc := hr.small
      have HK : Hid (k < s.length) := by show k < s.length; rw [HSL.out]; exact hlt
      obtain ⟨hcell, hfr⟩ := put_cell HS.out hr.len HK.out HW.out
      obtain ⟨x, hx⟩ : ∃ x, x = s.getD k 0 := ⟨_, rfl⟩
      rw [← hx] at hcell
      have hxb : x ≤ 4294967295 := by have := hsw.at (by omega) k; omega
      have HX : Hid (x = s.getD k 0) := hx
      clear hx
      by_cases hkm : k < m
      · obtain ⟨bl, ol, rfl, hbl, hcl⟩ := HM.out.at_ (by omega)
        have hcy := (put_other (o := ol + k) (HNE.out (by omega) bl ol rfl) HW.out).trans (hcl k hkm)
        obtain ⟨y, hy⟩ : ∃ y, y = l.getD k 0 := ⟨_, rfl⟩
        rw [← hy] at hcy
        have hyb : y ≤ 4294967295 := by have := HM.out.wd.at (by omega) k; omega
        have HY : Hid (y = l.getD k 0) := hy
        clear hy hcl hbl
        obtain ⟨hp0, hp1⟩ := mulB hyb hword
        have HA : Hid (((word * y : Nat) : Int) = (y : Int) * (word : Int)) := by show _ = _; rw [Int.natCast_mul, Int.mul_comm]
        go_wp2
        all_goals
          go_roundw
          case rel =>
            have ha := HA.out
            generalize hpe : word * y = p at ha
            clear HA
            generalize (y : Int) * (word : Int) = q at *
            have hp2 : p ≤ 18446744065119617025 := by omega
            rcases Nat.lt_or_ge ((x + (cc + p)) % 4294967296) ((cc + p) % 4294967296) with hov | hov
            · exact ⟨k + 1, (cc + p) / 4294967296 + 1, r ++ [(x + (cc + p)) % 4294967296], by omega, by go_num, by congr 1 <;> omega, hr.step HX.out HY.out hpe (by omega) (by omega) (by omega), put_next hr.len HK.out HW.out (by omega)⟩
            · exact ⟨k + 1, (cc + p) / 4294967296, r ++ [(x + (cc + p)) % 4294967296], by omega, by go_num, by congr 1 <;> omega, hr.step HX.out HY.out hpe (by omega) (by omega) (by omega), put_next hr.len HK.out HW.out (by omega)⟩
          case measure => simp [intOf]; omega
      · have hy0 : l.getD k 0 = 0 := by rw [List.getD_eq_getElem?_getD, List.getElem?_eq_none (by have := HL.out; omega)]; rfl
        have HY : Hid (0 = l.getD k 0) := hy0.symm
        clear hy0
        go_wp2
        all_goals
          go_roundw
          case rel =>
            rcases Nat.lt_or_ge ((x + cc) % 4294967296) (cc % 4294967296) with hov | hov
            · exact ⟨k + 1, cc / 4294967296 + 1, r ++ [(x + cc) % 4294967296], by omega, by go_num, by congr 1 <;> omega, hr.step HX.out HY.out (Nat.mul_zero _) (by omega) (by omega) (by omega), put_next hr.len HK.out HW.out (by omega)⟩
            · exact ⟨k + 1, cc / 4294967296, r ++ [(x + cc) % 4294967296], by omega, by go_num, by congr 1 <;> omega, hr.step HX.out HY.out (Nat.mul_zero _) (by omega) (by omega) (by omega), put_next hr.len HK.out HW.out (by omega)⟩
          case measure => simp [intOf]; omega
    · go_wp2
      go_ret
      obtain rfl : k = n := by omega
      exact ⟨r, cc, rfl, by rw [HW.out, List.drop_of_length_le (by have := HSL.out; omega), List.append_nil], hr⟩
/-- k rounds of taking -/
structure TakeR (s l : List Nat) (word k : Nat) (r : List Nat) (c : Nat) : Prop where
  len : r.length = k
  wd : Wd 4294967296 r
  small : c < 4294967296
  eq : vl 4294967296 r + word * vl 4294967296 (l.take k) = vl 4294967296 (s.take k) + 4294967296 ^ k * c
theorem TakeR.step {s l : List Nat} {word k : Nat} {r : List Nat} {c : Nat} (h : TakeR s l word k r c) {x y t c' p : Nat} (hx : x = s.getD k 0) (hy : y = l.getD k 0) (hp : word * y = p) (ht : t < 4294967296) (hc : c' < 4294967296)
    (he : t + p + c = x + 4294967296 * c') : TakeR s l word (k + 1) (r ++ [t]) c' := by
  refine ⟨by simp [h.len], Wd.append.2 ⟨h.wd, by simpa [Wd] using ht⟩, hc, ?_⟩
  rw [vl_take_next, vl_take_next, vl_append, h.len, ← hx, ← hy, Nat.pow_succ]
  simp only [vl, Nat.mul_zero, Nat.add_zero]
  exact take_step _ _ _ _ _ _ _ _ _ _ _ h.eq hp.symm he
set_option maxRecDepth 100000 in
set_option maxHeartbeats 2000000 in
theorem takeTimes_any (b off n cap : Nat) (s : List Nat) (ao : Option Addr) (m capb : Nat) (l : List Nat) (word : Nat) (w : World)
    (hs : Holds eU w b off s.toArray) (hsl : s.length = n) (hsw : Wd 4294967296 s) (hl : Sl w ao m capb l) (hne : 0 < m → ∀ b' o', ao = some ⟨b', o', none⟩ → b' ≠ b) (hword : word ≤ 4294967295) (hn : n ≤ 1000000) :
    Calls Tryz.prog 102 #[.slice (some ⟨b, off, none⟩) n cap, .slice ao m capb, .int .u32 word] w fun e w' => ∃ (r : List Nat) (c : Nat), e = .returned (.int .u32 c) ∧ w' = putRow eU w b off r.toArray ∧ TakeR s l word n r c := by
  have hmm := hl.lec
  have hmx := hl.mx
  have HL : Hid (l.length = m) := hl.len
  have HM : Hid (Sl w ao m capb l) := hl
  have HS : Hid (Holds eU w b off s.toArray) := hs
  have HSL : Hid (s.length = n) := hsl
  have HNE : Hid (0 < m → ∀ b' o', ao = some ⟨b', o', none⟩ → b' ≠ b) := hne
  clear hl hs hsl hne
  go_enter Tryz.func102, Tryz.ntmps102
  go_wp2
  go_loopw [6, 12] (fun c i wr => ∃ (k cc : Nat) (r : List Nat), k ≤ n ∧ i = .int .i64 k ∧ c = .int .u32 cc ∧ TakeR s l word k r cc ∧ Hid (wr = putRow eU w b off (r ++ s.drop k).toArray)) (fun _ i _ => n - (intOf i).toNat)
  case atStart => exact ⟨0, 0, [], Nat.zero_le _, rfl, rfl, ⟨rfl, by simp [Wd], by omega, by simp [vl]⟩, by simpa [Hid] using (putRow_self eU w b off _ HS.out).symm⟩
  case round =>
    obtain ⟨k, cc, r, hk, rfl, rfl, hr, HW⟩ := hrel
    by_cases hlt : k < n
    · have hcc := hr.small
      have HK : Hid (k < s.length) := by show k < s.length; rw [HSL.out]; exact hlt
      obtain ⟨hcell, hfr⟩ := put_cell HS.out hr.len HK.out HW.out
      obtain ⟨x, hx⟩ : ∃ x, x = s.getD k 0 := ⟨_, rfl⟩
      rw [← hx] at hcell
      have hxb : x ≤ 4294967295 := by have := hsw.at (by omega) k; omega
      have HX : Hid (x = s.getD k 0) := hx
      clear hx
      by_cases hkm : k < m
      · obtain ⟨bl, ol, rfl, hbl, hcl⟩ := HM.out.at_ (by omega)
        have hcy := (put_other (o := ol + k) (HNE.out (by omega) bl ol rfl) HW.out).trans (hcl k hkm)
        obtain ⟨y, hy⟩ : ∃ y, y = l.getD k 0 := ⟨_, rfl⟩
        rw [← hy] at hcy
        have hyb : y ≤ 4294967295 := by have := HM.out.wd.at (by omega) k; omega
        have HY : Hid (y = l.getD k 0) := hy
        clear hy hcl hbl
        obtain ⟨hp0, hp1⟩ := mulB hyb hword
        have HA : Hid (((word * y : Nat) : Int) = (y : Int) * (word : Int)) := by show _ = _; rw [Int.natCast_mul, Int.mul_comm]
        go_wp2
        all_goals
          go_roundw
          case rel =>
            have ha := HA.out
            generalize hpe : word * y = p at ha
            clear HA
            generalize (y : Int) * (word : Int) = q at *
            have hp2 : p ≤ 18446744065119617025 := by omega
            rcases Nat.lt_or_ge x ((cc + p) % 4294967296) with hov | hov
            · exact ⟨k + 1, (cc + p) / 4294967296 + 1, r ++ [(x + 4294967296 - (cc + p) % 4294967296) % 4294967296], by omega, by go_num, by congr 1 <;> omega, hr.step HX.out HY.out hpe (by omega) (by omega) (by omega), put_next hr.len HK.out HW.out (by omega)⟩
            · exact ⟨k + 1, (cc + p) / 4294967296, r ++ [(x + 4294967296 - (cc + p) % 4294967296) % 4294967296], by omega, by go_num, by congr 1 <;> omega, hr.step HX.out HY.out hpe (by omega) (by omega) (by omega), put_next hr.len HK.out HW.out (by omega)⟩
          case measure => simp [intOf]; omega
      · have hy0 : l.getD k 0 = 0 := by rw [List.getD_eq_getElem?_getD, List.getElem?_eq_none (by have := HL.out; omega)]; rfl
        have HY : Hid (0 = l.getD k 0) := hy0.symm
        clear hy0
        go_wp2
        all_goals
          go_roundw
          case rel =>
            rcases Nat.lt_or_ge x (cc % 4294967296) with hov | hov
            · exact ⟨k + 1, cc / 4294967296 + 1, r ++ [(x + 4294967296 - cc % 4294967296) % 4294967296], by omega, by go_num, by congr 1 <;> omega, hr.step HX.out HY.out (Nat.mul_zero _) (by omega) (by omega) (by omega), put_next hr.len HK.out HW.out (by omega)⟩
            · exact ⟨k + 1, cc / 4294967296, r ++ [(x + 4294967296 - cc % 4294967296) % 4294967296], by omega, by go_num, by congr 1 <;> omega, hr.step HX.out HY.out (Nat.mul_zero _) (by omega) (by omega) (by omega), put_next hr.len HK.out HW.out (by omega)⟩
          case measure => simp [intOf]; omega
    · go_wp2
      go_ret
      obtain rfl : k = n := by omega
      exact ⟨r, cc, rfl, by rw [HW.out, List.drop_of_length_le (by have := HSL.out; omega), List.append_nil], hr⟩
set_option maxRecDepth 100000 in
set_option maxHeartbeats 1000000 in
theorem takeTimes_none (ap : Option Addr) (cap : Nat) (ao : Option Addr) (m capb : Nat) (word : Nat) (w : World) :
    Calls Tryz.prog 102 #[.slice ap 0 cap, .slice ao m capb, .int .u32 word] w fun e w' => e = .returned (.int .u32 0) ∧ w' = w := by
  go_enter Tryz.func102, Tryz.ntmps102
  go_wp2
  go_loop [6, 12] (fun c i => c = .int .u32 0 ∧ i = .int .i64 0) (fun _ _ => 0)
  case atStart => exact ⟨rfl, rfl⟩
  case round =>
    obtain ⟨rfl, rfl⟩ := hrel
    go_wp2
    go_ret
    exact ⟨rfl, rfl⟩
/-- a row divided by a word from above, down to the word j -/
structure DivR (s : List Nat) (word j : Nat) (r : List Nat) (c : Nat) : Prop where
  len : r.length + j = s.length
  wd : Wd 4294967296 r
  small : c < word
  eq : vl 4294967296 r * word + c = vl 4294967296 (s.drop j)
theorem vl_drop_prev (s : List Nat) (i : Nat) (h : i < s.length) : vl 4294967296 (s.drop i) = s.getD i 0 + 4294967296 * vl 4294967296 (s.drop (i + 1)) := by
  rw [List.drop_eq_getElem_cons h, List.getD_eq_getElem?_getD, List.getElem?_eq_getElem h]; rfl
theorem DivR.step {s : List Nat} {word i : Nat} {r : List Nat} {c : Nat} (h : DivR s word (i + 1) r c) {x q : Nat} (hx : x = s.getD i 0) (hq : q = (c * 4294967296 + x) / word) (hq1 : q < 4294967296) (h0 : 0 < word) :
    DivR s word i (q :: r) ((c * 4294967296 + x) % word) := by
  have hl := h.len
  refine ⟨by simp only [List.length_cons]; omega, Wd.cons.2 ⟨hq1, h.wd⟩, Nat.mod_lt _ h0, ?_⟩
  rw [vl_drop_prev s i (by omega), ← hx]
  exact div_step _ _ _ _ _ _ h.eq hq
theorem getD_take_app (s r : List Nat) (i : Nat) (h : i < s.length) : (s.take (i + 1) ++ r).getD i 0 = s.getD i 0 := by
  simp only [List.getD_eq_getElem?_getD]
  rw [List.getElem?_append_left (by simp; omega), List.getElem?_take, if_pos (by omega)]
theorem dn_cell {w wr : World} {b off : Nat} {s r : List Nat} {i : Nat} (hs : Holds eU w b off s.toArray) (hr : r.length + (i + 1) = s.length) (hW : wr = putRow eU w b off (s.take (i + 1) ++ r).toArray) :
    wr.cell? ⟨b, off + i, none⟩ = some (.int .u32 (s.getD i 0 : Nat)) ∧ wr.frozen? ⟨b, off + i, none⟩ = false := by
  subst hW
  have hz : (s.take (i + 1) ++ r).toArray.size = s.toArray.size := by simp; omega
  have h := holds_cell (holds_putRow eU w b off s.toArray _ hs hz) i (by simp; omega)
  rw [getD_take_app s r i (by omega)] at h
  exact h
theorem dn_next {w wr : World} {b off : Nat} {s r : List Nat} {i t : Nat} {z : Int} (hr : r.length + (i + 1) = s.length) (hW : wr = putRow eU w b off (s.take (i + 1) ++ r).toArray) (hz : z = (t : Int)) :
    wr.setCell ⟨b, off + i, none⟩ (.int .u32 z) = putRow eU w b off (s.take i ++ (t :: r)).toArray := by
  subst hW; subst hz
  have h := putRow_set eU w b off (s.take (i + 1) ++ r).toArray i t (by simp; omega)
  refine h.trans (congrArg _ ?_)
  have e : (s.take (i + 1) ++ r).set i t = s.take i ++ (t :: r) := by
    rw [List.take_succ_eq_append_getElem (by omega), List.append_assoc]
    have := set_mid (s.take i) r (s[i]'(by omega)) t
    rw [show (s.take i).length = i from by simp; omega] at this
    simpa using this
  rw [List.setIfInBounds_toArray, e]
theorem or_add (c x : Nat) (hx : x < 2 ^ 32) : c * 2 ^ 32 ||| x = c * 2 ^ 32 + x := by
  rw [Nat.mul_comm, ← Nat.two_pow_add_eq_or_of_lt hx]
theorem or_words (c x : Nat) (hc : c < 4294967296) (hx : x < 4294967296) : bits BinOp.or IntKind.u64 ((c : Int) * 4294967296) (x : Int) = (c : Int) * 4294967296 + (x : Int) := by
  have h := u64_or_nat (c * 4294967296) x (by omega) (by omega)
  have e := or_add c x (by simpa using hx)
  simp only [Nat.reducePow] at e
  rw [e, Int.natCast_mul, Int.natCast_add, Int.natCast_mul] at h
  exact h
theorem quo_word {c x word : Nat} (hc : c < word) (hx : x ≤ 4294967295) (h0 : 1 ≤ word) (hw : word ≤ 4294967295) :
    (((c * 4294967296 + x) / word : Nat) : Int) = ((c : Int) * 4294967296 + (x : Int)) / (word : Int) ∧ (((c * 4294967296 + x) % word : Nat) : Int) = ((c : Int) * 4294967296 + (x : Int)) % (word : Int) ∧
    0 ≤ ((c : Int) * 4294967296 + (x : Int)) / (word : Int) ∧ ((c : Int) * 4294967296 + (x : Int)) / (word : Int) ≤ 4294967295 ∧ 0 ≤ ((c : Int) * 4294967296 + (x : Int)) % (word : Int) ∧ ((c : Int) * 4294967296 + (x : Int)) % (word : Int) ≤ 4294967295 := by
  have e1 : (((c * 4294967296 + x) / word : Nat) : Int) = ((c : Int) * 4294967296 + (x : Int)) / (word : Int) := by rw [Int.natCast_ediv]; simp
  have e2 : (((c * 4294967296 + x) % word : Nat) : Int) = ((c : Int) * 4294967296 + (x : Int)) % (word : Int) := by rw [Int.natCast_emod]; simp
  have h1 := div_word c x word hc (by omega)
  have h2 := Nat.mod_lt (c * 4294967296 + x) (show 0 < word by omega)
  rw [← e1, ← e2]
  clear e1 e2
  generalize (c * 4294967296 + x) / word = q at *
  generalize (c * 4294967296 + x) % word = p at *
  exact ⟨rfl, rfl, by omega, by omega, by omega, by omega⟩
set_option maxRecDepth 100000 in
set_option maxHeartbeats 2000000 in
theorem divideByWord_any (b off n cap : Nat) (s : List Nat) (word : Nat) (w : World)
    (hs : Holds eU w b off s.toArray) (hsl : s.length = n) (hsw : Wd 4294967296 s) (hword : word ≤ 4294967295) (hw0 : 1 ≤ word) (hn : n ≤ 1000000) :
    Calls Tryz.prog 53 #[.slice (some ⟨b, off, none⟩) n cap, .int .u32 word] w fun e w' => ∃ (r : List Nat) (c : Nat), e = .returned (.int .u32 c) ∧ w' = putRow eU w b off r.toArray ∧ DivR s word 0 r c := by
  have HS : Hid (Holds eU w b off s.toArray) := hs
  have HSL : Hid (s.length = n) := hsl
  clear hs hsl
  go_enter Tryz.func53, Tryz.ntmps53
  go_wp2
  go_loopw [4, 5] (fun c i wr => ∃ (j cc : Nat) (r : List Nat), j ≤ n ∧ i = .int .i64 ((j : Int) - 1) ∧ c = .int .u32 cc ∧ DivR s word j r cc ∧ Hid (wr = putRow eU w b off (s.take j ++ r).toArray)) (fun _ i _ => (intOf i + 1).toNat)
  case atStart => exact ⟨n, 0, [], Nat.le_refl _, rfl, rfl, ⟨by have := HSL.out; simp; omega, by simp [Wd], by omega, by rw [List.drop_of_length_le (by have := HSL.out; omega)]; simp [vl]⟩, by rw [List.take_of_length_le (by have := HSL.out; omega), List.append_nil]; exact (putRow_self eU w b off _ HS.out).symm⟩
  case round =>
    obtain ⟨j, cc, r, hk, rfl, rfl, hr, HW⟩ := hrel
    by_cases hlt : 0 < j
    · have hcc := hr.small
      obtain ⟨i, rfl⟩ : ∃ i, j = i + 1 := ⟨j - 1, by omega⟩
      obtain ⟨hcell, hfr⟩ := dn_cell HS.out hr.len HW.out
      obtain ⟨x, hx⟩ : ∃ x, x = s.getD i 0 := ⟨_, rfl⟩
      rw [← hx] at hcell
      have hxb : x ≤ 4294967295 := by have := hsw.at (by omega) i; omega
      have HX : Hid (x = s.getD i 0) := hx
      clear hx
      have hor := or_words cc x (by omega) (by omega)
      obtain ⟨e1, e2, hq0, hq1, hm0, hm1⟩ := quo_word (by omega : cc < word) hxb hw0 hword
      have E1 : Hid (_ = _) := e1
      have E2 : Hid (_ = _) := e2
      clear e1 e2
      go_wp2
      go_roundw
      case rel =>
        refine ⟨i, (cc * 4294967296 + x) % word, ((cc * 4294967296 + x) / word) :: r, by omega, by go_num, ?_, hr.step HX.out rfl (div_word _ _ _ (by omega) (by omega)) (by omega), dn_next hr.len HW.out ?_⟩
        · rw [E2.out]
        · rw [E1.out]
      case measure => simp [intOf]
    · go_wp2
      go_ret
      obtain rfl : j = 0 := by omega
      exact ⟨r, cc, rfl, by rw [HW.out]; simp, hr⟩
set_option maxRecDepth 100000 in
set_option maxHeartbeats 1000000 in
theorem divideByWord_none (ap : Option Addr) (cap : Nat) (word : Nat) (w : World) :
    Calls Tryz.prog 53 #[.slice ap 0 cap, .int .u32 word] w fun e w' => e = .returned (.int .u32 0) ∧ w' = w := by
  go_enter Tryz.func53, Tryz.ntmps53
  go_wp2
  go_loop [4, 5] (fun c i => c = .int .u32 0 ∧ i = .int .i64 (-1)) (fun _ _ => 0)
  case atStart => exact ⟨rfl, rfl⟩
  case round =>
    obtain ⟨rfl, rfl⟩ := hrel
    go_wp2
    go_ret
    exact ⟨rfl, rfl⟩
end Go.Proofs.YtfkkhabpnnealaaGreatDoor

