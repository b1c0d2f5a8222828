/-
  The contracts of exact's takeMost and divided at every argument.
-/
import Derived.Test.YtfkkhabpnnealaaGreatDoorWalkE
import Derived.Test.YtfkkhabpnnealaaGreatDoorPlnA
namespace Go.Proofs.YtfkkhabpnnealaaGreatDoor
open Go.RowKit
attribute [local go_sem ↓] Go.wp_at_zero Go.wp_at_succ
open Go.Sort (Holds putRow holds_putRow putRow_self putRow_set cell?_putRow_other putRow_putRow)
theorem quo_top {x y z : Nat} (hx : x < 4294967296) (hy : y < 4294967296) :
    ((((x * 4294967296 + y) / z : Nat)) : Int) = ((x : Int) * 4294967296 + (y : Int)) / (z : Int) ∧ 0 ≤ ((x : Int) * 4294967296 + (y : Int)) / (z : Int) ∧ ((x : Int) * 4294967296 + (y : Int)) / (z : Int) ≤ 18446744073709551615 := by
  have e1 : (((x * 4294967296 + y) / z : Nat) : Int) = ((x : Int) * 4294967296 + (y : Int)) / (z : Int) := by rw [Int.natCast_ediv]; simp
  have h1 : (x * 4294967296 + y) / z ≤ x * 4294967296 + y := Nat.div_le_self _ _
  rw [← e1]
  clear e1
  generalize (x * 4294967296 + y) / z = q at *
  exact ⟨rfl, by omega, by omega⟩
set_option maxRecDepth 100000 in
set_option maxHeartbeats 2000000 in
theorem takeMost_any (b off k cap : Nat) (d : List Nat) (ap : Option Addr) (capb : Nat) (p : List Nat) (w : World)
    (hs : Holds eU w b off d.toArray) (hd : d.length = k + 1 + 1) (wd : Wd 4294967296 d) (hp : Sl w ap (k + 1) capb p) (hne : 0 < k + 1 → ∀ b' o', ap = some ⟨b', o', none⟩ → b' ≠ b) (hk : k ≤ 100000)
    (htop : p.getD k 0 ≠ 0) (hlt : vl 4294967296 (d.drop 1) < vl 4294967296 p) :
    Calls Tryz.prog 104 #[.slice (some ⟨b, off, none⟩) (k + 1 + 1) cap, .slice ap (k + 1) capb] w fun e w' => ∃ (t : Nat) (r : List Nat) (q : Nat), e = .returned (.int .u32 t) ∧ TmR d p t false r ∧ w' = (putRow eU w b off r.toArray).drewN q := by
  have HS : Hid (Holds eU w b off d.toArray) := hs
  have HD : Hid (d.length = k + 1 + 1) := hd
  have HP : Hid (Sl w ap (k + 1) capb p) := hp
  have HNE : Hid (0 < k + 1 → ∀ b' o', ap = some ⟨b', o', none⟩ → b' ≠ b) := hne
  have HLT : Hid (vl 4294967296 (d.drop 1) < vl 4294967296 p) := hlt
  obtain ⟨bp, op, rfl, hbp, hcp⟩ := hp.at_ (by omega)
  have cz := hcp k (by omega)
  have cx := (holds_cell hs (k + 1) (by omega)).1
  have cy := (holds_cell hs k (by omega)).1
  obtain ⟨x, hx⟩ : ∃ x, x = d.getD (k + 1) 0 := ⟨_, rfl⟩
  obtain ⟨y, hy⟩ : ∃ y, y = d.getD k 0 := ⟨_, rfl⟩
  obtain ⟨z, hz⟩ : ∃ z, z = p.getD k 0 := ⟨_, rfl⟩
  have hxb : x ≤ 4294967295 := by have := wd.at (by omega) (k + 1); omega
  have hyb : y ≤ 4294967295 := by have := wd.at (by omega) k; omega
  have hzb : z ≤ 4294967295 := by have := hp.wd.at (by omega) k; omega
  rw [← hz] at htop cz
  rw [← hx] at cx
  rw [← hy] at cy
  have HX : Hid (x = d.getD (k + 1) 0) := hx
  have HY : Hid (y = d.getD k 0) := hy
  have HZ : Hid (z = p.getD k 0) := hz
  have hz1 : 1 ≤ z := by omega
  have hor := or_words x y (by omega) (by omega)
  obtain ⟨e1, hq0, hq1⟩ := quo_top (x := x) (y := y) (z := z) (by omega) (by omega)
  have E1 : Hid (_ = _) := e1
  clear hs hd hp hne hlt hbp hcp hx hy hz e1 htop
  go_enter Tryz.func104, Tryz.ntmps104
  go_wp2_with fail
  go_quiet (fail)
  go_wp2_with fail
  obtain ⟨t, ht⟩ : ∃ t : Nat, t = Nat.min ((x * 4294967296 + y) / z) 4294967295 := ⟨_, rfl⟩
  have hT : min (((x : Int) * 4294967296 + (y : Int)) / (z : Int)) 4294967295 = (t : Int) := by
    rw [← E1.out, ht]
    show min _ _ = ((min _ _ : Nat) : Int)
    omega
  rw [hT]
  have htb : t ≤ 4294967295 := by rw [ht]; exact Nat.min_le_right _ _
  have HT : Hid (t = Nat.min ((x * 4294967296 + y) / z) 4294967295) := ht
  clear hT ht
  refine (takeTimes_any b off (k + 1 + 1) cap d _ (k + 1) capb p t _ (by exact HS.out) HD.out wd (by exact HP.out.drewN _) HNE.out htb (by omega)).mono ?_
  rintro e w1 ⟨r, c, rfl, rfl, hr⟩
  have hf : TmR d p t (decide (0 < c)) r := by
    have e1 := hr.eq
    rw [List.take_of_length_le (by have := HP.out.len; omega), List.take_of_length_le (by have := HD.out; omega), ← HD.out] at e1
    exact TmR.first HD.out wd HP.out.len HP.out.wd (by rw [← HZ.out]; omega) HLT.out (by rw [← HX.out, ← HY.out, ← HZ.out]; exact HT.out) (hr.len.trans HD.out.symm) hr.wd e1
  have hcb := hr.small
  have HF : Hid (TmR d p t (decide (0 < c)) r) := hf
  clear hf hr
  obtain ⟨bo, hbo⟩ : ∃ bo, bo = decide (0 < c) := ⟨_, rfl⟩
  have hbo2 : decide ((0 : Int) < (c : Int)) = bo := by rw [hbo]; exact decide_eq_decide.2 (by omega)
  rw [← hbo] at HF
  clear hbo
  go_wp2_with fail
  go_loopw [4, 7] (fun tv bv wr => ∃ (t : Nat) (b' : Bool) (r : List Nat), tv = .int .u32 t ∧ bv = .bool b' ∧ Hid (TmR d p t b' r) ∧ Hid (∃ q, wr = (putRow eU w b off r.toArray).drewN q)) (fun tv _ _ => (intOf tv).toNat)
  case atStart =>
    refine ⟨t, bo, r, rfl, ?_, HF, ⟨_, rfl⟩⟩
    first | rfl | (rw [← hbo2]; done) | (rw [← hbo2]; simp)
  case round =>
    clear HF hbo2 htb HT hcb
    obtain ⟨t, b', r, rfl, rfl, HR, HQ⟩ := hrel
    have htb := HR.out.small
    cases b'
    · go_wp2
      go_ret
      obtain ⟨q, hq⟩ := HQ.out
      exact ⟨t, r, q, rfl, HR.out, hq⟩
    · have ht1 := HR.out.pos
      obtain ⟨q, hq⟩ := HQ.out
      have hh : Holds eU wr b off r.toArray := by
        rw [hq]
        exact holds_putRow eU w b off d.toArray r.toArray HS.out (by simpa using HR.out.len)
      have hsl : Sl wr (some ⟨bp, op, none⟩) (k + 1) capb p := by
        rw [hq]
        refine ⟨HP.out.len, HP.out.lec, HP.out.mx, HP.out.wd, fun h0 => ?_⟩
        obtain ⟨b1, o1, e1, h1, h2⟩ := HP.out.at_ h0
        cases e1
        exact ⟨bp, op, rfl, by simpa using h1, fun j hj => (put_other (HNE.out h0 bp op rfl) rfl).trans (h2 j hj)⟩
      have HH : Hid (Holds eU wr b off r.toArray) := hh
      have HSL : Hid (Sl wr (some ⟨bp, op, none⟩) (k + 1) capb p) := hsl
      have HW : Hid (wr = (putRow eU w b off r.toArray).drewN q) := hq
      clear hh hsl hq HQ
      go_wp2_with fail
      refine (addTimes_any b off (k + 1 + 1) cap r _ (k + 1) capb p 1 wr HH.out (HR.out.len.trans HD.out) HR.out.wd HSL.out HNE.out (by omega) (by omega)).mono ?_
      rintro e w2 ⟨r', c, rfl, rfl, hr'⟩
      have hstep : TmR d p (t - 1) (decide (c = 0)) r' := by
        have e1 := hr'.full (HR.out.len.trans HD.out) (by have := HP.out.len; omega)
        rw [← HD.out] at e1
        refine HR.out.step (hr'.len.trans HD.out.symm) hr'.wd e1 ?_
        have := vl_lt 4294967296 p HP.out.wd
        rw [HP.out.len] at this
        exact Nat.lt_of_lt_of_le this (Nat.pow_le_pow_right (by omega) (by rw [HD.out]; omega))
      have HST : Hid (TmR d p (t - 1) (decide (c = 0)) r') := hstep
      have HRL : Hid (r'.length = k + 1 + 1) := hr'.len
      clear hstep hr'
      go_wp2_with fail
      go_roundw
      case rel =>
        refine ⟨t - 1, decide (c = 0), r', by go_num, ?_, HST, ⟨q, ?_⟩⟩
        · congr 1
          rw [Bool.eq_iff_iff]
          simp
        · rw [HW.out]
          show (putRow eU (putRow eU w b off r.toArray) b off r'.toArray).drewN q = _
          rw [putRow_putRow eU w b off r.toArray r'.toArray (by have := HR.out.len; have := HRL.out; have := HD.out; simp; omega)]
      case measure => simp [intOf]; omega
set_option maxRecDepth 100000 in
theorem lz_any (x : Int) (w : World) (h0 : 0 ≤ x) (h1 : x ≤ 4294967295) :
    Calls Tryz.prog 103 #[.int .u32 x] w fun e w' => e = .returned (.int .i64 (32 - Lib.bitLen x.toNat)) ∧ w' = w := by
  have hb := Lib.bitLen_le x.toNat 32 (by omega) (by simp; omega)
  go_enter Tryz.func103, Tryz.ntmps103
  go_wp2_with (go_at_call 100; refine (len32_any x _ h0 h1).mono ?_; rintro e w' ⟨rfl, rfl⟩)
  go_ret
  exact ⟨rfl, rfl⟩
end Go.Proofs.YtfkkhabpnnealaaGreatDoor

