/-
  ScanRemarks, called in memory that holds Go's tables of UTF-8 and any MaxLen: it returns true and leaves all that lay there as it was.
-/
import Derived.Test.YtmfdfkbcommjfaaDoorTokens
import Derived.Test.YtmfdfkbcommjfaaDoorSame
import Derived.Test.YtmfdfkbcommjfaaDoorSaD
namespace Go.Proofs.YtmfdfkbcommjfaaDoor
open Go.RowKit
attribute [local go_sem ↓] Go.wp_at_zero Go.wp_at_succ
set_option maxRecDepth 100000 in
set_option maxHeartbeats 400000 in
theorem remLaw_great (S : ByteArray) (w : World) (h : 4000 < S.size) (hM : Mem w) : Calls Tryd.prog 5 #[.string S] w fun e w' => e = .returned (.bool true) ∧ Below w.heap.size w w' := by
  have k1 : (4000 : Int) < (S.size : Int) := by omega
  have g9 := awake_any w hM
  clear hM
  go_enter Tryd.func5, Tryd.ntmps5
  go_wp2_with (go_at_call 9; refine g9.mono ?_; rintro e w1 ⟨rfl, hb1⟩; have HB1 : Hid (Below w.heap.size w w1) := hb1; clear hb1)
  go_ret
  exact ⟨rfl, HB1.out⟩
set_option maxRecDepth 100000 in
set_option maxHeartbeats 2000000 in
theorem remLaw_in (S : ByteArray) (w : World) (h : ¬ 4000 < S.size) (hM : Mem w) : Calls Tryd.prog 5 #[.string S] w fun e w' => e = .returned (.bool true) ∧ Below w.heap.size w w' := by
  have k1 : ¬ (4000 : Int) < (S.size : Int) := by omega
  have HM : Hid (Mem w) := hM
  have HL : Hid _ := readOf_len S
  have g17 := comments_q S w hM
  have g18 := fun W => rcomments_any S W
  generalize readOf S = r at *
  clear hM
  go_enter Tryd.func5, Tryd.ntmps5
  go_wp2_with (first
    | (go_at_call 17; refine g17.mono ?_; rintro e w1 ⟨hb1, a1, c1, rfl, ho1⟩; have HB1 : Hid (Below w.heap.size w w1) := hb1; have hz1 := hb1.size; have HO1 : Hid (w1.ownsRow w.heap.size 33 2 (.slice a1 (roR r).length c1) (roR r).length (flS (roR r))) := ho1; clear hb1 ho1)
    | (go_at_call 18; refine (g18 _).mono ?_; rintro e w2 ⟨hb2, a2, c2, rfl, ho2⟩; have HB2 : Hid (Below w1.heap.size w1 w2) := hb2; have hz2 := hb2.size; have HO2 : Hid (w2.ownsRow w1.heap.size 33 2 (.slice a2 (roR r).length c2) (roR r).length (flS (roR r))) := ho2; clear hb2 ho2))
  have HA := (span_open (HO1.out.below HB2.out)).2
  have HB := (span_open HO2.out).2
  have HBW : Hid (Below w.heap.size w w2) := HB1.out.trans (HB2.out.mono hz1)
  have HA' : Hid _ := HA
  have HB' : Hid _ := HB
  clear HA HB HO1 HO2 HB1 HB2 g18 g17
  obtain ⟨l, hl⟩ : ∃ l, roR r = l := ⟨_, rfl⟩
  rw [hl] at HA' HB' HL ⊢
  have hll : l.length ≤ 70000 := HL.out.2
  clear HL hl
  generalize hN : l.length = N at *
  go_loopw [5] (fun u wr => ∃ i n : Nat, i ≤ N ∧ u = .int .i64 i ∧ wr = w2.drewN n) (fun u _ => N - (intOf u).toNat)
  case atStart => exact ⟨0, 0, Nat.zero_le _, rfl, rfl⟩
  case round =>
    obtain ⟨i, n, hi, rfl, rfl⟩ := hrel
    by_cases hil : i < N
    · have z1 : (i : Int) < (N : Int) := by omega
      have z2 : (0 : Int) ≤ (i : Int) := by omega
      obtain ⟨t, ht⟩ : ∃ t, l[i]? = some t := ⟨_, List.getElem?_eq_getElem (by omega)⟩
      obtain ⟨g1, d1, e1, hc1, x0, x1⟩ := HA'.out i t ht
      obtain ⟨g2, d2, e2, hc2, y0, y1⟩ := HB'.out i t ht
      rw [Value.slice.injEq] at e1 e2
      obtain ⟨rfl, _, rfl⟩ := e1
      obtain ⟨rfl, _, rfl⟩ := e2
      go_wp2_with fail
      go_quiet (fail)
      go_wp2_with fail
      go_roundw
      case rel => exact ⟨i + 1, _, by omega, by go_num, by first | rfl | (rw [World.drewN_drewN])⟩
      case measure => simp [intOf]; omega
    · have z1 : ¬ (i : Int) < (N : Int) := by omega
      have hbd : Below w.heap.size w (w2.drewN n) := HBW.out.trans ⟨rfl, rfl, rfl, Nat.le_refl _, fun _ _ => rfl⟩
      have g9 := awake_any (w2.drewN n) (HM.out.below hbd)
      have HBD : Hid (Below w.heap.size w (w2.drewN n)) := hbd
      clear hbd
      go_wp2_with (go_at_call 9; refine g9.mono ?_; rintro e w4 ⟨rfl, hb4⟩; have HB4 : Hid (Below (w2.drewN n).heap.size (w2.drewN n) w4) := hb4; clear hb4)
      go_ret
      exact ⟨rfl, HBD.out.trans (HB4.out.mono HBD.out.size)⟩
theorem remLaw_any (S : ByteArray) (w : World) (hM : Mem w) : Calls Tryd.prog 5 #[.string S] w fun e w' => e = .returned (.bool true) ∧ Below w.heap.size w w' := by
  by_cases h : 4000 < S.size
  · exact remLaw_great S w h hM
  · exact remLaw_in S w h hM
end Go.Proofs.YtmfdfkbcommjfaaDoor
