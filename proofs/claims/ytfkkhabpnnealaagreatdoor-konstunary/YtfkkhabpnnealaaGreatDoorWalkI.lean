/-
  The contract of exact.Quo at every argument.
-/
import Derived.Test.YtfkkhabpnnealaaGreatDoorWalkH
namespace Go.Proofs.YtfkkhabpnnealaaGreatDoor
open Go.RowKit
attribute [local go_sem ↓] Go.wp_at_zero Go.wp_at_succ
open Go.Sort (Holds putRow holds_putRow putRow_self putRow_set cell?_putRow_other)
theorem boxes4 (w : World) (a0 a1 b0 b1 r0 r1 q0 q1 : Value) (t1 t2 t3 t4 : TypeId) (q : Nat) {W : World} (hW : ((((w.alloc (.cells #[a0, a1] t1)).alloc (.cells #[b0, b1] t2)).alloc (.cells #[r0, r1] t3)).alloc (.cells #[q0, q1] t4)).drewN q = W) :
    Box W w.heap.size a0 a1 ∧ Box W (w.heap.size + 1) b0 b1 ∧ Box W (w.heap.size + 1 + 1) r0 r1 ∧ Box W (w.heap.size + 1 + 1 + 1) q0 q1 ∧ Below w.heap.size w W ∧ W.heap.size = w.heap.size + 1 + 1 + 1 + 1 := by
  obtain ⟨h1, h2, h3, h4, h5⟩ := boxes3 w a0 a1 b0 b1 r0 r1 t1 t2 t3 0 (W := ((w.alloc (.cells #[a0, a1] t1)).alloc (.cells #[b0, b1] t2)).alloc (.cells #[r0, r1] t3)) rfl
  subst hW
  have n4 := Box.new (((w.alloc (.cells #[a0, a1] t1)).alloc (.cells #[b0, b1] t2)).alloc (.cells #[r0, r1] t3)) q0 q1 t4
  rw [h5] at n4
  have hb : Below (w.heap.size + 1 + 1 + 1) (((w.alloc (.cells #[a0, a1] t1)).alloc (.cells #[b0, b1] t2)).alloc (.cells #[r0, r1] t3)) (((((w.alloc (.cells #[a0, a1] t1)).alloc (.cells #[b0, b1] t2)).alloc (.cells #[r0, r1] t3)).alloc (.cells #[q0, q1] t4)).drewN q) := below_drews ((Below.refl _ _).alloc (by omega) _) q
  refine ⟨h1.below hb (by omega), h2.below hb (by omega), h3.below hb (by omega), n4.below (below_drews (Below.refl (w.heap.size + 1 + 1 + 1 + 1) _) q) (by omega), h4.trans (hb.mono (by omega)), ?_⟩
  show ((((w.alloc _).alloc _).alloc _).alloc _).heap.size = _
  simp
theorem tk_zero {p : List Nat} (h : Wd 4294967296 p) (h0 : vl 4294967296 p = 0) : tk p = 0 := by
  have h1 := trim_form h
  have h2 := trim_val p
  rw [h0] at h2
  have hle := (tk_trim p).le
  rcases Nat.eq_zero_or_pos (tk p) with h3 | h3
  · exact h3
  · exact absurd h2 (vl_zero_form h1 (by rw [List.length_take]; omega))
theorem tk_pos {p : List Nat} (h0 : vl 4294967296 p ≠ 0) : ∃ k, tk p = k + 1 := by
  rcases Nat.eq_zero_or_pos (tk p) with h3 | h3
  · have h2 := trim_val p
    rw [h3] at h2
    exact absurd h2.symm h0
  · exact ⟨tk p - 1, by omega⟩
set_option maxRecDepth 100000 in
set_option maxHeartbeats 2000000 in
theorem quo_big (s t : Bool) (ao : Option Addr) (n cap : Nat) (l : List Nat) (ap : Option Addr) (m capb : Nat) (p : List Nat) (w : World) (hl : Sl w ao n cap l) (hp : Sl w ap m capb p) (hn : n ≤ 1000) (hm : m ≤ 1000)
    (hbig : (bigN (vl 4294967296 l) || bigN (vl 4294967296 p)) = true) :
    Calls Tryz.prog 65 #[.agg #[.bool s, .slice ao n cap], .agg #[.bool t, .slice ap m capb]] w fun e w' => e = .returned (.tuple #[.agg #[.bool false, .slice none 0 0], .agg #[.bool false, .slice none 0 0], .int .i64 2]) ∧ Below w.heap.size w w' := by
  have HL : Hid (Sl w ao n cap l) := hl
  have HP : Hid (Sl w ap m capb p) := hp
  have HG : Hid ((bigN (vl 4294967296 l) || bigN (vl 4294967296 p)) = true) := hbig
  have K1 := tk_le hl
  have K2 := tk_le hp
  clear hl hp hbig
  go_enter Tryz.func65, Tryz.ntmps65
  go_wp2_with fail
  have HW : Hid (Below w.heap.size w ((((w.alloc (Obj.cells #[Value.bool s, Value.slice ao n cap] 24)).alloc (Obj.cells #[Value.bool t, Value.slice ap m capb] 24)).alloc (Obj.cells #[Value.bool false, Value.slice none 0 0] 24)).alloc (Obj.cells #[Value.bool false, Value.slice none 0 0] 24))) := ((((Below.refl _ _).alloc (Nat.le_refl _) _).alloc (by simp) _).alloc (by simp; omega) _).alloc (by simp; omega) _
  go_quiet (first | (go_at_call_of 48 (Value.slice ao n cap); exact Calls.quiet_of_same (trimmed_eq ao n cap l _ (by exact (HL.out.below HW.out (Nat.le_refl _)).drewN _))) | (go_at_call_of 48 (Value.slice ap m capb); exact Calls.quiet_of_same (trimmed_eq ap m capb p _ (by exact (HP.out.below HW.out (Nat.le_refl _)).drewN _))))
  generalize hW : (World.alloc _ _).drewN _ = W
  obtain ⟨_, _, x3, x4, hbW, hzW⟩ := boxes4 w _ _ _ _ _ _ _ _ _ _ _ _ _ hW
  clear hW HW
  have HBW : Hid (Below w.heap.size w W) := hbW
  have z0 := x3.z0
  have z1 := x3.z1
  have f0 := x3.f0
  have f1 := x3.f1
  have y0 := x4.z0
  have y1 := x4.z1
  have g0 := x4.f0
  have g1 := x4.f1
  clear x3 x4 hbW hzW
  go_wp2_with fail
  refine (large_any ao (tk l) cap (l.take (tk l)) _ (HL.out.below HBW.out (Nat.le_refl _)).trim (trim_form HL.out.wd) (by omega)).mono ?_
  rintro e W ⟨rfl, rfl⟩
  rw [trim_val]
  cases h1 : bigN (vl 4294967296 l)
  · have h2 : Hid (bigN (vl 4294967296 p) = true) := by have := HG.out; rw [h1] at this; simpa [Hid] using this
    clear h1
    go_wp2_with fail
    refine (large_any ap (tk p) capb (p.take (tk p)) _ (HP.out.below HBW.out (Nat.le_refl _)).trim (trim_form HP.out.wd) (by omega)).mono ?_
    rintro e W ⟨rfl, rfl⟩
    rw [trim_val, h2.out]
    go_wp2_with fail
    go_region
    all_goals
      go_wp2_with fail
      refine bodyPost_ret (v := .tuple #[.agg #[.bool false, .slice none 0 0], .agg #[.bool false, .slice none 0 0], .int .i64 2]) (by simp [results, Tryz.results65, go_sem, z0, z1, y0, y1]) rfl ⟨rfl, ?_⟩
      exact ((((HBW.out.drew.setCell (by show w.heap.size ≤ w.heap.size + 1 + 1; omega) _).setCell (by show w.heap.size ≤ w.heap.size + 1 + 1; omega) _).setCell (by show w.heap.size ≤ w.heap.size + 1 + 1 + 1; omega) _).setCell (by show w.heap.size ≤ w.heap.size + 1 + 1 + 1; omega) _)
  · clear h1
    go_wp2_with fail
    go_region
    all_goals
      go_wp2_with fail
      refine bodyPost_ret (v := .tuple #[.agg #[.bool false, .slice none 0 0], .agg #[.bool false, .slice none 0 0], .int .i64 2]) (by simp [results, Tryz.results65, go_sem, z0, z1, y0, y1]) rfl ⟨rfl, ?_⟩
      exact ((((HBW.out.drew.setCell (by show w.heap.size ≤ w.heap.size + 1 + 1; omega) _).setCell (by show w.heap.size ≤ w.heap.size + 1 + 1; omega) _).setCell (by show w.heap.size ≤ w.heap.size + 1 + 1 + 1; omega) _).setCell (by show w.heap.size ≤ w.heap.size + 1 + 1 + 1; omega) _)
set_option maxRecDepth 100000 in
set_option maxHeartbeats 2000000 in
theorem quo_zero (s t : Bool) (ao : Option Addr) (n cap : Nat) (l : List Nat) (ap : Option Addr) (m capb : Nat) (p : List Nat) (w : World) (hl : Sl w ao n cap l) (hp : Sl w ap m capb p) (hn : n ≤ 1000) (hm : m ≤ 1000)
    (hb1 : bigN (vl 4294967296 l) = false) (hz0 : vl 4294967296 p = 0) :
    Calls Tryz.prog 65 #[.agg #[.bool s, .slice ao n cap], .agg #[.bool t, .slice ap m capb]] w fun e w' => e = .returned (.tuple #[.agg #[.bool false, .slice none 0 0], .agg #[.bool false, .slice none 0 0], .int .i64 5]) ∧ Below w.heap.size w w' := by
  have HL : Hid (Sl w ao n cap l) := hl
  have HP : Hid (Sl w ap m capb p) := hp
  have B1 : Hid (bigN (vl 4294967296 l) = false) := hb1
  have B2 : Hid (vl 4294967296 p = 0) := hz0
  have B3 : Hid (tk p = 0) := tk_zero hp.wd hz0
  have K1 := tk_le hl
  have K2 := tk_le hp
  clear hl hp hb1 hz0
  go_enter Tryz.func65, Tryz.ntmps65
  go_wp2_with fail
  have HW : Hid (Below w.heap.size w ((((w.alloc (Obj.cells #[Value.bool s, Value.slice ao n cap] 24)).alloc (Obj.cells #[Value.bool t, Value.slice ap m capb] 24)).alloc (Obj.cells #[Value.bool false, Value.slice none 0 0] 24)).alloc (Obj.cells #[Value.bool false, Value.slice none 0 0] 24))) := ((((Below.refl _ _).alloc (Nat.le_refl _) _).alloc (by simp) _).alloc (by simp; omega) _).alloc (by simp; omega) _
  go_quiet (first | (go_at_call_of 48 (Value.slice ao n cap); exact Calls.quiet_of_same (trimmed_eq ao n cap l _ (by exact (HL.out.below HW.out (Nat.le_refl _)).drewN _))) | (go_at_call_of 48 (Value.slice ap m capb); exact Calls.quiet_of_same (trimmed_eq ap m capb p _ (by exact (HP.out.below HW.out (Nat.le_refl _)).drewN _))))
  generalize hW : (World.alloc _ _).drewN _ = W
  obtain ⟨_, _, x3, x4, hbW, hzW⟩ := boxes4 w _ _ _ _ _ _ _ _ _ _ _ _ _ hW
  clear hW HW
  have HBW : Hid (Below w.heap.size w W) := hbW
  have z0 := x3.z0
  have z1 := x3.z1
  have f0 := x3.f0
  have f1 := x3.f1
  have y0 := x4.z0
  have y1 := x4.z1
  have g0 := x4.f0
  have g1 := x4.f1
  clear x3 x4 hbW hzW
  go_wp2_with fail
  refine (large_any ao (tk l) cap (l.take (tk l)) _ (HL.out.below HBW.out (Nat.le_refl _)).trim (trim_form HL.out.wd) (by omega)).mono ?_
  rintro e W ⟨rfl, rfl⟩
  rw [trim_val, B1.out]
  go_wp2_with fail
  refine (large_any ap (tk p) capb (p.take (tk p)) _ (HP.out.below HBW.out (Nat.le_refl _)).trim (trim_form HP.out.wd) (by omega)).mono ?_
  rintro e W ⟨rfl, rfl⟩
  rw [trim_val, B2.out, show bigN 0 = false from by simp [bigN], B3.out]
  go_wp2_with fail
  go_region
  all_goals
    go_wp2_with fail
    refine bodyPost_ret (v := .tuple #[.agg #[.bool false, .slice none 0 0], .agg #[.bool false, .slice none 0 0], .int .i64 5]) (by simp [results, Tryz.results65, go_sem, z0, z1, y0, y1]) rfl ⟨rfl, ?_⟩
    exact ((((HBW.out.drew.setCell (by show w.heap.size ≤ w.heap.size + 1 + 1; omega) _).setCell (by show w.heap.size ≤ w.heap.size + 1 + 1; omega) _).setCell (by show w.heap.size ≤ w.heap.size + 1 + 1 + 1; omega) _).setCell (by show w.heap.size ≤ w.heap.size + 1 + 1 + 1; omega) _)
end Go.Proofs.YtfkkhabpnnealaaGreatDoor

