/-
  konst's small functions, walked: Bool, Str, number, Int, is, holds.
-/
import Derived.Test.YtfkkhabpnnealaaGreatDoorKonA
import Derived.Test.YtfkkhabpnnealaaGreatDoorWlkP
namespace Go.Proofs.YtfkkhabpnnealaaGreatDoor
open Go.RowKit
attribute [local go_sem ↓] Go.wp_at_zero Go.wp_at_succ
set_option maxRecDepth 100000 in
set_option maxHeartbeats 2000000 in
theorem kbool_any (b : Bool) (w : World) : Calls Tryz.prog 20 #[.bool b] w fun e w' => e = .returned (cnV 3 false none 0 0 ⟨#[]⟩ b) ∧ Below w.heap.size w w' := by
  go_enter Tryz.func20, Tryz.ntmps20
  go_wp2_with fail
  exact bodyPost_ret (res_cell rfl rfl (resC (new_blk w _))) rfl ⟨rfl, (Below.refl _ w).alloc (Nat.le_refl _) _⟩
set_option maxRecDepth 100000 in
set_option maxHeartbeats 2000000 in
theorem kstr_any (t : ByteArray) (w : World) : Calls Tryz.prog 18 #[.string t] w fun e w' => e = .returned (cnV 2 false none 0 0 t false) ∧ Below w.heap.size w w' := by
  go_enter Tryz.func18, Tryz.ntmps18
  go_wp2_with fail
  exact bodyPost_ret (res_cell rfl rfl (resC (new_blk w _))) rfl ⟨rfl, (Below.refl _ w).alloc (Nat.le_refl _) _⟩
theorem two_new {w : World} (a b : Obj) : ((w.alloc a).alloc b).heap[w.heap.size + 1]? = some b := by
  have := new_blk (w.alloc a) b
  rw [World.size_alloc] at this
  exact this
theorem two_below (w : World) (a b : Obj) : Below w.heap.size w ((w.alloc a).alloc b) := ((Below.refl _ w).alloc (Nat.le_refl _) _).alloc (by simp) _
set_option maxRecDepth 100000 in
set_option maxHeartbeats 2000000 in
theorem knum_any (s : Bool) (ao : Option Addr) (n cap : Nat) (w : World) : Calls Tryz.prog 24 #[.agg #[.bool s, .slice ao n cap]] w fun e w' => e = .returned (cnV 1 s ao n cap ⟨#[]⟩ false) ∧ Below w.heap.size w w' := by
  go_enter Tryz.func24, Tryz.ntmps24
  go_wp2_with fail
  exact bodyPost_ret (v := cnV 1 s ao n cap ⟨#[]⟩ false) (res_cell rfl rfl (resC (two_new _ _))) rfl ⟨rfl, two_below _ _ _⟩
set_option maxRecDepth 100000 in
set_option maxHeartbeats 2000000 in
theorem kint_any (v : Int) (w : World) (h0 : -9223372036854775808 ≤ v) (h1 : v ≤ 9223372036854775807) : Calls Tryz.prog 16 #[.int .i64 v] w fun e w' => (∃ x, e = .returned x ∧ CnR w' w.heap.size x 1 (sgB (decide (v < 0)) v.natAbs) v.natAbs ⟨#[]⟩ false) ∧ Below w.heap.size w w' := by
  obtain ⟨s, hs9⟩ : ∃ s, sgB (decide (v < 0)) v.natAbs = s := ⟨_, rfl⟩
  rw [hs9]
  have HS9 : Hid (sgB (decide (v < 0)) v.natAbs = s) := hs9
  clear hs9
  go_enter Tryz.func16, Tryz.ntmps16
  go_wp2_with fail
  refine (of_any v _ h0 h1).mono ?_
  rintro e x1 ⟨x, rfl, hx, hb⟩
  rw [HS9.out] at hx
  obtain ⟨ao, n, cap, r, rfl, hs, hf, hv, hn⟩ := hx.ex
  have hz : (w.alloc (.cells #[.int .i64 0, .bool false, .slice none 0 0, .string ⟨#[]⟩, .bool false] 26)).heap.size = w.heap.size + 1 := by simp
  have HZ : Hid (x1.heap[w.heap.size]? = some (.cells #[.int .i64 0, .bool false, .slice none 0 0, .string ⟨#[]⟩, .bool false] 26 (0, 0))) := kept5 hb (new_blk w _)
  have HB : Hid (Below w.heap.size w x1) := ((Below.refl _ w).alloc (Nat.le_refl _) _).trans (hb.mono (by omega))
  have HX : Hid (IntR x1 (w.heap.size + 1) (.agg #[.bool s, .slice ao n cap]) s v.natAbs) := hz ▸ hx
  clear hx hb hs hf hv hn hz
  go_wp2_with fail
  refine (knum_any s ao n cap _).mono ?_
  rintro e x2 ⟨rfl, hb⟩
  have HZ2 : Hid (x2.heap[w.heap.size]? = some (.cells #[.int .i64 0, .bool false, .slice none 0 0, .string ⟨#[]⟩, .bool false] 26 (0, 0))) := kept5 hb HZ.out
  have HB2 : Hid (Below w.heap.size w x2) := HB.out.trans (hb.mono HB.out.size)
  have HX2 : Hid (IntR x2 (w.heap.size + 1) (.agg #[.bool s, .slice ao n cap]) s v.natAbs) := HX.out.below hb (Nat.le_refl _)
  clear hb HZ HB HX
  have k5 := bx5 HZ2.out
  have k5f := bx5f HZ2.out
  go_wp2_with fail
  have hm := set5 (a' := .int .i64 1) (b' := .bool s) (c' := .slice ao n cap) (d' := .string ⟨#[]⟩) (e' := .bool false) HZ2.out
  have hi := HX2.out.set5 (B := w.heap.size) (a := .int .i64 1) (b := .bool s) (c := .slice ao n cap) (d := .string ⟨#[]⟩) (e := .bool false) (by omega)
  have hb5 := below5 (B := w.heap.size) (a := .int .i64 1) (b := .bool s) (c := .slice ao n cap) (d := .string ⟨#[]⟩) (e := .bool false) HB2.out (Nat.le_refl _)
  exact bodyPost_ret (v := .agg #[.int .i64 1, .bool s, .slice ao n cap, .string ⟨#[]⟩, .bool false]) (res_cell rfl rfl (resC hm)) rfl ⟨⟨_, rfl, ao, n, cap, rfl, hi.mono (base' := w.heap.size) (by omega)⟩, hb5⟩
/-- what a sign says of an order -/
def hoB (op : ByteArray) (q : Int) : Bool := if op.toList = [61, 61] then (q == 0) else if op.toList = [33, 61] then (q != 0) else cmO op q
set_option maxRecDepth 100000 in
set_option maxHeartbeats 2000000 in
theorem holds_any (op : ByteArray) (q : Int) (w : World) : Calls Tryz.prog 42 #[.string op, .int .i64 q] w fun e w' => e = .returned (.bool (hoB op q)) ∧ w' = w := by
  obtain ⟨U, hU⟩ : ∃ U, hoB op q = U := ⟨_, rfl⟩
  rw [hU]
  have HUU : Hid (hoB op q = U) := hU
  clear hU
  by_cases h_eq : op.toList = [61, 61]
  · go_enter Tryz.func42, Tryz.ntmps42
    go_wp2_with fail
    go_ret
    exact ⟨by rw [← HUU.out]; clear HUU; unfold hoB cmO; simp_all, rfl⟩
  by_cases h_ne : op.toList = [33, 61]
  · have zz_eq : (op.toList == [61, 61]) = false := by simpa using h_eq
    go_enter Tryz.func42, Tryz.ntmps42
    go_wp2_with fail
    go_ret
    exact ⟨by rw [← HUU.out]; clear HUU; unfold hoB cmO; simp_all, rfl⟩
  by_cases h_lt : op.toList = [60]
  · have zz_eq : (op.toList == [61, 61]) = false := by simpa using h_eq
    have zz_ne : (op.toList == [33, 61]) = false := by simpa using h_ne
    go_enter Tryz.func42, Tryz.ntmps42
    go_wp2_with fail
    go_ret
    exact ⟨by rw [← HUU.out]; clear HUU; unfold hoB cmO; simp_all, rfl⟩
  by_cases h_le : op.toList = [60, 61]
  · have zz_eq : (op.toList == [61, 61]) = false := by simpa using h_eq
    have zz_ne : (op.toList == [33, 61]) = false := by simpa using h_ne
    have zz_lt : (op.toList == [60]) = false := by simpa using h_lt
    go_enter Tryz.func42, Tryz.ntmps42
    go_wp2_with fail
    go_ret
    exact ⟨by rw [← HUU.out]; clear HUU; unfold hoB cmO; simp_all, rfl⟩
  by_cases h_gt : op.toList = [62]
  · have zz_eq : (op.toList == [61, 61]) = false := by simpa using h_eq
    have zz_ne : (op.toList == [33, 61]) = false := by simpa using h_ne
    have zz_lt : (op.toList == [60]) = false := by simpa using h_lt
    have zz_le : (op.toList == [60, 61]) = false := by simpa using h_le
    go_enter Tryz.func42, Tryz.ntmps42
    go_wp2_with fail
    go_ret
    exact ⟨by rw [← HUU.out]; clear HUU; unfold hoB cmO; simp_all, rfl⟩
  have zz_eq : (op.toList == [61, 61]) = false := by simpa using h_eq
  have zz_ne : (op.toList == [33, 61]) = false := by simpa using h_ne
  have zz_lt : (op.toList == [60]) = false := by simpa using h_lt
  have zz_le : (op.toList == [60, 61]) = false := by simpa using h_le
  have zz_gt : (op.toList == [62]) = false := by simpa using h_gt
  go_enter Tryz.func42, Tryz.ntmps42
  go_wp2_with fail
  go_ret
  exact ⟨by rw [← HUU.out]; clear HUU; unfold hoB cmO; simp_all, rfl⟩

end Go.Proofs.YtfkkhabpnnealaaGreatDoor

