/-
  KonstArith: for all ints the law answers true.
-/
import Derived.Test.YtfkkhabpnnealaaDoorArz
import Derived.Deep.RegionHeld3
namespace Go.Proofs.YtfkkhabpnnealaaDoor
open Go.RowKit
attribute [local go_sem ↓] Go.wp_at_zero Go.wp_at_succ
theorem wrap_i64_small {x : Int} (h0 : -9223372036854775808 ≤ x) (h1 : x ≤ 9223372036854775807) : IntKind.i64.wrap x = x := by rw [IntKind.wrap_i64]; omega
theorem mul_small1 {a b : Int} (h1 : -1000000 ≤ a) (h2 : a ≤ 1000000) (h3 : -1000000 ≤ b) (h4 : b ≤ 1000000) : -1000000000000 ≤ a * b ∧ a * b ≤ 1000000000000 := by
  have e1 : a.natAbs ≤ 1000000 := by omega
  have e2 : b.natAbs ≤ 1000000 := by omega
  have e3 := Nat.mul_le_mul e1 e2
  rw [← Int.natAbs_mul] at e3
  omega
theorem tdiv_small {a b : Int} (h1 : -1000000 ≤ a) (h2 : a ≤ 1000000) : -1000000 ≤ a.tdiv b ∧ a.tdiv b ≤ 1000000 := by
  have e : (a.tdiv b).natAbs = a.natAbs / b.natAbs := Int.natAbs_tdiv a b
  have e2 := Nat.div_le_self a.natAbs b.natAbs
  omega
theorem tmod_small {a b : Int} (h1 : -1000000 ≤ a) (h2 : a ≤ 1000000) : -1000000 ≤ a.tmod b ∧ a.tmod b ≤ 1000000 := by
  have e : (a.tmod b).natAbs = a.natAbs % b.natAbs := Int.natAbs_tmod a b
  have e2 := Nat.mod_le a.natAbs b.natAbs
  omega
set_option maxRecDepth 100000 in
set_option maxHeartbeats 8000000 in
theorem arith_out (a b : Int) (w : World) (h : ¬ (-1000000 ≤ a ∧ a ≤ 1000000 ∧ -1000000 ≤ b ∧ b ≤ 1000000)) :
    Calls Tryd.prog 6 #[.int .i64 a, .int .i64 b] w fun e w' => e = .returned (.bool true) ∧ Below w.heap.size w w' := by
  by_cases h1 : a < -1000000
  · go_enter Tryd.func6, Tryd.ntmps6
    go_wp2_with (go_at_call 8; refine (awake_any _).mono ?_; rintro e x1 ⟨rfl, hb⟩; have HB : Hid (Below w.heap.size w x1) := hb; clear hb)
    go_ret
    exact ⟨rfl, HB.out⟩
  by_cases h2 : 1000000 < a
  · go_enter Tryd.func6, Tryd.ntmps6
    go_wp2_with (go_at_call 8; refine (awake_any _).mono ?_; rintro e x1 ⟨rfl, hb⟩; have HB : Hid (Below w.heap.size w x1) := hb; clear hb)
    go_ret
    exact ⟨rfl, HB.out⟩
  by_cases h3 : b < -1000000
  · go_enter Tryd.func6, Tryd.ntmps6
    go_wp2_with (go_at_call 8; refine (awake_any _).mono ?_; rintro e x1 ⟨rfl, hb⟩; have HB : Hid (Below w.heap.size w x1) := hb; clear hb)
    go_ret
    exact ⟨rfl, HB.out⟩
  have h4 : 1000000 < b := by omega
  go_enter Tryd.func6, Tryd.ntmps6
  go_wp2_with (go_at_call 8; refine (awake_any _).mono ?_; rintro e x1 ⟨rfl, hb⟩; have HB : Hid (Below w.heap.size w x1) := hb; clear hb)
  go_ret
  exact ⟨rfl, HB.out⟩
set_option maxRecDepth 100000 in
set_option maxHeartbeats 8000000 in
theorem arith_some (a b : Int) (w : World) (h1 : -1000000 ≤ a) (h2 : a ≤ 1000000) (h3 : -1000000 ≤ b) (h4 : b ≤ 1000000) (h0 : b ≠ 0) :
    Calls Tryd.prog 6 #[.int .i64 a, .int .i64 b] w fun e w' => e = .returned (.bool true) ∧ Below w.heap.size w w' := by
  have z0 : (b == 0) = false := by simpa using h0
  have wa : IntKind.i64.wrap (a + b) = a + b := wrap_i64_small (by omega) (by omega)
  have ws : IntKind.i64.wrap (a - b) = a - b := wrap_i64_small (by omega) (by omega)
  have hab : -1000000000000 ≤ a * b ∧ a * b ≤ 1000000000000 := mul_small1 h1 h2 (by omega) (by omega)
  have wm : IntKind.i64.wrap (a * b) = a * b := wrap_i64_small (by omega) (by omega)
  have td := tdiv_small h1 h2 (b := b)
  have wd : IntKind.i64.wrap (a.tdiv b) = a.tdiv b := wrap_i64_small (by omega) (by omega)
  clear td
  go_enter Tryd.func6, Tryd.ntmps6
  go_wp2_with fail
  refine (zint_any a _ (by omega) (by omega)).mono ?_
  rintro e yx ⟨⟨v, rfl, hc⟩, hb⟩
  obtain ⟨sx, ax, nx, cx, lx, rfl, hS, hV, mx⟩ := hc.ex
  have Vx : Hid (zi sx (vl 4294967296 lx) = a) := hV
  clear hV
  have hq := hb.trans (((Below.refl yx.heap.size yx).alloc (Nat.le_refl _) (.cells #[.int .i64 1, .bool sx, .slice ax nx cx, .string ⟨#[]⟩, .bool false] 26)).mono hb.size)
  have hp := (Below.refl yx.heap.size yx).alloc (Nat.le_refl _) (.cells #[.int .i64 1, .bool sx, .slice ax nx cx, .string ⟨#[]⟩, .bool false] 26)
  have HB_0 : Hid (Below w.heap.size w (yx.alloc (.cells #[.int .i64 1, .bool sx, .slice ax nx cx, .string ⟨#[]⟩, .bool false] 26))) := hq
  have Bx_0 : Hid ((yx.alloc (.cells #[.int .i64 1, .bool sx, .slice ax nx cx, .string ⟨#[]⟩, .bool false] 26)).heap[yx.heap.size]? = some (.cells #[.int .i64 1, .bool sx, .slice ax nx cx, .string ⟨#[]⟩, .bool false] 26 (0, 0))) := new_blk yx _
  have Sx_0 : Hid (Sl (yx.alloc (.cells #[.int .i64 1, .bool sx, .slice ax nx cx, .string ⟨#[]⟩, .bool false] 26)) ax nx cx lx) := hS.below hp (Nat.le_refl _)
  clear hq hp hb hS hc
  go_wp2_with fail
  refine (zint_any b _ (by omega) (by omega)).mono ?_
  rintro e yy ⟨⟨v, rfl, hc⟩, hb⟩
  obtain ⟨sy, ay, ny, cy, ly, rfl, hS, hV, my⟩ := hc.ex
  have Vy : Hid (zi sy (vl 4294967296 ly) = b) := hV
  clear hV
  have hq := hb.trans (((Below.refl yy.heap.size yy).alloc (Nat.le_refl _) (.cells #[.int .i64 1, .bool sy, .slice ay ny cy, .string ⟨#[]⟩, .bool false] 26)).mono hb.size)
  have hp := (Below.refl yy.heap.size yy).alloc (Nat.le_refl _) (.cells #[.int .i64 1, .bool sy, .slice ay ny cy, .string ⟨#[]⟩, .bool false] 26)
  have HB_1 : Hid (Below w.heap.size w (yy.alloc (.cells #[.int .i64 1, .bool sy, .slice ay ny cy, .string ⟨#[]⟩, .bool false] 26))) := HB_0.out.trans (hq.mono HB_0.out.size)
  have Bx_1 : Hid ((yy.alloc (.cells #[.int .i64 1, .bool sy, .slice ay ny cy, .string ⟨#[]⟩, .bool false] 26)).heap[yx.heap.size]? = some (.cells #[.int .i64 1, .bool sx, .slice ax nx cx, .string ⟨#[]⟩, .bool false] 26 (0, 0))) := kept5 hq Bx_0.out
  have Sx_1 : Hid (Sl (yy.alloc (.cells #[.int .i64 1, .bool sy, .slice ay ny cy, .string ⟨#[]⟩, .bool false] 26)) ax nx cx lx) := Sx_0.out.below hq (Nat.le_refl _)
  clear HB_0 Bx_0 Sx_0
  have By_1 : Hid ((yy.alloc (.cells #[.int .i64 1, .bool sy, .slice ay ny cy, .string ⟨#[]⟩, .bool false] 26)).heap[yy.heap.size]? = some (.cells #[.int .i64 1, .bool sy, .slice ay ny cy, .string ⟨#[]⟩, .bool false] 26 (0, 0))) := new_blk yy _
  have Sy_1 : Hid (Sl (yy.alloc (.cells #[.int .i64 1, .bool sy, .slice ay ny cy, .string ⟨#[]⟩, .bool false] 26)) ay ny cy ly) := hS.below hp (Nat.le_refl _)
  clear hq hp hb hS hc
  have ux : vl 4294967296 lx ≤ 1000000 := by have := zi_abs sx (vl 4294967296 lx); rw [Vx.out] at this; omega
  have uy : vl 4294967296 ly ≤ 1000000 := by have := zi_abs sy (vl 4294967296 ly); rw [Vy.out] at this; omega
  have UX : Hid (vl 4294967296 lx ≤ 1000000 ∧ vl 4294967296 ly ≤ 1000000) := ⟨ux, uy⟩
  clear ux uy
  have U0 : Hid (vl 4294967296 ly ≠ 0) := fun h => h0 (by rw [← Vy.out, h]; unfold zi; split <;> rfl)
  have kx := bx5 Bx_1.out
  have ky := bx5 By_1.out
  go_wp2_with fail
  refine (zadd_any sx sy ax nx cx lx ay ny cy ly _ Sx_1.out Sy_1.out mx my UX.out.1 UX.out.2).mono ?_
  rintro e yp ⟨⟨v, rfl, hc⟩, hb⟩
  obtain ⟨sp, ap, np, cp, lp, rfl, hS, hV, mp⟩ := hc.ex
  rw [Vx.out, Vy.out] at hV
  have Vp : Hid (zi sp (vl 4294967296 lp) = a + b) := hV
  clear hV
  clear kx ky
  have hq := hb.trans (((Below.refl yp.heap.size yp).alloc (Nat.le_refl _) (.cells #[.int .i64 1, .bool sp, .slice ap np cp, .string ⟨#[]⟩, .bool false] 26)).mono hb.size)
  have hp := (Below.refl yp.heap.size yp).alloc (Nat.le_refl _) (.cells #[.int .i64 1, .bool sp, .slice ap np cp, .string ⟨#[]⟩, .bool false] 26)
  have HB_2 : Hid (Below w.heap.size w (yp.alloc (.cells #[.int .i64 1, .bool sp, .slice ap np cp, .string ⟨#[]⟩, .bool false] 26))) := HB_1.out.trans (hq.mono HB_1.out.size)
  have Bx_2 : Hid ((yp.alloc (.cells #[.int .i64 1, .bool sp, .slice ap np cp, .string ⟨#[]⟩, .bool false] 26)).heap[yx.heap.size]? = some (.cells #[.int .i64 1, .bool sx, .slice ax nx cx, .string ⟨#[]⟩, .bool false] 26 (0, 0))) := kept5 hq Bx_1.out
  have Sx_2 : Hid (Sl (yp.alloc (.cells #[.int .i64 1, .bool sp, .slice ap np cp, .string ⟨#[]⟩, .bool false] 26)) ax nx cx lx) := Sx_1.out.below hq (Nat.le_refl _)
  have By_2 : Hid ((yp.alloc (.cells #[.int .i64 1, .bool sp, .slice ap np cp, .string ⟨#[]⟩, .bool false] 26)).heap[yy.heap.size]? = some (.cells #[.int .i64 1, .bool sy, .slice ay ny cy, .string ⟨#[]⟩, .bool false] 26 (0, 0))) := kept5 hq By_1.out
  have Sy_2 : Hid (Sl (yp.alloc (.cells #[.int .i64 1, .bool sp, .slice ap np cp, .string ⟨#[]⟩, .bool false] 26)) ay ny cy ly) := Sy_1.out.below hq (Nat.le_refl _)
  clear HB_1 Bx_1 Sx_1 By_1 Sy_1
  have Bp_2 : Hid ((yp.alloc (.cells #[.int .i64 1, .bool sp, .slice ap np cp, .string ⟨#[]⟩, .bool false] 26)).heap[yp.heap.size]? = some (.cells #[.int .i64 1, .bool sp, .slice ap np cp, .string ⟨#[]⟩, .bool false] 26 (0, 0))) := new_blk yp _
  have Sp_2 : Hid (Sl (yp.alloc (.cells #[.int .i64 1, .bool sp, .slice ap np cp, .string ⟨#[]⟩, .bool false] 26)) ap np cp lp) := hS.below hp (Nat.le_refl _)
  clear hq hp hb hS hc
  have kx := bx5 Bx_2.out
  have ky := bx5 By_2.out
  go_wp2_with fail
  refine (zsub_any sx sy ax nx cx lx ay ny cy ly _ Sx_2.out Sy_2.out mx my UX.out.1 UX.out.2).mono ?_
  rintro e yq ⟨⟨v, rfl, hc⟩, hb⟩
  obtain ⟨sq, aq, nq, cq, lq, rfl, hS, hV, mq⟩ := hc.ex
  rw [Vx.out, Vy.out] at hV
  have Vq : Hid (zi sq (vl 4294967296 lq) = a - b) := hV
  clear hV
  clear kx ky
  have hq := hb.trans (((Below.refl yq.heap.size yq).alloc (Nat.le_refl _) (.cells #[.int .i64 1, .bool sq, .slice aq nq cq, .string ⟨#[]⟩, .bool false] 26)).mono hb.size)
  have hp := (Below.refl yq.heap.size yq).alloc (Nat.le_refl _) (.cells #[.int .i64 1, .bool sq, .slice aq nq cq, .string ⟨#[]⟩, .bool false] 26)
  have HB_3 : Hid (Below w.heap.size w (yq.alloc (.cells #[.int .i64 1, .bool sq, .slice aq nq cq, .string ⟨#[]⟩, .bool false] 26))) := HB_2.out.trans (hq.mono HB_2.out.size)
  have Bx_3 : Hid ((yq.alloc (.cells #[.int .i64 1, .bool sq, .slice aq nq cq, .string ⟨#[]⟩, .bool false] 26)).heap[yx.heap.size]? = some (.cells #[.int .i64 1, .bool sx, .slice ax nx cx, .string ⟨#[]⟩, .bool false] 26 (0, 0))) := kept5 hq Bx_2.out
  have Sx_3 : Hid (Sl (yq.alloc (.cells #[.int .i64 1, .bool sq, .slice aq nq cq, .string ⟨#[]⟩, .bool false] 26)) ax nx cx lx) := Sx_2.out.below hq (Nat.le_refl _)
  have By_3 : Hid ((yq.alloc (.cells #[.int .i64 1, .bool sq, .slice aq nq cq, .string ⟨#[]⟩, .bool false] 26)).heap[yy.heap.size]? = some (.cells #[.int .i64 1, .bool sy, .slice ay ny cy, .string ⟨#[]⟩, .bool false] 26 (0, 0))) := kept5 hq By_2.out
  have Sy_3 : Hid (Sl (yq.alloc (.cells #[.int .i64 1, .bool sq, .slice aq nq cq, .string ⟨#[]⟩, .bool false] 26)) ay ny cy ly) := Sy_2.out.below hq (Nat.le_refl _)
  have Bp_3 : Hid ((yq.alloc (.cells #[.int .i64 1, .bool sq, .slice aq nq cq, .string ⟨#[]⟩, .bool false] 26)).heap[yp.heap.size]? = some (.cells #[.int .i64 1, .bool sp, .slice ap np cp, .string ⟨#[]⟩, .bool false] 26 (0, 0))) := kept5 hq Bp_2.out
  have Sp_3 : Hid (Sl (yq.alloc (.cells #[.int .i64 1, .bool sq, .slice aq nq cq, .string ⟨#[]⟩, .bool false] 26)) ap np cp lp) := Sp_2.out.below hq (Nat.le_refl _)
  clear HB_2 Bx_2 Sx_2 By_2 Sy_2 Bp_2 Sp_2
  have Bq_3 : Hid ((yq.alloc (.cells #[.int .i64 1, .bool sq, .slice aq nq cq, .string ⟨#[]⟩, .bool false] 26)).heap[yq.heap.size]? = some (.cells #[.int .i64 1, .bool sq, .slice aq nq cq, .string ⟨#[]⟩, .bool false] 26 (0, 0))) := new_blk yq _
  have Sq_3 : Hid (Sl (yq.alloc (.cells #[.int .i64 1, .bool sq, .slice aq nq cq, .string ⟨#[]⟩, .bool false] 26)) aq nq cq lq) := hS.below hp (Nat.le_refl _)
  clear hq hp hb hS hc
  have kx := bx5 Bx_3.out
  have ky := bx5 By_3.out
  go_wp2_with fail
  refine (zmul_any sx sy ax nx cx lx ay ny cy ly _ Sx_3.out Sy_3.out mx my UX.out.1 UX.out.2).mono ?_
  rintro e yr ⟨⟨v, rfl, hc⟩, hb⟩
  obtain ⟨sr, ar, nr, cr, lr, rfl, hS, hV, mr⟩ := hc.ex
  rw [Vx.out, Vy.out] at hV
  have Vr : Hid (zi sr (vl 4294967296 lr) = a * b) := hV
  clear hV
  clear kx ky
  have hq := hb.trans (((Below.refl yr.heap.size yr).alloc (Nat.le_refl _) (.cells #[.int .i64 1, .bool sr, .slice ar nr cr, .string ⟨#[]⟩, .bool false] 26)).mono hb.size)
  have hp := (Below.refl yr.heap.size yr).alloc (Nat.le_refl _) (.cells #[.int .i64 1, .bool sr, .slice ar nr cr, .string ⟨#[]⟩, .bool false] 26)
  have HB_4 : Hid (Below w.heap.size w (yr.alloc (.cells #[.int .i64 1, .bool sr, .slice ar nr cr, .string ⟨#[]⟩, .bool false] 26))) := HB_3.out.trans (hq.mono HB_3.out.size)
  have Bx_4 : Hid ((yr.alloc (.cells #[.int .i64 1, .bool sr, .slice ar nr cr, .string ⟨#[]⟩, .bool false] 26)).heap[yx.heap.size]? = some (.cells #[.int .i64 1, .bool sx, .slice ax nx cx, .string ⟨#[]⟩, .bool false] 26 (0, 0))) := kept5 hq Bx_3.out
  have Sx_4 : Hid (Sl (yr.alloc (.cells #[.int .i64 1, .bool sr, .slice ar nr cr, .string ⟨#[]⟩, .bool false] 26)) ax nx cx lx) := Sx_3.out.below hq (Nat.le_refl _)
  have By_4 : Hid ((yr.alloc (.cells #[.int .i64 1, .bool sr, .slice ar nr cr, .string ⟨#[]⟩, .bool false] 26)).heap[yy.heap.size]? = some (.cells #[.int .i64 1, .bool sy, .slice ay ny cy, .string ⟨#[]⟩, .bool false] 26 (0, 0))) := kept5 hq By_3.out
  have Sy_4 : Hid (Sl (yr.alloc (.cells #[.int .i64 1, .bool sr, .slice ar nr cr, .string ⟨#[]⟩, .bool false] 26)) ay ny cy ly) := Sy_3.out.below hq (Nat.le_refl _)
  have Bp_4 : Hid ((yr.alloc (.cells #[.int .i64 1, .bool sr, .slice ar nr cr, .string ⟨#[]⟩, .bool false] 26)).heap[yp.heap.size]? = some (.cells #[.int .i64 1, .bool sp, .slice ap np cp, .string ⟨#[]⟩, .bool false] 26 (0, 0))) := kept5 hq Bp_3.out
  have Sp_4 : Hid (Sl (yr.alloc (.cells #[.int .i64 1, .bool sr, .slice ar nr cr, .string ⟨#[]⟩, .bool false] 26)) ap np cp lp) := Sp_3.out.below hq (Nat.le_refl _)
  have Bq_4 : Hid ((yr.alloc (.cells #[.int .i64 1, .bool sr, .slice ar nr cr, .string ⟨#[]⟩, .bool false] 26)).heap[yq.heap.size]? = some (.cells #[.int .i64 1, .bool sq, .slice aq nq cq, .string ⟨#[]⟩, .bool false] 26 (0, 0))) := kept5 hq Bq_3.out
  have Sq_4 : Hid (Sl (yr.alloc (.cells #[.int .i64 1, .bool sr, .slice ar nr cr, .string ⟨#[]⟩, .bool false] 26)) aq nq cq lq) := Sq_3.out.below hq (Nat.le_refl _)
  clear HB_3 Bx_3 Sx_3 By_3 Sy_3 Bp_3 Sp_3 Bq_3 Sq_3
  have Br_4 : Hid ((yr.alloc (.cells #[.int .i64 1, .bool sr, .slice ar nr cr, .string ⟨#[]⟩, .bool false] 26)).heap[yr.heap.size]? = some (.cells #[.int .i64 1, .bool sr, .slice ar nr cr, .string ⟨#[]⟩, .bool false] 26 (0, 0))) := new_blk yr _
  have Sr_4 : Hid (Sl (yr.alloc (.cells #[.int .i64 1, .bool sr, .slice ar nr cr, .string ⟨#[]⟩, .bool false] 26)) ar nr cr lr) := hS.below hp (Nat.le_refl _)
  clear hq hp hb hS hc
  go_wp2_with fail
  obtain ⟨wr, hwr⟩ : ∃ wr, (yr.alloc (.cells #[.int .i64 1, .bool sr, .slice ar nr cr, .string ⟨#[]⟩, .bool false] 26)) = wr := ⟨_, rfl⟩
  rw [hwr] at HB_4 Bx_4 Sx_4 By_4 Sy_4 Bp_4 Sp_4 Bq_4 Sq_4 Br_4 Sr_4 ⊢
  clear hwr
  have HKP : Hid (∀ W', Below wr.heap.size wr W' → W'.cell? ⟨yp.heap.size, 0, none⟩ = some (.int .i64 1) ∧ W'.cell? ⟨yp.heap.size, 1, none⟩ = some (.bool sp) ∧ W'.cell? ⟨yp.heap.size, 2, none⟩ = some (.slice ap np cp) ∧ W'.cell? ⟨yp.heap.size, 3, none⟩ = some (.string ⟨#[]⟩) ∧ W'.cell? ⟨yp.heap.size, 4, none⟩ = some (.bool false) ∧ W'.cell? ⟨yq.heap.size, 0, none⟩ = some (.int .i64 1) ∧ W'.cell? ⟨yq.heap.size, 1, none⟩ = some (.bool sq) ∧ W'.cell? ⟨yq.heap.size, 2, none⟩ = some (.slice aq nq cq) ∧ W'.cell? ⟨yq.heap.size, 3, none⟩ = some (.string ⟨#[]⟩) ∧ W'.cell? ⟨yq.heap.size, 4, none⟩ = some (.bool false) ∧ W'.cell? ⟨yr.heap.size, 0, none⟩ = some (.int .i64 1) ∧ W'.cell? ⟨yr.heap.size, 1, none⟩ = some (.bool sr) ∧ W'.cell? ⟨yr.heap.size, 2, none⟩ = some (.slice ar nr cr) ∧ W'.cell? ⟨yr.heap.size, 3, none⟩ = some (.string ⟨#[]⟩) ∧ W'.cell? ⟨yr.heap.size, 4, none⟩ = some (.bool false)) := fun W' hb => by
    obtain ⟨pp0, pp1, pp2, pp3, pp4⟩ := bx5 (kept5 hb Bp_4.out)
    obtain ⟨pq0, pq1, pq2, pq3, pq4⟩ := bx5 (kept5 hb Bq_4.out)
    obtain ⟨pr0, pr1, pr2, pr3, pr4⟩ := bx5 (kept5 hb Br_4.out)
    exact ⟨pp0, pp1, pp2, pp3, pp4, pq0, pq1, pq2, pq3, pq4, pr0, pr1, pr2, pr3, pr4⟩
  have kS := HKP.out wr (Below.refl _ _)
  refine wp_region_held_drew (S := fun w' => w'.cell? ⟨yp.heap.size, 0, none⟩ = some (.int .i64 1) ∧ w'.cell? ⟨yp.heap.size, 1, none⟩ = some (.bool sp) ∧ w'.cell? ⟨yp.heap.size, 2, none⟩ = some (.slice ap np cp) ∧ w'.cell? ⟨yp.heap.size, 3, none⟩ = some (.string ⟨#[]⟩) ∧ w'.cell? ⟨yp.heap.size, 4, none⟩ = some (.bool false) ∧ w'.cell? ⟨yq.heap.size, 0, none⟩ = some (.int .i64 1) ∧ w'.cell? ⟨yq.heap.size, 1, none⟩ = some (.bool sq) ∧ w'.cell? ⟨yq.heap.size, 2, none⟩ = some (.slice aq nq cq) ∧ w'.cell? ⟨yq.heap.size, 3, none⟩ = some (.string ⟨#[]⟩) ∧ w'.cell? ⟨yq.heap.size, 4, none⟩ = some (.bool false) ∧ w'.cell? ⟨yr.heap.size, 0, none⟩ = some (.int .i64 1) ∧ w'.cell? ⟨yr.heap.size, 1, none⟩ = some (.bool sr) ∧ w'.cell? ⟨yr.heap.size, 2, none⟩ = some (.slice ar nr cr) ∧ w'.cell? ⟨yr.heap.size, 3, none⟩ = some (.string ⟨#[]⟩) ∧ w'.cell? ⟨yr.heap.size, 4, none⟩ = some (.bool false)) (by kernel_rfl) (by exact kS) (fun hHeld => ?_)
  clear hHeld
  refine wpAnyH_take (i := 0) (oi := { dst := some 55, op := Op.move (Operand.tmp 8), type := 29, pos := "law.go:93", after := #[], guard := none }) (v := ?_) rfl (by kernel_rfl) (by kernel_rfl) (by kernel_rfl) (fun _ _ _ h => h) (Or.inl ⟨by rfl, ?_⟩) (by exact kS) ?_
  rotate_left
  · intro w hSw; (try dsimp only at hSw); (go_simp <;> with_reducible rfl)
  try simp only [Act.put, List.setIfInBounds_toArray, List.set_cons_zero, List.set_cons_succ]
  refine wpAnyH_take (i := 1) (oi := { dst := some 56, op := Op.binOp BinOp.eql 29 (Operand.tmp 55) (Operand.const (Value.int IntKind.i64 0)) 29, type := 4, pos := "law.go:93", after := #[{ on := 0, ground := Ground.data }], guard := none }) (v := ?_) rfl (by kernel_rfl) (by kernel_rfl) (by kernel_rfl) (fun _ _ _ h => h) (Or.inl ⟨by rfl, ?_⟩) (by exact kS) ?_
  rotate_left
  · intro w hSw; (try dsimp only at hSw); (go_simp <;> with_reducible rfl)
  try simp only [Act.put, List.setIfInBounds_toArray, List.set_cons_zero, List.set_cons_succ]
  refine wpAnyH_take (i := 2) (oi := { dst := some 57, op := Op.move (Operand.tmp 56), type := 4, pos := "law.go:93", after := #[{ on := 1, ground := Ground.data }], guard := none }) (v := ?_) rfl (by kernel_rfl) (by kernel_rfl) (by kernel_rfl) (fun _ _ _ h => h) (Or.inl ⟨by rfl, ?_⟩) (by exact kS) ?_
  rotate_left
  · intro w hSw; (try dsimp only at hSw); (go_simp <;> with_reducible rfl)
  try simp only [Act.put, List.setIfInBounds_toArray, List.set_cons_zero, List.set_cons_succ]
  refine wpAnyH_take (i := 3) (oi := { dst := some 58, op := Op.move (Operand.tmp 10), type := 29, pos := "law.go:93", after := #[{ on := 2, ground := Ground.guard }], guard := some (2, true) }) (v := ?_) rfl (by kernel_rfl) (by kernel_rfl) (by kernel_rfl) (fun _ _ _ h => h) (Or.inl ⟨by rfl, ?_⟩) (by exact kS) ?_
  rotate_left
  · intro w hSw; (try dsimp only at hSw); (go_simp <;> with_reducible rfl)
  try simp only [Act.put, List.setIfInBounds_toArray, List.set_cons_zero, List.set_cons_succ]
  refine wpAnyH_take (i := 4) (oi := { dst := some 59, op := Op.binOp BinOp.eql 29 (Operand.tmp 58) (Operand.const (Value.int IntKind.i64 0)) 29, type := 4, pos := "law.go:93", after := #[{ on := 3, ground := Ground.data }, { on := 2, ground := Ground.guard }], guard := some (2, true) }) (v := ?_) rfl (by kernel_rfl) (by kernel_rfl) (by kernel_rfl) (fun _ _ _ h => h) (Or.inl ⟨by rfl, ?_⟩) (by exact kS) ?_
  rotate_left
  · intro w hSw; (try dsimp only at hSw); (go_simp <;> with_reducible rfl)
  try simp only [Act.put, List.setIfInBounds_toArray, List.set_cons_zero, List.set_cons_succ]
  refine wpAnyH_take (i := 5) (oi := { dst := some 60, op := Op.pick (Operand.tmp 57) (Operand.tmp 59) (Operand.const (Value.bool false)), type := 4, pos := "law.go:93", after := #[{ on := 2, ground := Ground.data }, { on := 4, ground := Ground.data }], guard := none }) (v := ?_) rfl (by kernel_rfl) (by kernel_rfl) (by kernel_rfl) (fun _ _ _ h => h) (Or.inl ⟨by rfl, ?_⟩) (by exact kS) ?_
  rotate_left
  · intro w hSw; (try dsimp only at hSw); (go_simp <;> with_reducible rfl)
  try simp only [Act.put, List.setIfInBounds_toArray, List.set_cons_zero, List.set_cons_succ]
  refine wpAnyH_take (i := 6) (oi := { dst := some 61, op := Op.move (Operand.tmp 60), type := 4, pos := "law.go:93", after := #[{ on := 5, ground := Ground.data }, { on := 2, ground := Ground.chain }], guard := none }) (v := ?_) rfl (by kernel_rfl) (by kernel_rfl) (by kernel_rfl) (fun _ _ _ h => h) (Or.inl ⟨by rfl, ?_⟩) (by exact kS) ?_
  rotate_left
  · intro w hSw; (try dsimp only at hSw); (go_simp <;> with_reducible rfl)
  try simp only [Act.put, List.setIfInBounds_toArray, List.set_cons_zero, List.set_cons_succ]
  refine wpAnyH_take (i := 7) (oi := { dst := some 62, op := Op.move (Operand.tmp 12), type := 29, pos := "law.go:93", after := #[{ on := 6, ground := Ground.guard }], guard := some (6, true) }) (v := ?_) rfl (by kernel_rfl) (by kernel_rfl) (by kernel_rfl) (fun _ _ _ h => h) (Or.inl ⟨by rfl, ?_⟩) (by exact kS) ?_
  rotate_left
  · intro w hSw; (try dsimp only at hSw); (go_simp <;> with_reducible rfl)
  try simp only [Act.put, List.setIfInBounds_toArray, List.set_cons_zero, List.set_cons_succ]
  refine wpAnyH_take (i := 8) (oi := { dst := some 63, op := Op.binOp BinOp.eql 29 (Operand.tmp 62) (Operand.const (Value.int IntKind.i64 0)) 29, type := 4, pos := "law.go:93", after := #[{ on := 7, ground := Ground.data }, { on := 6, ground := Ground.guard }], guard := some (6, true) }) (v := ?_) rfl (by kernel_rfl) (by kernel_rfl) (by kernel_rfl) (fun _ _ _ h => h) (Or.inl ⟨by rfl, ?_⟩) (by exact kS) ?_
  rotate_left
  · intro w hSw; (try dsimp only at hSw); (go_simp <;> with_reducible rfl)
  try simp only [Act.put, List.setIfInBounds_toArray, List.set_cons_zero, List.set_cons_succ]
  refine wpAnyH_take (i := 9) (oi := { dst := some 64, op := Op.pick (Operand.tmp 61) (Operand.tmp 63) (Operand.const (Value.bool false)), type := 4, pos := "law.go:93", after := #[{ on := 6, ground := Ground.data }, { on := 8, ground := Ground.data }], guard := none }) (v := ?_) rfl (by kernel_rfl) (by kernel_rfl) (by kernel_rfl) (fun _ _ _ h => h) (Or.inl ⟨by rfl, ?_⟩) (by exact kS) ?_
  rotate_left
  · intro w hSw; (try dsimp only at hSw); (go_simp <;> with_reducible rfl)
  try simp only [Act.put, List.setIfInBounds_toArray, List.set_cons_zero, List.set_cons_succ]
  refine wpAnyH_take (i := 10) (oi := { dst := some 65, op := Op.move (Operand.tmp 64), type := 4, pos := "law.go:93", after := #[{ on := 9, ground := Ground.data }, { on := 6, ground := Ground.chain }], guard := none }) (v := ?_) rfl (by kernel_rfl) (by kernel_rfl) (by kernel_rfl) (fun _ _ _ h => h) (Or.inl ⟨by rfl, ?_⟩) (by exact kS) ?_
  rotate_left
  · intro w hSw; (try dsimp only at hSw); (go_simp <;> with_reducible rfl)
  try simp only [Act.put, List.setIfInBounds_toArray, List.set_cons_zero, List.set_cons_succ]
  refine wpAnyH_take (i := 11) (oi := { dst := some 66, op := Op.load 26 (Operand.tmp 7), type := 26, pos := "law.go:93", after := #[{ on := 10, ground := Ground.guard }], guard := some (10, true) }) (v := ?_) rfl (by kernel_rfl) (by kernel_rfl) (by kernel_rfl) (fun _ _ _ h => h) (Or.inl ⟨by rfl, ?_⟩) (by exact kS) ?_
  rotate_left
  · intro w hSw; (try dsimp only at hSw); (go_simp <;> with_reducible rfl)
  try simp only [Act.put, List.setIfInBounds_toArray, List.set_cons_zero, List.set_cons_succ]
  refine wpAnyH_take (i := 12) (oi := { dst := some 67, op := Op.move (Operand.tmp 0), type := 3, pos := "law.go:93", after := #[{ on := 10, ground := Ground.guard }], guard := some (10, true) }) (v := ?_) rfl (by kernel_rfl) (by kernel_rfl) (by kernel_rfl) (fun _ _ _ h => h) (Or.inl ⟨by rfl, ?_⟩) (by exact kS) ?_
  rotate_left
  · intro w hSw; (try dsimp only at hSw); (go_simp <;> with_reducible rfl)
  try simp only [Act.put, List.setIfInBounds_toArray, List.set_cons_zero, List.set_cons_succ]
  refine wpAnyH_take (i := 13) (oi := { dst := some 68, op := Op.move (Operand.tmp 1), type := 3, pos := "law.go:93", after := #[{ on := 10, ground := Ground.guard }], guard := some (10, true) }) (v := ?_) rfl (by kernel_rfl) (by kernel_rfl) (by kernel_rfl) (fun _ _ _ h => h) (Or.inl ⟨by rfl, ?_⟩) (by exact kS) ?_
  rotate_left
  · intro w hSw; (try dsimp only at hSw); (go_simp <;> with_reducible rfl)
  try simp only [Act.put, List.setIfInBounds_toArray, List.set_cons_zero, List.set_cons_succ]
  refine wpAnyH_take (i := 14) (oi := { dst := some 69, op := Op.binOp BinOp.add 3 (Operand.tmp 67) (Operand.tmp 68) 3, type := 3, pos := "law.go:93", after := #[{ on := 12, ground := Ground.data }, { on := 13, ground := Ground.data }, { on := 10, ground := Ground.guard }], guard := some (10, true) }) (v := ?_) rfl (by kernel_rfl) (by kernel_rfl) (by kernel_rfl) (fun _ _ _ h => h) (Or.inl ⟨by rfl, ?_⟩) (by exact kS) ?_
  rotate_left
  · intro w hSw; (try dsimp only at hSw); (go_simp <;> with_reducible rfl)
  try simp only [Act.put, List.setIfInBounds_toArray, List.set_cons_zero, List.set_cons_succ]
  refine wpAnyH_ready (rs := [15]) (by kernel_rfl) (by simp) ?_
  refine AllReadyH.cons (o := { dst := some 70, op := Op.call { callee := Callee.value (Operand.func 14), args := #[Operand.tmp 69], argTypes := #[3] }, type := 26, pos := "law.go:93", after := #[{ on := 14, ground := Ground.data }, { on := 10, ground := Ground.chain }, { on := 10, ground := Ground.guard }], guard := some (10, true) }) rfl (fun K hK => ?_) AllReadyH.nil
  go_simp
  go_at_call 14; refine (zint_any (a + b) _ (by omega) (by omega)).mono ?_; rintro e zi1 ⟨⟨v, rfl, hc⟩, hb⟩; obtain ⟨si1, ai1, ni1, ci1, li1, rfl, hS, hV, mi1⟩ := hc.ex; have HDi1 : Hid (Below wr.heap.size wr zi1) := ((Below.refl wr.heap.size wr).drew).trans (hb.mono ((Below.refl wr.heap.size wr).drew).size); have Si1 : Hid (Sl zi1 ai1 ni1 ci1 li1) := hS; have Vi1 : Hid (zi si1 (vl 4294967296 li1) = (a + b)) := hV; have kS := HKP.out zi1 HDi1.out; clear hb hc hS hV
  go_wp2_with fail
  refine hK.out _ _ (by exact kS) (fun hHeld => ?_)
  clear hK K hHeld
  try simp only [Act.put, List.setIfInBounds_toArray, List.set_cons_zero, List.set_cons_succ]
  refine wpAnyH_ready (rs := [16]) (by kernel_rfl) (by simp) ?_
  refine AllReadyH.cons (o := { dst := some 71, op := Op.call { callee := Callee.value (Operand.func 13), args := #[Operand.tmp 66, Operand.tmp 70], argTypes := #[26, 26] }, type := 4, pos := "law.go:93", after := #[{ on := 11, ground := Ground.data }, { on := 15, ground := Ground.data }, { on := 15, ground := Ground.chain }, { on := 10, ground := Ground.guard }], guard := some (10, true) }) rfl (fun K hK => ?_) AllReadyH.nil
  go_simp
  go_at_call 13; refine (zeq_any sp si1 ap np cp lp ai1 ni1 ci1 li1 _ ((Sp_4.out).below HDi1.out (Nat.le_refl _)) Si1.out mp mi1 (Vp.out.trans Vi1.out.symm)).mono ?_; rintro e wi1 ⟨rfl, hb⟩; have HEi1 : Hid (Below wr.heap.size wr wi1) := HDi1.out.trans (hb.mono HDi1.out.size); have kS := HKP.out wi1 HEi1.out; clear hb
  go_wp2_with fail
  refine hK.out _ _ (by exact kS) (fun hHeld => ?_)
  clear hK K hHeld
  try simp only [Act.put, List.setIfInBounds_toArray, List.set_cons_zero, List.set_cons_succ]
  refine wpAnyH_take (i := 17) (oi := { dst := some 72, op := Op.pick (Operand.tmp 65) (Operand.tmp 71) (Operand.const (Value.bool false)), type := 4, pos := "law.go:93", after := #[{ on := 10, ground := Ground.data }, { on := 16, ground := Ground.data }], guard := none }) (v := ?_) rfl (by kernel_rfl) (by kernel_rfl) (by kernel_rfl) (fun _ _ _ h => h) (Or.inl ⟨by rfl, ?_⟩) (by exact kS) ?_
  rotate_left
  · intro w hSw; (try dsimp only at hSw); (go_simp <;> with_reducible rfl)
  try simp only [Act.put, List.setIfInBounds_toArray, List.set_cons_zero, List.set_cons_succ]
  refine wpAnyH_take (i := 18) (oi := { dst := some 73, op := Op.move (Operand.tmp 72), type := 4, pos := "law.go:93", after := #[{ on := 17, ground := Ground.data }, { on := 16, ground := Ground.chain }], guard := none }) (v := ?_) rfl (by kernel_rfl) (by kernel_rfl) (by kernel_rfl) (fun _ _ _ h => h) (Or.inl ⟨by rfl, ?_⟩) (by exact kS) ?_
  rotate_left
  · intro w hSw; (try dsimp only at hSw); (go_simp <;> with_reducible rfl)
  try simp only [Act.put, List.setIfInBounds_toArray, List.set_cons_zero, List.set_cons_succ]
  refine wpAnyH_take (i := 19) (oi := { dst := some 74, op := Op.load 26 (Operand.tmp 9), type := 26, pos := "law.go:93", after := #[{ on := 18, ground := Ground.guard }], guard := some (18, true) }) (v := ?_) rfl (by kernel_rfl) (by kernel_rfl) (by kernel_rfl) (fun _ _ _ h => h) (Or.inl ⟨by rfl, ?_⟩) (by exact kS) ?_
  rotate_left
  · intro w hSw; (try dsimp only at hSw); (go_simp <;> with_reducible rfl)
  try simp only [Act.put, List.setIfInBounds_toArray, List.set_cons_zero, List.set_cons_succ]
  refine wpAnyH_take (i := 20) (oi := { dst := some 75, op := Op.move (Operand.tmp 0), type := 3, pos := "law.go:93", after := #[{ on := 18, ground := Ground.guard }], guard := some (18, true) }) (v := ?_) rfl (by kernel_rfl) (by kernel_rfl) (by kernel_rfl) (fun _ _ _ h => h) (Or.inl ⟨by rfl, ?_⟩) (by exact kS) ?_
  rotate_left
  · intro w hSw; (try dsimp only at hSw); (go_simp <;> with_reducible rfl)
  try simp only [Act.put, List.setIfInBounds_toArray, List.set_cons_zero, List.set_cons_succ]
  refine wpAnyH_take (i := 21) (oi := { dst := some 76, op := Op.move (Operand.tmp 1), type := 3, pos := "law.go:93", after := #[{ on := 18, ground := Ground.guard }], guard := some (18, true) }) (v := ?_) rfl (by kernel_rfl) (by kernel_rfl) (by kernel_rfl) (fun _ _ _ h => h) (Or.inl ⟨by rfl, ?_⟩) (by exact kS) ?_
  rotate_left
  · intro w hSw; (try dsimp only at hSw); (go_simp <;> with_reducible rfl)
  try simp only [Act.put, List.setIfInBounds_toArray, List.set_cons_zero, List.set_cons_succ]
  refine wpAnyH_take (i := 22) (oi := { dst := some 77, op := Op.binOp BinOp.sub 3 (Operand.tmp 75) (Operand.tmp 76) 3, type := 3, pos := "law.go:93", after := #[{ on := 20, ground := Ground.data }, { on := 21, ground := Ground.data }, { on := 18, ground := Ground.guard }], guard := some (18, true) }) (v := ?_) rfl (by kernel_rfl) (by kernel_rfl) (by kernel_rfl) (fun _ _ _ h => h) (Or.inl ⟨by rfl, ?_⟩) (by exact kS) ?_
  rotate_left
  · intro w hSw; (try dsimp only at hSw); (go_simp <;> with_reducible rfl)
  try simp only [Act.put, List.setIfInBounds_toArray, List.set_cons_zero, List.set_cons_succ]
  refine wpAnyH_ready (rs := [23]) (by kernel_rfl) (by simp) ?_
  refine AllReadyH.cons (o := { dst := some 78, op := Op.call { callee := Callee.value (Operand.func 14), args := #[Operand.tmp 77], argTypes := #[3] }, type := 26, pos := "law.go:93", after := #[{ on := 22, ground := Ground.data }, { on := 18, ground := Ground.chain }, { on := 18, ground := Ground.guard }], guard := some (18, true) }) rfl (fun K hK => ?_) AllReadyH.nil
  go_simp
  go_at_call 14; refine (zint_any (a - b) _ (by omega) (by omega)).mono ?_; rintro e zi2 ⟨⟨v, rfl, hc⟩, hb⟩; obtain ⟨si2, ai2, ni2, ci2, li2, rfl, hS, hV, mi2⟩ := hc.ex; have HDi2 : Hid (Below wr.heap.size wr zi2) := HEi1.out.trans (hb.mono HEi1.out.size); have Si2 : Hid (Sl zi2 ai2 ni2 ci2 li2) := hS; have Vi2 : Hid (zi si2 (vl 4294967296 li2) = (a - b)) := hV; have kS := HKP.out zi2 HDi2.out; clear hb hc hS hV
  go_wp2_with fail
  refine hK.out _ _ (by exact kS) (fun hHeld => ?_)
  clear hK K hHeld
  try simp only [Act.put, List.setIfInBounds_toArray, List.set_cons_zero, List.set_cons_succ]
  refine wpAnyH_ready (rs := [24]) (by kernel_rfl) (by simp) ?_
  refine AllReadyH.cons (o := { dst := some 79, op := Op.call { callee := Callee.value (Operand.func 13), args := #[Operand.tmp 74, Operand.tmp 78], argTypes := #[26, 26] }, type := 4, pos := "law.go:93", after := #[{ on := 19, ground := Ground.data }, { on := 23, ground := Ground.data }, { on := 23, ground := Ground.chain }, { on := 18, ground := Ground.guard }], guard := some (18, true) }) rfl (fun K hK => ?_) AllReadyH.nil
  go_simp
  go_at_call 13; refine (zeq_any sq si2 aq nq cq lq ai2 ni2 ci2 li2 _ ((Sq_4.out).below HDi2.out (Nat.le_refl _)) Si2.out mq mi2 (Vq.out.trans Vi2.out.symm)).mono ?_; rintro e wi2 ⟨rfl, hb⟩; have HEi2 : Hid (Below wr.heap.size wr wi2) := HDi2.out.trans (hb.mono HDi2.out.size); have kS := HKP.out wi2 HEi2.out; clear hb
  go_wp2_with fail
  refine hK.out _ _ (by exact kS) (fun hHeld => ?_)
  clear hK K hHeld
  try simp only [Act.put, List.setIfInBounds_toArray, List.set_cons_zero, List.set_cons_succ]
  refine wpAnyH_take (i := 25) (oi := { dst := some 80, op := Op.pick (Operand.tmp 73) (Operand.tmp 79) (Operand.const (Value.bool false)), type := 4, pos := "law.go:93", after := #[{ on := 18, ground := Ground.data }, { on := 24, ground := Ground.data }], guard := none }) (v := ?_) rfl (by kernel_rfl) (by kernel_rfl) (by kernel_rfl) (fun _ _ _ h => h) (Or.inl ⟨by rfl, ?_⟩) (by exact kS) ?_
  rotate_left
  · intro w hSw; (try dsimp only at hSw); (go_simp <;> with_reducible rfl)
  try simp only [Act.put, List.setIfInBounds_toArray, List.set_cons_zero, List.set_cons_succ]
  refine wpAnyH_take (i := 26) (oi := { dst := some 81, op := Op.move (Operand.tmp 80), type := 4, pos := "law.go:93", after := #[{ on := 25, ground := Ground.data }, { on := 24, ground := Ground.chain }], guard := none }) (v := ?_) rfl (by kernel_rfl) (by kernel_rfl) (by kernel_rfl) (fun _ _ _ h => h) (Or.inl ⟨by rfl, ?_⟩) (by exact kS) ?_
  rotate_left
  · intro w hSw; (try dsimp only at hSw); (go_simp <;> with_reducible rfl)
  try simp only [Act.put, List.setIfInBounds_toArray, List.set_cons_zero, List.set_cons_succ]
  refine wpAnyH_take (i := 27) (oi := { dst := some 82, op := Op.load 26 (Operand.tmp 11), type := 26, pos := "law.go:93", after := #[{ on := 26, ground := Ground.guard }], guard := some (26, true) }) (v := ?_) rfl (by kernel_rfl) (by kernel_rfl) (by kernel_rfl) (fun _ _ _ h => h) (Or.inl ⟨by rfl, ?_⟩) (by exact kS) ?_
  rotate_left
  · intro w hSw; (try dsimp only at hSw); (go_simp <;> with_reducible rfl)
  try simp only [Act.put, List.setIfInBounds_toArray, List.set_cons_zero, List.set_cons_succ]
  refine wpAnyH_take (i := 28) (oi := { dst := some 83, op := Op.move (Operand.tmp 0), type := 3, pos := "law.go:93", after := #[{ on := 26, ground := Ground.guard }], guard := some (26, true) }) (v := ?_) rfl (by kernel_rfl) (by kernel_rfl) (by kernel_rfl) (fun _ _ _ h => h) (Or.inl ⟨by rfl, ?_⟩) (by exact kS) ?_
  rotate_left
  · intro w hSw; (try dsimp only at hSw); (go_simp <;> with_reducible rfl)
  try simp only [Act.put, List.setIfInBounds_toArray, List.set_cons_zero, List.set_cons_succ]
  refine wpAnyH_take (i := 29) (oi := { dst := some 84, op := Op.move (Operand.tmp 1), type := 3, pos := "law.go:93", after := #[{ on := 26, ground := Ground.guard }], guard := some (26, true) }) (v := ?_) rfl (by kernel_rfl) (by kernel_rfl) (by kernel_rfl) (fun _ _ _ h => h) (Or.inl ⟨by rfl, ?_⟩) (by exact kS) ?_
  rotate_left
  · intro w hSw; (try dsimp only at hSw); (go_simp <;> with_reducible rfl)
  try simp only [Act.put, List.setIfInBounds_toArray, List.set_cons_zero, List.set_cons_succ]
  refine wpAnyH_take (i := 30) (oi := { dst := some 85, op := Op.binOp BinOp.mul 3 (Operand.tmp 83) (Operand.tmp 84) 3, type := 3, pos := "law.go:93", after := #[{ on := 28, ground := Ground.data }, { on := 29, ground := Ground.data }, { on := 26, ground := Ground.guard }], guard := some (26, true) }) (v := ?_) rfl (by kernel_rfl) (by kernel_rfl) (by kernel_rfl) (fun _ _ _ h => h) (Or.inl ⟨by rfl, ?_⟩) (by exact kS) ?_
  rotate_left
  · intro w hSw; (try dsimp only at hSw); (go_simp <;> with_reducible rfl)
  try simp only [Act.put, List.setIfInBounds_toArray, List.set_cons_zero, List.set_cons_succ]
  refine wpAnyH_ready (rs := [31]) (by kernel_rfl) (by simp) ?_
  refine AllReadyH.cons (o := { dst := some 86, op := Op.call { callee := Callee.value (Operand.func 14), args := #[Operand.tmp 85], argTypes := #[3] }, type := 26, pos := "law.go:93", after := #[{ on := 30, ground := Ground.data }, { on := 26, ground := Ground.chain }, { on := 26, ground := Ground.guard }], guard := some (26, true) }) rfl (fun K hK => ?_) AllReadyH.nil
  go_simp
  go_at_call 14; refine (zint_any (a * b) _ (by omega) (by omega)).mono ?_; rintro e zi3 ⟨⟨v, rfl, hc⟩, hb⟩; obtain ⟨si3, ai3, ni3, ci3, li3, rfl, hS, hV, mi3⟩ := hc.ex; have HDi3 : Hid (Below wr.heap.size wr zi3) := HEi2.out.trans (hb.mono HEi2.out.size); have Si3 : Hid (Sl zi3 ai3 ni3 ci3 li3) := hS; have Vi3 : Hid (zi si3 (vl 4294967296 li3) = (a * b)) := hV; have kS := HKP.out zi3 HDi3.out; clear hb hc hS hV
  go_wp2_with fail
  refine hK.out _ _ (by exact kS) (fun hHeld => ?_)
  clear hK K hHeld
  try simp only [Act.put, List.setIfInBounds_toArray, List.set_cons_zero, List.set_cons_succ]
  refine wpAnyH_ready (rs := [32]) (by kernel_rfl) (by simp) ?_
  refine AllReadyH.cons (o := { dst := some 87, op := Op.call { callee := Callee.value (Operand.func 13), args := #[Operand.tmp 82, Operand.tmp 86], argTypes := #[26, 26] }, type := 4, pos := "law.go:93", after := #[{ on := 27, ground := Ground.data }, { on := 31, ground := Ground.data }, { on := 31, ground := Ground.chain }, { on := 26, ground := Ground.guard }], guard := some (26, true) }) rfl (fun K hK => ?_) AllReadyH.nil
  go_simp
  go_at_call 13; refine (zeq_any sr si3 ar nr cr lr ai3 ni3 ci3 li3 _ ((Sr_4.out).below HDi3.out (Nat.le_refl _)) Si3.out mr mi3 (Vr.out.trans Vi3.out.symm)).mono ?_; rintro e wi3 ⟨rfl, hb⟩; have HEi3 : Hid (Below wr.heap.size wr wi3) := HDi3.out.trans (hb.mono HDi3.out.size); have kS := HKP.out wi3 HEi3.out; clear hb
  go_wp2_with fail
  refine hK.out _ _ (by exact kS) (fun hHeld => ?_)
  clear hK K hHeld
  try simp only [Act.put, List.setIfInBounds_toArray, List.set_cons_zero, List.set_cons_succ]
  refine wpAnyH_take (i := 33) (oi := { dst := some 88, op := Op.pick (Operand.tmp 81) (Operand.tmp 87) (Operand.const (Value.bool false)), type := 4, pos := "law.go:93", after := #[{ on := 26, ground := Ground.data }, { on := 32, ground := Ground.data }], guard := none }) (v := ?_) rfl (by kernel_rfl) (by kernel_rfl) (by kernel_rfl) (fun _ _ _ h => h) (Or.inl ⟨by rfl, ?_⟩) (by exact kS) ?_
  rotate_left
  · intro w hSw; (try dsimp only at hSw); (go_simp <;> with_reducible rfl)
  try simp only [Act.put, List.setIfInBounds_toArray, List.set_cons_zero, List.set_cons_succ]
  refine wpAnyH_take (i := 34) (oi := { dst := some 13, op := Op.assign (Operand.tmp 88), type := 4, pos := "law.go:93", after := #[{ on := 33, ground := Ground.data }, { on := 32, ground := Ground.chain }, { on := 0, ground := Ground.phase }, { on := 1, ground := Ground.phase }, { on := 2, ground := Ground.phase }, { on := 3, ground := Ground.phase }, { on := 4, ground := Ground.phase }, { on := 5, ground := Ground.phase }, { on := 6, ground := Ground.phase }, { on := 7, ground := Ground.phase }, { on := 8, ground := Ground.phase }, { on := 9, ground := Ground.phase }, { on := 10, ground := Ground.phase }, { on := 11, ground := Ground.phase }, { on := 12, ground := Ground.phase }, { on := 13, ground := Ground.phase }, { on := 14, ground := Ground.phase }, { on := 15, ground := Ground.phase }, { on := 16, ground := Ground.phase }, { on := 17, ground := Ground.phase }, { on := 18, ground := Ground.phase }, { on := 19, ground := Ground.phase }, { on := 20, ground := Ground.phase }, { on := 21, ground := Ground.phase }, { on := 22, ground := Ground.phase }, { on := 23, ground := Ground.phase }, { on := 24, ground := Ground.phase }, { on := 25, ground := Ground.phase }, { on := 26, ground := Ground.phase }, { on := 27, ground := Ground.phase }, { on := 28, ground := Ground.phase }, { on := 29, ground := Ground.phase }, { on := 30, ground := Ground.phase }, { on := 31, ground := Ground.phase }, { on := 32, ground := Ground.phase }, { on := 33, ground := Ground.phase }], guard := none }) (v := ?_) rfl (by kernel_rfl) (by kernel_rfl) (by kernel_rfl) (fun _ _ _ h => h) (Or.inl ⟨by rfl, ?_⟩) (by exact kS) ?_
  rotate_left
  · intro w hSw; (try dsimp only at hSw); (go_simp <;> with_reducible rfl)
  try simp only [Act.put, List.setIfInBounds_toArray, List.set_cons_zero, List.set_cons_succ]
  refine wpAnyH_done (by kernel_rfl) ?_ _
  clear kS HKP
  have HB_5 : Hid (Below w.heap.size w wi3) := HB_4.out.trans (HEi3.out.mono HB_4.out.size)
  have Bx_5 : Hid (wi3.heap[yx.heap.size]? = some (.cells #[.int .i64 1, .bool sx, .slice ax nx cx, .string ⟨#[]⟩, .bool false] 26 (0, 0))) := kept5 HEi3.out Bx_4.out
  have Sx_5 : Hid (Sl wi3 ax nx cx lx) := Sx_4.out.below HEi3.out (Nat.le_refl _)
  have By_5 : Hid (wi3.heap[yy.heap.size]? = some (.cells #[.int .i64 1, .bool sy, .slice ay ny cy, .string ⟨#[]⟩, .bool false] 26 (0, 0))) := kept5 HEi3.out By_4.out
  have Sy_5 : Hid (Sl wi3 ay ny cy ly) := Sy_4.out.below HEi3.out (Nat.le_refl _)
  have Bp_5 : Hid (wi3.heap[yp.heap.size]? = some (.cells #[.int .i64 1, .bool sp, .slice ap np cp, .string ⟨#[]⟩, .bool false] 26 (0, 0))) := kept5 HEi3.out Bp_4.out
  have Sp_5 : Hid (Sl wi3 ap np cp lp) := Sp_4.out.below HEi3.out (Nat.le_refl _)
  have Bq_5 : Hid (wi3.heap[yq.heap.size]? = some (.cells #[.int .i64 1, .bool sq, .slice aq nq cq, .string ⟨#[]⟩, .bool false] 26 (0, 0))) := kept5 HEi3.out Bq_4.out
  have Sq_5 : Hid (Sl wi3 aq nq cq lq) := Sq_4.out.below HEi3.out (Nat.le_refl _)
  have Br_5 : Hid (wi3.heap[yr.heap.size]? = some (.cells #[.int .i64 1, .bool sr, .slice ar nr cr, .string ⟨#[]⟩, .bool false] 26 (0, 0))) := kept5 HEi3.out Br_4.out
  have Sr_5 : Hid (Sl wi3 ar nr cr lr) := Sr_4.out.below HEi3.out (Nat.le_refl _)
  clear HB_4 Bx_4 Sx_4 By_4 Sy_4 Bp_4 Sp_4 Bq_4 Sq_4 Br_4 Sr_4
  have kx := bx5 Bx_5.out
  have ky := bx5 By_5.out
  go_wp2_with fail
  refine (zquo_any sx sy ax nx cx lx ay ny cy ly _ Sx_5.out Sy_5.out mx my UX.out.1 UX.out.2 U0.out).mono ?_
  rintro e yu ⟨⟨v, rfl, hc⟩, hb⟩
  obtain ⟨su, au, nu, cu, lu, rfl, hS, hV, mu⟩ := hc.ex
  rw [Vx.out, Vy.out] at hV
  have Vu : Hid (zi su (vl 4294967296 lu) = a.tdiv b) := hV
  clear hV
  clear kx ky
  have hq := hb.trans (((Below.refl yu.heap.size yu).alloc (Nat.le_refl _) (.cells #[.int .i64 1, .bool su, .slice au nu cu, .string ⟨#[]⟩, .bool false] 26)).mono hb.size)
  have hp := (Below.refl yu.heap.size yu).alloc (Nat.le_refl _) (.cells #[.int .i64 1, .bool su, .slice au nu cu, .string ⟨#[]⟩, .bool false] 26)
  have HB_6 : Hid (Below w.heap.size w (yu.alloc (.cells #[.int .i64 1, .bool su, .slice au nu cu, .string ⟨#[]⟩, .bool false] 26))) := HB_5.out.trans (hq.mono HB_5.out.size)
  have Bx_6 : Hid ((yu.alloc (.cells #[.int .i64 1, .bool su, .slice au nu cu, .string ⟨#[]⟩, .bool false] 26)).heap[yx.heap.size]? = some (.cells #[.int .i64 1, .bool sx, .slice ax nx cx, .string ⟨#[]⟩, .bool false] 26 (0, 0))) := kept5 hq Bx_5.out
  have Sx_6 : Hid (Sl (yu.alloc (.cells #[.int .i64 1, .bool su, .slice au nu cu, .string ⟨#[]⟩, .bool false] 26)) ax nx cx lx) := Sx_5.out.below hq (Nat.le_refl _)
  have By_6 : Hid ((yu.alloc (.cells #[.int .i64 1, .bool su, .slice au nu cu, .string ⟨#[]⟩, .bool false] 26)).heap[yy.heap.size]? = some (.cells #[.int .i64 1, .bool sy, .slice ay ny cy, .string ⟨#[]⟩, .bool false] 26 (0, 0))) := kept5 hq By_5.out
  have Sy_6 : Hid (Sl (yu.alloc (.cells #[.int .i64 1, .bool su, .slice au nu cu, .string ⟨#[]⟩, .bool false] 26)) ay ny cy ly) := Sy_5.out.below hq (Nat.le_refl _)
  have Bp_6 : Hid ((yu.alloc (.cells #[.int .i64 1, .bool su, .slice au nu cu, .string ⟨#[]⟩, .bool false] 26)).heap[yp.heap.size]? = some (.cells #[.int .i64 1, .bool sp, .slice ap np cp, .string ⟨#[]⟩, .bool false] 26 (0, 0))) := kept5 hq Bp_5.out
  have Sp_6 : Hid (Sl (yu.alloc (.cells #[.int .i64 1, .bool su, .slice au nu cu, .string ⟨#[]⟩, .bool false] 26)) ap np cp lp) := Sp_5.out.below hq (Nat.le_refl _)
  have Bq_6 : Hid ((yu.alloc (.cells #[.int .i64 1, .bool su, .slice au nu cu, .string ⟨#[]⟩, .bool false] 26)).heap[yq.heap.size]? = some (.cells #[.int .i64 1, .bool sq, .slice aq nq cq, .string ⟨#[]⟩, .bool false] 26 (0, 0))) := kept5 hq Bq_5.out
  have Sq_6 : Hid (Sl (yu.alloc (.cells #[.int .i64 1, .bool su, .slice au nu cu, .string ⟨#[]⟩, .bool false] 26)) aq nq cq lq) := Sq_5.out.below hq (Nat.le_refl _)
  have Br_6 : Hid ((yu.alloc (.cells #[.int .i64 1, .bool su, .slice au nu cu, .string ⟨#[]⟩, .bool false] 26)).heap[yr.heap.size]? = some (.cells #[.int .i64 1, .bool sr, .slice ar nr cr, .string ⟨#[]⟩, .bool false] 26 (0, 0))) := kept5 hq Br_5.out
  have Sr_6 : Hid (Sl (yu.alloc (.cells #[.int .i64 1, .bool su, .slice au nu cu, .string ⟨#[]⟩, .bool false] 26)) ar nr cr lr) := Sr_5.out.below hq (Nat.le_refl _)
  clear HB_5 Bx_5 Sx_5 By_5 Sy_5 Bp_5 Sp_5 Bq_5 Sq_5 Br_5 Sr_5
  have Bu_6 : Hid ((yu.alloc (.cells #[.int .i64 1, .bool su, .slice au nu cu, .string ⟨#[]⟩, .bool false] 26)).heap[yu.heap.size]? = some (.cells #[.int .i64 1, .bool su, .slice au nu cu, .string ⟨#[]⟩, .bool false] 26 (0, 0))) := new_blk yu _
  have Su_6 : Hid (Sl (yu.alloc (.cells #[.int .i64 1, .bool su, .slice au nu cu, .string ⟨#[]⟩, .bool false] 26)) au nu cu lu) := hS.below hp (Nat.le_refl _)
  clear hq hp hb hS hc
  have kx := bx5 Bx_6.out
  have ky := bx5 By_6.out
  go_wp2_with fail
  refine (zrem_any sx sy ax nx cx lx ay ny cy ly _ Sx_6.out Sy_6.out mx my UX.out.1 UX.out.2 U0.out).mono ?_
  rintro e yv ⟨⟨v, rfl, hc⟩, hb⟩
  obtain ⟨sv, av, nv, cv, lv, rfl, hS, hV, mv⟩ := hc.ex
  rw [Vx.out, Vy.out] at hV
  have Vv : Hid (zi sv (vl 4294967296 lv) = a.tmod b) := hV
  clear hV
  clear kx ky
  have hq := hb.trans (((Below.refl yv.heap.size yv).alloc (Nat.le_refl _) (.cells #[.int .i64 1, .bool sv, .slice av nv cv, .string ⟨#[]⟩, .bool false] 26)).mono hb.size)
  have hp := (Below.refl yv.heap.size yv).alloc (Nat.le_refl _) (.cells #[.int .i64 1, .bool sv, .slice av nv cv, .string ⟨#[]⟩, .bool false] 26)
  have HB_7 : Hid (Below w.heap.size w (yv.alloc (.cells #[.int .i64 1, .bool sv, .slice av nv cv, .string ⟨#[]⟩, .bool false] 26))) := HB_6.out.trans (hq.mono HB_6.out.size)
  have Bx_7 : Hid ((yv.alloc (.cells #[.int .i64 1, .bool sv, .slice av nv cv, .string ⟨#[]⟩, .bool false] 26)).heap[yx.heap.size]? = some (.cells #[.int .i64 1, .bool sx, .slice ax nx cx, .string ⟨#[]⟩, .bool false] 26 (0, 0))) := kept5 hq Bx_6.out
  have Sx_7 : Hid (Sl (yv.alloc (.cells #[.int .i64 1, .bool sv, .slice av nv cv, .string ⟨#[]⟩, .bool false] 26)) ax nx cx lx) := Sx_6.out.below hq (Nat.le_refl _)
  have By_7 : Hid ((yv.alloc (.cells #[.int .i64 1, .bool sv, .slice av nv cv, .string ⟨#[]⟩, .bool false] 26)).heap[yy.heap.size]? = some (.cells #[.int .i64 1, .bool sy, .slice ay ny cy, .string ⟨#[]⟩, .bool false] 26 (0, 0))) := kept5 hq By_6.out
  have Sy_7 : Hid (Sl (yv.alloc (.cells #[.int .i64 1, .bool sv, .slice av nv cv, .string ⟨#[]⟩, .bool false] 26)) ay ny cy ly) := Sy_6.out.below hq (Nat.le_refl _)
  have Bp_7 : Hid ((yv.alloc (.cells #[.int .i64 1, .bool sv, .slice av nv cv, .string ⟨#[]⟩, .bool false] 26)).heap[yp.heap.size]? = some (.cells #[.int .i64 1, .bool sp, .slice ap np cp, .string ⟨#[]⟩, .bool false] 26 (0, 0))) := kept5 hq Bp_6.out
  have Sp_7 : Hid (Sl (yv.alloc (.cells #[.int .i64 1, .bool sv, .slice av nv cv, .string ⟨#[]⟩, .bool false] 26)) ap np cp lp) := Sp_6.out.below hq (Nat.le_refl _)
  have Bq_7 : Hid ((yv.alloc (.cells #[.int .i64 1, .bool sv, .slice av nv cv, .string ⟨#[]⟩, .bool false] 26)).heap[yq.heap.size]? = some (.cells #[.int .i64 1, .bool sq, .slice aq nq cq, .string ⟨#[]⟩, .bool false] 26 (0, 0))) := kept5 hq Bq_6.out
  have Sq_7 : Hid (Sl (yv.alloc (.cells #[.int .i64 1, .bool sv, .slice av nv cv, .string ⟨#[]⟩, .bool false] 26)) aq nq cq lq) := Sq_6.out.below hq (Nat.le_refl _)
  have Br_7 : Hid ((yv.alloc (.cells #[.int .i64 1, .bool sv, .slice av nv cv, .string ⟨#[]⟩, .bool false] 26)).heap[yr.heap.size]? = some (.cells #[.int .i64 1, .bool sr, .slice ar nr cr, .string ⟨#[]⟩, .bool false] 26 (0, 0))) := kept5 hq Br_6.out
  have Sr_7 : Hid (Sl (yv.alloc (.cells #[.int .i64 1, .bool sv, .slice av nv cv, .string ⟨#[]⟩, .bool false] 26)) ar nr cr lr) := Sr_6.out.below hq (Nat.le_refl _)
  have Bu_7 : Hid ((yv.alloc (.cells #[.int .i64 1, .bool sv, .slice av nv cv, .string ⟨#[]⟩, .bool false] 26)).heap[yu.heap.size]? = some (.cells #[.int .i64 1, .bool su, .slice au nu cu, .string ⟨#[]⟩, .bool false] 26 (0, 0))) := kept5 hq Bu_6.out
  have Su_7 : Hid (Sl (yv.alloc (.cells #[.int .i64 1, .bool sv, .slice av nv cv, .string ⟨#[]⟩, .bool false] 26)) au nu cu lu) := Su_6.out.below hq (Nat.le_refl _)
  clear HB_6 Bx_6 Sx_6 By_6 Sy_6 Bp_6 Sp_6 Bq_6 Sq_6 Br_6 Sr_6 Bu_6 Su_6
  have Bv_7 : Hid ((yv.alloc (.cells #[.int .i64 1, .bool sv, .slice av nv cv, .string ⟨#[]⟩, .bool false] 26)).heap[yv.heap.size]? = some (.cells #[.int .i64 1, .bool sv, .slice av nv cv, .string ⟨#[]⟩, .bool false] 26 (0, 0))) := new_blk yv _
  have Sv_7 : Hid (Sl (yv.alloc (.cells #[.int .i64 1, .bool sv, .slice av nv cv, .string ⟨#[]⟩, .bool false] 26)) av nv cv lv) := hS.below hp (Nat.le_refl _)
  clear hq hp hb hS hc
  go_wp2_with fail
  obtain ⟨wr2, hwr⟩ : ∃ wr, (yv.alloc (.cells #[.int .i64 1, .bool sv, .slice av nv cv, .string ⟨#[]⟩, .bool false] 26)) = wr := ⟨_, rfl⟩
  rw [hwr] at HB_7 Bx_7 Sx_7 By_7 Sy_7 Bp_7 Sp_7 Bq_7 Sq_7 Br_7 Sr_7 Bu_7 Su_7 Bv_7 Sv_7 ⊢
  clear hwr
  have td := tdiv_small h1 h2 (b := b)
  have tm := tmod_small h1 h2 (b := b)
  have HKP : Hid (∀ W', Below wr2.heap.size wr2 W' → W'.cell? ⟨yu.heap.size, 0, none⟩ = some (.int .i64 1) ∧ W'.cell? ⟨yu.heap.size, 1, none⟩ = some (.bool su) ∧ W'.cell? ⟨yu.heap.size, 2, none⟩ = some (.slice au nu cu) ∧ W'.cell? ⟨yu.heap.size, 3, none⟩ = some (.string ⟨#[]⟩) ∧ W'.cell? ⟨yu.heap.size, 4, none⟩ = some (.bool false) ∧ W'.cell? ⟨yv.heap.size, 0, none⟩ = some (.int .i64 1) ∧ W'.cell? ⟨yv.heap.size, 1, none⟩ = some (.bool sv) ∧ W'.cell? ⟨yv.heap.size, 2, none⟩ = some (.slice av nv cv) ∧ W'.cell? ⟨yv.heap.size, 3, none⟩ = some (.string ⟨#[]⟩) ∧ W'.cell? ⟨yv.heap.size, 4, none⟩ = some (.bool false)) := fun W' hb => by
    obtain ⟨pu0, pu1, pu2, pu3, pu4⟩ := bx5 (kept5 hb Bu_7.out)
    obtain ⟨pv0, pv1, pv2, pv3, pv4⟩ := bx5 (kept5 hb Bv_7.out)
    exact ⟨pu0, pu1, pu2, pu3, pu4, pv0, pv1, pv2, pv3, pv4⟩
  have kS := HKP.out wr2 (Below.refl _ _)
  refine wp_region_held_drew (S := fun w' => w'.cell? ⟨yu.heap.size, 0, none⟩ = some (.int .i64 1) ∧ w'.cell? ⟨yu.heap.size, 1, none⟩ = some (.bool su) ∧ w'.cell? ⟨yu.heap.size, 2, none⟩ = some (.slice au nu cu) ∧ w'.cell? ⟨yu.heap.size, 3, none⟩ = some (.string ⟨#[]⟩) ∧ w'.cell? ⟨yu.heap.size, 4, none⟩ = some (.bool false) ∧ w'.cell? ⟨yv.heap.size, 0, none⟩ = some (.int .i64 1) ∧ w'.cell? ⟨yv.heap.size, 1, none⟩ = some (.bool sv) ∧ w'.cell? ⟨yv.heap.size, 2, none⟩ = some (.slice av nv cv) ∧ w'.cell? ⟨yv.heap.size, 3, none⟩ = some (.string ⟨#[]⟩) ∧ w'.cell? ⟨yv.heap.size, 4, none⟩ = some (.bool false)) (by kernel_rfl) (by exact kS) (fun hHeld => ?_)
  clear hHeld
  refine wpAnyH_take (i := 0) (oi := { dst := some 115, op := Op.move (Operand.tmp 13), type := 4, pos := "law.go:99", after := #[], guard := none }) (v := ?_) rfl (by kernel_rfl) (by kernel_rfl) (by kernel_rfl) (fun _ _ _ h => h) (Or.inl ⟨by rfl, ?_⟩) (by exact kS) ?_
  rotate_left
  · intro w hSw; (try dsimp only at hSw); (go_simp <;> with_reducible rfl)
  try simp only [Act.put, List.setIfInBounds_toArray, List.set_cons_zero, List.set_cons_succ]
  refine wpAnyH_take (i := 1) (oi := { dst := some 116, op := Op.move (Operand.tmp 115), type := 4, pos := "law.go:99", after := #[{ on := 0, ground := Ground.data }], guard := none }) (v := ?_) rfl (by kernel_rfl) (by kernel_rfl) (by kernel_rfl) (fun _ _ _ h => h) (Or.inl ⟨by rfl, ?_⟩) (by exact kS) ?_
  rotate_left
  · intro w hSw; (try dsimp only at hSw); (go_simp <;> with_reducible rfl)
  try simp only [Act.put, List.setIfInBounds_toArray, List.set_cons_zero, List.set_cons_succ]
  refine wpAnyH_take (i := 2) (oi := { dst := some 117, op := Op.move (Operand.tmp 15), type := 29, pos := "law.go:99", after := #[{ on := 1, ground := Ground.guard }], guard := some (1, true) }) (v := ?_) rfl (by kernel_rfl) (by kernel_rfl) (by kernel_rfl) (fun _ _ _ h => h) (Or.inl ⟨by rfl, ?_⟩) (by exact kS) ?_
  rotate_left
  · intro w hSw; (try dsimp only at hSw); (go_simp <;> with_reducible rfl)
  try simp only [Act.put, List.setIfInBounds_toArray, List.set_cons_zero, List.set_cons_succ]
  refine wpAnyH_take (i := 3) (oi := { dst := some 118, op := Op.binOp BinOp.eql 29 (Operand.tmp 117) (Operand.const (Value.int IntKind.i64 0)) 29, type := 4, pos := "law.go:99", after := #[{ on := 2, ground := Ground.data }, { on := 1, ground := Ground.guard }], guard := some (1, true) }) (v := ?_) rfl (by kernel_rfl) (by kernel_rfl) (by kernel_rfl) (fun _ _ _ h => h) (Or.inl ⟨by rfl, ?_⟩) (by exact kS) ?_
  rotate_left
  · intro w hSw; (try dsimp only at hSw); (go_simp <;> with_reducible rfl)
  try simp only [Act.put, List.setIfInBounds_toArray, List.set_cons_zero, List.set_cons_succ]
  refine wpAnyH_take (i := 4) (oi := { dst := some 119, op := Op.pick (Operand.tmp 116) (Operand.tmp 118) (Operand.const (Value.bool false)), type := 4, pos := "law.go:99", after := #[{ on := 1, ground := Ground.data }, { on := 3, ground := Ground.data }], guard := none }) (v := ?_) rfl (by kernel_rfl) (by kernel_rfl) (by kernel_rfl) (fun _ _ _ h => h) (Or.inl ⟨by rfl, ?_⟩) (by exact kS) ?_
  rotate_left
  · intro w hSw; (try dsimp only at hSw); (go_simp <;> with_reducible rfl)
  try simp only [Act.put, List.setIfInBounds_toArray, List.set_cons_zero, List.set_cons_succ]
  refine wpAnyH_take (i := 5) (oi := { dst := some 120, op := Op.move (Operand.tmp 119), type := 4, pos := "law.go:99", after := #[{ on := 4, ground := Ground.data }, { on := 1, ground := Ground.chain }], guard := none }) (v := ?_) rfl (by kernel_rfl) (by kernel_rfl) (by kernel_rfl) (fun _ _ _ h => h) (Or.inl ⟨by rfl, ?_⟩) (by exact kS) ?_
  rotate_left
  · intro w hSw; (try dsimp only at hSw); (go_simp <;> with_reducible rfl)
  try simp only [Act.put, List.setIfInBounds_toArray, List.set_cons_zero, List.set_cons_succ]
  refine wpAnyH_take (i := 6) (oi := { dst := some 121, op := Op.move (Operand.tmp 17), type := 29, pos := "law.go:99", after := #[{ on := 5, ground := Ground.guard }], guard := some (5, true) }) (v := ?_) rfl (by kernel_rfl) (by kernel_rfl) (by kernel_rfl) (fun _ _ _ h => h) (Or.inl ⟨by rfl, ?_⟩) (by exact kS) ?_
  rotate_left
  · intro w hSw; (try dsimp only at hSw); (go_simp <;> with_reducible rfl)
  try simp only [Act.put, List.setIfInBounds_toArray, List.set_cons_zero, List.set_cons_succ]
  refine wpAnyH_take (i := 7) (oi := { dst := some 122, op := Op.binOp BinOp.eql 29 (Operand.tmp 121) (Operand.const (Value.int IntKind.i64 0)) 29, type := 4, pos := "law.go:99", after := #[{ on := 6, ground := Ground.data }, { on := 5, ground := Ground.guard }], guard := some (5, true) }) (v := ?_) rfl (by kernel_rfl) (by kernel_rfl) (by kernel_rfl) (fun _ _ _ h => h) (Or.inl ⟨by rfl, ?_⟩) (by exact kS) ?_
  rotate_left
  · intro w hSw; (try dsimp only at hSw); (go_simp <;> with_reducible rfl)
  try simp only [Act.put, List.setIfInBounds_toArray, List.set_cons_zero, List.set_cons_succ]
  refine wpAnyH_take (i := 8) (oi := { dst := some 123, op := Op.pick (Operand.tmp 120) (Operand.tmp 122) (Operand.const (Value.bool false)), type := 4, pos := "law.go:99", after := #[{ on := 5, ground := Ground.data }, { on := 7, ground := Ground.data }], guard := none }) (v := ?_) rfl (by kernel_rfl) (by kernel_rfl) (by kernel_rfl) (fun _ _ _ h => h) (Or.inl ⟨by rfl, ?_⟩) (by exact kS) ?_
  rotate_left
  · intro w hSw; (try dsimp only at hSw); (go_simp <;> with_reducible rfl)
  try simp only [Act.put, List.setIfInBounds_toArray, List.set_cons_zero, List.set_cons_succ]
  refine wpAnyH_take (i := 9) (oi := { dst := some 124, op := Op.move (Operand.tmp 123), type := 4, pos := "law.go:99", after := #[{ on := 8, ground := Ground.data }, { on := 5, ground := Ground.chain }], guard := none }) (v := ?_) rfl (by kernel_rfl) (by kernel_rfl) (by kernel_rfl) (fun _ _ _ h => h) (Or.inl ⟨by rfl, ?_⟩) (by exact kS) ?_
  rotate_left
  · intro w hSw; (try dsimp only at hSw); (go_simp <;> with_reducible rfl)
  try simp only [Act.put, List.setIfInBounds_toArray, List.set_cons_zero, List.set_cons_succ]
  refine wpAnyH_take (i := 10) (oi := { dst := some 125, op := Op.load 26 (Operand.tmp 14), type := 26, pos := "law.go:99", after := #[{ on := 9, ground := Ground.guard }], guard := some (9, true) }) (v := ?_) rfl (by kernel_rfl) (by kernel_rfl) (by kernel_rfl) (fun _ _ _ h => h) (Or.inl ⟨by rfl, ?_⟩) (by exact kS) ?_
  rotate_left
  · intro w hSw; (try dsimp only at hSw); (go_simp <;> with_reducible rfl)
  try simp only [Act.put, List.setIfInBounds_toArray, List.set_cons_zero, List.set_cons_succ]
  refine wpAnyH_take (i := 11) (oi := { dst := some 126, op := Op.move (Operand.tmp 0), type := 3, pos := "law.go:99", after := #[{ on := 9, ground := Ground.guard }], guard := some (9, true) }) (v := ?_) rfl (by kernel_rfl) (by kernel_rfl) (by kernel_rfl) (fun _ _ _ h => h) (Or.inl ⟨by rfl, ?_⟩) (by exact kS) ?_
  rotate_left
  · intro w hSw; (try dsimp only at hSw); (go_simp <;> with_reducible rfl)
  try simp only [Act.put, List.setIfInBounds_toArray, List.set_cons_zero, List.set_cons_succ]
  refine wpAnyH_take (i := 12) (oi := { dst := some 127, op := Op.move (Operand.tmp 1), type := 3, pos := "law.go:99", after := #[{ on := 9, ground := Ground.guard }], guard := some (9, true) }) (v := ?_) rfl (by kernel_rfl) (by kernel_rfl) (by kernel_rfl) (fun _ _ _ h => h) (Or.inl ⟨by rfl, ?_⟩) (by exact kS) ?_
  rotate_left
  · intro w hSw; (try dsimp only at hSw); (go_simp <;> with_reducible rfl)
  try simp only [Act.put, List.setIfInBounds_toArray, List.set_cons_zero, List.set_cons_succ]
  refine wpAnyH_take (i := 13) (oi := { dst := some 128, op := Op.binOp BinOp.quo 3 (Operand.tmp 126) (Operand.tmp 127) 3, type := 3, pos := "law.go:99", after := #[{ on := 11, ground := Ground.data }, { on := 12, ground := Ground.data }, { on := 9, ground := Ground.guard }], guard := some (9, true) }) (v := ?_) rfl (by kernel_rfl) (by kernel_rfl) (by kernel_rfl) (fun _ _ _ h => h) (Or.inl ⟨by rfl, ?_⟩) (by exact kS) ?_
  rotate_left
  · intro w hSw; (try dsimp only at hSw); (go_simp <;> with_reducible rfl)
  try simp only [Act.put, List.setIfInBounds_toArray, List.set_cons_zero, List.set_cons_succ]
  refine wpAnyH_ready (rs := [14]) (by kernel_rfl) (by simp) ?_
  refine AllReadyH.cons (o := { dst := some 129, op := Op.call { callee := Callee.value (Operand.func 14), args := #[Operand.tmp 128], argTypes := #[3] }, type := 26, pos := "law.go:99", after := #[{ on := 13, ground := Ground.data }, { on := 9, ground := Ground.chain }, { on := 9, ground := Ground.guard }], guard := some (9, true) }) rfl (fun K hK => ?_) AllReadyH.nil
  go_simp
  go_at_call 14; refine (zint_any (a.tdiv b) _ (by omega) (by omega)).mono ?_; rintro e zj1 ⟨⟨v, rfl, hc⟩, hb⟩; obtain ⟨sj1, aj1, nj1, cj1, lj1, rfl, hS, hV, mj1⟩ := hc.ex; have HDj1 : Hid (Below wr2.heap.size wr2 zj1) := ((Below.refl wr2.heap.size wr2).drew).trans (hb.mono ((Below.refl wr2.heap.size wr2).drew).size); have Sj1 : Hid (Sl zj1 aj1 nj1 cj1 lj1) := hS; have Vj1 : Hid (zi sj1 (vl 4294967296 lj1) = (a.tdiv b)) := hV; have kS := HKP.out zj1 HDj1.out; clear hb hc hS hV
  go_wp2_with fail
  refine hK.out _ _ (by exact kS) (fun hHeld => ?_)
  clear hK K hHeld
  try simp only [Act.put, List.setIfInBounds_toArray, List.set_cons_zero, List.set_cons_succ]
  refine wpAnyH_ready (rs := [15]) (by kernel_rfl) (by simp) ?_
  refine AllReadyH.cons (o := { dst := some 130, op := Op.call { callee := Callee.value (Operand.func 13), args := #[Operand.tmp 125, Operand.tmp 129], argTypes := #[26, 26] }, type := 4, pos := "law.go:99", after := #[{ on := 10, ground := Ground.data }, { on := 14, ground := Ground.data }, { on := 14, ground := Ground.chain }, { on := 9, ground := Ground.guard }], guard := some (9, true) }) rfl (fun K hK => ?_) AllReadyH.nil
  go_simp
  go_at_call 13; refine (zeq_any su sj1 au nu cu lu aj1 nj1 cj1 lj1 _ ((Su_7.out).below HDj1.out (Nat.le_refl _)) Sj1.out mu mj1 (Vu.out.trans Vj1.out.symm)).mono ?_; rintro e wj1 ⟨rfl, hb⟩; have HEj1 : Hid (Below wr2.heap.size wr2 wj1) := HDj1.out.trans (hb.mono HDj1.out.size); have kS := HKP.out wj1 HEj1.out; clear hb
  go_wp2_with fail
  refine hK.out _ _ (by exact kS) (fun hHeld => ?_)
  clear hK K hHeld
  try simp only [Act.put, List.setIfInBounds_toArray, List.set_cons_zero, List.set_cons_succ]
  refine wpAnyH_take (i := 16) (oi := { dst := some 131, op := Op.pick (Operand.tmp 124) (Operand.tmp 130) (Operand.const (Value.bool false)), type := 4, pos := "law.go:99", after := #[{ on := 9, ground := Ground.data }, { on := 15, ground := Ground.data }], guard := none }) (v := ?_) rfl (by kernel_rfl) (by kernel_rfl) (by kernel_rfl) (fun _ _ _ h => h) (Or.inl ⟨by rfl, ?_⟩) (by exact kS) ?_
  rotate_left
  · intro w hSw; (try dsimp only at hSw); (go_simp <;> with_reducible rfl)
  try simp only [Act.put, List.setIfInBounds_toArray, List.set_cons_zero, List.set_cons_succ]
  refine wpAnyH_take (i := 17) (oi := { dst := some 132, op := Op.move (Operand.tmp 131), type := 4, pos := "law.go:99", after := #[{ on := 16, ground := Ground.data }, { on := 15, ground := Ground.chain }], guard := none }) (v := ?_) rfl (by kernel_rfl) (by kernel_rfl) (by kernel_rfl) (fun _ _ _ h => h) (Or.inl ⟨by rfl, ?_⟩) (by exact kS) ?_
  rotate_left
  · intro w hSw; (try dsimp only at hSw); (go_simp <;> with_reducible rfl)
  try simp only [Act.put, List.setIfInBounds_toArray, List.set_cons_zero, List.set_cons_succ]
  refine wpAnyH_take (i := 18) (oi := { dst := some 133, op := Op.load 26 (Operand.tmp 16), type := 26, pos := "law.go:99", after := #[{ on := 17, ground := Ground.guard }], guard := some (17, true) }) (v := ?_) rfl (by kernel_rfl) (by kernel_rfl) (by kernel_rfl) (fun _ _ _ h => h) (Or.inl ⟨by rfl, ?_⟩) (by exact kS) ?_
  rotate_left
  · intro w hSw; (try dsimp only at hSw); (go_simp <;> with_reducible rfl)
  try simp only [Act.put, List.setIfInBounds_toArray, List.set_cons_zero, List.set_cons_succ]
  refine wpAnyH_take (i := 19) (oi := { dst := some 134, op := Op.move (Operand.tmp 0), type := 3, pos := "law.go:99", after := #[{ on := 17, ground := Ground.guard }], guard := some (17, true) }) (v := ?_) rfl (by kernel_rfl) (by kernel_rfl) (by kernel_rfl) (fun _ _ _ h => h) (Or.inl ⟨by rfl, ?_⟩) (by exact kS) ?_
  rotate_left
  · intro w hSw; (try dsimp only at hSw); (go_simp <;> with_reducible rfl)
  try simp only [Act.put, List.setIfInBounds_toArray, List.set_cons_zero, List.set_cons_succ]
  refine wpAnyH_take (i := 20) (oi := { dst := some 135, op := Op.move (Operand.tmp 1), type := 3, pos := "law.go:99", after := #[{ on := 17, ground := Ground.guard }], guard := some (17, true) }) (v := ?_) rfl (by kernel_rfl) (by kernel_rfl) (by kernel_rfl) (fun _ _ _ h => h) (Or.inl ⟨by rfl, ?_⟩) (by exact kS) ?_
  rotate_left
  · intro w hSw; (try dsimp only at hSw); (go_simp <;> with_reducible rfl)
  try simp only [Act.put, List.setIfInBounds_toArray, List.set_cons_zero, List.set_cons_succ]
  refine wpAnyH_take (i := 21) (oi := { dst := some 136, op := Op.binOp BinOp.rem 3 (Operand.tmp 134) (Operand.tmp 135) 3, type := 3, pos := "law.go:99", after := #[{ on := 19, ground := Ground.data }, { on := 20, ground := Ground.data }, { on := 17, ground := Ground.guard }], guard := some (17, true) }) (v := ?_) rfl (by kernel_rfl) (by kernel_rfl) (by kernel_rfl) (fun _ _ _ h => h) (Or.inl ⟨by rfl, ?_⟩) (by exact kS) ?_
  rotate_left
  · intro w hSw; (try dsimp only at hSw); (go_simp <;> with_reducible rfl)
  try simp only [Act.put, List.setIfInBounds_toArray, List.set_cons_zero, List.set_cons_succ]
  refine wpAnyH_ready (rs := [22]) (by kernel_rfl) (by simp) ?_
  refine AllReadyH.cons (o := { dst := some 137, op := Op.call { callee := Callee.value (Operand.func 14), args := #[Operand.tmp 136], argTypes := #[3] }, type := 26, pos := "law.go:99", after := #[{ on := 21, ground := Ground.data }, { on := 17, ground := Ground.chain }, { on := 17, ground := Ground.guard }], guard := some (17, true) }) rfl (fun K hK => ?_) AllReadyH.nil
  go_simp
  go_at_call 14; refine (zint_any (a.tmod b) _ (by omega) (by omega)).mono ?_; rintro e zj2 ⟨⟨v, rfl, hc⟩, hb⟩; obtain ⟨sj2, aj2, nj2, cj2, lj2, rfl, hS, hV, mj2⟩ := hc.ex; have HDj2 : Hid (Below wr2.heap.size wr2 zj2) := HEj1.out.trans (hb.mono HEj1.out.size); have Sj2 : Hid (Sl zj2 aj2 nj2 cj2 lj2) := hS; have Vj2 : Hid (zi sj2 (vl 4294967296 lj2) = (a.tmod b)) := hV; have kS := HKP.out zj2 HDj2.out; clear hb hc hS hV
  go_wp2_with fail
  refine hK.out _ _ (by exact kS) (fun hHeld => ?_)
  clear hK K hHeld
  try simp only [Act.put, List.setIfInBounds_toArray, List.set_cons_zero, List.set_cons_succ]
  refine wpAnyH_ready (rs := [23]) (by kernel_rfl) (by simp) ?_
  refine AllReadyH.cons (o := { dst := some 138, op := Op.call { callee := Callee.value (Operand.func 13), args := #[Operand.tmp 133, Operand.tmp 137], argTypes := #[26, 26] }, type := 4, pos := "law.go:99", after := #[{ on := 18, ground := Ground.data }, { on := 22, ground := Ground.data }, { on := 22, ground := Ground.chain }, { on := 17, ground := Ground.guard }], guard := some (17, true) }) rfl (fun K hK => ?_) AllReadyH.nil
  go_simp
  go_at_call 13; refine (zeq_any sv sj2 av nv cv lv aj2 nj2 cj2 lj2 _ ((Sv_7.out).below HDj2.out (Nat.le_refl _)) Sj2.out mv mj2 (Vv.out.trans Vj2.out.symm)).mono ?_; rintro e wj2 ⟨rfl, hb⟩; have HEj2 : Hid (Below wr2.heap.size wr2 wj2) := HDj2.out.trans (hb.mono HDj2.out.size); have kS := HKP.out wj2 HEj2.out; clear hb
  go_wp2_with fail
  refine hK.out _ _ (by exact kS) (fun hHeld => ?_)
  clear hK K hHeld
  try simp only [Act.put, List.setIfInBounds_toArray, List.set_cons_zero, List.set_cons_succ]
  refine wpAnyH_take (i := 24) (oi := { dst := some 139, op := Op.pick (Operand.tmp 132) (Operand.tmp 138) (Operand.const (Value.bool false)), type := 4, pos := "law.go:99", after := #[{ on := 17, ground := Ground.data }, { on := 23, ground := Ground.data }], guard := none }) (v := ?_) rfl (by kernel_rfl) (by kernel_rfl) (by kernel_rfl) (fun _ _ _ h => h) (Or.inl ⟨by rfl, ?_⟩) (by exact kS) ?_
  rotate_left
  · intro w hSw; (try dsimp only at hSw); (go_simp <;> with_reducible rfl)
  try simp only [Act.put, List.setIfInBounds_toArray, List.set_cons_zero, List.set_cons_succ]
  refine wpAnyH_take (i := 25) (oi := { dst := some 140, op := Op.move (Operand.tmp 139), type := 4, pos := "law.go:99", after := #[{ on := 24, ground := Ground.data }, { on := 23, ground := Ground.chain }], guard := none }) (v := ?_) rfl (by kernel_rfl) (by kernel_rfl) (by kernel_rfl) (fun _ _ _ h => h) (Or.inl ⟨by rfl, ?_⟩) (by exact kS) ?_
  rotate_left
  · intro w hSw; (try dsimp only at hSw); (go_simp <;> with_reducible rfl)
  try simp only [Act.put, List.setIfInBounds_toArray, List.set_cons_zero, List.set_cons_succ]
  refine wpAnyH_ready (rs := [26]) (by kernel_rfl) (by simp) ?_
  refine AllReadyH.cons (o := { dst := some 141, op := Op.call { callee := Callee.value (Operand.func 8), args := #[], argTypes := #[] }, type := 4, pos := "law.go:99", after := #[{ on := 25, ground := Ground.chain }, { on := 25, ground := Ground.guard }], guard := some (25, true) }) rfl (fun K hK => ?_) AllReadyH.nil
  go_simp
  go_at_call 8; refine (awake_any _).mono ?_; rintro e w9 ⟨rfl, hb⟩; have HE9 : Hid (Below wr2.heap.size wr2 w9) := HEj2.out.trans (hb.mono HEj2.out.size); have kS := HKP.out w9 HE9.out; clear hb
  go_wp2_with fail
  refine hK.out _ _ (by exact kS) (fun hHeld => ?_)
  clear hK K hHeld
  try simp only [Act.put, List.setIfInBounds_toArray, List.set_cons_zero, List.set_cons_succ]
  refine wpAnyH_take (i := 27) (oi := { dst := some 142, op := Op.pick (Operand.tmp 140) (Operand.tmp 141) (Operand.const (Value.bool false)), type := 4, pos := "law.go:99", after := #[{ on := 25, ground := Ground.data }, { on := 26, ground := Ground.data }], guard := none }) (v := ?_) rfl (by kernel_rfl) (by kernel_rfl) (by kernel_rfl) (fun _ _ _ h => h) (Or.inl ⟨by rfl, ?_⟩) (by exact kS) ?_
  rotate_left
  · intro w hSw; (try dsimp only at hSw); (go_simp <;> with_reducible rfl)
  try simp only [Act.put, List.setIfInBounds_toArray, List.set_cons_zero, List.set_cons_succ]
  refine wpAnyH_take (i := 28) (oi := { dst := some 4, op := Op.assign (Operand.tmp 142), type := 4, pos := "law.go:99", after := #[{ on := 27, ground := Ground.data }, { on := 26, ground := Ground.chain }, { on := 0, ground := Ground.phase }, { on := 1, ground := Ground.phase }, { on := 2, ground := Ground.phase }, { on := 3, ground := Ground.phase }, { on := 4, ground := Ground.phase }, { on := 5, ground := Ground.phase }, { on := 6, ground := Ground.phase }, { on := 7, ground := Ground.phase }, { on := 8, ground := Ground.phase }, { on := 9, ground := Ground.phase }, { on := 10, ground := Ground.phase }, { on := 11, ground := Ground.phase }, { on := 12, ground := Ground.phase }, { on := 13, ground := Ground.phase }, { on := 14, ground := Ground.phase }, { on := 15, ground := Ground.phase }, { on := 16, ground := Ground.phase }, { on := 17, ground := Ground.phase }, { on := 18, ground := Ground.phase }, { on := 19, ground := Ground.phase }, { on := 20, ground := Ground.phase }, { on := 21, ground := Ground.phase }, { on := 22, ground := Ground.phase }, { on := 23, ground := Ground.phase }, { on := 24, ground := Ground.phase }, { on := 25, ground := Ground.phase }, { on := 26, ground := Ground.phase }, { on := 27, ground := Ground.phase }], guard := none }) (v := ?_) rfl (by kernel_rfl) (by kernel_rfl) (by kernel_rfl) (fun _ _ _ h => h) (Or.inl ⟨by rfl, ?_⟩) (by exact kS) ?_
  rotate_left
  · intro w hSw; (try dsimp only at hSw); (go_simp <;> with_reducible rfl)
  try simp only [Act.put, List.setIfInBounds_toArray, List.set_cons_zero, List.set_cons_succ]
  refine wpAnyH_done (by kernel_rfl) ?_ _
  go_wp2_with fail
  go_ret
  exact ⟨rfl, HB_7.out.trans (HE9.out.mono HB_7.out.size)⟩
set_option maxRecDepth 100000 in
set_option maxHeartbeats 8000000 in
theorem arith_zero (a : Int) (w : World) (h1 : -1000000 ≤ a) (h2 : a ≤ 1000000) :
    Calls Tryd.prog 6 #[.int .i64 a, .int .i64 0] w fun e w' => e = .returned (.bool true) ∧ Below w.heap.size w w' := by
  have wa : IntKind.i64.wrap a = a := wrap_i64_small (by omega) (by omega)
  go_enter Tryd.func6, Tryd.ntmps6
  go_wp2_with fail
  refine (zint_any a _ (by omega) (by omega)).mono ?_
  rintro e yx ⟨⟨v, rfl, hc⟩, hb⟩
  obtain ⟨sx, ax, nx, cx, lx, rfl, hS, hV, mx⟩ := hc.ex
  have Vx : Hid (zi sx (vl 4294967296 lx) = a) := hV
  clear hV
  have hq := hb.trans (((Below.refl yx.heap.size yx).alloc (Nat.le_refl _) (.cells #[.int .i64 1, .bool sx, .slice ax nx cx, .string ⟨#[]⟩, .bool false] 26)).mono hb.size)
  have hp := (Below.refl yx.heap.size yx).alloc (Nat.le_refl _) (.cells #[.int .i64 1, .bool sx, .slice ax nx cx, .string ⟨#[]⟩, .bool false] 26)
  have HB_0 : Hid (Below w.heap.size w (yx.alloc (.cells #[.int .i64 1, .bool sx, .slice ax nx cx, .string ⟨#[]⟩, .bool false] 26))) := hq
  have Bx_0 : Hid ((yx.alloc (.cells #[.int .i64 1, .bool sx, .slice ax nx cx, .string ⟨#[]⟩, .bool false] 26)).heap[yx.heap.size]? = some (.cells #[.int .i64 1, .bool sx, .slice ax nx cx, .string ⟨#[]⟩, .bool false] 26 (0, 0))) := new_blk yx _
  have Sx_0 : Hid (Sl (yx.alloc (.cells #[.int .i64 1, .bool sx, .slice ax nx cx, .string ⟨#[]⟩, .bool false] 26)) ax nx cx lx) := hS.below hp (Nat.le_refl _)
  clear hq hp hb hS hc
  go_wp2_with fail
  refine (zint_any 0 _ (by omega) (by omega)).mono ?_
  rintro e yy ⟨⟨v, rfl, hc⟩, hb⟩
  obtain ⟨sy, ay, ny, cy, ly, rfl, hS, hV, my⟩ := hc.ex
  have Vy : Hid (zi sy (vl 4294967296 ly) = 0) := hV
  clear hV
  have hq := hb.trans (((Below.refl yy.heap.size yy).alloc (Nat.le_refl _) (.cells #[.int .i64 1, .bool sy, .slice ay ny cy, .string ⟨#[]⟩, .bool false] 26)).mono hb.size)
  have hp := (Below.refl yy.heap.size yy).alloc (Nat.le_refl _) (.cells #[.int .i64 1, .bool sy, .slice ay ny cy, .string ⟨#[]⟩, .bool false] 26)
  have HB_1 : Hid (Below w.heap.size w (yy.alloc (.cells #[.int .i64 1, .bool sy, .slice ay ny cy, .string ⟨#[]⟩, .bool false] 26))) := HB_0.out.trans (hq.mono HB_0.out.size)
  have Bx_1 : Hid ((yy.alloc (.cells #[.int .i64 1, .bool sy, .slice ay ny cy, .string ⟨#[]⟩, .bool false] 26)).heap[yx.heap.size]? = some (.cells #[.int .i64 1, .bool sx, .slice ax nx cx, .string ⟨#[]⟩, .bool false] 26 (0, 0))) := kept5 hq Bx_0.out
  have Sx_1 : Hid (Sl (yy.alloc (.cells #[.int .i64 1, .bool sy, .slice ay ny cy, .string ⟨#[]⟩, .bool false] 26)) ax nx cx lx) := Sx_0.out.below hq (Nat.le_refl _)
  clear HB_0 Bx_0 Sx_0
  have By_1 : Hid ((yy.alloc (.cells #[.int .i64 1, .bool sy, .slice ay ny cy, .string ⟨#[]⟩, .bool false] 26)).heap[yy.heap.size]? = some (.cells #[.int .i64 1, .bool sy, .slice ay ny cy, .string ⟨#[]⟩, .bool false] 26 (0, 0))) := new_blk yy _
  have Sy_1 : Hid (Sl (yy.alloc (.cells #[.int .i64 1, .bool sy, .slice ay ny cy, .string ⟨#[]⟩, .bool false] 26)) ay ny cy ly) := hS.below hp (Nat.le_refl _)
  clear hq hp hb hS hc
  have ux : vl 4294967296 lx ≤ 1000000 := by have := zi_abs sx (vl 4294967296 lx); rw [Vx.out] at this; omega
  have uy : vl 4294967296 ly ≤ 1000000 := by have := zi_abs sy (vl 4294967296 ly); rw [Vy.out] at this; omega
  have UX : Hid (vl 4294967296 lx ≤ 1000000 ∧ vl 4294967296 ly ≤ 1000000) := ⟨ux, uy⟩
  clear ux uy
  have U0 : Hid (vl 4294967296 ly = 0) := by have := zi_abs sy (vl 4294967296 ly); rw [Vy.out] at this; show _ = _; simpa using this.symm
  have kx := bx5 Bx_1.out
  have ky := bx5 By_1.out
  go_wp2_with fail
  refine (zadd_any sx sy ax nx cx lx ay ny cy ly _ Sx_1.out Sy_1.out mx my UX.out.1 UX.out.2).mono ?_
  rintro e yp ⟨⟨v, rfl, hc⟩, hb⟩
  obtain ⟨sp, ap, np, cp, lp, rfl, hS, hV, mp⟩ := hc.ex
  rw [Vx.out, Vy.out] at hV
  have Vp : Hid (zi sp (vl 4294967296 lp) = a) := by show _ = _; omega
  clear hV
  clear kx ky
  have hq := hb.trans (((Below.refl yp.heap.size yp).alloc (Nat.le_refl _) (.cells #[.int .i64 1, .bool sp, .slice ap np cp, .string ⟨#[]⟩, .bool false] 26)).mono hb.size)
  have hp := (Below.refl yp.heap.size yp).alloc (Nat.le_refl _) (.cells #[.int .i64 1, .bool sp, .slice ap np cp, .string ⟨#[]⟩, .bool false] 26)
  have HB_2 : Hid (Below w.heap.size w (yp.alloc (.cells #[.int .i64 1, .bool sp, .slice ap np cp, .string ⟨#[]⟩, .bool false] 26))) := HB_1.out.trans (hq.mono HB_1.out.size)
  have Bx_2 : Hid ((yp.alloc (.cells #[.int .i64 1, .bool sp, .slice ap np cp, .string ⟨#[]⟩, .bool false] 26)).heap[yx.heap.size]? = some (.cells #[.int .i64 1, .bool sx, .slice ax nx cx, .string ⟨#[]⟩, .bool false] 26 (0, 0))) := kept5 hq Bx_1.out
  have Sx_2 : Hid (Sl (yp.alloc (.cells #[.int .i64 1, .bool sp, .slice ap np cp, .string ⟨#[]⟩, .bool false] 26)) ax nx cx lx) := Sx_1.out.below hq (Nat.le_refl _)
  have By_2 : Hid ((yp.alloc (.cells #[.int .i64 1, .bool sp, .slice ap np cp, .string ⟨#[]⟩, .bool false] 26)).heap[yy.heap.size]? = some (.cells #[.int .i64 1, .bool sy, .slice ay ny cy, .string ⟨#[]⟩, .bool false] 26 (0, 0))) := kept5 hq By_1.out
  have Sy_2 : Hid (Sl (yp.alloc (.cells #[.int .i64 1, .bool sp, .slice ap np cp, .string ⟨#[]⟩, .bool false] 26)) ay ny cy ly) := Sy_1.out.below hq (Nat.le_refl _)
  clear HB_1 Bx_1 Sx_1 By_1 Sy_1
  have Bp_2 : Hid ((yp.alloc (.cells #[.int .i64 1, .bool sp, .slice ap np cp, .string ⟨#[]⟩, .bool false] 26)).heap[yp.heap.size]? = some (.cells #[.int .i64 1, .bool sp, .slice ap np cp, .string ⟨#[]⟩, .bool false] 26 (0, 0))) := new_blk yp _
  have Sp_2 : Hid (Sl (yp.alloc (.cells #[.int .i64 1, .bool sp, .slice ap np cp, .string ⟨#[]⟩, .bool false] 26)) ap np cp lp) := hS.below hp (Nat.le_refl _)
  clear hq hp hb hS hc
  have kx := bx5 Bx_2.out
  have ky := bx5 By_2.out
  go_wp2_with fail
  refine (zsub_any sx sy ax nx cx lx ay ny cy ly _ Sx_2.out Sy_2.out mx my UX.out.1 UX.out.2).mono ?_
  rintro e yq ⟨⟨v, rfl, hc⟩, hb⟩
  obtain ⟨sq, aq, nq, cq, lq, rfl, hS, hV, mq⟩ := hc.ex
  rw [Vx.out, Vy.out] at hV
  have Vq : Hid (zi sq (vl 4294967296 lq) = a) := by show _ = _; omega
  clear hV
  clear kx ky
  have hq := hb.trans (((Below.refl yq.heap.size yq).alloc (Nat.le_refl _) (.cells #[.int .i64 1, .bool sq, .slice aq nq cq, .string ⟨#[]⟩, .bool false] 26)).mono hb.size)
  have hp := (Below.refl yq.heap.size yq).alloc (Nat.le_refl _) (.cells #[.int .i64 1, .bool sq, .slice aq nq cq, .string ⟨#[]⟩, .bool false] 26)
  have HB_3 : Hid (Below w.heap.size w (yq.alloc (.cells #[.int .i64 1, .bool sq, .slice aq nq cq, .string ⟨#[]⟩, .bool false] 26))) := HB_2.out.trans (hq.mono HB_2.out.size)
  have Bx_3 : Hid ((yq.alloc (.cells #[.int .i64 1, .bool sq, .slice aq nq cq, .string ⟨#[]⟩, .bool false] 26)).heap[yx.heap.size]? = some (.cells #[.int .i64 1, .bool sx, .slice ax nx cx, .string ⟨#[]⟩, .bool false] 26 (0, 0))) := kept5 hq Bx_2.out
  have Sx_3 : Hid (Sl (yq.alloc (.cells #[.int .i64 1, .bool sq, .slice aq nq cq, .string ⟨#[]⟩, .bool false] 26)) ax nx cx lx) := Sx_2.out.below hq (Nat.le_refl _)
  have By_3 : Hid ((yq.alloc (.cells #[.int .i64 1, .bool sq, .slice aq nq cq, .string ⟨#[]⟩, .bool false] 26)).heap[yy.heap.size]? = some (.cells #[.int .i64 1, .bool sy, .slice ay ny cy, .string ⟨#[]⟩, .bool false] 26 (0, 0))) := kept5 hq By_2.out
  have Sy_3 : Hid (Sl (yq.alloc (.cells #[.int .i64 1, .bool sq, .slice aq nq cq, .string ⟨#[]⟩, .bool false] 26)) ay ny cy ly) := Sy_2.out.below hq (Nat.le_refl _)
  have Bp_3 : Hid ((yq.alloc (.cells #[.int .i64 1, .bool sq, .slice aq nq cq, .string ⟨#[]⟩, .bool false] 26)).heap[yp.heap.size]? = some (.cells #[.int .i64 1, .bool sp, .slice ap np cp, .string ⟨#[]⟩, .bool false] 26 (0, 0))) := kept5 hq Bp_2.out
  have Sp_3 : Hid (Sl (yq.alloc (.cells #[.int .i64 1, .bool sq, .slice aq nq cq, .string ⟨#[]⟩, .bool false] 26)) ap np cp lp) := Sp_2.out.below hq (Nat.le_refl _)
  clear HB_2 Bx_2 Sx_2 By_2 Sy_2 Bp_2 Sp_2
  have Bq_3 : Hid ((yq.alloc (.cells #[.int .i64 1, .bool sq, .slice aq nq cq, .string ⟨#[]⟩, .bool false] 26)).heap[yq.heap.size]? = some (.cells #[.int .i64 1, .bool sq, .slice aq nq cq, .string ⟨#[]⟩, .bool false] 26 (0, 0))) := new_blk yq _
  have Sq_3 : Hid (Sl (yq.alloc (.cells #[.int .i64 1, .bool sq, .slice aq nq cq, .string ⟨#[]⟩, .bool false] 26)) aq nq cq lq) := hS.below hp (Nat.le_refl _)
  clear hq hp hb hS hc
  have kx := bx5 Bx_3.out
  have ky := bx5 By_3.out
  go_wp2_with fail
  refine (zmul_any sx sy ax nx cx lx ay ny cy ly _ Sx_3.out Sy_3.out mx my UX.out.1 UX.out.2).mono ?_
  rintro e yr ⟨⟨v, rfl, hc⟩, hb⟩
  obtain ⟨sr, ar, nr, cr, lr, rfl, hS, hV, mr⟩ := hc.ex
  rw [Vx.out, Vy.out] at hV
  have Vr : Hid (zi sr (vl 4294967296 lr) = 0) := by show _ = _; omega
  clear hV
  clear kx ky
  have hq := hb.trans (((Below.refl yr.heap.size yr).alloc (Nat.le_refl _) (.cells #[.int .i64 1, .bool sr, .slice ar nr cr, .string ⟨#[]⟩, .bool false] 26)).mono hb.size)
  have hp := (Below.refl yr.heap.size yr).alloc (Nat.le_refl _) (.cells #[.int .i64 1, .bool sr, .slice ar nr cr, .string ⟨#[]⟩, .bool false] 26)
  have HB_4 : Hid (Below w.heap.size w (yr.alloc (.cells #[.int .i64 1, .bool sr, .slice ar nr cr, .string ⟨#[]⟩, .bool false] 26))) := HB_3.out.trans (hq.mono HB_3.out.size)
  have Bx_4 : Hid ((yr.alloc (.cells #[.int .i64 1, .bool sr, .slice ar nr cr, .string ⟨#[]⟩, .bool false] 26)).heap[yx.heap.size]? = some (.cells #[.int .i64 1, .bool sx, .slice ax nx cx, .string ⟨#[]⟩, .bool false] 26 (0, 0))) := kept5 hq Bx_3.out
  have Sx_4 : Hid (Sl (yr.alloc (.cells #[.int .i64 1, .bool sr, .slice ar nr cr, .string ⟨#[]⟩, .bool false] 26)) ax nx cx lx) := Sx_3.out.below hq (Nat.le_refl _)
  have By_4 : Hid ((yr.alloc (.cells #[.int .i64 1, .bool sr, .slice ar nr cr, .string ⟨#[]⟩, .bool false] 26)).heap[yy.heap.size]? = some (.cells #[.int .i64 1, .bool sy, .slice ay ny cy, .string ⟨#[]⟩, .bool false] 26 (0, 0))) := kept5 hq By_3.out
  have Sy_4 : Hid (Sl (yr.alloc (.cells #[.int .i64 1, .bool sr, .slice ar nr cr, .string ⟨#[]⟩, .bool false] 26)) ay ny cy ly) := Sy_3.out.below hq (Nat.le_refl _)
  have Bp_4 : Hid ((yr.alloc (.cells #[.int .i64 1, .bool sr, .slice ar nr cr, .string ⟨#[]⟩, .bool false] 26)).heap[yp.heap.size]? = some (.cells #[.int .i64 1, .bool sp, .slice ap np cp, .string ⟨#[]⟩, .bool false] 26 (0, 0))) := kept5 hq Bp_3.out
  have Sp_4 : Hid (Sl (yr.alloc (.cells #[.int .i64 1, .bool sr, .slice ar nr cr, .string ⟨#[]⟩, .bool false] 26)) ap np cp lp) := Sp_3.out.below hq (Nat.le_refl _)
  have Bq_4 : Hid ((yr.alloc (.cells #[.int .i64 1, .bool sr, .slice ar nr cr, .string ⟨#[]⟩, .bool false] 26)).heap[yq.heap.size]? = some (.cells #[.int .i64 1, .bool sq, .slice aq nq cq, .string ⟨#[]⟩, .bool false] 26 (0, 0))) := kept5 hq Bq_3.out
  have Sq_4 : Hid (Sl (yr.alloc (.cells #[.int .i64 1, .bool sr, .slice ar nr cr, .string ⟨#[]⟩, .bool false] 26)) aq nq cq lq) := Sq_3.out.below hq (Nat.le_refl _)
  clear HB_3 Bx_3 Sx_3 By_3 Sy_3 Bp_3 Sp_3 Bq_3 Sq_3
  have Br_4 : Hid ((yr.alloc (.cells #[.int .i64 1, .bool sr, .slice ar nr cr, .string ⟨#[]⟩, .bool false] 26)).heap[yr.heap.size]? = some (.cells #[.int .i64 1, .bool sr, .slice ar nr cr, .string ⟨#[]⟩, .bool false] 26 (0, 0))) := new_blk yr _
  have Sr_4 : Hid (Sl (yr.alloc (.cells #[.int .i64 1, .bool sr, .slice ar nr cr, .string ⟨#[]⟩, .bool false] 26)) ar nr cr lr) := hS.below hp (Nat.le_refl _)
  clear hq hp hb hS hc
  go_wp2_with fail
  obtain ⟨wr, hwr⟩ : ∃ wr, (yr.alloc (.cells #[.int .i64 1, .bool sr, .slice ar nr cr, .string ⟨#[]⟩, .bool false] 26)) = wr := ⟨_, rfl⟩
  rw [hwr] at HB_4 Bx_4 Sx_4 By_4 Sy_4 Bp_4 Sp_4 Bq_4 Sq_4 Br_4 Sr_4 ⊢
  clear hwr
  have HKP : Hid (∀ W', Below wr.heap.size wr W' → W'.cell? ⟨yp.heap.size, 0, none⟩ = some (.int .i64 1) ∧ W'.cell? ⟨yp.heap.size, 1, none⟩ = some (.bool sp) ∧ W'.cell? ⟨yp.heap.size, 2, none⟩ = some (.slice ap np cp) ∧ W'.cell? ⟨yp.heap.size, 3, none⟩ = some (.string ⟨#[]⟩) ∧ W'.cell? ⟨yp.heap.size, 4, none⟩ = some (.bool false) ∧ W'.cell? ⟨yq.heap.size, 0, none⟩ = some (.int .i64 1) ∧ W'.cell? ⟨yq.heap.size, 1, none⟩ = some (.bool sq) ∧ W'.cell? ⟨yq.heap.size, 2, none⟩ = some (.slice aq nq cq) ∧ W'.cell? ⟨yq.heap.size, 3, none⟩ = some (.string ⟨#[]⟩) ∧ W'.cell? ⟨yq.heap.size, 4, none⟩ = some (.bool false) ∧ W'.cell? ⟨yr.heap.size, 0, none⟩ = some (.int .i64 1) ∧ W'.cell? ⟨yr.heap.size, 1, none⟩ = some (.bool sr) ∧ W'.cell? ⟨yr.heap.size, 2, none⟩ = some (.slice ar nr cr) ∧ W'.cell? ⟨yr.heap.size, 3, none⟩ = some (.string ⟨#[]⟩) ∧ W'.cell? ⟨yr.heap.size, 4, none⟩ = some (.bool false)) := fun W' hb => by
    obtain ⟨pp0, pp1, pp2, pp3, pp4⟩ := bx5 (kept5 hb Bp_4.out)
    obtain ⟨pq0, pq1, pq2, pq3, pq4⟩ := bx5 (kept5 hb Bq_4.out)
    obtain ⟨pr0, pr1, pr2, pr3, pr4⟩ := bx5 (kept5 hb Br_4.out)
    exact ⟨pp0, pp1, pp2, pp3, pp4, pq0, pq1, pq2, pq3, pq4, pr0, pr1, pr2, pr3, pr4⟩
  have kS := HKP.out wr (Below.refl _ _)
  refine wp_region_held_drew (S := fun w' => w'.cell? ⟨yp.heap.size, 0, none⟩ = some (.int .i64 1) ∧ w'.cell? ⟨yp.heap.size, 1, none⟩ = some (.bool sp) ∧ w'.cell? ⟨yp.heap.size, 2, none⟩ = some (.slice ap np cp) ∧ w'.cell? ⟨yp.heap.size, 3, none⟩ = some (.string ⟨#[]⟩) ∧ w'.cell? ⟨yp.heap.size, 4, none⟩ = some (.bool false) ∧ w'.cell? ⟨yq.heap.size, 0, none⟩ = some (.int .i64 1) ∧ w'.cell? ⟨yq.heap.size, 1, none⟩ = some (.bool sq) ∧ w'.cell? ⟨yq.heap.size, 2, none⟩ = some (.slice aq nq cq) ∧ w'.cell? ⟨yq.heap.size, 3, none⟩ = some (.string ⟨#[]⟩) ∧ w'.cell? ⟨yq.heap.size, 4, none⟩ = some (.bool false) ∧ w'.cell? ⟨yr.heap.size, 0, none⟩ = some (.int .i64 1) ∧ w'.cell? ⟨yr.heap.size, 1, none⟩ = some (.bool sr) ∧ w'.cell? ⟨yr.heap.size, 2, none⟩ = some (.slice ar nr cr) ∧ w'.cell? ⟨yr.heap.size, 3, none⟩ = some (.string ⟨#[]⟩) ∧ w'.cell? ⟨yr.heap.size, 4, none⟩ = some (.bool false)) (by kernel_rfl) (by exact kS) (fun hHeld => ?_)
  clear hHeld
  refine wpAnyH_take (i := 0) (oi := { dst := some 55, op := Op.move (Operand.tmp 8), type := 29, pos := "law.go:93", after := #[], guard := none }) (v := ?_) rfl (by kernel_rfl) (by kernel_rfl) (by kernel_rfl) (fun _ _ _ h => h) (Or.inl ⟨by rfl, ?_⟩) (by exact kS) ?_
  rotate_left
  · intro w hSw; (try dsimp only at hSw); (go_simp <;> with_reducible rfl)
  try simp only [Act.put, List.setIfInBounds_toArray, List.set_cons_zero, List.set_cons_succ]
  refine wpAnyH_take (i := 1) (oi := { dst := some 56, op := Op.binOp BinOp.eql 29 (Operand.tmp 55) (Operand.const (Value.int IntKind.i64 0)) 29, type := 4, pos := "law.go:93", after := #[{ on := 0, ground := Ground.data }], guard := none }) (v := ?_) rfl (by kernel_rfl) (by kernel_rfl) (by kernel_rfl) (fun _ _ _ h => h) (Or.inl ⟨by rfl, ?_⟩) (by exact kS) ?_
  rotate_left
  · intro w hSw; (try dsimp only at hSw); (go_simp <;> with_reducible rfl)
  try simp only [Act.put, List.setIfInBounds_toArray, List.set_cons_zero, List.set_cons_succ]
  refine wpAnyH_take (i := 2) (oi := { dst := some 57, op := Op.move (Operand.tmp 56), type := 4, pos := "law.go:93", after := #[{ on := 1, ground := Ground.data }], guard := none }) (v := ?_) rfl (by kernel_rfl) (by kernel_rfl) (by kernel_rfl) (fun _ _ _ h => h) (Or.inl ⟨by rfl, ?_⟩) (by exact kS) ?_
  rotate_left
  · intro w hSw; (try dsimp only at hSw); (go_simp <;> with_reducible rfl)
  try simp only [Act.put, List.setIfInBounds_toArray, List.set_cons_zero, List.set_cons_succ]
  refine wpAnyH_take (i := 3) (oi := { dst := some 58, op := Op.move (Operand.tmp 10), type := 29, pos := "law.go:93", after := #[{ on := 2, ground := Ground.guard }], guard := some (2, true) }) (v := ?_) rfl (by kernel_rfl) (by kernel_rfl) (by kernel_rfl) (fun _ _ _ h => h) (Or.inl ⟨by rfl, ?_⟩) (by exact kS) ?_
  rotate_left
  · intro w hSw; (try dsimp only at hSw); (go_simp <;> with_reducible rfl)
  try simp only [Act.put, List.setIfInBounds_toArray, List.set_cons_zero, List.set_cons_succ]
  refine wpAnyH_take (i := 4) (oi := { dst := some 59, op := Op.binOp BinOp.eql 29 (Operand.tmp 58) (Operand.const (Value.int IntKind.i64 0)) 29, type := 4, pos := "law.go:93", after := #[{ on := 3, ground := Ground.data }, { on := 2, ground := Ground.guard }], guard := some (2, true) }) (v := ?_) rfl (by kernel_rfl) (by kernel_rfl) (by kernel_rfl) (fun _ _ _ h => h) (Or.inl ⟨by rfl, ?_⟩) (by exact kS) ?_
  rotate_left
  · intro w hSw; (try dsimp only at hSw); (go_simp <;> with_reducible rfl)
  try simp only [Act.put, List.setIfInBounds_toArray, List.set_cons_zero, List.set_cons_succ]
  refine wpAnyH_take (i := 5) (oi := { dst := some 60, op := Op.pick (Operand.tmp 57) (Operand.tmp 59) (Operand.const (Value.bool false)), type := 4, pos := "law.go:93", after := #[{ on := 2, ground := Ground.data }, { on := 4, ground := Ground.data }], guard := none }) (v := ?_) rfl (by kernel_rfl) (by kernel_rfl) (by kernel_rfl) (fun _ _ _ h => h) (Or.inl ⟨by rfl, ?_⟩) (by exact kS) ?_
  rotate_left
  · intro w hSw; (try dsimp only at hSw); (go_simp <;> with_reducible rfl)
  try simp only [Act.put, List.setIfInBounds_toArray, List.set_cons_zero, List.set_cons_succ]
  refine wpAnyH_take (i := 6) (oi := { dst := some 61, op := Op.move (Operand.tmp 60), type := 4, pos := "law.go:93", after := #[{ on := 5, ground := Ground.data }, { on := 2, ground := Ground.chain }], guard := none }) (v := ?_) rfl (by kernel_rfl) (by kernel_rfl) (by kernel_rfl) (fun _ _ _ h => h) (Or.inl ⟨by rfl, ?_⟩) (by exact kS) ?_
  rotate_left
  · intro w hSw; (try dsimp only at hSw); (go_simp <;> with_reducible rfl)
  try simp only [Act.put, List.setIfInBounds_toArray, List.set_cons_zero, List.set_cons_succ]
  refine wpAnyH_take (i := 7) (oi := { dst := some 62, op := Op.move (Operand.tmp 12), type := 29, pos := "law.go:93", after := #[{ on := 6, ground := Ground.guard }], guard := some (6, true) }) (v := ?_) rfl (by kernel_rfl) (by kernel_rfl) (by kernel_rfl) (fun _ _ _ h => h) (Or.inl ⟨by rfl, ?_⟩) (by exact kS) ?_
  rotate_left
  · intro w hSw; (try dsimp only at hSw); (go_simp <;> with_reducible rfl)
  try simp only [Act.put, List.setIfInBounds_toArray, List.set_cons_zero, List.set_cons_succ]
  refine wpAnyH_take (i := 8) (oi := { dst := some 63, op := Op.binOp BinOp.eql 29 (Operand.tmp 62) (Operand.const (Value.int IntKind.i64 0)) 29, type := 4, pos := "law.go:93", after := #[{ on := 7, ground := Ground.data }, { on := 6, ground := Ground.guard }], guard := some (6, true) }) (v := ?_) rfl (by kernel_rfl) (by kernel_rfl) (by kernel_rfl) (fun _ _ _ h => h) (Or.inl ⟨by rfl, ?_⟩) (by exact kS) ?_
  rotate_left
  · intro w hSw; (try dsimp only at hSw); (go_simp <;> with_reducible rfl)
  try simp only [Act.put, List.setIfInBounds_toArray, List.set_cons_zero, List.set_cons_succ]
  refine wpAnyH_take (i := 9) (oi := { dst := some 64, op := Op.pick (Operand.tmp 61) (Operand.tmp 63) (Operand.const (Value.bool false)), type := 4, pos := "law.go:93", after := #[{ on := 6, ground := Ground.data }, { on := 8, ground := Ground.data }], guard := none }) (v := ?_) rfl (by kernel_rfl) (by kernel_rfl) (by kernel_rfl) (fun _ _ _ h => h) (Or.inl ⟨by rfl, ?_⟩) (by exact kS) ?_
  rotate_left
  · intro w hSw; (try dsimp only at hSw); (go_simp <;> with_reducible rfl)
  try simp only [Act.put, List.setIfInBounds_toArray, List.set_cons_zero, List.set_cons_succ]
  refine wpAnyH_take (i := 10) (oi := { dst := some 65, op := Op.move (Operand.tmp 64), type := 4, pos := "law.go:93", after := #[{ on := 9, ground := Ground.data }, { on := 6, ground := Ground.chain }], guard := none }) (v := ?_) rfl (by kernel_rfl) (by kernel_rfl) (by kernel_rfl) (fun _ _ _ h => h) (Or.inl ⟨by rfl, ?_⟩) (by exact kS) ?_
  rotate_left
  · intro w hSw; (try dsimp only at hSw); (go_simp <;> with_reducible rfl)
  try simp only [Act.put, List.setIfInBounds_toArray, List.set_cons_zero, List.set_cons_succ]
  refine wpAnyH_take (i := 11) (oi := { dst := some 66, op := Op.load 26 (Operand.tmp 7), type := 26, pos := "law.go:93", after := #[{ on := 10, ground := Ground.guard }], guard := some (10, true) }) (v := ?_) rfl (by kernel_rfl) (by kernel_rfl) (by kernel_rfl) (fun _ _ _ h => h) (Or.inl ⟨by rfl, ?_⟩) (by exact kS) ?_
  rotate_left
  · intro w hSw; (try dsimp only at hSw); (go_simp <;> with_reducible rfl)
  try simp only [Act.put, List.setIfInBounds_toArray, List.set_cons_zero, List.set_cons_succ]
  refine wpAnyH_take (i := 12) (oi := { dst := some 67, op := Op.move (Operand.tmp 0), type := 3, pos := "law.go:93", after := #[{ on := 10, ground := Ground.guard }], guard := some (10, true) }) (v := ?_) rfl (by kernel_rfl) (by kernel_rfl) (by kernel_rfl) (fun _ _ _ h => h) (Or.inl ⟨by rfl, ?_⟩) (by exact kS) ?_
  rotate_left
  · intro w hSw; (try dsimp only at hSw); (go_simp <;> with_reducible rfl)
  try simp only [Act.put, List.setIfInBounds_toArray, List.set_cons_zero, List.set_cons_succ]
  refine wpAnyH_take (i := 13) (oi := { dst := some 68, op := Op.move (Operand.tmp 1), type := 3, pos := "law.go:93", after := #[{ on := 10, ground := Ground.guard }], guard := some (10, true) }) (v := ?_) rfl (by kernel_rfl) (by kernel_rfl) (by kernel_rfl) (fun _ _ _ h => h) (Or.inl ⟨by rfl, ?_⟩) (by exact kS) ?_
  rotate_left
  · intro w hSw; (try dsimp only at hSw); (go_simp <;> with_reducible rfl)
  try simp only [Act.put, List.setIfInBounds_toArray, List.set_cons_zero, List.set_cons_succ]
  refine wpAnyH_take (i := 14) (oi := { dst := some 69, op := Op.binOp BinOp.add 3 (Operand.tmp 67) (Operand.tmp 68) 3, type := 3, pos := "law.go:93", after := #[{ on := 12, ground := Ground.data }, { on := 13, ground := Ground.data }, { on := 10, ground := Ground.guard }], guard := some (10, true) }) (v := ?_) rfl (by kernel_rfl) (by kernel_rfl) (by kernel_rfl) (fun _ _ _ h => h) (Or.inl ⟨by rfl, ?_⟩) (by exact kS) ?_
  rotate_left
  · intro w hSw; (try dsimp only at hSw); (go_simp <;> with_reducible rfl)
  try simp only [Act.put, List.setIfInBounds_toArray, List.set_cons_zero, List.set_cons_succ]
  refine wpAnyH_ready (rs := [15]) (by kernel_rfl) (by simp) ?_
  refine AllReadyH.cons (o := { dst := some 70, op := Op.call { callee := Callee.value (Operand.func 14), args := #[Operand.tmp 69], argTypes := #[3] }, type := 26, pos := "law.go:93", after := #[{ on := 14, ground := Ground.data }, { on := 10, ground := Ground.chain }, { on := 10, ground := Ground.guard }], guard := some (10, true) }) rfl (fun K hK => ?_) AllReadyH.nil
  go_simp
  go_at_call 14; refine (zint_any a _ (by omega) (by omega)).mono ?_; rintro e zi1 ⟨⟨v, rfl, hc⟩, hb⟩; obtain ⟨si1, ai1, ni1, ci1, li1, rfl, hS, hV, mi1⟩ := hc.ex; have HDi1 : Hid (Below wr.heap.size wr zi1) := ((Below.refl wr.heap.size wr).drew).trans (hb.mono ((Below.refl wr.heap.size wr).drew).size); have Si1 : Hid (Sl zi1 ai1 ni1 ci1 li1) := hS; have Vi1 : Hid (zi si1 (vl 4294967296 li1) = a) := hV; have kS := HKP.out zi1 HDi1.out; clear hb hc hS hV
  go_wp2_with fail
  refine hK.out _ _ (by exact kS) (fun hHeld => ?_)
  clear hK K hHeld
  try simp only [Act.put, List.setIfInBounds_toArray, List.set_cons_zero, List.set_cons_succ]
  refine wpAnyH_ready (rs := [16]) (by kernel_rfl) (by simp) ?_
  refine AllReadyH.cons (o := { dst := some 71, op := Op.call { callee := Callee.value (Operand.func 13), args := #[Operand.tmp 66, Operand.tmp 70], argTypes := #[26, 26] }, type := 4, pos := "law.go:93", after := #[{ on := 11, ground := Ground.data }, { on := 15, ground := Ground.data }, { on := 15, ground := Ground.chain }, { on := 10, ground := Ground.guard }], guard := some (10, true) }) rfl (fun K hK => ?_) AllReadyH.nil
  go_simp
  go_at_call 13; refine (zeq_any sp si1 ap np cp lp ai1 ni1 ci1 li1 _ ((Sp_4.out).below HDi1.out (Nat.le_refl _)) Si1.out mp mi1 (Vp.out.trans Vi1.out.symm)).mono ?_; rintro e wi1 ⟨rfl, hb⟩; have HEi1 : Hid (Below wr.heap.size wr wi1) := HDi1.out.trans (hb.mono HDi1.out.size); have kS := HKP.out wi1 HEi1.out; clear hb
  go_wp2_with fail
  refine hK.out _ _ (by exact kS) (fun hHeld => ?_)
  clear hK K hHeld
  try simp only [Act.put, List.setIfInBounds_toArray, List.set_cons_zero, List.set_cons_succ]
  refine wpAnyH_take (i := 17) (oi := { dst := some 72, op := Op.pick (Operand.tmp 65) (Operand.tmp 71) (Operand.const (Value.bool false)), type := 4, pos := "law.go:93", after := #[{ on := 10, ground := Ground.data }, { on := 16, ground := Ground.data }], guard := none }) (v := ?_) rfl (by kernel_rfl) (by kernel_rfl) (by kernel_rfl) (fun _ _ _ h => h) (Or.inl ⟨by rfl, ?_⟩) (by exact kS) ?_
  rotate_left
  · intro w hSw; (try dsimp only at hSw); (go_simp <;> with_reducible rfl)
  try simp only [Act.put, List.setIfInBounds_toArray, List.set_cons_zero, List.set_cons_succ]
  refine wpAnyH_take (i := 18) (oi := { dst := some 73, op := Op.move (Operand.tmp 72), type := 4, pos := "law.go:93", after := #[{ on := 17, ground := Ground.data }, { on := 16, ground := Ground.chain }], guard := none }) (v := ?_) rfl (by kernel_rfl) (by kernel_rfl) (by kernel_rfl) (fun _ _ _ h => h) (Or.inl ⟨by rfl, ?_⟩) (by exact kS) ?_
  rotate_left
  · intro w hSw; (try dsimp only at hSw); (go_simp <;> with_reducible rfl)
  try simp only [Act.put, List.setIfInBounds_toArray, List.set_cons_zero, List.set_cons_succ]
  refine wpAnyH_take (i := 19) (oi := { dst := some 74, op := Op.load 26 (Operand.tmp 9), type := 26, pos := "law.go:93", after := #[{ on := 18, ground := Ground.guard }], guard := some (18, true) }) (v := ?_) rfl (by kernel_rfl) (by kernel_rfl) (by kernel_rfl) (fun _ _ _ h => h) (Or.inl ⟨by rfl, ?_⟩) (by exact kS) ?_
  rotate_left
  · intro w hSw; (try dsimp only at hSw); (go_simp <;> with_reducible rfl)
  try simp only [Act.put, List.setIfInBounds_toArray, List.set_cons_zero, List.set_cons_succ]
  refine wpAnyH_take (i := 20) (oi := { dst := some 75, op := Op.move (Operand.tmp 0), type := 3, pos := "law.go:93", after := #[{ on := 18, ground := Ground.guard }], guard := some (18, true) }) (v := ?_) rfl (by kernel_rfl) (by kernel_rfl) (by kernel_rfl) (fun _ _ _ h => h) (Or.inl ⟨by rfl, ?_⟩) (by exact kS) ?_
  rotate_left
  · intro w hSw; (try dsimp only at hSw); (go_simp <;> with_reducible rfl)
  try simp only [Act.put, List.setIfInBounds_toArray, List.set_cons_zero, List.set_cons_succ]
  refine wpAnyH_take (i := 21) (oi := { dst := some 76, op := Op.move (Operand.tmp 1), type := 3, pos := "law.go:93", after := #[{ on := 18, ground := Ground.guard }], guard := some (18, true) }) (v := ?_) rfl (by kernel_rfl) (by kernel_rfl) (by kernel_rfl) (fun _ _ _ h => h) (Or.inl ⟨by rfl, ?_⟩) (by exact kS) ?_
  rotate_left
  · intro w hSw; (try dsimp only at hSw); (go_simp <;> with_reducible rfl)
  try simp only [Act.put, List.setIfInBounds_toArray, List.set_cons_zero, List.set_cons_succ]
  refine wpAnyH_take (i := 22) (oi := { dst := some 77, op := Op.binOp BinOp.sub 3 (Operand.tmp 75) (Operand.tmp 76) 3, type := 3, pos := "law.go:93", after := #[{ on := 20, ground := Ground.data }, { on := 21, ground := Ground.data }, { on := 18, ground := Ground.guard }], guard := some (18, true) }) (v := ?_) rfl (by kernel_rfl) (by kernel_rfl) (by kernel_rfl) (fun _ _ _ h => h) (Or.inl ⟨by rfl, ?_⟩) (by exact kS) ?_
  rotate_left
  · intro w hSw; (try dsimp only at hSw); (go_simp <;> with_reducible rfl)
  try simp only [Act.put, List.setIfInBounds_toArray, List.set_cons_zero, List.set_cons_succ]
  refine wpAnyH_ready (rs := [23]) (by kernel_rfl) (by simp) ?_
  refine AllReadyH.cons (o := { dst := some 78, op := Op.call { callee := Callee.value (Operand.func 14), args := #[Operand.tmp 77], argTypes := #[3] }, type := 26, pos := "law.go:93", after := #[{ on := 22, ground := Ground.data }, { on := 18, ground := Ground.chain }, { on := 18, ground := Ground.guard }], guard := some (18, true) }) rfl (fun K hK => ?_) AllReadyH.nil
  go_simp
  go_at_call 14; refine (zint_any a _ (by omega) (by omega)).mono ?_; rintro e zi2 ⟨⟨v, rfl, hc⟩, hb⟩; obtain ⟨si2, ai2, ni2, ci2, li2, rfl, hS, hV, mi2⟩ := hc.ex; have HDi2 : Hid (Below wr.heap.size wr zi2) := HEi1.out.trans (hb.mono HEi1.out.size); have Si2 : Hid (Sl zi2 ai2 ni2 ci2 li2) := hS; have Vi2 : Hid (zi si2 (vl 4294967296 li2) = a) := hV; have kS := HKP.out zi2 HDi2.out; clear hb hc hS hV
  go_wp2_with fail
  refine hK.out _ _ (by exact kS) (fun hHeld => ?_)
  clear hK K hHeld
  try simp only [Act.put, List.setIfInBounds_toArray, List.set_cons_zero, List.set_cons_succ]
  refine wpAnyH_ready (rs := [24]) (by kernel_rfl) (by simp) ?_
  refine AllReadyH.cons (o := { dst := some 79, op := Op.call { callee := Callee.value (Operand.func 13), args := #[Operand.tmp 74, Operand.tmp 78], argTypes := #[26, 26] }, type := 4, pos := "law.go:93", after := #[{ on := 19, ground := Ground.data }, { on := 23, ground := Ground.data }, { on := 23, ground := Ground.chain }, { on := 18, ground := Ground.guard }], guard := some (18, true) }) rfl (fun K hK => ?_) AllReadyH.nil
  go_simp
  go_at_call 13; refine (zeq_any sq si2 aq nq cq lq ai2 ni2 ci2 li2 _ ((Sq_4.out).below HDi2.out (Nat.le_refl _)) Si2.out mq mi2 (Vq.out.trans Vi2.out.symm)).mono ?_; rintro e wi2 ⟨rfl, hb⟩; have HEi2 : Hid (Below wr.heap.size wr wi2) := HDi2.out.trans (hb.mono HDi2.out.size); have kS := HKP.out wi2 HEi2.out; clear hb
  go_wp2_with fail
  refine hK.out _ _ (by exact kS) (fun hHeld => ?_)
  clear hK K hHeld
  try simp only [Act.put, List.setIfInBounds_toArray, List.set_cons_zero, List.set_cons_succ]
  refine wpAnyH_take (i := 25) (oi := { dst := some 80, op := Op.pick (Operand.tmp 73) (Operand.tmp 79) (Operand.const (Value.bool false)), type := 4, pos := "law.go:93", after := #[{ on := 18, ground := Ground.data }, { on := 24, ground := Ground.data }], guard := none }) (v := ?_) rfl (by kernel_rfl) (by kernel_rfl) (by kernel_rfl) (fun _ _ _ h => h) (Or.inl ⟨by rfl, ?_⟩) (by exact kS) ?_
  rotate_left
  · intro w hSw; (try dsimp only at hSw); (go_simp <;> with_reducible rfl)
  try simp only [Act.put, List.setIfInBounds_toArray, List.set_cons_zero, List.set_cons_succ]
  refine wpAnyH_take (i := 26) (oi := { dst := some 81, op := Op.move (Operand.tmp 80), type := 4, pos := "law.go:93", after := #[{ on := 25, ground := Ground.data }, { on := 24, ground := Ground.chain }], guard := none }) (v := ?_) rfl (by kernel_rfl) (by kernel_rfl) (by kernel_rfl) (fun _ _ _ h => h) (Or.inl ⟨by rfl, ?_⟩) (by exact kS) ?_
  rotate_left
  · intro w hSw; (try dsimp only at hSw); (go_simp <;> with_reducible rfl)
  try simp only [Act.put, List.setIfInBounds_toArray, List.set_cons_zero, List.set_cons_succ]
  refine wpAnyH_take (i := 27) (oi := { dst := some 82, op := Op.load 26 (Operand.tmp 11), type := 26, pos := "law.go:93", after := #[{ on := 26, ground := Ground.guard }], guard := some (26, true) }) (v := ?_) rfl (by kernel_rfl) (by kernel_rfl) (by kernel_rfl) (fun _ _ _ h => h) (Or.inl ⟨by rfl, ?_⟩) (by exact kS) ?_
  rotate_left
  · intro w hSw; (try dsimp only at hSw); (go_simp <;> with_reducible rfl)
  try simp only [Act.put, List.setIfInBounds_toArray, List.set_cons_zero, List.set_cons_succ]
  refine wpAnyH_take (i := 28) (oi := { dst := some 83, op := Op.move (Operand.tmp 0), type := 3, pos := "law.go:93", after := #[{ on := 26, ground := Ground.guard }], guard := some (26, true) }) (v := ?_) rfl (by kernel_rfl) (by kernel_rfl) (by kernel_rfl) (fun _ _ _ h => h) (Or.inl ⟨by rfl, ?_⟩) (by exact kS) ?_
  rotate_left
  · intro w hSw; (try dsimp only at hSw); (go_simp <;> with_reducible rfl)
  try simp only [Act.put, List.setIfInBounds_toArray, List.set_cons_zero, List.set_cons_succ]
  refine wpAnyH_take (i := 29) (oi := { dst := some 84, op := Op.move (Operand.tmp 1), type := 3, pos := "law.go:93", after := #[{ on := 26, ground := Ground.guard }], guard := some (26, true) }) (v := ?_) rfl (by kernel_rfl) (by kernel_rfl) (by kernel_rfl) (fun _ _ _ h => h) (Or.inl ⟨by rfl, ?_⟩) (by exact kS) ?_
  rotate_left
  · intro w hSw; (try dsimp only at hSw); (go_simp <;> with_reducible rfl)
  try simp only [Act.put, List.setIfInBounds_toArray, List.set_cons_zero, List.set_cons_succ]
  refine wpAnyH_take (i := 30) (oi := { dst := some 85, op := Op.binOp BinOp.mul 3 (Operand.tmp 83) (Operand.tmp 84) 3, type := 3, pos := "law.go:93", after := #[{ on := 28, ground := Ground.data }, { on := 29, ground := Ground.data }, { on := 26, ground := Ground.guard }], guard := some (26, true) }) (v := ?_) rfl (by kernel_rfl) (by kernel_rfl) (by kernel_rfl) (fun _ _ _ h => h) (Or.inl ⟨by rfl, ?_⟩) (by exact kS) ?_
  rotate_left
  · intro w hSw; (try dsimp only at hSw); (go_simp <;> with_reducible rfl)
  try simp only [Act.put, List.setIfInBounds_toArray, List.set_cons_zero, List.set_cons_succ]
  refine wpAnyH_ready (rs := [31]) (by kernel_rfl) (by simp) ?_
  refine AllReadyH.cons (o := { dst := some 86, op := Op.call { callee := Callee.value (Operand.func 14), args := #[Operand.tmp 85], argTypes := #[3] }, type := 26, pos := "law.go:93", after := #[{ on := 30, ground := Ground.data }, { on := 26, ground := Ground.chain }, { on := 26, ground := Ground.guard }], guard := some (26, true) }) rfl (fun K hK => ?_) AllReadyH.nil
  go_simp
  go_at_call 14; refine (zint_any 0 _ (by omega) (by omega)).mono ?_; rintro e zi3 ⟨⟨v, rfl, hc⟩, hb⟩; obtain ⟨si3, ai3, ni3, ci3, li3, rfl, hS, hV, mi3⟩ := hc.ex; have HDi3 : Hid (Below wr.heap.size wr zi3) := HEi2.out.trans (hb.mono HEi2.out.size); have Si3 : Hid (Sl zi3 ai3 ni3 ci3 li3) := hS; have Vi3 : Hid (zi si3 (vl 4294967296 li3) = 0) := hV; have kS := HKP.out zi3 HDi3.out; clear hb hc hS hV
  go_wp2_with fail
  refine hK.out _ _ (by exact kS) (fun hHeld => ?_)
  clear hK K hHeld
  try simp only [Act.put, List.setIfInBounds_toArray, List.set_cons_zero, List.set_cons_succ]
  refine wpAnyH_ready (rs := [32]) (by kernel_rfl) (by simp) ?_
  refine AllReadyH.cons (o := { dst := some 87, op := Op.call { callee := Callee.value (Operand.func 13), args := #[Operand.tmp 82, Operand.tmp 86], argTypes := #[26, 26] }, type := 4, pos := "law.go:93", after := #[{ on := 27, ground := Ground.data }, { on := 31, ground := Ground.data }, { on := 31, ground := Ground.chain }, { on := 26, ground := Ground.guard }], guard := some (26, true) }) rfl (fun K hK => ?_) AllReadyH.nil
  go_simp
  go_at_call 13; refine (zeq_any sr si3 ar nr cr lr ai3 ni3 ci3 li3 _ ((Sr_4.out).below HDi3.out (Nat.le_refl _)) Si3.out mr mi3 (Vr.out.trans Vi3.out.symm)).mono ?_; rintro e wi3 ⟨rfl, hb⟩; have HEi3 : Hid (Below wr.heap.size wr wi3) := HDi3.out.trans (hb.mono HDi3.out.size); have kS := HKP.out wi3 HEi3.out; clear hb
  go_wp2_with fail
  refine hK.out _ _ (by exact kS) (fun hHeld => ?_)
  clear hK K hHeld
  try simp only [Act.put, List.setIfInBounds_toArray, List.set_cons_zero, List.set_cons_succ]
  refine wpAnyH_take (i := 33) (oi := { dst := some 88, op := Op.pick (Operand.tmp 81) (Operand.tmp 87) (Operand.const (Value.bool false)), type := 4, pos := "law.go:93", after := #[{ on := 26, ground := Ground.data }, { on := 32, ground := Ground.data }], guard := none }) (v := ?_) rfl (by kernel_rfl) (by kernel_rfl) (by kernel_rfl) (fun _ _ _ h => h) (Or.inl ⟨by rfl, ?_⟩) (by exact kS) ?_
  rotate_left
  · intro w hSw; (try dsimp only at hSw); (go_simp <;> with_reducible rfl)
  try simp only [Act.put, List.setIfInBounds_toArray, List.set_cons_zero, List.set_cons_succ]
  refine wpAnyH_take (i := 34) (oi := { dst := some 13, op := Op.assign (Operand.tmp 88), type := 4, pos := "law.go:93", after := #[{ on := 33, ground := Ground.data }, { on := 32, ground := Ground.chain }, { on := 0, ground := Ground.phase }, { on := 1, ground := Ground.phase }, { on := 2, ground := Ground.phase }, { on := 3, ground := Ground.phase }, { on := 4, ground := Ground.phase }, { on := 5, ground := Ground.phase }, { on := 6, ground := Ground.phase }, { on := 7, ground := Ground.phase }, { on := 8, ground := Ground.phase }, { on := 9, ground := Ground.phase }, { on := 10, ground := Ground.phase }, { on := 11, ground := Ground.phase }, { on := 12, ground := Ground.phase }, { on := 13, ground := Ground.phase }, { on := 14, ground := Ground.phase }, { on := 15, ground := Ground.phase }, { on := 16, ground := Ground.phase }, { on := 17, ground := Ground.phase }, { on := 18, ground := Ground.phase }, { on := 19, ground := Ground.phase }, { on := 20, ground := Ground.phase }, { on := 21, ground := Ground.phase }, { on := 22, ground := Ground.phase }, { on := 23, ground := Ground.phase }, { on := 24, ground := Ground.phase }, { on := 25, ground := Ground.phase }, { on := 26, ground := Ground.phase }, { on := 27, ground := Ground.phase }, { on := 28, ground := Ground.phase }, { on := 29, ground := Ground.phase }, { on := 30, ground := Ground.phase }, { on := 31, ground := Ground.phase }, { on := 32, ground := Ground.phase }, { on := 33, ground := Ground.phase }], guard := none }) (v := ?_) rfl (by kernel_rfl) (by kernel_rfl) (by kernel_rfl) (fun _ _ _ h => h) (Or.inl ⟨by rfl, ?_⟩) (by exact kS) ?_
  rotate_left
  · intro w hSw; (try dsimp only at hSw); (go_simp <;> with_reducible rfl)
  try simp only [Act.put, List.setIfInBounds_toArray, List.set_cons_zero, List.set_cons_succ]
  refine wpAnyH_done (by kernel_rfl) ?_ _
  clear kS HKP
  have HB_5 : Hid (Below w.heap.size w wi3) := HB_4.out.trans (HEi3.out.mono HB_4.out.size)
  have Bx_5 : Hid (wi3.heap[yx.heap.size]? = some (.cells #[.int .i64 1, .bool sx, .slice ax nx cx, .string ⟨#[]⟩, .bool false] 26 (0, 0))) := kept5 HEi3.out Bx_4.out
  have Sx_5 : Hid (Sl wi3 ax nx cx lx) := Sx_4.out.below HEi3.out (Nat.le_refl _)
  have By_5 : Hid (wi3.heap[yy.heap.size]? = some (.cells #[.int .i64 1, .bool sy, .slice ay ny cy, .string ⟨#[]⟩, .bool false] 26 (0, 0))) := kept5 HEi3.out By_4.out
  have Sy_5 : Hid (Sl wi3 ay ny cy ly) := Sy_4.out.below HEi3.out (Nat.le_refl _)
  have Bp_5 : Hid (wi3.heap[yp.heap.size]? = some (.cells #[.int .i64 1, .bool sp, .slice ap np cp, .string ⟨#[]⟩, .bool false] 26 (0, 0))) := kept5 HEi3.out Bp_4.out
  have Sp_5 : Hid (Sl wi3 ap np cp lp) := Sp_4.out.below HEi3.out (Nat.le_refl _)
  have Bq_5 : Hid (wi3.heap[yq.heap.size]? = some (.cells #[.int .i64 1, .bool sq, .slice aq nq cq, .string ⟨#[]⟩, .bool false] 26 (0, 0))) := kept5 HEi3.out Bq_4.out
  have Sq_5 : Hid (Sl wi3 aq nq cq lq) := Sq_4.out.below HEi3.out (Nat.le_refl _)
  have Br_5 : Hid (wi3.heap[yr.heap.size]? = some (.cells #[.int .i64 1, .bool sr, .slice ar nr cr, .string ⟨#[]⟩, .bool false] 26 (0, 0))) := kept5 HEi3.out Br_4.out
  have Sr_5 : Hid (Sl wi3 ar nr cr lr) := Sr_4.out.below HEi3.out (Nat.le_refl _)
  clear HB_4 Bx_4 Sx_4 By_4 Sy_4 Bp_4 Sp_4 Bq_4 Sq_4 Br_4 Sr_4
  have kx := bx5 Bx_5.out
  have ky := bx5 By_5.out
  go_wp2_with fail
  refine (zquo0_any sx sy ax nx cx lx ay ny cy ly _ Sx_5.out Sy_5.out mx my UX.out.1 UX.out.2 U0.out).mono ?_
  rintro e yu ⟨⟨v, rfl, au, nu, cu, rfl, hi⟩, hb⟩
  dsimp only [noA]
  clear kx ky
  have hq := hb.trans (((Below.refl yu.heap.size yu).alloc (Nat.le_refl _) (.cells #[.int .i64 0, .bool false, .slice au nu cu, .string ⟨#[]⟩, .bool false] 26)).mono hb.size)
  have HB_6 : Hid (Below w.heap.size w (yu.alloc (.cells #[.int .i64 0, .bool false, .slice au nu cu, .string ⟨#[]⟩, .bool false] 26))) := HB_5.out.trans (hq.mono HB_5.out.size)
  have Bx_6 : Hid ((yu.alloc (.cells #[.int .i64 0, .bool false, .slice au nu cu, .string ⟨#[]⟩, .bool false] 26)).heap[yx.heap.size]? = some (.cells #[.int .i64 1, .bool sx, .slice ax nx cx, .string ⟨#[]⟩, .bool false] 26 (0, 0))) := kept5 hq Bx_5.out
  have Sx_6 : Hid (Sl (yu.alloc (.cells #[.int .i64 0, .bool false, .slice au nu cu, .string ⟨#[]⟩, .bool false] 26)) ax nx cx lx) := Sx_5.out.below hq (Nat.le_refl _)
  have By_6 : Hid ((yu.alloc (.cells #[.int .i64 0, .bool false, .slice au nu cu, .string ⟨#[]⟩, .bool false] 26)).heap[yy.heap.size]? = some (.cells #[.int .i64 1, .bool sy, .slice ay ny cy, .string ⟨#[]⟩, .bool false] 26 (0, 0))) := kept5 hq By_5.out
  have Sy_6 : Hid (Sl (yu.alloc (.cells #[.int .i64 0, .bool false, .slice au nu cu, .string ⟨#[]⟩, .bool false] 26)) ay ny cy ly) := Sy_5.out.below hq (Nat.le_refl _)
  have Bp_6 : Hid ((yu.alloc (.cells #[.int .i64 0, .bool false, .slice au nu cu, .string ⟨#[]⟩, .bool false] 26)).heap[yp.heap.size]? = some (.cells #[.int .i64 1, .bool sp, .slice ap np cp, .string ⟨#[]⟩, .bool false] 26 (0, 0))) := kept5 hq Bp_5.out
  have Sp_6 : Hid (Sl (yu.alloc (.cells #[.int .i64 0, .bool false, .slice au nu cu, .string ⟨#[]⟩, .bool false] 26)) ap np cp lp) := Sp_5.out.below hq (Nat.le_refl _)
  have Bq_6 : Hid ((yu.alloc (.cells #[.int .i64 0, .bool false, .slice au nu cu, .string ⟨#[]⟩, .bool false] 26)).heap[yq.heap.size]? = some (.cells #[.int .i64 1, .bool sq, .slice aq nq cq, .string ⟨#[]⟩, .bool false] 26 (0, 0))) := kept5 hq Bq_5.out
  have Sq_6 : Hid (Sl (yu.alloc (.cells #[.int .i64 0, .bool false, .slice au nu cu, .string ⟨#[]⟩, .bool false] 26)) aq nq cq lq) := Sq_5.out.below hq (Nat.le_refl _)
  have Br_6 : Hid ((yu.alloc (.cells #[.int .i64 0, .bool false, .slice au nu cu, .string ⟨#[]⟩, .bool false] 26)).heap[yr.heap.size]? = some (.cells #[.int .i64 1, .bool sr, .slice ar nr cr, .string ⟨#[]⟩, .bool false] 26 (0, 0))) := kept5 hq Br_5.out
  have Sr_6 : Hid (Sl (yu.alloc (.cells #[.int .i64 0, .bool false, .slice au nu cu, .string ⟨#[]⟩, .bool false] 26)) ar nr cr lr) := Sr_5.out.below hq (Nat.le_refl _)
  clear HB_5 Bx_5 Sx_5 By_5 Sy_5 Bp_5 Sp_5 Bq_5 Sq_5 Br_5 Sr_5
  clear hq hb hi
  have kx := bx5 Bx_6.out
  have ky := bx5 By_6.out
  go_wp2_with fail
  refine (zrem0_any sx sy ax nx cx lx ay ny cy ly _ Sx_6.out Sy_6.out mx my UX.out.1 UX.out.2 U0.out).mono ?_
  rintro e yv ⟨⟨v, rfl, av, nv, cv, rfl, hi⟩, hb⟩
  dsimp only [noA]
  clear kx ky
  have hq := hb.trans (((Below.refl yv.heap.size yv).alloc (Nat.le_refl _) (.cells #[.int .i64 0, .bool false, .slice av nv cv, .string ⟨#[]⟩, .bool false] 26)).mono hb.size)
  have HB_7 : Hid (Below w.heap.size w (yv.alloc (.cells #[.int .i64 0, .bool false, .slice av nv cv, .string ⟨#[]⟩, .bool false] 26))) := HB_6.out.trans (hq.mono HB_6.out.size)
  have Bx_7 : Hid ((yv.alloc (.cells #[.int .i64 0, .bool false, .slice av nv cv, .string ⟨#[]⟩, .bool false] 26)).heap[yx.heap.size]? = some (.cells #[.int .i64 1, .bool sx, .slice ax nx cx, .string ⟨#[]⟩, .bool false] 26 (0, 0))) := kept5 hq Bx_6.out
  have Sx_7 : Hid (Sl (yv.alloc (.cells #[.int .i64 0, .bool false, .slice av nv cv, .string ⟨#[]⟩, .bool false] 26)) ax nx cx lx) := Sx_6.out.below hq (Nat.le_refl _)
  have By_7 : Hid ((yv.alloc (.cells #[.int .i64 0, .bool false, .slice av nv cv, .string ⟨#[]⟩, .bool false] 26)).heap[yy.heap.size]? = some (.cells #[.int .i64 1, .bool sy, .slice ay ny cy, .string ⟨#[]⟩, .bool false] 26 (0, 0))) := kept5 hq By_6.out
  have Sy_7 : Hid (Sl (yv.alloc (.cells #[.int .i64 0, .bool false, .slice av nv cv, .string ⟨#[]⟩, .bool false] 26)) ay ny cy ly) := Sy_6.out.below hq (Nat.le_refl _)
  have Bp_7 : Hid ((yv.alloc (.cells #[.int .i64 0, .bool false, .slice av nv cv, .string ⟨#[]⟩, .bool false] 26)).heap[yp.heap.size]? = some (.cells #[.int .i64 1, .bool sp, .slice ap np cp, .string ⟨#[]⟩, .bool false] 26 (0, 0))) := kept5 hq Bp_6.out
  have Sp_7 : Hid (Sl (yv.alloc (.cells #[.int .i64 0, .bool false, .slice av nv cv, .string ⟨#[]⟩, .bool false] 26)) ap np cp lp) := Sp_6.out.below hq (Nat.le_refl _)
  have Bq_7 : Hid ((yv.alloc (.cells #[.int .i64 0, .bool false, .slice av nv cv, .string ⟨#[]⟩, .bool false] 26)).heap[yq.heap.size]? = some (.cells #[.int .i64 1, .bool sq, .slice aq nq cq, .string ⟨#[]⟩, .bool false] 26 (0, 0))) := kept5 hq Bq_6.out
  have Sq_7 : Hid (Sl (yv.alloc (.cells #[.int .i64 0, .bool false, .slice av nv cv, .string ⟨#[]⟩, .bool false] 26)) aq nq cq lq) := Sq_6.out.below hq (Nat.le_refl _)
  have Br_7 : Hid ((yv.alloc (.cells #[.int .i64 0, .bool false, .slice av nv cv, .string ⟨#[]⟩, .bool false] 26)).heap[yr.heap.size]? = some (.cells #[.int .i64 1, .bool sr, .slice ar nr cr, .string ⟨#[]⟩, .bool false] 26 (0, 0))) := kept5 hq Br_6.out
  have Sr_7 : Hid (Sl (yv.alloc (.cells #[.int .i64 0, .bool false, .slice av nv cv, .string ⟨#[]⟩, .bool false] 26)) ar nr cr lr) := Sr_6.out.below hq (Nat.le_refl _)
  clear HB_6 Bx_6 Sx_6 By_6 Sy_6 Bp_6 Sp_6 Bq_6 Sq_6 Br_6 Sr_6
  clear hq hb hi
  go_wp2_with (go_at_call 8; refine (awake_any _).mono ?_; rintro e z9 ⟨rfl, hb⟩; have HBZ : Hid (Below w.heap.size w z9) := HB_7.out.trans (hb.mono HB_7.out.size); clear hb)
  go_ret
  exact ⟨rfl, HBZ.out⟩
theorem arith_any (a b : Int) (w : World) :
    Calls Tryd.prog 6 #[.int .i64 a, .int .i64 b] w fun e w' => e = .returned (.bool true) ∧ Below w.heap.size w w' := by
  by_cases h : -1000000 ≤ a ∧ a ≤ 1000000 ∧ -1000000 ≤ b ∧ b ≤ 1000000
  · by_cases h0 : b = 0
    · subst h0
      exact arith_zero a w h.1 h.2.1
    · exact arith_some a b w h.1 h.2.1 h.2.2.1 h.2.2.2 h0
  · exact arith_out a b w h
end Go.Proofs.YtfkkhabpnnealaaDoor

