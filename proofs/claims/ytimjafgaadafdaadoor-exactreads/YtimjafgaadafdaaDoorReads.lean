/-
  ExactReads' law, walked: any text.
-/
import Derived.Test.YtimjafgaadafdaaDoorReadF
import Derived.Test.YtimjafgaadafdaaDoorMath
namespace Go.Proofs.YtimjafgaadafdaaDoor
open Go.RowKit
attribute [local go_sem ↓] Go.wp_at_zero Go.wp_at_succ
theorem cutN_lt40 (N : Nat) : cutN N < 4294967296 ^ 40 := lim40 (cutN_lt N)
theorem eBig_or (N : Nat) : eBig N = 0 ∨ eBig N = 2 := by unfold eBig; split <;> simp
set_option maxHeartbeats 2000000 in
theorem reads_out (S : ByteArray) (w : World) (hm : S.size ≤ maxLen) (hc : 400 < S.size) :
    Calls Tryd.prog 6 #[.string S] w fun e w' => e = .returned (.bool true) ∧ Below w.heap.size w w' := by
  have hm2 : S.size ≤ 9223372036854775807 := by unfold maxLen at hm; omega
  clear hm
  have HB : Hid (Below w.heap.size w w) := Below.refl _ _
  go_enter Tryd.func6, Tryd.ntmps6
  go_wp2_with fail
  refine (awake_any _).mono ?_
  rintro e W1 ⟨rfl, hb⟩
  have HB : Hid (Below w.heap.size w W1) := HB.out.trans (hb.mono HB.out.size)
  clear hb
  go_wp2_with fail
  go_ret
  exact ⟨rfl, HB.out⟩
set_option maxHeartbeats 4000000 in
theorem reads_no (S : ByteArray) (w : World) (hc : S.size ≤ 400) (hN : ¬ NumP S) :
    Calls Tryd.prog 6 #[.string S] w fun e w' => e = .returned (.bool true) ∧ Below w.heap.size w w' := by
  have HN : Hid (¬ NumP S) := hN
  clear hN
  have HB : Hid (Below w.heap.size w w) := Below.refl _ _
  go_enter Tryd.func6, Tryd.ntmps6
  go_wp2_with fail
  refine (parse_no S _ (by omega) HN.out).mono ?_
  rintro e W1 ⟨rfl, hb⟩
  have HB : Hid (Below w.heap.size w W1) := HB.out.trans (hb.mono HB.out.size)
  clear hb
  have Ix : Hid (IntR W1 w.heap.size (.agg #[.bool false, .slice none 0 0]) false 0) := IntR.zero _ _
  go_wp2_with fail
  generalize hW : (World.alloc W1 _) = W2
  obtain ⟨xn, hb, hz⟩ := boxes1 W1 (.bool false) (.slice none 0 0) 24 hW
  clear hW hz
  have Xx : Hid (Box W2 (W1.heap.size) (.bool false) (.slice none 0 0)) := xn
  clear xn
  have Ix : Hid (IntR W2 w.heap.size (.agg #[.bool false, .slice none 0 0]) false 0) := Ix.out.below hb (Nat.le_refl _)
  have HB : Hid (Below w.heap.size w W2) := HB.out.trans (hb.mono HB.out.size)
  clear hb
  have pXx0 := Xx.out.z0
  have pXx1 := Xx.out.z1
  have tXx := Xx.out.lt
  go_wp2_with fail
  refine (rparse_no S _ (by omega) HN.out).mono ?_
  rintro e W3 ⟨rfl, hb⟩
  clear pXx0 pXx1 tXx
  have Ix : Hid (IntR W3 w.heap.size (.agg #[.bool false, .slice none 0 0]) false 0) := Ix.out.below hb (Nat.le_refl _)
  have Xx : Hid (Box W3 (W1.heap.size) (.bool false) (.slice none 0 0)) := Xx.out.below hb Xx.out.lt
  have HB : Hid (Below w.heap.size w W3) := HB.out.trans (hb.mono HB.out.size)
  clear hb
  have pXx0 := Xx.out.z0
  have pXx1 := Xx.out.z1
  have tXx := Xx.out.lt
  have Iy : Hid (IntR W3 W2.heap.size (.agg #[.bool false, .slice none 0 0]) false 0) := IntR.zero _ _
  go_wp2_with fail
  generalize hW : (World.alloc W3 _) = W4
  obtain ⟨xn, hb, hz⟩ := boxes1 W3 (.bool false) (.slice none 0 0) 24 hW
  clear hW hz
  have Xy : Hid (Box W4 (W3.heap.size) (.bool false) (.slice none 0 0)) := xn
  clear xn
  clear pXx0 pXx1 tXx
  have Ix : Hid (IntR W4 w.heap.size (.agg #[.bool false, .slice none 0 0]) false 0) := Ix.out.below hb (Nat.le_refl _)
  have Xx : Hid (Box W4 (W1.heap.size) (.bool false) (.slice none 0 0)) := Xx.out.below hb Xx.out.lt
  have Iy : Hid (IntR W4 W2.heap.size (.agg #[.bool false, .slice none 0 0]) false 0) := Iy.out.below hb (Nat.le_refl _)
  have HB : Hid (Below w.heap.size w W4) := HB.out.trans (hb.mono HB.out.size)
  clear hb
  have pXx0 := Xx.out.z0
  have pXx1 := Xx.out.z1
  have tXx := Xx.out.lt
  have pXy0 := Xy.out.z0
  have pXy1 := Xy.out.z1
  have tXy := Xy.out.lt
  go_wp2_with fail
  refine (whole_any Ix.out Iy.out).mono ?_
  rintro e W5 ⟨rfl, hb⟩
  clear pXx0 pXx1 tXx pXy0 pXy1 tXy
  have Ix : Hid (IntR W5 w.heap.size (.agg #[.bool false, .slice none 0 0]) false 0) := Ix.out.below hb (Nat.le_refl _)
  have Xx : Hid (Box W5 (W1.heap.size) (.bool false) (.slice none 0 0)) := Xx.out.below hb Xx.out.lt
  have Iy : Hid (IntR W5 W2.heap.size (.agg #[.bool false, .slice none 0 0]) false 0) := Iy.out.below hb (Nat.le_refl _)
  have Xy : Hid (Box W5 (W3.heap.size) (.bool false) (.slice none 0 0)) := Xy.out.below hb Xy.out.lt
  have HB : Hid (Below w.heap.size w W5) := HB.out.trans (hb.mono HB.out.size)
  clear hb
  have pXx0 := Xx.out.z0
  have pXx1 := Xx.out.z1
  have tXx := Xx.out.lt
  have pXy0 := Xy.out.z0
  have pXy1 := Xy.out.z1
  have tXy := Xy.out.lt
  go_wp2_with fail
  refine (awake_any _).mono ?_
  rintro e W6 ⟨rfl, hb⟩
  clear pXx0 pXx1 tXx pXy0 pXy1 tXy
  have Ix : Hid (IntR W6 w.heap.size (.agg #[.bool false, .slice none 0 0]) false 0) := Ix.out.below hb (Nat.le_refl _)
  have Xx : Hid (Box W6 (W1.heap.size) (.bool false) (.slice none 0 0)) := Xx.out.below hb Xx.out.lt
  have Iy : Hid (IntR W6 W2.heap.size (.agg #[.bool false, .slice none 0 0]) false 0) := Iy.out.below hb (Nat.le_refl _)
  have Xy : Hid (Box W6 (W3.heap.size) (.bool false) (.slice none 0 0)) := Xy.out.below hb Xy.out.lt
  have HB : Hid (Below w.heap.size w W6) := HB.out.trans (hb.mono HB.out.size)
  clear hb
  have pXx0 := Xx.out.z0
  have pXx1 := Xx.out.z1
  have tXx := Xx.out.lt
  have pXy0 := Xy.out.z0
  have pXy1 := Xy.out.z1
  have tXy := Xy.out.lt
  go_wp2_with fail
  go_ret
  exact ⟨rfl, HB.out⟩
set_option maxHeartbeats 4000000 in
theorem reads_big (S : ByteArray) (w : World) (hc : S.size ≤ 400) (hN : NumP S) (hE : eBig (vl 10 (dl S)) = 2) :
    Calls Tryd.prog 6 #[.string S] w fun e w' => e = .returned (.bool true) ∧ Below w.heap.size w w' := by
  have HN : Hid (NumP S) := hN
  have EG : Hid (eBig (vl 10 (dl S)) = 2) := hE
  clear hN hE
  have HB : Hid (Below w.heap.size w w) := Below.refl _ _
  go_enter Tryd.func6, Tryd.ntmps6
  go_wp2_with fail
  refine (parse_yes S _ (by omega) HN.out).mono ?_
  rintro e W1 ⟨⟨vx, rfl, hx⟩, hb⟩
  rw [EG.out]
  have HB : Hid (Below w.heap.size w W1) := HB.out.trans (hb.mono HB.out.size)
  clear hb
  have Ix := hx
  obtain ⟨ax, nx, cx, lx, rfl, hsx, hvx, mx⟩ := hx.open (cutN_lt40 _)
  clear hx
  have Ix : Hid (IntR W1 w.heap.size (.agg #[.bool false, .slice ax nx cx]) false (cutN (vl 10 (dl S)))) := Ix
  have Hx : Hid (Sl W1 ax nx cx lx) := hsx
  have Ex : Hid (vl 4294967296 lx = cutN (vl 10 (dl S))) := hvx
  clear hsx hvx
  go_wp2_with fail
  generalize hW : (World.alloc W1 _) = W2
  obtain ⟨xn, hb, hz⟩ := boxes1 W1 (.bool false) (.slice ax nx cx) 24 hW
  clear hW hz
  have Xx : Hid (Box W2 (W1.heap.size) (.bool false) (.slice ax nx cx)) := xn
  clear xn
  have Ix : Hid (IntR W2 w.heap.size (.agg #[.bool false, .slice ax nx cx]) false (cutN (vl 10 (dl S)))) := Ix.out.below hb (Nat.le_refl _)
  have Hx : Hid (Sl W2 ax nx cx lx) := Hx.out.below hb (Nat.le_refl _)
  have HB : Hid (Below w.heap.size w W2) := HB.out.trans (hb.mono HB.out.size)
  clear hb
  have pXx0 := Xx.out.z0
  have pXx1 := Xx.out.z1
  have tXx := Xx.out.lt
  go_wp2_with fail
  refine (rparse_yes S _ (by omega) HN.out).mono ?_
  rintro e W3 ⟨⟨vy, rfl, hy⟩, hb⟩
  rw [EG.out]
  clear pXx0 pXx1 tXx
  have Ix : Hid (IntR W3 w.heap.size (.agg #[.bool false, .slice ax nx cx]) false (cutN (vl 10 (dl S)))) := Ix.out.below hb (Nat.le_refl _)
  have Hx : Hid (Sl W3 ax nx cx lx) := Hx.out.below hb (Nat.le_refl _)
  have Xx : Hid (Box W3 (W1.heap.size) (.bool false) (.slice ax nx cx)) := Xx.out.below hb Xx.out.lt
  have HB : Hid (Below w.heap.size w W3) := HB.out.trans (hb.mono HB.out.size)
  clear hb
  have pXx0 := Xx.out.z0
  have pXx1 := Xx.out.z1
  have tXx := Xx.out.lt
  have Iy := hy
  obtain ⟨ay, ny, cy, ly, rfl, hsy, hvy, my⟩ := hy.open (cutN_lt40 _)
  clear hy
  have Iy : Hid (IntR W3 W2.heap.size (.agg #[.bool false, .slice ay ny cy]) false (cutN (vl 10 (dl S)))) := Iy
  have Hy : Hid (Sl W3 ay ny cy ly) := hsy
  have Ey : Hid (vl 4294967296 ly = cutN (vl 10 (dl S))) := hvy
  clear hsy hvy
  go_wp2_with fail
  generalize hW : (World.alloc W3 _) = W4
  obtain ⟨xn, hb, hz⟩ := boxes1 W3 (.bool false) (.slice ay ny cy) 24 hW
  clear hW hz
  have Xy : Hid (Box W4 (W3.heap.size) (.bool false) (.slice ay ny cy)) := xn
  clear xn
  clear pXx0 pXx1 tXx
  have Ix : Hid (IntR W4 w.heap.size (.agg #[.bool false, .slice ax nx cx]) false (cutN (vl 10 (dl S)))) := Ix.out.below hb (Nat.le_refl _)
  have Hx : Hid (Sl W4 ax nx cx lx) := Hx.out.below hb (Nat.le_refl _)
  have Xx : Hid (Box W4 (W1.heap.size) (.bool false) (.slice ax nx cx)) := Xx.out.below hb Xx.out.lt
  have Iy : Hid (IntR W4 W2.heap.size (.agg #[.bool false, .slice ay ny cy]) false (cutN (vl 10 (dl S)))) := Iy.out.below hb (Nat.le_refl _)
  have Hy : Hid (Sl W4 ay ny cy ly) := Hy.out.below hb (Nat.le_refl _)
  have HB : Hid (Below w.heap.size w W4) := HB.out.trans (hb.mono HB.out.size)
  clear hb
  have pXx0 := Xx.out.z0
  have pXx1 := Xx.out.z1
  have tXx := Xx.out.lt
  have pXy0 := Xy.out.z0
  have pXy1 := Xy.out.z1
  have tXy := Xy.out.lt
  go_wp2_with fail
  refine (whole_any Ix.out Iy.out).mono ?_
  rintro e W5 ⟨rfl, hb⟩
  clear pXx0 pXx1 tXx pXy0 pXy1 tXy
  have Ix : Hid (IntR W5 w.heap.size (.agg #[.bool false, .slice ax nx cx]) false (cutN (vl 10 (dl S)))) := Ix.out.below hb (Nat.le_refl _)
  have Hx : Hid (Sl W5 ax nx cx lx) := Hx.out.below hb (Nat.le_refl _)
  have Xx : Hid (Box W5 (W1.heap.size) (.bool false) (.slice ax nx cx)) := Xx.out.below hb Xx.out.lt
  have Iy : Hid (IntR W5 W2.heap.size (.agg #[.bool false, .slice ay ny cy]) false (cutN (vl 10 (dl S)))) := Iy.out.below hb (Nat.le_refl _)
  have Hy : Hid (Sl W5 ay ny cy ly) := Hy.out.below hb (Nat.le_refl _)
  have Xy : Hid (Box W5 (W3.heap.size) (.bool false) (.slice ay ny cy)) := Xy.out.below hb Xy.out.lt
  have HB : Hid (Below w.heap.size w W5) := HB.out.trans (hb.mono HB.out.size)
  clear hb
  have pXx0 := Xx.out.z0
  have pXx1 := Xx.out.z1
  have tXx := Xx.out.lt
  have pXy0 := Xy.out.z0
  have pXy1 := Xy.out.z1
  have tXy := Xy.out.lt
  go_wp2_with fail
  refine (awake_any _).mono ?_
  rintro e W6 ⟨rfl, hb⟩
  clear pXx0 pXx1 tXx pXy0 pXy1 tXy
  have Ix : Hid (IntR W6 w.heap.size (.agg #[.bool false, .slice ax nx cx]) false (cutN (vl 10 (dl S)))) := Ix.out.below hb (Nat.le_refl _)
  have Hx : Hid (Sl W6 ax nx cx lx) := Hx.out.below hb (Nat.le_refl _)
  have Xx : Hid (Box W6 (W1.heap.size) (.bool false) (.slice ax nx cx)) := Xx.out.below hb Xx.out.lt
  have Iy : Hid (IntR W6 W2.heap.size (.agg #[.bool false, .slice ay ny cy]) false (cutN (vl 10 (dl S)))) := Iy.out.below hb (Nat.le_refl _)
  have Hy : Hid (Sl W6 ay ny cy ly) := Hy.out.below hb (Nat.le_refl _)
  have Xy : Hid (Box W6 (W3.heap.size) (.bool false) (.slice ay ny cy)) := Xy.out.below hb Xy.out.lt
  have HB : Hid (Below w.heap.size w W6) := HB.out.trans (hb.mono HB.out.size)
  clear hb
  have pXx0 := Xx.out.z0
  have pXx1 := Xx.out.z1
  have tXx := Xx.out.lt
  have pXy0 := Xy.out.z0
  have pXy1 := Xy.out.z1
  have tXy := Xy.out.lt
  go_wp2_with fail
  go_ret
  exact ⟨rfl, HB.out⟩
set_option maxHeartbeats 4000000 in
theorem reads_ok (S : ByteArray) (w : World) (hc : S.size ≤ 400) (hN : NumP S) (hE : eBig (vl 10 (dl S)) = 0) :
    Calls Tryd.prog 6 #[.string S] w fun e w' => e = .returned (.bool true) ∧ Below w.heap.size w w' := by
  have HN : Hid (NumP S) := hN
  have EG : Hid (eBig (vl 10 (dl S)) = 0) := hE
  clear hN hE
  have HB : Hid (Below w.heap.size w w) := Below.refl _ _
  go_enter Tryd.func6, Tryd.ntmps6
  go_wp2_with fail
  refine (parse_yes S _ (by omega) HN.out).mono ?_
  rintro e W1 ⟨⟨vx, rfl, hx⟩, hb⟩
  rw [EG.out]
  have HB : Hid (Below w.heap.size w W1) := HB.out.trans (hb.mono HB.out.size)
  clear hb
  have Ix := hx
  obtain ⟨ax, nx, cx, lx, rfl, hsx, hvx, mx⟩ := hx.open (cutN_lt40 _)
  clear hx
  have Ix : Hid (IntR W1 w.heap.size (.agg #[.bool false, .slice ax nx cx]) false (cutN (vl 10 (dl S)))) := Ix
  have Hx : Hid (Sl W1 ax nx cx lx) := hsx
  have Ex : Hid (vl 4294967296 lx = cutN (vl 10 (dl S))) := hvx
  clear hsx hvx
  go_wp2_with fail
  generalize hW : (World.alloc W1 _) = W2
  obtain ⟨xn, hb, hz⟩ := boxes1 W1 (.bool false) (.slice ax nx cx) 24 hW
  clear hW hz
  have Xx : Hid (Box W2 (W1.heap.size) (.bool false) (.slice ax nx cx)) := xn
  clear xn
  have Ix : Hid (IntR W2 w.heap.size (.agg #[.bool false, .slice ax nx cx]) false (cutN (vl 10 (dl S)))) := Ix.out.below hb (Nat.le_refl _)
  have Hx : Hid (Sl W2 ax nx cx lx) := Hx.out.below hb (Nat.le_refl _)
  have HB : Hid (Below w.heap.size w W2) := HB.out.trans (hb.mono HB.out.size)
  clear hb
  have pXx0 := Xx.out.z0
  have pXx1 := Xx.out.z1
  have tXx := Xx.out.lt
  go_wp2_with fail
  refine (rparse_yes S _ (by omega) HN.out).mono ?_
  rintro e W3 ⟨⟨vy, rfl, hy⟩, hb⟩
  rw [EG.out]
  clear pXx0 pXx1 tXx
  have Ix : Hid (IntR W3 w.heap.size (.agg #[.bool false, .slice ax nx cx]) false (cutN (vl 10 (dl S)))) := Ix.out.below hb (Nat.le_refl _)
  have Hx : Hid (Sl W3 ax nx cx lx) := Hx.out.below hb (Nat.le_refl _)
  have Xx : Hid (Box W3 (W1.heap.size) (.bool false) (.slice ax nx cx)) := Xx.out.below hb Xx.out.lt
  have HB : Hid (Below w.heap.size w W3) := HB.out.trans (hb.mono HB.out.size)
  clear hb
  have pXx0 := Xx.out.z0
  have pXx1 := Xx.out.z1
  have tXx := Xx.out.lt
  have Iy := hy
  obtain ⟨ay, ny, cy, ly, rfl, hsy, hvy, my⟩ := hy.open (cutN_lt40 _)
  clear hy
  have Iy : Hid (IntR W3 W2.heap.size (.agg #[.bool false, .slice ay ny cy]) false (cutN (vl 10 (dl S)))) := Iy
  have Hy : Hid (Sl W3 ay ny cy ly) := hsy
  have Ey : Hid (vl 4294967296 ly = cutN (vl 10 (dl S))) := hvy
  clear hsy hvy
  go_wp2_with fail
  generalize hW : (World.alloc W3 _) = W4
  obtain ⟨xn, hb, hz⟩ := boxes1 W3 (.bool false) (.slice ay ny cy) 24 hW
  clear hW hz
  have Xy : Hid (Box W4 (W3.heap.size) (.bool false) (.slice ay ny cy)) := xn
  clear xn
  clear pXx0 pXx1 tXx
  have Ix : Hid (IntR W4 w.heap.size (.agg #[.bool false, .slice ax nx cx]) false (cutN (vl 10 (dl S)))) := Ix.out.below hb (Nat.le_refl _)
  have Hx : Hid (Sl W4 ax nx cx lx) := Hx.out.below hb (Nat.le_refl _)
  have Xx : Hid (Box W4 (W1.heap.size) (.bool false) (.slice ax nx cx)) := Xx.out.below hb Xx.out.lt
  have Iy : Hid (IntR W4 W2.heap.size (.agg #[.bool false, .slice ay ny cy]) false (cutN (vl 10 (dl S)))) := Iy.out.below hb (Nat.le_refl _)
  have Hy : Hid (Sl W4 ay ny cy ly) := Hy.out.below hb (Nat.le_refl _)
  have HB : Hid (Below w.heap.size w W4) := HB.out.trans (hb.mono HB.out.size)
  clear hb
  have pXx0 := Xx.out.z0
  have pXx1 := Xx.out.z1
  have tXx := Xx.out.lt
  have pXy0 := Xy.out.z0
  have pXy1 := Xy.out.z1
  have tXy := Xy.out.lt
  go_wp2_with fail
  refine (whole_any Ix.out Iy.out).mono ?_
  rintro e W5 ⟨rfl, hb⟩
  clear pXx0 pXx1 tXx pXy0 pXy1 tXy
  have Ix : Hid (IntR W5 w.heap.size (.agg #[.bool false, .slice ax nx cx]) false (cutN (vl 10 (dl S)))) := Ix.out.below hb (Nat.le_refl _)
  have Hx : Hid (Sl W5 ax nx cx lx) := Hx.out.below hb (Nat.le_refl _)
  have Xx : Hid (Box W5 (W1.heap.size) (.bool false) (.slice ax nx cx)) := Xx.out.below hb Xx.out.lt
  have Iy : Hid (IntR W5 W2.heap.size (.agg #[.bool false, .slice ay ny cy]) false (cutN (vl 10 (dl S)))) := Iy.out.below hb (Nat.le_refl _)
  have Hy : Hid (Sl W5 ay ny cy ly) := Hy.out.below hb (Nat.le_refl _)
  have Xy : Hid (Box W5 (W3.heap.size) (.bool false) (.slice ay ny cy)) := Xy.out.below hb Xy.out.lt
  have HB : Hid (Below w.heap.size w W5) := HB.out.trans (hb.mono HB.out.size)
  clear hb
  have pXx0 := Xx.out.z0
  have pXx1 := Xx.out.z1
  have tXx := Xx.out.lt
  have pXy0 := Xy.out.z0
  have pXy1 := Xy.out.z1
  have tXy := Xy.out.lt
  go_wp2_with fail
  refine (text_any false ax nx cx lx _ Hx.out (by omega)).mono ?_
  rintro e W6 ⟨tt, rfl, ht, hb⟩
  rw [Ex.out, eBig_zero EG.out] at ht
  have hts := HN.out.text ht
  rw [hts]
  clear hts ht
  clear pXx0 pXx1 tXx pXy0 pXy1 tXy
  have Ix : Hid (IntR W6 w.heap.size (.agg #[.bool false, .slice ax nx cx]) false (cutN (vl 10 (dl S)))) := Ix.out.below hb (Nat.le_refl _)
  have Hx : Hid (Sl W6 ax nx cx lx) := Hx.out.below hb (Nat.le_refl _)
  have Xx : Hid (Box W6 (W1.heap.size) (.bool false) (.slice ax nx cx)) := Xx.out.below hb Xx.out.lt
  have Iy : Hid (IntR W6 W2.heap.size (.agg #[.bool false, .slice ay ny cy]) false (cutN (vl 10 (dl S)))) := Iy.out.below hb (Nat.le_refl _)
  have Hy : Hid (Sl W6 ay ny cy ly) := Hy.out.below hb (Nat.le_refl _)
  have Xy : Hid (Box W6 (W3.heap.size) (.bool false) (.slice ay ny cy)) := Xy.out.below hb Xy.out.lt
  have HB : Hid (Below w.heap.size w W6) := HB.out.trans (hb.mono HB.out.size)
  clear hb
  have pXx0 := Xx.out.z0
  have pXx1 := Xx.out.z1
  have tXx := Xx.out.lt
  have pXy0 := Xy.out.z0
  have pXy1 := Xy.out.z1
  have tXy := Xy.out.lt
  go_wp2_with fail
  refine (awake_any _).mono ?_
  rintro e W7 ⟨rfl, hb⟩
  clear pXx0 pXx1 tXx pXy0 pXy1 tXy
  have Ix : Hid (IntR W7 w.heap.size (.agg #[.bool false, .slice ax nx cx]) false (cutN (vl 10 (dl S)))) := Ix.out.below hb (Nat.le_refl _)
  have Hx : Hid (Sl W7 ax nx cx lx) := Hx.out.below hb (Nat.le_refl _)
  have Xx : Hid (Box W7 (W1.heap.size) (.bool false) (.slice ax nx cx)) := Xx.out.below hb Xx.out.lt
  have Iy : Hid (IntR W7 W2.heap.size (.agg #[.bool false, .slice ay ny cy]) false (cutN (vl 10 (dl S)))) := Iy.out.below hb (Nat.le_refl _)
  have Hy : Hid (Sl W7 ay ny cy ly) := Hy.out.below hb (Nat.le_refl _)
  have Xy : Hid (Box W7 (W3.heap.size) (.bool false) (.slice ay ny cy)) := Xy.out.below hb Xy.out.lt
  have HB : Hid (Below w.heap.size w W7) := HB.out.trans (hb.mono HB.out.size)
  clear hb
  have pXx0 := Xx.out.z0
  have pXx1 := Xx.out.z1
  have tXx := Xx.out.lt
  have pXy0 := Xy.out.z0
  have pXy1 := Xy.out.z1
  have tXy := Xy.out.lt
  go_wp2_with fail
  go_ret
  exact ⟨rfl, HB.out⟩
theorem reads_any (S : ByteArray) (w : World) (hm : S.size ≤ maxLen) :
    Calls Tryd.prog 6 #[.string S] w fun e w' => e = .returned (.bool true) ∧ Below w.heap.size w w' := by
  by_cases hc : S.size ≤ 400
  · by_cases hN : NumP S
    · rcases eBig_or (vl 10 (dl S)) with hE | hE
      · exact reads_ok S w hc hN hE
      · exact reads_big S w hc hN hE
    · exact reads_no S w hc hN
  · exact reads_out S w hm (by omega)
end Go.Proofs.YtimjafgaadafdaaDoor
