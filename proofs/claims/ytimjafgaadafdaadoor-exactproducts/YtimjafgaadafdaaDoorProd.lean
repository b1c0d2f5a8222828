/-
  ExactProducts' law, walked: any two numbers.
-/
import Derived.Test.YtimjafgaadafdaaDoorRefD
namespace Go.Proofs.YtimjafgaadafdaaDoor
open Go.RowKit
attribute [local go_sem ↓] Go.wp_at_zero Go.wp_at_succ
set_option maxHeartbeats 2000000 in
theorem prod_out1 (s1 s2 : Bool) (a1 a2 : Option Addr) (n1 n2 c1 c2 : Nat) (l1 l2 : List Nat) (w : World) (h1 : Sl w a1 n1 c1 l1) (h2 : Sl w a2 n2 c2 l2) (g1 : a1 = none → c1 = 0) (g2 : a2 = none → c2 = 0) (hc : 40 < n1) :
    Calls Tryd.prog 4 #[.agg #[.bool s1, .slice a1 n1 c1], .agg #[.bool s2, .slice a2 n2 c2]] w fun e w' => e = .returned (.bool true) ∧ Below w.heap.size w w' := by
  have H1 : Hid (Sl w a1 n1 c1 l1) := h1
  have H2 : Hid (Sl w a2 n2 c2 l2) := h2
  have q1 := h1.mx
  have r1 := h1.lec
  have Z1 : Hid (a1 = none → c1 = 0) := g1
  have q2 := h2.mx
  have r2 := h2.lec
  have Z2 : Hid (a2 = none → c2 = 0) := g2
  clear h1 h2 g1 g2
  have HB : Hid (Below w.heap.size w w) := Below.refl _ _
  go_enter Tryd.func4, Tryd.ntmps4
  go_wp2_with fail
  generalize hW : (World.alloc _ _) = W1
  obtain ⟨x1, x2, hb, hz⟩ := boxes2 w (.bool s1) (.slice a1 n1 c1) (.bool s2) (.slice a2 n2 c2) 24 24 0 hW
  have X1 : Hid (Box W1 (w.heap.size) (.bool s1) (.slice a1 n1 c1)) := x1
  have X2 : Hid (Box W1 (w.heap.size + 1) (.bool s2) (.slice a2 n2 c2)) := x2
  clear hW x1 x2 hz
  have H1 : Hid (Sl W1 a1 n1 c1 l1) := H1.out.below hb (Nat.le_refl _)
  have H2 : Hid (Sl W1 a2 n2 c2 l2) := H2.out.below hb (Nat.le_refl _)
  have HB : Hid (Below w.heap.size w W1) := HB.out.trans (hb.mono HB.out.size)
  clear hb
  have p10 := X1.out.z0
  have p11 := X1.out.z1
  have t1 := X1.out.lt
  have p20 := X2.out.z0
  have p21 := X2.out.z1
  have t2 := X2.out.lt
  refine (in_any s1 a1 n1 c1 _ (by omega)).mono ?_
  rintro e W2 ⟨rfl, hb⟩
  rw [decide_eq_false (by omega)]
  clear p10 p11 t1 p20 p21 t2
  have X1 : Hid (Box W2 (w.heap.size) (.bool s1) (.slice a1 n1 c1)) := X1.out.below hb X1.out.lt
  have X2 : Hid (Box W2 (w.heap.size + 1) (.bool s2) (.slice a2 n2 c2)) := X2.out.below hb X2.out.lt
  have H1 : Hid (Sl W2 a1 n1 c1 l1) := H1.out.below hb (Nat.le_refl _)
  have H2 : Hid (Sl W2 a2 n2 c2 l2) := H2.out.below hb (Nat.le_refl _)
  have HB : Hid (Below w.heap.size w W2) := HB.out.trans (hb.mono HB.out.size)
  clear hb
  have p10 := X1.out.z0
  have p11 := X1.out.z1
  have t1 := X1.out.lt
  have p20 := X2.out.z0
  have p21 := X2.out.z1
  have t2 := X2.out.lt
  go_wp2_with fail
  refine (awake_any _).mono ?_
  rintro e W3 ⟨rfl, hb⟩
  clear p10 p11 t1 p20 p21 t2
  have X1 : Hid (Box W3 (w.heap.size) (.bool s1) (.slice a1 n1 c1)) := X1.out.below hb X1.out.lt
  have X2 : Hid (Box W3 (w.heap.size + 1) (.bool s2) (.slice a2 n2 c2)) := X2.out.below hb X2.out.lt
  have H1 : Hid (Sl W3 a1 n1 c1 l1) := H1.out.below hb (Nat.le_refl _)
  have H2 : Hid (Sl W3 a2 n2 c2 l2) := H2.out.below hb (Nat.le_refl _)
  have HB : Hid (Below w.heap.size w W3) := HB.out.trans (hb.mono HB.out.size)
  clear hb
  have p10 := X1.out.z0
  have p11 := X1.out.z1
  have t1 := X1.out.lt
  have p20 := X2.out.z0
  have p21 := X2.out.z1
  have t2 := X2.out.lt
  go_wp2_with fail
  go_ret
  exact ⟨rfl, HB.out⟩
set_option maxHeartbeats 2000000 in
theorem prod_out2 (s1 s2 : Bool) (a1 a2 : Option Addr) (n1 n2 c1 c2 : Nat) (l1 l2 : List Nat) (w : World) (h1 : Sl w a1 n1 c1 l1) (h2 : Sl w a2 n2 c2 l2) (g1 : a1 = none → c1 = 0) (g2 : a2 = none → c2 = 0) (hc : n1 ≤ 40 ∧ 40 < n2) :
    Calls Tryd.prog 4 #[.agg #[.bool s1, .slice a1 n1 c1], .agg #[.bool s2, .slice a2 n2 c2]] w fun e w' => e = .returned (.bool true) ∧ Below w.heap.size w w' := by
  have H1 : Hid (Sl w a1 n1 c1 l1) := h1
  have H2 : Hid (Sl w a2 n2 c2 l2) := h2
  have q1 := h1.mx
  have r1 := h1.lec
  have Z1 : Hid (a1 = none → c1 = 0) := g1
  have q2 := h2.mx
  have r2 := h2.lec
  have Z2 : Hid (a2 = none → c2 = 0) := g2
  clear h1 h2 g1 g2
  have HB : Hid (Below w.heap.size w w) := Below.refl _ _
  go_enter Tryd.func4, Tryd.ntmps4
  go_wp2_with fail
  generalize hW : (World.alloc _ _) = W1
  obtain ⟨x1, x2, hb, hz⟩ := boxes2 w (.bool s1) (.slice a1 n1 c1) (.bool s2) (.slice a2 n2 c2) 24 24 0 hW
  have X1 : Hid (Box W1 (w.heap.size) (.bool s1) (.slice a1 n1 c1)) := x1
  have X2 : Hid (Box W1 (w.heap.size + 1) (.bool s2) (.slice a2 n2 c2)) := x2
  clear hW x1 x2 hz
  have H1 : Hid (Sl W1 a1 n1 c1 l1) := H1.out.below hb (Nat.le_refl _)
  have H2 : Hid (Sl W1 a2 n2 c2 l2) := H2.out.below hb (Nat.le_refl _)
  have HB : Hid (Below w.heap.size w W1) := HB.out.trans (hb.mono HB.out.size)
  clear hb
  have p10 := X1.out.z0
  have p11 := X1.out.z1
  have t1 := X1.out.lt
  have p20 := X2.out.z0
  have p21 := X2.out.z1
  have t2 := X2.out.lt
  refine (in_any s1 a1 n1 c1 _ (by omega)).mono ?_
  rintro e W2 ⟨rfl, hb⟩
  rw [decide_eq_true (by omega)]
  clear p10 p11 t1 p20 p21 t2
  have X1 : Hid (Box W2 (w.heap.size) (.bool s1) (.slice a1 n1 c1)) := X1.out.below hb X1.out.lt
  have X2 : Hid (Box W2 (w.heap.size + 1) (.bool s2) (.slice a2 n2 c2)) := X2.out.below hb X2.out.lt
  have H1 : Hid (Sl W2 a1 n1 c1 l1) := H1.out.below hb (Nat.le_refl _)
  have H2 : Hid (Sl W2 a2 n2 c2 l2) := H2.out.below hb (Nat.le_refl _)
  have HB : Hid (Below w.heap.size w W2) := HB.out.trans (hb.mono HB.out.size)
  clear hb
  have p10 := X1.out.z0
  have p11 := X1.out.z1
  have t1 := X1.out.lt
  have p20 := X2.out.z0
  have p21 := X2.out.z1
  have t2 := X2.out.lt
  go_wp2_with fail
  refine (in_any s2 a2 n2 c2 _ (by omega)).mono ?_
  rintro e W3 ⟨rfl, hb⟩
  rw [decide_eq_false (by omega)]
  clear p10 p11 t1 p20 p21 t2
  have X1 : Hid (Box W3 (w.heap.size) (.bool s1) (.slice a1 n1 c1)) := X1.out.below hb X1.out.lt
  have X2 : Hid (Box W3 (w.heap.size + 1) (.bool s2) (.slice a2 n2 c2)) := X2.out.below hb X2.out.lt
  have H1 : Hid (Sl W3 a1 n1 c1 l1) := H1.out.below hb (Nat.le_refl _)
  have H2 : Hid (Sl W3 a2 n2 c2 l2) := H2.out.below hb (Nat.le_refl _)
  have HB : Hid (Below w.heap.size w W3) := HB.out.trans (hb.mono HB.out.size)
  clear hb
  have p10 := X1.out.z0
  have p11 := X1.out.z1
  have t1 := X1.out.lt
  have p20 := X2.out.z0
  have p21 := X2.out.z1
  have t2 := X2.out.lt
  go_wp2_with fail
  refine (awake_any _).mono ?_
  rintro e W4 ⟨rfl, hb⟩
  clear p10 p11 t1 p20 p21 t2
  have X1 : Hid (Box W4 (w.heap.size) (.bool s1) (.slice a1 n1 c1)) := X1.out.below hb X1.out.lt
  have X2 : Hid (Box W4 (w.heap.size + 1) (.bool s2) (.slice a2 n2 c2)) := X2.out.below hb X2.out.lt
  have H1 : Hid (Sl W4 a1 n1 c1 l1) := H1.out.below hb (Nat.le_refl _)
  have H2 : Hid (Sl W4 a2 n2 c2 l2) := H2.out.below hb (Nat.le_refl _)
  have HB : Hid (Below w.heap.size w W4) := HB.out.trans (hb.mono HB.out.size)
  clear hb
  have p10 := X1.out.z0
  have p11 := X1.out.z1
  have t1 := X1.out.lt
  have p20 := X2.out.z0
  have p21 := X2.out.z1
  have t2 := X2.out.lt
  go_wp2_with fail
  go_ret
  exact ⟨rfl, HB.out⟩
set_option maxHeartbeats 4000000 in
theorem prod_in (s1 s2 : Bool) (a1 a2 : Option Addr) (n1 n2 c1 c2 : Nat) (l1 l2 : List Nat) (w : World) (h1 : Sl w a1 n1 c1 l1) (h2 : Sl w a2 n2 c2 l2) (g1 : a1 = none → c1 = 0) (g2 : a2 = none → c2 = 0) (m1 : n1 ≤ 40) (m2 : n2 ≤ 40) :
    Calls Tryd.prog 4 #[.agg #[.bool s1, .slice a1 n1 c1], .agg #[.bool s2, .slice a2 n2 c2]] w fun e w' => e = .returned (.bool true) ∧ Below w.heap.size w w' := by
  have H1 : Hid (Sl w a1 n1 c1 l1) := h1
  have H2 : Hid (Sl w a2 n2 c2 l2) := h2
  have q1 := h1.mx
  have r1 := h1.lec
  have Z1 : Hid (a1 = none → c1 = 0) := g1
  have q2 := h2.mx
  have r2 := h2.lec
  have Z2 : Hid (a2 = none → c2 = 0) := g2
  clear h1 h2 g1 g2
  have HB : Hid (Below w.heap.size w w) := Below.refl _ _
  obtain ⟨sg, hsg⟩ : ∃ sg, mulS s1 (vl 4294967296 l1) s2 (vl 4294967296 l2) = sg := ⟨_, rfl⟩
  obtain ⟨eg, heg⟩ : ∃ eg, mulE (vl 4294967296 l1) (vl 4294967296 l2) = eg := ⟨_, rfl⟩
  have SG : Hid (mulS s1 (vl 4294967296 l1) s2 (vl 4294967296 l2) = sg) := hsg
  have EG : Hid (mulE (vl 4294967296 l1) (vl 4294967296 l2) = eg) := heg
  clear hsg heg
  go_enter Tryd.func4, Tryd.ntmps4
  go_wp2_with fail
  generalize hW : (World.alloc _ _) = W1
  obtain ⟨x1, x2, hb, hz⟩ := boxes2 w (.bool s1) (.slice a1 n1 c1) (.bool s2) (.slice a2 n2 c2) 24 24 0 hW
  have X1 : Hid (Box W1 (w.heap.size) (.bool s1) (.slice a1 n1 c1)) := x1
  have X2 : Hid (Box W1 (w.heap.size + 1) (.bool s2) (.slice a2 n2 c2)) := x2
  clear hW x1 x2 hz
  have H1 : Hid (Sl W1 a1 n1 c1 l1) := H1.out.below hb (Nat.le_refl _)
  have H2 : Hid (Sl W1 a2 n2 c2 l2) := H2.out.below hb (Nat.le_refl _)
  have HB : Hid (Below w.heap.size w W1) := HB.out.trans (hb.mono HB.out.size)
  clear hb
  have p10 := X1.out.z0
  have p11 := X1.out.z1
  have t1 := X1.out.lt
  have p20 := X2.out.z0
  have p21 := X2.out.z1
  have t2 := X2.out.lt
  refine (in_any s1 a1 n1 c1 _ (by omega)).mono ?_
  rintro e W2 ⟨rfl, hb⟩
  rw [decide_eq_true (by omega)]
  clear p10 p11 t1 p20 p21 t2
  have X1 : Hid (Box W2 (w.heap.size) (.bool s1) (.slice a1 n1 c1)) := X1.out.below hb X1.out.lt
  have X2 : Hid (Box W2 (w.heap.size + 1) (.bool s2) (.slice a2 n2 c2)) := X2.out.below hb X2.out.lt
  have H1 : Hid (Sl W2 a1 n1 c1 l1) := H1.out.below hb (Nat.le_refl _)
  have H2 : Hid (Sl W2 a2 n2 c2 l2) := H2.out.below hb (Nat.le_refl _)
  have HB : Hid (Below w.heap.size w W2) := HB.out.trans (hb.mono HB.out.size)
  clear hb
  have p10 := X1.out.z0
  have p11 := X1.out.z1
  have t1 := X1.out.lt
  have p20 := X2.out.z0
  have p21 := X2.out.z1
  have t2 := X2.out.lt
  go_wp2_with fail
  refine (in_any s2 a2 n2 c2 _ (by omega)).mono ?_
  rintro e W3 ⟨rfl, hb⟩
  rw [decide_eq_true (by omega)]
  clear p10 p11 t1 p20 p21 t2
  have X1 : Hid (Box W3 (w.heap.size) (.bool s1) (.slice a1 n1 c1)) := X1.out.below hb X1.out.lt
  have X2 : Hid (Box W3 (w.heap.size + 1) (.bool s2) (.slice a2 n2 c2)) := X2.out.below hb X2.out.lt
  have H1 : Hid (Sl W3 a1 n1 c1 l1) := H1.out.below hb (Nat.le_refl _)
  have H2 : Hid (Sl W3 a2 n2 c2 l2) := H2.out.below hb (Nat.le_refl _)
  have HB : Hid (Below w.heap.size w W3) := HB.out.trans (hb.mono HB.out.size)
  clear hb
  have p10 := X1.out.z0
  have p11 := X1.out.z1
  have t1 := X1.out.lt
  have p20 := X2.out.z0
  have p21 := X2.out.z1
  have t2 := X2.out.lt
  go_wp2_with fail
  refine (mul_any s1 s2 a1 n1 c1 l1 a2 n2 c2 l2 _ H1.out H2.out (by omega) (by omega)).mono ?_
  rintro e W4 ⟨⟨v, rfl, hx⟩, hb⟩
  rw [SG.out] at hx
  rw [EG.out]
  clear p10 p11 t1 p20 p21 t2
  have X1 : Hid (Box W4 (w.heap.size) (.bool s1) (.slice a1 n1 c1)) := X1.out.below hb X1.out.lt
  have X2 : Hid (Box W4 (w.heap.size + 1) (.bool s2) (.slice a2 n2 c2)) := X2.out.below hb X2.out.lt
  have H1 : Hid (Sl W4 a1 n1 c1 l1) := H1.out.below hb (Nat.le_refl _)
  have H2 : Hid (Sl W4 a2 n2 c2 l2) := H2.out.below hb (Nat.le_refl _)
  have HB : Hid (Below w.heap.size w W4) := HB.out.trans (hb.mono HB.out.size)
  clear hb
  have p10 := X1.out.z0
  have p11 := X1.out.z1
  have t1 := X1.out.lt
  have p20 := X2.out.z0
  have p21 := X2.out.z1
  have t2 := X2.out.lt
  have Ix := hx
  obtain ⟨ax, nx, cx, lx, rfl, hs, hv, mx⟩ := hx.open (mulV_lt _ _)
  have Hx : Hid (Sl W4 ax nx cx lx) := hs
  have Ex : Hid (vl 4294967296 lx = mulV (vl 4294967296 l1) (vl 4294967296 l2)) := hv
  clear hs hv hx
  have Ix : Hid (IntR W4 _ _ _ _) := Ix
  go_wp2_with fail
  generalize hW : (World.alloc W4 _) = W5
  obtain ⟨xn, hb, hz⟩ := boxes1 W4 (.bool sg) (.slice ax nx cx) 24 hW
  have Xx : Hid (Box W5 (W4.heap.size) (.bool sg) (.slice ax nx cx)) := xn
  clear hW xn hz
  clear p10 p11 t1 p20 p21 t2
  have Ix : Hid (IntR W5 _ _ _ _) := Ix.out.below hb (Nat.le_refl _)
  have X1 : Hid (Box W5 (w.heap.size) (.bool s1) (.slice a1 n1 c1)) := X1.out.below hb X1.out.lt
  have X2 : Hid (Box W5 (w.heap.size + 1) (.bool s2) (.slice a2 n2 c2)) := X2.out.below hb X2.out.lt
  have H1 : Hid (Sl W5 a1 n1 c1 l1) := H1.out.below hb (Nat.le_refl _)
  have H2 : Hid (Sl W5 a2 n2 c2 l2) := H2.out.below hb (Nat.le_refl _)
  have Hx : Hid (Sl W5 ax nx cx lx) := Hx.out.below hb (Nat.le_refl _)
  have HB : Hid (Below w.heap.size w W5) := HB.out.trans (hb.mono HB.out.size)
  clear hb
  have p10 := X1.out.z0
  have p11 := X1.out.z1
  have t1 := X1.out.lt
  have p20 := X2.out.z0
  have p21 := X2.out.z1
  have t2 := X2.out.lt
  have px0 := Xx.out.z0
  have px1 := Xx.out.z1
  have tx := Xx.out.lt
  go_wp2_with fail
  refine (rmul_any s1 s2 a1 n1 c1 l1 a2 n2 c2 l2 _ H1.out H2.out Z1.out Z2.out (by omega) (by omega)).mono ?_
  rintro e W6 ⟨⟨v, rfl, hy⟩, hb⟩
  rw [SG.out] at hy
  rw [EG.out]
  clear p10 p11 t1 p20 p21 t2 px0 px1 tx
  have Ix : Hid (IntR W6 _ _ _ _) := Ix.out.below hb (Nat.le_refl _)
  have X1 : Hid (Box W6 (w.heap.size) (.bool s1) (.slice a1 n1 c1)) := X1.out.below hb X1.out.lt
  have X2 : Hid (Box W6 (w.heap.size + 1) (.bool s2) (.slice a2 n2 c2)) := X2.out.below hb X2.out.lt
  have Xx : Hid (Box W6 (W4.heap.size) (.bool sg) (.slice ax nx cx)) := Xx.out.below hb Xx.out.lt
  have H1 : Hid (Sl W6 a1 n1 c1 l1) := H1.out.below hb (Nat.le_refl _)
  have H2 : Hid (Sl W6 a2 n2 c2 l2) := H2.out.below hb (Nat.le_refl _)
  have Hx : Hid (Sl W6 ax nx cx lx) := Hx.out.below hb (Nat.le_refl _)
  have HB : Hid (Below w.heap.size w W6) := HB.out.trans (hb.mono HB.out.size)
  clear hb
  have p10 := X1.out.z0
  have p11 := X1.out.z1
  have t1 := X1.out.lt
  have p20 := X2.out.z0
  have p21 := X2.out.z1
  have t2 := X2.out.lt
  have px0 := Xx.out.z0
  have px1 := Xx.out.z1
  have tx := Xx.out.lt
  have Iy := hy
  obtain ⟨ay, ny, cy, ly, rfl, hs, hv, my⟩ := hy.open (mulV_lt _ _)
  have Hy : Hid (Sl W6 ay ny cy ly) := hs
  have Ey : Hid (vl 4294967296 ly = mulV (vl 4294967296 l1) (vl 4294967296 l2)) := hv
  clear hs hv hy
  have Iy : Hid (IntR W6 _ _ _ _) := Iy
  go_wp2_with fail
  generalize hW : (World.alloc W6 _) = W7
  obtain ⟨xn, hb, hz⟩ := boxes1 W6 (.bool sg) (.slice ay ny cy) 24 hW
  have Xy : Hid (Box W7 (W6.heap.size) (.bool sg) (.slice ay ny cy)) := xn
  clear hW xn hz
  clear p10 p11 t1 p20 p21 t2 px0 px1 tx
  have Ix : Hid (IntR W7 _ _ _ _) := Ix.out.below hb (Nat.le_refl _)
  have Iy : Hid (IntR W7 _ _ _ _) := Iy.out.below hb (Nat.le_refl _)
  have X1 : Hid (Box W7 (w.heap.size) (.bool s1) (.slice a1 n1 c1)) := X1.out.below hb X1.out.lt
  have X2 : Hid (Box W7 (w.heap.size + 1) (.bool s2) (.slice a2 n2 c2)) := X2.out.below hb X2.out.lt
  have Xx : Hid (Box W7 (W4.heap.size) (.bool sg) (.slice ax nx cx)) := Xx.out.below hb Xx.out.lt
  have H1 : Hid (Sl W7 a1 n1 c1 l1) := H1.out.below hb (Nat.le_refl _)
  have H2 : Hid (Sl W7 a2 n2 c2 l2) := H2.out.below hb (Nat.le_refl _)
  have Hx : Hid (Sl W7 ax nx cx lx) := Hx.out.below hb (Nat.le_refl _)
  have Hy : Hid (Sl W7 ay ny cy ly) := Hy.out.below hb (Nat.le_refl _)
  have HB : Hid (Below w.heap.size w W7) := HB.out.trans (hb.mono HB.out.size)
  clear hb
  have p10 := X1.out.z0
  have p11 := X1.out.z1
  have t1 := X1.out.lt
  have p20 := X2.out.z0
  have p21 := X2.out.z1
  have t2 := X2.out.lt
  have px0 := Xx.out.z0
  have px1 := Xx.out.z1
  have tx := Xx.out.lt
  have py0 := Xy.out.z0
  have py1 := Xy.out.z1
  have ty := Xy.out.lt
  go_wp2_with fail
  refine (whole_any Ix.out Iy.out).mono ?_
  rintro e W8 ⟨rfl, hb⟩
  clear p10 p11 t1 p20 p21 t2 px0 px1 tx py0 py1 ty
  have Ix : Hid (IntR W8 _ _ _ _) := Ix.out.below hb (Nat.le_refl _)
  have Iy : Hid (IntR W8 _ _ _ _) := Iy.out.below hb (Nat.le_refl _)
  have X1 : Hid (Box W8 (w.heap.size) (.bool s1) (.slice a1 n1 c1)) := X1.out.below hb X1.out.lt
  have X2 : Hid (Box W8 (w.heap.size + 1) (.bool s2) (.slice a2 n2 c2)) := X2.out.below hb X2.out.lt
  have Xx : Hid (Box W8 (W4.heap.size) (.bool sg) (.slice ax nx cx)) := Xx.out.below hb Xx.out.lt
  have Xy : Hid (Box W8 (W6.heap.size) (.bool sg) (.slice ay ny cy)) := Xy.out.below hb Xy.out.lt
  have H1 : Hid (Sl W8 a1 n1 c1 l1) := H1.out.below hb (Nat.le_refl _)
  have H2 : Hid (Sl W8 a2 n2 c2 l2) := H2.out.below hb (Nat.le_refl _)
  have Hx : Hid (Sl W8 ax nx cx lx) := Hx.out.below hb (Nat.le_refl _)
  have Hy : Hid (Sl W8 ay ny cy ly) := Hy.out.below hb (Nat.le_refl _)
  have HB : Hid (Below w.heap.size w W8) := HB.out.trans (hb.mono HB.out.size)
  clear hb
  have p10 := X1.out.z0
  have p11 := X1.out.z1
  have t1 := X1.out.lt
  have p20 := X2.out.z0
  have p21 := X2.out.z1
  have t2 := X2.out.lt
  have px0 := Xx.out.z0
  have px1 := Xx.out.z1
  have tx := Xx.out.lt
  have py0 := Xy.out.z0
  have py1 := Xy.out.z1
  have ty := Xy.out.lt
  go_wp2_with fail
  refine (awake_any _).mono ?_
  rintro e W9 ⟨rfl, hb⟩
  clear p10 p11 t1 p20 p21 t2 px0 px1 tx py0 py1 ty
  have Ix : Hid (IntR W9 _ _ _ _) := Ix.out.below hb (Nat.le_refl _)
  have Iy : Hid (IntR W9 _ _ _ _) := Iy.out.below hb (Nat.le_refl _)
  have X1 : Hid (Box W9 (w.heap.size) (.bool s1) (.slice a1 n1 c1)) := X1.out.below hb X1.out.lt
  have X2 : Hid (Box W9 (w.heap.size + 1) (.bool s2) (.slice a2 n2 c2)) := X2.out.below hb X2.out.lt
  have Xx : Hid (Box W9 (W4.heap.size) (.bool sg) (.slice ax nx cx)) := Xx.out.below hb Xx.out.lt
  have Xy : Hid (Box W9 (W6.heap.size) (.bool sg) (.slice ay ny cy)) := Xy.out.below hb Xy.out.lt
  have H1 : Hid (Sl W9 a1 n1 c1 l1) := H1.out.below hb (Nat.le_refl _)
  have H2 : Hid (Sl W9 a2 n2 c2 l2) := H2.out.below hb (Nat.le_refl _)
  have Hx : Hid (Sl W9 ax nx cx lx) := Hx.out.below hb (Nat.le_refl _)
  have Hy : Hid (Sl W9 ay ny cy ly) := Hy.out.below hb (Nat.le_refl _)
  have HB : Hid (Below w.heap.size w W9) := HB.out.trans (hb.mono HB.out.size)
  clear hb
  have p10 := X1.out.z0
  have p11 := X1.out.z1
  have t1 := X1.out.lt
  have p20 := X2.out.z0
  have p21 := X2.out.z1
  have t2 := X2.out.lt
  have px0 := Xx.out.z0
  have px1 := Xx.out.z1
  have tx := Xx.out.lt
  have py0 := Xy.out.z0
  have py1 := Xy.out.z1
  have ty := Xy.out.lt
  go_wp2_with fail
  go_ret
  exact ⟨rfl, HB.out⟩
theorem prod_any (s1 s2 : Bool) (a1 a2 : Option Addr) (n1 n2 c1 c2 : Nat) (l1 l2 : List Nat) (w : World) (h1 : Sl w a1 n1 c1 l1) (h2 : Sl w a2 n2 c2 l2) (g1 : a1 = none → c1 = 0) (g2 : a2 = none → c2 = 0) :
    Calls Tryd.prog 4 #[.agg #[.bool s1, .slice a1 n1 c1], .agg #[.bool s2, .slice a2 n2 c2]] w fun e w' => e = .returned (.bool true) ∧ Below w.heap.size w w' := by
  by_cases b1 : 40 < n1
  · exact prod_out1 s1 s2 a1 a2 n1 n2 c1 c2 l1 l2 w h1 h2 g1 g2 b1
  by_cases b2 : 40 < n2
  · exact prod_out2 s1 s2 a1 a2 n1 n2 c1 c2 l1 l2 w h1 h2 g1 g2 (by omega)
  exact prod_in s1 s2 a1 a2 n1 n2 c1 c2 l1 l2 w h1 h2 g1 g2 (by omega) (by omega)
end Go.Proofs.YtimjafgaadafdaaDoor
