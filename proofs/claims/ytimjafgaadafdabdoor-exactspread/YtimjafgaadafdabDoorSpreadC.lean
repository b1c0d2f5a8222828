/-
  ExactSpread's law, walked: any three numbers (looked at).
-/
import Derived.Test.YtimjafgaadafdabDoorSpreadA
namespace Go.Proofs.YtimjafgaadafdabDoor
open Go.RowKit
attribute [local go_sem ↓] Go.wp_at_zero Go.wp_at_succ
set_option maxHeartbeats 4000000 in
theorem spread_in (s1 s2 s3 : Bool) (a1 a2 a3 : Option Addr) (n1 n2 n3 c1 c2 c3 : Nat) (l1 l2 l3 : List Nat) (w : World) (h1 : Sl w a1 n1 c1 l1) (h2 : Sl w a2 n2 c2 l2) (h3 : Sl w a3 n3 c3 l3) (m1 : n1 ≤ 4) (m2 : n2 ≤ 4) (m3 : n3 ≤ 4) :
    Calls Tryd.prog 4 #[.agg #[.bool s1, .slice a1 n1 c1], .agg #[.bool s2, .slice a2 n2 c2], .agg #[.bool s3, .slice a3 n3 c3]] w fun e w' => e = .returned (.bool true) ∧ Below w.heap.size w w' := by
  have H1 : Hid (Sl w a1 n1 c1 l1) := h1
  have H2 : Hid (Sl w a2 n2 c2 l2) := h2
  have H3 : Hid (Sl w a3 n3 c3 l3) := h3
  have q1 := h1.mx
  have r1 := h1.lec
  have q2 := h2.mx
  have r2 := h2.lec
  have q3 := h3.mx
  have r3 := h3.lec
  have B1 : Hid (vl 4294967296 l1 < 4294967296 ^ 4) := val_lt h1 m1
  have B2 : Hid (vl 4294967296 l2 < 4294967296 ^ 4) := val_lt h2 m2
  have B3 : Hid (vl 4294967296 l3 < 4294967296 ^ 4) := val_lt h3 m3
  clear h1 h2 h3
  have HB : Hid (Below w.heap.size w w) := Below.refl _ _
  go_enter Tryd.func4, Tryd.ntmps4
  go_wp2_with fail
  generalize hW : (World.alloc _ _) = W1
  obtain ⟨x1, x2, x3, hb, hz⟩ := boxes3 w (.bool s1) (.slice a1 n1 c1) (.bool s2) (.slice a2 n2 c2) (.bool s3) (.slice a3 n3 c3) 24 24 24 0 hW
  have X1 : Hid (Box W1 (w.heap.size) (.bool s1) (.slice a1 n1 c1)) := x1
  have X2 : Hid (Box W1 (w.heap.size + 1) (.bool s2) (.slice a2 n2 c2)) := x2
  have X3 : Hid (Box W1 (w.heap.size + 1 + 1) (.bool s3) (.slice a3 n3 c3)) := x3
  clear hW x1 x2 x3 hz
  have H1 : Hid (Sl W1 a1 n1 c1 l1) := H1.out.below hb (Nat.le_refl _)
  have H2 : Hid (Sl W1 a2 n2 c2 l2) := H2.out.below hb (Nat.le_refl _)
  have H3 : Hid (Sl W1 a3 n3 c3 l3) := H3.out.below hb (Nat.le_refl _)
  have HB : Hid (Below w.heap.size w W1) := HB.out.trans (hb.mono HB.out.size)
  clear hb
  have p10 := X1.out.z0
  have p11 := X1.out.z1
  have t1 := X1.out.lt
  have p20 := X2.out.z0
  have p21 := X2.out.z1
  have t2 := X2.out.lt
  have p30 := X3.out.z0
  have p31 := X3.out.z1
  have t3 := X3.out.lt
  refine (in_any s1 a1 n1 c1 _ (by omega)).mono ?_
  rintro e W2 ⟨rfl, hb⟩
  rw [decide_eq_true (by omega)]
  clear p10 p11 t1 p20 p21 t2 p30 p31 t3
  have X1 : Hid (Box W2 (w.heap.size) (.bool s1) (.slice a1 n1 c1)) := X1.out.below hb X1.out.lt
  have X2 : Hid (Box W2 (w.heap.size + 1) (.bool s2) (.slice a2 n2 c2)) := X2.out.below hb X2.out.lt
  have X3 : Hid (Box W2 (w.heap.size + 1 + 1) (.bool s3) (.slice a3 n3 c3)) := X3.out.below hb X3.out.lt
  have H1 : Hid (Sl W2 a1 n1 c1 l1) := H1.out.below hb (Nat.le_refl _)
  have H2 : Hid (Sl W2 a2 n2 c2 l2) := H2.out.below hb (Nat.le_refl _)
  have H3 : Hid (Sl W2 a3 n3 c3 l3) := H3.out.below hb (Nat.le_refl _)
  have HB : Hid (Below w.heap.size w W2) := HB.out.trans (hb.mono HB.out.size)
  clear hb
  have p10 := X1.out.z0
  have p11 := X1.out.z1
  have t1 := X1.out.lt
  have p20 := X2.out.z0
  have p21 := X2.out.z1
  have t2 := X2.out.lt
  have p30 := X3.out.z0
  have p31 := X3.out.z1
  have t3 := X3.out.lt
  go_wp2_with fail
  refine (in_any s2 a2 n2 c2 _ (by omega)).mono ?_
  rintro e W3 ⟨rfl, hb⟩
  rw [decide_eq_true (by omega)]
  clear p10 p11 t1 p20 p21 t2 p30 p31 t3
  have X1 : Hid (Box W3 (w.heap.size) (.bool s1) (.slice a1 n1 c1)) := X1.out.below hb X1.out.lt
  have X2 : Hid (Box W3 (w.heap.size + 1) (.bool s2) (.slice a2 n2 c2)) := X2.out.below hb X2.out.lt
  have X3 : Hid (Box W3 (w.heap.size + 1 + 1) (.bool s3) (.slice a3 n3 c3)) := X3.out.below hb X3.out.lt
  have H1 : Hid (Sl W3 a1 n1 c1 l1) := H1.out.below hb (Nat.le_refl _)
  have H2 : Hid (Sl W3 a2 n2 c2 l2) := H2.out.below hb (Nat.le_refl _)
  have H3 : Hid (Sl W3 a3 n3 c3 l3) := H3.out.below hb (Nat.le_refl _)
  have HB : Hid (Below w.heap.size w W3) := HB.out.trans (hb.mono HB.out.size)
  clear hb
  have p10 := X1.out.z0
  have p11 := X1.out.z1
  have t1 := X1.out.lt
  have p20 := X2.out.z0
  have p21 := X2.out.z1
  have t2 := X2.out.lt
  have p30 := X3.out.z0
  have p31 := X3.out.z1
  have t3 := X3.out.lt
  go_wp2_with fail
  refine (in_any s3 a3 n3 c3 _ (by omega)).mono ?_
  rintro e W4 ⟨rfl, hb⟩
  rw [decide_eq_true (by omega)]
  clear p10 p11 t1 p20 p21 t2 p30 p31 t3
  have X1 : Hid (Box W4 (w.heap.size) (.bool s1) (.slice a1 n1 c1)) := X1.out.below hb X1.out.lt
  have X2 : Hid (Box W4 (w.heap.size + 1) (.bool s2) (.slice a2 n2 c2)) := X2.out.below hb X2.out.lt
  have X3 : Hid (Box W4 (w.heap.size + 1 + 1) (.bool s3) (.slice a3 n3 c3)) := X3.out.below hb X3.out.lt
  have H1 : Hid (Sl W4 a1 n1 c1 l1) := H1.out.below hb (Nat.le_refl _)
  have H2 : Hid (Sl W4 a2 n2 c2 l2) := H2.out.below hb (Nat.le_refl _)
  have H3 : Hid (Sl W4 a3 n3 c3 l3) := H3.out.below hb (Nat.le_refl _)
  have HB : Hid (Below w.heap.size w W4) := HB.out.trans (hb.mono HB.out.size)
  clear hb
  have p10 := X1.out.z0
  have p11 := X1.out.z1
  have t1 := X1.out.lt
  have p20 := X2.out.z0
  have p21 := X2.out.z1
  have t2 := X2.out.lt
  have p30 := X3.out.z0
  have p31 := X3.out.z1
  have t3 := X3.out.lt
  go_wp2_with fail
  refine (add_any s2 s3 a2 n2 c2 l2 a3 n3 c3 l3 _ H2.out H3.out (by omega) (by omega)).mono ?_
  rintro e W5 ⟨⟨v, rfl, hu⟩, hb⟩
  have smu := addE_small (s := s2) (t := s3) (show vl 4294967296 l2 + vl 4294967296 l3 < 4294967296 ^ 16 from p_up _ 5 (Nat.lt_of_lt_of_le (Nat.add_lt_add B2.out B3.out) p4_5) (by omega))
  rw [smu.1]
  have SMu : Hid (_ ∧ _) := smu
  clear smu
  clear p10 p11 t1 p20 p21 t2 p30 p31 t3
  have X1 : Hid (Box W5 (w.heap.size) (.bool s1) (.slice a1 n1 c1)) := X1.out.below hb X1.out.lt
  have X2 : Hid (Box W5 (w.heap.size + 1) (.bool s2) (.slice a2 n2 c2)) := X2.out.below hb X2.out.lt
  have X3 : Hid (Box W5 (w.heap.size + 1 + 1) (.bool s3) (.slice a3 n3 c3)) := X3.out.below hb X3.out.lt
  have H1 : Hid (Sl W5 a1 n1 c1 l1) := H1.out.below hb (Nat.le_refl _)
  have H2 : Hid (Sl W5 a2 n2 c2 l2) := H2.out.below hb (Nat.le_refl _)
  have H3 : Hid (Sl W5 a3 n3 c3 l3) := H3.out.below hb (Nat.le_refl _)
  have HB : Hid (Below w.heap.size w W5) := HB.out.trans (hb.mono HB.out.size)
  clear hb
  have p10 := X1.out.z0
  have p11 := X1.out.z1
  have t1 := X1.out.lt
  have p20 := X2.out.z0
  have p21 := X2.out.z1
  have t2 := X2.out.lt
  have p30 := X3.out.z0
  have p31 := X3.out.z1
  have t3 := X3.out.lt
  have Iu := hu
  obtain ⟨au, nu, cu, lu, rfl, hs, hv, mu⟩ := hu.open (addV_lt _ _ _ _)
  have Hu : Hid (Sl W5 au nu cu lu) := hs
  have Eu : Hid (vl 4294967296 lu = addV s2 (vl 4294967296 l2) s3 (vl 4294967296 l3)) := hv
  clear hs hv hu
  generalize hs : addS s2 (vl 4294967296 l2) s3 (vl 4294967296 l3) = su at *
  have Fu : Hid (addS s2 (vl 4294967296 l2) s3 (vl 4294967296 l3) = su) := hs
  clear hs
  have Iu : Hid (IntR W5 _ _ _ _) := Iu
  go_wp2_with fail
  generalize hW : (World.alloc W5 _) = W6
  obtain ⟨xn, hb, hz⟩ := boxes1 W5 (.bool su) (.slice au nu cu) 24 hW
  have Xu : Hid (Box W6 (W5.heap.size) (.bool su) (.slice au nu cu)) := xn
  clear hW xn hz
  clear p10 p11 t1 p20 p21 t2 p30 p31 t3
  have Iu : Hid (IntR W6 _ _ _ _) := Iu.out.below hb (Nat.le_refl _)
  have X1 : Hid (Box W6 (w.heap.size) (.bool s1) (.slice a1 n1 c1)) := X1.out.below hb X1.out.lt
  have X2 : Hid (Box W6 (w.heap.size + 1) (.bool s2) (.slice a2 n2 c2)) := X2.out.below hb X2.out.lt
  have X3 : Hid (Box W6 (w.heap.size + 1 + 1) (.bool s3) (.slice a3 n3 c3)) := X3.out.below hb X3.out.lt
  have H1 : Hid (Sl W6 a1 n1 c1 l1) := H1.out.below hb (Nat.le_refl _)
  have H2 : Hid (Sl W6 a2 n2 c2 l2) := H2.out.below hb (Nat.le_refl _)
  have H3 : Hid (Sl W6 a3 n3 c3 l3) := H3.out.below hb (Nat.le_refl _)
  have Hu : Hid (Sl W6 au nu cu lu) := Hu.out.below hb (Nat.le_refl _)
  have HB : Hid (Below w.heap.size w W6) := HB.out.trans (hb.mono HB.out.size)
  clear hb
  have p10 := X1.out.z0
  have p11 := X1.out.z1
  have t1 := X1.out.lt
  have p20 := X2.out.z0
  have p21 := X2.out.z1
  have t2 := X2.out.lt
  have p30 := X3.out.z0
  have p31 := X3.out.z1
  have t3 := X3.out.lt
  have pu0 := Xu.out.z0
  have pu1 := Xu.out.z1
  have tu := Xu.out.lt
  go_wp2_with fail
  have Bu : Hid (vl 4294967296 lu < 4294967296 ^ 5) := by show _ < _; rw [Eu.out]; exact Nat.lt_of_le_of_lt SMu.out.2 (Nat.lt_of_lt_of_le (Nat.add_lt_add B2.out B3.out) p4_5)
  refine (mul_any s1 su a1 n1 c1 l1 au nu cu lu _ H1.out Hu.out (by omega) (by omega)).mono ?_
  rintro e W7 ⟨⟨v, rfl, hx⟩, hb⟩
  have smx := mulE_small (p_up _ 4 B1.out (by omega)) (p_up _ 5 Bu.out (by omega)) (p_up _ 9 (p_mul (a := 4) (b := 5) B1.out Bu.out) (by omega))
  rw [smx.1]
  have SMx : Hid (_ ∧ _) := smx
  clear smx
  clear p10 p11 t1 p20 p21 t2 p30 p31 t3 pu0 pu1 tu
  have Iu : Hid (IntR W7 _ _ _ _) := Iu.out.below hb (Nat.le_refl _)
  have X1 : Hid (Box W7 (w.heap.size) (.bool s1) (.slice a1 n1 c1)) := X1.out.below hb X1.out.lt
  have X2 : Hid (Box W7 (w.heap.size + 1) (.bool s2) (.slice a2 n2 c2)) := X2.out.below hb X2.out.lt
  have X3 : Hid (Box W7 (w.heap.size + 1 + 1) (.bool s3) (.slice a3 n3 c3)) := X3.out.below hb X3.out.lt
  have Xu : Hid (Box W7 (W5.heap.size) (.bool su) (.slice au nu cu)) := Xu.out.below hb Xu.out.lt
  have H1 : Hid (Sl W7 a1 n1 c1 l1) := H1.out.below hb (Nat.le_refl _)
  have H2 : Hid (Sl W7 a2 n2 c2 l2) := H2.out.below hb (Nat.le_refl _)
  have H3 : Hid (Sl W7 a3 n3 c3 l3) := H3.out.below hb (Nat.le_refl _)
  have Hu : Hid (Sl W7 au nu cu lu) := Hu.out.below hb (Nat.le_refl _)
  have HB : Hid (Below w.heap.size w W7) := HB.out.trans (hb.mono HB.out.size)
  clear hb
  have p10 := X1.out.z0
  have p11 := X1.out.z1
  have t1 := X1.out.lt
  have p20 := X2.out.z0
  have p21 := X2.out.z1
  have t2 := X2.out.lt
  have p30 := X3.out.z0
  have p31 := X3.out.z1
  have t3 := X3.out.lt
  have pu0 := Xu.out.z0
  have pu1 := Xu.out.z1
  have tu := Xu.out.lt
  have Ix := hx
  obtain ⟨ax, nx, cx, lx, rfl, hs, hv, mx⟩ := hx.open (mulV_lt _ _)
  have Hx : Hid (Sl W7 ax nx cx lx) := hs
  have Ex : Hid (vl 4294967296 lx = mulV (vl 4294967296 l1) (vl 4294967296 lu)) := hv
  clear hs hv hx
  generalize hs : mulS s1 (vl 4294967296 l1) su (vl 4294967296 lu) = sx at *
  have Fx : Hid (mulS s1 (vl 4294967296 l1) su (vl 4294967296 lu) = sx) := hs
  clear hs
  have Ix : Hid (IntR W7 _ _ _ _) := Ix
  go_wp2_with fail
  generalize hW : (World.alloc W7 _) = W8
  obtain ⟨xn, hb, hz⟩ := boxes1 W7 (.bool sx) (.slice ax nx cx) 24 hW
  have Xx : Hid (Box W8 (W7.heap.size) (.bool sx) (.slice ax nx cx)) := xn
  clear hW xn hz
  clear p10 p11 t1 p20 p21 t2 p30 p31 t3 pu0 pu1 tu
  have Iu : Hid (IntR W8 _ _ _ _) := Iu.out.below hb (Nat.le_refl _)
  have Ix : Hid (IntR W8 _ _ _ _) := Ix.out.below hb (Nat.le_refl _)
  have X1 : Hid (Box W8 (w.heap.size) (.bool s1) (.slice a1 n1 c1)) := X1.out.below hb X1.out.lt
  have X2 : Hid (Box W8 (w.heap.size + 1) (.bool s2) (.slice a2 n2 c2)) := X2.out.below hb X2.out.lt
  have X3 : Hid (Box W8 (w.heap.size + 1 + 1) (.bool s3) (.slice a3 n3 c3)) := X3.out.below hb X3.out.lt
  have Xu : Hid (Box W8 (W5.heap.size) (.bool su) (.slice au nu cu)) := Xu.out.below hb Xu.out.lt
  have H1 : Hid (Sl W8 a1 n1 c1 l1) := H1.out.below hb (Nat.le_refl _)
  have H2 : Hid (Sl W8 a2 n2 c2 l2) := H2.out.below hb (Nat.le_refl _)
  have H3 : Hid (Sl W8 a3 n3 c3 l3) := H3.out.below hb (Nat.le_refl _)
  have Hu : Hid (Sl W8 au nu cu lu) := Hu.out.below hb (Nat.le_refl _)
  have Hx : Hid (Sl W8 ax nx cx lx) := Hx.out.below hb (Nat.le_refl _)
  have HB : Hid (Below w.heap.size w W8) := HB.out.trans (hb.mono HB.out.size)
  clear hb
  have p10 := X1.out.z0
  have p11 := X1.out.z1
  have t1 := X1.out.lt
  have p20 := X2.out.z0
  have p21 := X2.out.z1
  have t2 := X2.out.lt
  have p30 := X3.out.z0
  have p31 := X3.out.z1
  have t3 := X3.out.lt
  have pu0 := Xu.out.z0
  have pu1 := Xu.out.z1
  have tu := Xu.out.lt
  have px0 := Xx.out.z0
  have px1 := Xx.out.z1
  have tx := Xx.out.lt
  go_wp2_with fail
  refine (mul_any s1 s2 a1 n1 c1 l1 a2 n2 c2 l2 _ H1.out H2.out (by omega) (by omega)).mono ?_
  rintro e W9 ⟨⟨v, rfl, hp⟩, hb⟩
  have smp := mulE_small (p_up _ 4 B1.out (by omega)) (p_up _ 4 B2.out (by omega)) (p_up _ 8 (p_mul (a := 4) (b := 4) B1.out B2.out) (by omega))
  rw [smp.1]
  have SMp : Hid (_ ∧ _) := smp
  clear smp
  clear p10 p11 t1 p20 p21 t2 p30 p31 t3 pu0 pu1 tu px0 px1 tx
  have Iu : Hid (IntR W9 _ _ _ _) := Iu.out.below hb (Nat.le_refl _)
  have Ix : Hid (IntR W9 _ _ _ _) := Ix.out.below hb (Nat.le_refl _)
  have X1 : Hid (Box W9 (w.heap.size) (.bool s1) (.slice a1 n1 c1)) := X1.out.below hb X1.out.lt
  have X2 : Hid (Box W9 (w.heap.size + 1) (.bool s2) (.slice a2 n2 c2)) := X2.out.below hb X2.out.lt
  have X3 : Hid (Box W9 (w.heap.size + 1 + 1) (.bool s3) (.slice a3 n3 c3)) := X3.out.below hb X3.out.lt
  have Xu : Hid (Box W9 (W5.heap.size) (.bool su) (.slice au nu cu)) := Xu.out.below hb Xu.out.lt
  have Xx : Hid (Box W9 (W7.heap.size) (.bool sx) (.slice ax nx cx)) := Xx.out.below hb Xx.out.lt
  have H1 : Hid (Sl W9 a1 n1 c1 l1) := H1.out.below hb (Nat.le_refl _)
  have H2 : Hid (Sl W9 a2 n2 c2 l2) := H2.out.below hb (Nat.le_refl _)
  have H3 : Hid (Sl W9 a3 n3 c3 l3) := H3.out.below hb (Nat.le_refl _)
  have Hu : Hid (Sl W9 au nu cu lu) := Hu.out.below hb (Nat.le_refl _)
  have Hx : Hid (Sl W9 ax nx cx lx) := Hx.out.below hb (Nat.le_refl _)
  have HB : Hid (Below w.heap.size w W9) := HB.out.trans (hb.mono HB.out.size)
  clear hb
  have p10 := X1.out.z0
  have p11 := X1.out.z1
  have t1 := X1.out.lt
  have p20 := X2.out.z0
  have p21 := X2.out.z1
  have t2 := X2.out.lt
  have p30 := X3.out.z0
  have p31 := X3.out.z1
  have t3 := X3.out.lt
  have pu0 := Xu.out.z0
  have pu1 := Xu.out.z1
  have tu := Xu.out.lt
  have px0 := Xx.out.z0
  have px1 := Xx.out.z1
  have tx := Xx.out.lt
  have Ip := hp
  obtain ⟨ap, np, cp, lp, rfl, hs, hv, mp⟩ := hp.open (mulV_lt _ _)
  have Hp : Hid (Sl W9 ap np cp lp) := hs
  have Ep : Hid (vl 4294967296 lp = mulV (vl 4294967296 l1) (vl 4294967296 l2)) := hv
  clear hs hv hp
  generalize hs : mulS s1 (vl 4294967296 l1) s2 (vl 4294967296 l2) = sp at *
  have Fp : Hid (mulS s1 (vl 4294967296 l1) s2 (vl 4294967296 l2) = sp) := hs
  clear hs
  have Ip : Hid (IntR W9 _ _ _ _) := Ip
  go_wp2_with fail
  generalize hW : (World.alloc W9 _) = W10
  obtain ⟨xn, hb, hz⟩ := boxes1 W9 (.bool sp) (.slice ap np cp) 24 hW
  have Xp : Hid (Box W10 (W9.heap.size) (.bool sp) (.slice ap np cp)) := xn
  clear hW xn hz
  clear p10 p11 t1 p20 p21 t2 p30 p31 t3 pu0 pu1 tu px0 px1 tx
  have Iu : Hid (IntR W10 _ _ _ _) := Iu.out.below hb (Nat.le_refl _)
  have Ix : Hid (IntR W10 _ _ _ _) := Ix.out.below hb (Nat.le_refl _)
  have Ip : Hid (IntR W10 _ _ _ _) := Ip.out.below hb (Nat.le_refl _)
  have X1 : Hid (Box W10 (w.heap.size) (.bool s1) (.slice a1 n1 c1)) := X1.out.below hb X1.out.lt
  have X2 : Hid (Box W10 (w.heap.size + 1) (.bool s2) (.slice a2 n2 c2)) := X2.out.below hb X2.out.lt
  have X3 : Hid (Box W10 (w.heap.size + 1 + 1) (.bool s3) (.slice a3 n3 c3)) := X3.out.below hb X3.out.lt
  have Xu : Hid (Box W10 (W5.heap.size) (.bool su) (.slice au nu cu)) := Xu.out.below hb Xu.out.lt
  have Xx : Hid (Box W10 (W7.heap.size) (.bool sx) (.slice ax nx cx)) := Xx.out.below hb Xx.out.lt
  have H1 : Hid (Sl W10 a1 n1 c1 l1) := H1.out.below hb (Nat.le_refl _)
  have H2 : Hid (Sl W10 a2 n2 c2 l2) := H2.out.below hb (Nat.le_refl _)
  have H3 : Hid (Sl W10 a3 n3 c3 l3) := H3.out.below hb (Nat.le_refl _)
  have Hu : Hid (Sl W10 au nu cu lu) := Hu.out.below hb (Nat.le_refl _)
  have Hx : Hid (Sl W10 ax nx cx lx) := Hx.out.below hb (Nat.le_refl _)
  have Hp : Hid (Sl W10 ap np cp lp) := Hp.out.below hb (Nat.le_refl _)
  have HB : Hid (Below w.heap.size w W10) := HB.out.trans (hb.mono HB.out.size)
  clear hb
  have p10 := X1.out.z0
  have p11 := X1.out.z1
  have t1 := X1.out.lt
  have p20 := X2.out.z0
  have p21 := X2.out.z1
  have t2 := X2.out.lt
  have p30 := X3.out.z0
  have p31 := X3.out.z1
  have t3 := X3.out.lt
  have pu0 := Xu.out.z0
  have pu1 := Xu.out.z1
  have tu := Xu.out.lt
  have px0 := Xx.out.z0
  have px1 := Xx.out.z1
  have tx := Xx.out.lt
  have pp0 := Xp.out.z0
  have pp1 := Xp.out.z1
  have tp := Xp.out.lt
  go_wp2_with fail
  have Bp : Hid (vl 4294967296 lp < 4294967296 ^ 8) := by show _ < _; rw [Ep.out, SMp.out.2]; exact p_mul (a := 4) (b := 4) B1.out B2.out
  refine (mul_any s1 s3 a1 n1 c1 l1 a3 n3 c3 l3 _ H1.out H3.out (by omega) (by omega)).mono ?_
  rintro e W11 ⟨⟨v, rfl, hq⟩, hb⟩
  have smq := mulE_small (p_up _ 4 B1.out (by omega)) (p_up _ 4 B3.out (by omega)) (p_up _ 8 (p_mul (a := 4) (b := 4) B1.out B3.out) (by omega))
  rw [smq.1]
  have SMq : Hid (_ ∧ _) := smq
  clear smq
  clear p10 p11 t1 p20 p21 t2 p30 p31 t3 pu0 pu1 tu px0 px1 tx pp0 pp1 tp
  have Iu : Hid (IntR W11 _ _ _ _) := Iu.out.below hb (Nat.le_refl _)
  have Ix : Hid (IntR W11 _ _ _ _) := Ix.out.below hb (Nat.le_refl _)
  have Ip : Hid (IntR W11 _ _ _ _) := Ip.out.below hb (Nat.le_refl _)
  have X1 : Hid (Box W11 (w.heap.size) (.bool s1) (.slice a1 n1 c1)) := X1.out.below hb X1.out.lt
  have X2 : Hid (Box W11 (w.heap.size + 1) (.bool s2) (.slice a2 n2 c2)) := X2.out.below hb X2.out.lt
  have X3 : Hid (Box W11 (w.heap.size + 1 + 1) (.bool s3) (.slice a3 n3 c3)) := X3.out.below hb X3.out.lt
  have Xu : Hid (Box W11 (W5.heap.size) (.bool su) (.slice au nu cu)) := Xu.out.below hb Xu.out.lt
  have Xx : Hid (Box W11 (W7.heap.size) (.bool sx) (.slice ax nx cx)) := Xx.out.below hb Xx.out.lt
  have Xp : Hid (Box W11 (W9.heap.size) (.bool sp) (.slice ap np cp)) := Xp.out.below hb Xp.out.lt
  have H1 : Hid (Sl W11 a1 n1 c1 l1) := H1.out.below hb (Nat.le_refl _)
  have H2 : Hid (Sl W11 a2 n2 c2 l2) := H2.out.below hb (Nat.le_refl _)
  have H3 : Hid (Sl W11 a3 n3 c3 l3) := H3.out.below hb (Nat.le_refl _)
  have Hu : Hid (Sl W11 au nu cu lu) := Hu.out.below hb (Nat.le_refl _)
  have Hx : Hid (Sl W11 ax nx cx lx) := Hx.out.below hb (Nat.le_refl _)
  have Hp : Hid (Sl W11 ap np cp lp) := Hp.out.below hb (Nat.le_refl _)
  have HB : Hid (Below w.heap.size w W11) := HB.out.trans (hb.mono HB.out.size)
  clear hb
  have p10 := X1.out.z0
  have p11 := X1.out.z1
  have t1 := X1.out.lt
  have p20 := X2.out.z0
  have p21 := X2.out.z1
  have t2 := X2.out.lt
  have p30 := X3.out.z0
  have p31 := X3.out.z1
  have t3 := X3.out.lt
  have pu0 := Xu.out.z0
  have pu1 := Xu.out.z1
  have tu := Xu.out.lt
  have px0 := Xx.out.z0
  have px1 := Xx.out.z1
  have tx := Xx.out.lt
  have pp0 := Xp.out.z0
  have pp1 := Xp.out.z1
  have tp := Xp.out.lt
  have Iq := hq
  obtain ⟨aq, nq, cq, lq, rfl, hs, hv, mq⟩ := hq.open (mulV_lt _ _)
  have Hq : Hid (Sl W11 aq nq cq lq) := hs
  have Eqq : Hid (vl 4294967296 lq = mulV (vl 4294967296 l1) (vl 4294967296 l3)) := hv
  clear hs hv hq
  generalize hs : mulS s1 (vl 4294967296 l1) s3 (vl 4294967296 l3) = sq at *
  have Fq : Hid (mulS s1 (vl 4294967296 l1) s3 (vl 4294967296 l3) = sq) := hs
  clear hs
  have Iq : Hid (IntR W11 _ _ _ _) := Iq
  go_wp2_with fail
  generalize hW : (World.alloc W11 _) = W12
  obtain ⟨xn, hb, hz⟩ := boxes1 W11 (.bool sq) (.slice aq nq cq) 24 hW
  have Xq : Hid (Box W12 (W11.heap.size) (.bool sq) (.slice aq nq cq)) := xn
  clear hW xn hz
  clear p10 p11 t1 p20 p21 t2 p30 p31 t3 pu0 pu1 tu px0 px1 tx pp0 pp1 tp
  have Iu : Hid (IntR W12 _ _ _ _) := Iu.out.below hb (Nat.le_refl _)
  have Ix : Hid (IntR W12 _ _ _ _) := Ix.out.below hb (Nat.le_refl _)
  have Ip : Hid (IntR W12 _ _ _ _) := Ip.out.below hb (Nat.le_refl _)
  have Iq : Hid (IntR W12 _ _ _ _) := Iq.out.below hb (Nat.le_refl _)
  have X1 : Hid (Box W12 (w.heap.size) (.bool s1) (.slice a1 n1 c1)) := X1.out.below hb X1.out.lt
  have X2 : Hid (Box W12 (w.heap.size + 1) (.bool s2) (.slice a2 n2 c2)) := X2.out.below hb X2.out.lt
  have X3 : Hid (Box W12 (w.heap.size + 1 + 1) (.bool s3) (.slice a3 n3 c3)) := X3.out.below hb X3.out.lt
  have Xu : Hid (Box W12 (W5.heap.size) (.bool su) (.slice au nu cu)) := Xu.out.below hb Xu.out.lt
  have Xx : Hid (Box W12 (W7.heap.size) (.bool sx) (.slice ax nx cx)) := Xx.out.below hb Xx.out.lt
  have Xp : Hid (Box W12 (W9.heap.size) (.bool sp) (.slice ap np cp)) := Xp.out.below hb Xp.out.lt
  have H1 : Hid (Sl W12 a1 n1 c1 l1) := H1.out.below hb (Nat.le_refl _)
  have H2 : Hid (Sl W12 a2 n2 c2 l2) := H2.out.below hb (Nat.le_refl _)
  have H3 : Hid (Sl W12 a3 n3 c3 l3) := H3.out.below hb (Nat.le_refl _)
  have Hu : Hid (Sl W12 au nu cu lu) := Hu.out.below hb (Nat.le_refl _)
  have Hx : Hid (Sl W12 ax nx cx lx) := Hx.out.below hb (Nat.le_refl _)
  have Hp : Hid (Sl W12 ap np cp lp) := Hp.out.below hb (Nat.le_refl _)
  have Hq : Hid (Sl W12 aq nq cq lq) := Hq.out.below hb (Nat.le_refl _)
  have HB : Hid (Below w.heap.size w W12) := HB.out.trans (hb.mono HB.out.size)
  clear hb
  have p10 := X1.out.z0
  have p11 := X1.out.z1
  have t1 := X1.out.lt
  have p20 := X2.out.z0
  have p21 := X2.out.z1
  have t2 := X2.out.lt
  have p30 := X3.out.z0
  have p31 := X3.out.z1
  have t3 := X3.out.lt
  have pu0 := Xu.out.z0
  have pu1 := Xu.out.z1
  have tu := Xu.out.lt
  have px0 := Xx.out.z0
  have px1 := Xx.out.z1
  have tx := Xx.out.lt
  have pp0 := Xp.out.z0
  have pp1 := Xp.out.z1
  have tp := Xp.out.lt
  have pq0 := Xq.out.z0
  have pq1 := Xq.out.z1
  have tq := Xq.out.lt
  go_wp2_with fail
  have Bq : Hid (vl 4294967296 lq < 4294967296 ^ 8) := by show _ < _; rw [Eqq.out, SMq.out.2]; exact p_mul (a := 4) (b := 4) B1.out B3.out
  refine (add_any sp sq ap np cp lp aq nq cq lq _ Hp.out Hq.out (by omega) (by omega)).mono ?_
  rintro e W13 ⟨⟨v, rfl, hy⟩, hb⟩
  have smy := addE_small (s := sp) (t := sq) (show vl 4294967296 lp + vl 4294967296 lq < 4294967296 ^ 16 from by have h1 := Bp.out; have h2 := Bq.out; have h3 := Nat.pow_le_pow_right (n := 4294967296) (by omega) (show 9 ≤ 16 by omega); rw [show (9 : Nat) = 8 + 1 from rfl, Nat.pow_succ] at h3; omega)
  rw [smy.1]
  have SMy : Hid (_ ∧ _) := smy
  clear smy
  clear p10 p11 t1 p20 p21 t2 p30 p31 t3 pu0 pu1 tu px0 px1 tx pp0 pp1 tp pq0 pq1 tq
  have Iu : Hid (IntR W13 _ _ _ _) := Iu.out.below hb (Nat.le_refl _)
  have Ix : Hid (IntR W13 _ _ _ _) := Ix.out.below hb (Nat.le_refl _)
  have Ip : Hid (IntR W13 _ _ _ _) := Ip.out.below hb (Nat.le_refl _)
  have Iq : Hid (IntR W13 _ _ _ _) := Iq.out.below hb (Nat.le_refl _)
  have X1 : Hid (Box W13 (w.heap.size) (.bool s1) (.slice a1 n1 c1)) := X1.out.below hb X1.out.lt
  have X2 : Hid (Box W13 (w.heap.size + 1) (.bool s2) (.slice a2 n2 c2)) := X2.out.below hb X2.out.lt
  have X3 : Hid (Box W13 (w.heap.size + 1 + 1) (.bool s3) (.slice a3 n3 c3)) := X3.out.below hb X3.out.lt
  have Xu : Hid (Box W13 (W5.heap.size) (.bool su) (.slice au nu cu)) := Xu.out.below hb Xu.out.lt
  have Xx : Hid (Box W13 (W7.heap.size) (.bool sx) (.slice ax nx cx)) := Xx.out.below hb Xx.out.lt
  have Xp : Hid (Box W13 (W9.heap.size) (.bool sp) (.slice ap np cp)) := Xp.out.below hb Xp.out.lt
  have Xq : Hid (Box W13 (W11.heap.size) (.bool sq) (.slice aq nq cq)) := Xq.out.below hb Xq.out.lt
  have H1 : Hid (Sl W13 a1 n1 c1 l1) := H1.out.below hb (Nat.le_refl _)
  have H2 : Hid (Sl W13 a2 n2 c2 l2) := H2.out.below hb (Nat.le_refl _)
  have H3 : Hid (Sl W13 a3 n3 c3 l3) := H3.out.below hb (Nat.le_refl _)
  have Hu : Hid (Sl W13 au nu cu lu) := Hu.out.below hb (Nat.le_refl _)
  have Hx : Hid (Sl W13 ax nx cx lx) := Hx.out.below hb (Nat.le_refl _)
  have Hp : Hid (Sl W13 ap np cp lp) := Hp.out.below hb (Nat.le_refl _)
  have Hq : Hid (Sl W13 aq nq cq lq) := Hq.out.below hb (Nat.le_refl _)
  have HB : Hid (Below w.heap.size w W13) := HB.out.trans (hb.mono HB.out.size)
  clear hb
  have p10 := X1.out.z0
  have p11 := X1.out.z1
  have t1 := X1.out.lt
  have p20 := X2.out.z0
  have p21 := X2.out.z1
  have t2 := X2.out.lt
  have p30 := X3.out.z0
  have p31 := X3.out.z1
  have t3 := X3.out.lt
  have pu0 := Xu.out.z0
  have pu1 := Xu.out.z1
  have tu := Xu.out.lt
  have px0 := Xx.out.z0
  have px1 := Xx.out.z1
  have tx := Xx.out.lt
  have pp0 := Xp.out.z0
  have pp1 := Xp.out.z1
  have tp := Xp.out.lt
  have pq0 := Xq.out.z0
  have pq1 := Xq.out.z1
  have tq := Xq.out.lt
  have Iy := hy
  obtain ⟨ay, ny, cy, ly, rfl, hs, hv, my⟩ := hy.open (addV_lt _ _ _ _)
  have Hy : Hid (Sl W13 ay ny cy ly) := hs
  have Ey : Hid (vl 4294967296 ly = addV sp (vl 4294967296 lp) sq (vl 4294967296 lq)) := hv
  clear hs hv hy
  generalize hs : addS sp (vl 4294967296 lp) sq (vl 4294967296 lq) = sy at *
  have Fy : Hid (addS sp (vl 4294967296 lp) sq (vl 4294967296 lq) = sy) := hs
  clear hs
  have Iy : Hid (IntR W13 _ _ _ _) := Iy
  go_wp2_with fail
  generalize hW : (World.alloc W13 _) = W14
  obtain ⟨xn, hb, hz⟩ := boxes1 W13 (.bool sy) (.slice ay ny cy) 24 hW
  have Xy : Hid (Box W14 (W13.heap.size) (.bool sy) (.slice ay ny cy)) := xn
  clear hW xn hz
  clear p10 p11 t1 p20 p21 t2 p30 p31 t3 pu0 pu1 tu px0 px1 tx pp0 pp1 tp pq0 pq1 tq
  have Iu : Hid (IntR W14 _ _ _ _) := Iu.out.below hb (Nat.le_refl _)
  have Ix : Hid (IntR W14 _ _ _ _) := Ix.out.below hb (Nat.le_refl _)
  have Ip : Hid (IntR W14 _ _ _ _) := Ip.out.below hb (Nat.le_refl _)
  have Iq : Hid (IntR W14 _ _ _ _) := Iq.out.below hb (Nat.le_refl _)
  have Iy : Hid (IntR W14 _ _ _ _) := Iy.out.below hb (Nat.le_refl _)
  have X1 : Hid (Box W14 (w.heap.size) (.bool s1) (.slice a1 n1 c1)) := X1.out.below hb X1.out.lt
  have X2 : Hid (Box W14 (w.heap.size + 1) (.bool s2) (.slice a2 n2 c2)) := X2.out.below hb X2.out.lt
  have X3 : Hid (Box W14 (w.heap.size + 1 + 1) (.bool s3) (.slice a3 n3 c3)) := X3.out.below hb X3.out.lt
  have Xu : Hid (Box W14 (W5.heap.size) (.bool su) (.slice au nu cu)) := Xu.out.below hb Xu.out.lt
  have Xx : Hid (Box W14 (W7.heap.size) (.bool sx) (.slice ax nx cx)) := Xx.out.below hb Xx.out.lt
  have Xp : Hid (Box W14 (W9.heap.size) (.bool sp) (.slice ap np cp)) := Xp.out.below hb Xp.out.lt
  have Xq : Hid (Box W14 (W11.heap.size) (.bool sq) (.slice aq nq cq)) := Xq.out.below hb Xq.out.lt
  have H1 : Hid (Sl W14 a1 n1 c1 l1) := H1.out.below hb (Nat.le_refl _)
  have H2 : Hid (Sl W14 a2 n2 c2 l2) := H2.out.below hb (Nat.le_refl _)
  have H3 : Hid (Sl W14 a3 n3 c3 l3) := H3.out.below hb (Nat.le_refl _)
  have Hu : Hid (Sl W14 au nu cu lu) := Hu.out.below hb (Nat.le_refl _)
  have Hx : Hid (Sl W14 ax nx cx lx) := Hx.out.below hb (Nat.le_refl _)
  have Hp : Hid (Sl W14 ap np cp lp) := Hp.out.below hb (Nat.le_refl _)
  have Hq : Hid (Sl W14 aq nq cq lq) := Hq.out.below hb (Nat.le_refl _)
  have Hy : Hid (Sl W14 ay ny cy ly) := Hy.out.below hb (Nat.le_refl _)
  have HB : Hid (Below w.heap.size w W14) := HB.out.trans (hb.mono HB.out.size)
  clear hb
  have p10 := X1.out.z0
  have p11 := X1.out.z1
  have t1 := X1.out.lt
  have p20 := X2.out.z0
  have p21 := X2.out.z1
  have t2 := X2.out.lt
  have p30 := X3.out.z0
  have p31 := X3.out.z1
  have t3 := X3.out.lt
  have pu0 := Xu.out.z0
  have pu1 := Xu.out.z1
  have tu := Xu.out.lt
  have px0 := Xx.out.z0
  have px1 := Xx.out.z1
  have tx := Xx.out.lt
  have pp0 := Xp.out.z0
  have pp1 := Xp.out.z1
  have tp := Xp.out.lt
  have pq0 := Xq.out.z0
  have pq1 := Xq.out.z1
  have tq := Xq.out.lt
  have py0 := Xy.out.z0
  have py1 := Xy.out.z1
  have ty := Xy.out.lt
  go_wp2_with fail
  have hz : zi sx (mulV (vl 4294967296 l1) (vl 4294967296 lu)) = zi sy (addV sp (vl 4294967296 lp) sq (vl 4294967296 lq)) := by
    rw [← Fx.out, ← Fy.out, mulE_zero SMx.out.1, addE_zero SMy.out.1, Eu.out, ← Fu.out, addE_zero SMu.out.1, Ep.out, ← Fp.out, mulE_zero SMp.out.1, Eqq.out, ← Fq.out, mulE_zero SMq.out.1, Int.mul_add]
  have hz2 : mulV (vl 4294967296 l1) (vl 4294967296 lu) = addV sp (vl 4294967296 lp) sq (vl 4294967296 lq) ∧ sx = sy := by
    rw [← Fx.out, ← Fy.out] at hz ⊢
    exact form_zi hz
  obtain ⟨b2, iy2⟩ : ∃ b2, IntR W14 b2 (.agg #[.bool sy, .slice ay ny cy]) sx (mulV (vl 4294967296 l1) (vl 4294967296 lu)) := ⟨_, by rw [hz2.1, hz2.2]; exact Iy.out⟩
  have Iy2 : Hid (IntR W14 b2 (.agg #[.bool sy, .slice ay ny cy]) sx (mulV (vl 4294967296 l1) (vl 4294967296 lu))) := iy2
  clear hz hz2 iy2
  refine (whole_any Ix.out Iy2.out).mono ?_
  rintro e W15 ⟨rfl, hb⟩
  clear Iy2
  clear p10 p11 t1 p20 p21 t2 p30 p31 t3 pu0 pu1 tu px0 px1 tx pp0 pp1 tp pq0 pq1 tq py0 py1 ty
  have Iu : Hid (IntR W15 _ _ _ _) := Iu.out.below hb (Nat.le_refl _)
  have Ix : Hid (IntR W15 _ _ _ _) := Ix.out.below hb (Nat.le_refl _)
  have Ip : Hid (IntR W15 _ _ _ _) := Ip.out.below hb (Nat.le_refl _)
  have Iq : Hid (IntR W15 _ _ _ _) := Iq.out.below hb (Nat.le_refl _)
  have Iy : Hid (IntR W15 _ _ _ _) := Iy.out.below hb (Nat.le_refl _)
  have X1 : Hid (Box W15 (w.heap.size) (.bool s1) (.slice a1 n1 c1)) := X1.out.below hb X1.out.lt
  have X2 : Hid (Box W15 (w.heap.size + 1) (.bool s2) (.slice a2 n2 c2)) := X2.out.below hb X2.out.lt
  have X3 : Hid (Box W15 (w.heap.size + 1 + 1) (.bool s3) (.slice a3 n3 c3)) := X3.out.below hb X3.out.lt
  have Xu : Hid (Box W15 (W5.heap.size) (.bool su) (.slice au nu cu)) := Xu.out.below hb Xu.out.lt
  have Xx : Hid (Box W15 (W7.heap.size) (.bool sx) (.slice ax nx cx)) := Xx.out.below hb Xx.out.lt
  have Xp : Hid (Box W15 (W9.heap.size) (.bool sp) (.slice ap np cp)) := Xp.out.below hb Xp.out.lt
  have Xq : Hid (Box W15 (W11.heap.size) (.bool sq) (.slice aq nq cq)) := Xq.out.below hb Xq.out.lt
  have Xy : Hid (Box W15 (W13.heap.size) (.bool sy) (.slice ay ny cy)) := Xy.out.below hb Xy.out.lt
  have H1 : Hid (Sl W15 a1 n1 c1 l1) := H1.out.below hb (Nat.le_refl _)
  have H2 : Hid (Sl W15 a2 n2 c2 l2) := H2.out.below hb (Nat.le_refl _)
  have H3 : Hid (Sl W15 a3 n3 c3 l3) := H3.out.below hb (Nat.le_refl _)
  have Hu : Hid (Sl W15 au nu cu lu) := Hu.out.below hb (Nat.le_refl _)
  have Hx : Hid (Sl W15 ax nx cx lx) := Hx.out.below hb (Nat.le_refl _)
  have Hp : Hid (Sl W15 ap np cp lp) := Hp.out.below hb (Nat.le_refl _)
  have Hq : Hid (Sl W15 aq nq cq lq) := Hq.out.below hb (Nat.le_refl _)
  have Hy : Hid (Sl W15 ay ny cy ly) := Hy.out.below hb (Nat.le_refl _)
  have HB : Hid (Below w.heap.size w W15) := HB.out.trans (hb.mono HB.out.size)
  clear hb
  have p10 := X1.out.z0
  have p11 := X1.out.z1
  have t1 := X1.out.lt
  have p20 := X2.out.z0
  have p21 := X2.out.z1
  have t2 := X2.out.lt
  have p30 := X3.out.z0
  have p31 := X3.out.z1
  have t3 := X3.out.lt
  have pu0 := Xu.out.z0
  have pu1 := Xu.out.z1
  have tu := Xu.out.lt
  have px0 := Xx.out.z0
  have px1 := Xx.out.z1
  have tx := Xx.out.lt
  have pp0 := Xp.out.z0
  have pp1 := Xp.out.z1
  have tp := Xp.out.lt
  have pq0 := Xq.out.z0
  have pq1 := Xq.out.z1
  have tq := Xq.out.lt
  have py0 := Xy.out.z0
  have py1 := Xy.out.z1
  have ty := Xy.out.lt
  go_wp2_with fail
  refine (awake_any _).mono ?_
  rintro e W16 ⟨rfl, hb⟩
  clear p10 p11 t1 p20 p21 t2 p30 p31 t3 pu0 pu1 tu px0 px1 tx pp0 pp1 tp pq0 pq1 tq py0 py1 ty
  have Iu : Hid (IntR W16 _ _ _ _) := Iu.out.below hb (Nat.le_refl _)
  have Ix : Hid (IntR W16 _ _ _ _) := Ix.out.below hb (Nat.le_refl _)
  have Ip : Hid (IntR W16 _ _ _ _) := Ip.out.below hb (Nat.le_refl _)
  have Iq : Hid (IntR W16 _ _ _ _) := Iq.out.below hb (Nat.le_refl _)
  have Iy : Hid (IntR W16 _ _ _ _) := Iy.out.below hb (Nat.le_refl _)
  have X1 : Hid (Box W16 (w.heap.size) (.bool s1) (.slice a1 n1 c1)) := X1.out.below hb X1.out.lt
  have X2 : Hid (Box W16 (w.heap.size + 1) (.bool s2) (.slice a2 n2 c2)) := X2.out.below hb X2.out.lt
  have X3 : Hid (Box W16 (w.heap.size + 1 + 1) (.bool s3) (.slice a3 n3 c3)) := X3.out.below hb X3.out.lt
  have Xu : Hid (Box W16 (W5.heap.size) (.bool su) (.slice au nu cu)) := Xu.out.below hb Xu.out.lt
  have Xx : Hid (Box W16 (W7.heap.size) (.bool sx) (.slice ax nx cx)) := Xx.out.below hb Xx.out.lt
  have Xp : Hid (Box W16 (W9.heap.size) (.bool sp) (.slice ap np cp)) := Xp.out.below hb Xp.out.lt
  have Xq : Hid (Box W16 (W11.heap.size) (.bool sq) (.slice aq nq cq)) := Xq.out.below hb Xq.out.lt
  have Xy : Hid (Box W16 (W13.heap.size) (.bool sy) (.slice ay ny cy)) := Xy.out.below hb Xy.out.lt
  have H1 : Hid (Sl W16 a1 n1 c1 l1) := H1.out.below hb (Nat.le_refl _)
  have H2 : Hid (Sl W16 a2 n2 c2 l2) := H2.out.below hb (Nat.le_refl _)
  have H3 : Hid (Sl W16 a3 n3 c3 l3) := H3.out.below hb (Nat.le_refl _)
  have Hu : Hid (Sl W16 au nu cu lu) := Hu.out.below hb (Nat.le_refl _)
  have Hx : Hid (Sl W16 ax nx cx lx) := Hx.out.below hb (Nat.le_refl _)
  have Hp : Hid (Sl W16 ap np cp lp) := Hp.out.below hb (Nat.le_refl _)
  have Hq : Hid (Sl W16 aq nq cq lq) := Hq.out.below hb (Nat.le_refl _)
  have Hy : Hid (Sl W16 ay ny cy ly) := Hy.out.below hb (Nat.le_refl _)
  have HB : Hid (Below w.heap.size w W16) := HB.out.trans (hb.mono HB.out.size)
  clear hb
  have p10 := X1.out.z0
  have p11 := X1.out.z1
  have t1 := X1.out.lt
  have p20 := X2.out.z0
  have p21 := X2.out.z1
  have t2 := X2.out.lt
  have p30 := X3.out.z0
  have p31 := X3.out.z1
  have t3 := X3.out.lt
  have pu0 := Xu.out.z0
  have pu1 := Xu.out.z1
  have tu := Xu.out.lt
  have px0 := Xx.out.z0
  have px1 := Xx.out.z1
  have tx := Xx.out.lt
  have pp0 := Xp.out.z0
  have pp1 := Xp.out.z1
  have tp := Xp.out.lt
  have pq0 := Xq.out.z0
  have pq1 := Xq.out.z1
  have tq := Xq.out.lt
  have py0 := Xy.out.z0
  have py1 := Xy.out.z1
  have ty := Xy.out.lt
  go_wp2_with fail
  go_ret
  exact ⟨rfl, HB.out⟩
end Go.Proofs.YtimjafgaadafdabDoor
