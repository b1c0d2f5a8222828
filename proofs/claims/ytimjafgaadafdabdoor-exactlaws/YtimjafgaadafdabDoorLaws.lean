/-
  ExactLaws' law, walked: any two numbers.
-/
import Derived.Test.YtimjafgaadafdabDoorOrder
namespace Go.Proofs.YtimjafgaadafdabDoor
open Go.RowKit
attribute [local go_sem ↓] Go.wp_at_zero Go.wp_at_succ
set_option maxHeartbeats 2000000 in
theorem laws_out1 (s1 s2 : Bool) (a1 a2 : Option Addr) (n1 n2 c1 c2 : Nat) (l1 l2 : List Nat) (w : World) (h1 : Sl w a1 n1 c1 l1) (h2 : Sl w a2 n2 c2 l2) (hc : 40 < n1) :
    Calls Tryd.prog 3 #[.agg #[.bool s1, .slice a1 n1 c1], .agg #[.bool s2, .slice a2 n2 c2]] w fun e w' => e = .returned (.bool true) ∧ Below w.heap.size w w' := by
  have H1 : Hid (Sl w a1 n1 c1 l1) := h1
  have H2 : Hid (Sl w a2 n2 c2 l2) := h2
  have q1 := h1.mx
  have r1 := h1.lec
  have q2 := h2.mx
  have r2 := h2.lec
  clear h1 h2
  have HB : Hid (Below w.heap.size w w) := Below.refl _ _
  go_enter Tryd.func3, Tryd.ntmps3
  go_wp2_with fail
  generalize hW : (World.alloc _ _) = W1
  obtain ⟨x1, x2, hb, hz⟩ := boxes2 w (.bool s1) (.slice a1 n1 c1) (.bool s2) (.slice a2 n2 c2) 24 24 0 hW
  have X1 : Hid (Box W1 (w.heap.size) (.bool s1) (.slice a1 n1 c1)) := x1
  have X2 : Hid (Box W1 (w.heap.size + 1) (.bool s2) (.slice a2 n2 c2)) := x2
  clear hW x1 x2 hz
  have H1 : Hid (Sl W1 a1 n1 c1 l1) := H1.out.below hb (Nat.le_refl _)
  have H2 : Hid (Sl W1 a2 n2 c2 l2) := H2.out.below hb (Nat.le_refl _)
  have HB : Hid (Below w.heap.size w W1) := HB.out.trans (hb.mono HB.out.size)
  clear hb
  have p10 := X1.out.z0
  have p11 := X1.out.z1
  have t1 := X1.out.lt
  have p20 := X2.out.z0
  have p21 := X2.out.z1
  have t2 := X2.out.lt
  refine (in_any s1 a1 n1 c1 _ (by omega)).mono ?_
  rintro e W2 ⟨rfl, hb⟩
  rw [decide_eq_false (by omega)]
  clear p10 p11 t1 p20 p21 t2
  have X1 : Hid (Box W2 (w.heap.size) (.bool s1) (.slice a1 n1 c1)) := X1.out.below hb X1.out.lt
  have X2 : Hid (Box W2 (w.heap.size + 1) (.bool s2) (.slice a2 n2 c2)) := X2.out.below hb X2.out.lt
  have H1 : Hid (Sl W2 a1 n1 c1 l1) := H1.out.below hb (Nat.le_refl _)
  have H2 : Hid (Sl W2 a2 n2 c2 l2) := H2.out.below hb (Nat.le_refl _)
  have HB : Hid (Below w.heap.size w W2) := HB.out.trans (hb.mono HB.out.size)
  clear hb
  have p10 := X1.out.z0
  have p11 := X1.out.z1
  have t1 := X1.out.lt
  have p20 := X2.out.z0
  have p21 := X2.out.z1
  have t2 := X2.out.lt
  go_wp2_with fail
  refine (awake_any _).mono ?_
  rintro e W3 ⟨rfl, hb⟩
  clear p10 p11 t1 p20 p21 t2
  have X1 : Hid (Box W3 (w.heap.size) (.bool s1) (.slice a1 n1 c1)) := X1.out.below hb X1.out.lt
  have X2 : Hid (Box W3 (w.heap.size + 1) (.bool s2) (.slice a2 n2 c2)) := X2.out.below hb X2.out.lt
  have H1 : Hid (Sl W3 a1 n1 c1 l1) := H1.out.below hb (Nat.le_refl _)
  have H2 : Hid (Sl W3 a2 n2 c2 l2) := H2.out.below hb (Nat.le_refl _)
  have HB : Hid (Below w.heap.size w W3) := HB.out.trans (hb.mono HB.out.size)
  clear hb
  have p10 := X1.out.z0
  have p11 := X1.out.z1
  have t1 := X1.out.lt
  have p20 := X2.out.z0
  have p21 := X2.out.z1
  have t2 := X2.out.lt
  go_wp2_with fail
  go_ret
  exact ⟨rfl, HB.out⟩
set_option maxHeartbeats 2000000 in
theorem laws_out2 (s1 s2 : Bool) (a1 a2 : Option Addr) (n1 n2 c1 c2 : Nat) (l1 l2 : List Nat) (w : World) (h1 : Sl w a1 n1 c1 l1) (h2 : Sl w a2 n2 c2 l2) (hc : n1 ≤ 40 ∧ 40 < n2) :
    Calls Tryd.prog 3 #[.agg #[.bool s1, .slice a1 n1 c1], .agg #[.bool s2, .slice a2 n2 c2]] w fun e w' => e = .returned (.bool true) ∧ Below w.heap.size w w' := by
  have H1 : Hid (Sl w a1 n1 c1 l1) := h1
  have H2 : Hid (Sl w a2 n2 c2 l2) := h2
  have q1 := h1.mx
  have r1 := h1.lec
  have q2 := h2.mx
  have r2 := h2.lec
  clear h1 h2
  have HB : Hid (Below w.heap.size w w) := Below.refl _ _
  go_enter Tryd.func3, Tryd.ntmps3
  go_wp2_with fail
  generalize hW : (World.alloc _ _) = W1
  obtain ⟨x1, x2, hb, hz⟩ := boxes2 w (.bool s1) (.slice a1 n1 c1) (.bool s2) (.slice a2 n2 c2) 24 24 0 hW
  have X1 : Hid (Box W1 (w.heap.size) (.bool s1) (.slice a1 n1 c1)) := x1
  have X2 : Hid (Box W1 (w.heap.size + 1) (.bool s2) (.slice a2 n2 c2)) := x2
  clear hW x1 x2 hz
  have H1 : Hid (Sl W1 a1 n1 c1 l1) := H1.out.below hb (Nat.le_refl _)
  have H2 : Hid (Sl W1 a2 n2 c2 l2) := H2.out.below hb (Nat.le_refl _)
  have HB : Hid (Below w.heap.size w W1) := HB.out.trans (hb.mono HB.out.size)
  clear hb
  have p10 := X1.out.z0
  have p11 := X1.out.z1
  have t1 := X1.out.lt
  have p20 := X2.out.z0
  have p21 := X2.out.z1
  have t2 := X2.out.lt
  refine (in_any s1 a1 n1 c1 _ (by omega)).mono ?_
  rintro e W2 ⟨rfl, hb⟩
  rw [decide_eq_true (by omega)]
  clear p10 p11 t1 p20 p21 t2
  have X1 : Hid (Box W2 (w.heap.size) (.bool s1) (.slice a1 n1 c1)) := X1.out.below hb X1.out.lt
  have X2 : Hid (Box W2 (w.heap.size + 1) (.bool s2) (.slice a2 n2 c2)) := X2.out.below hb X2.out.lt
  have H1 : Hid (Sl W2 a1 n1 c1 l1) := H1.out.below hb (Nat.le_refl _)
  have H2 : Hid (Sl W2 a2 n2 c2 l2) := H2.out.below hb (Nat.le_refl _)
  have HB : Hid (Below w.heap.size w W2) := HB.out.trans (hb.mono HB.out.size)
  clear hb
  have p10 := X1.out.z0
  have p11 := X1.out.z1
  have t1 := X1.out.lt
  have p20 := X2.out.z0
  have p21 := X2.out.z1
  have t2 := X2.out.lt
  go_wp2_with fail
  refine (in_any s2 a2 n2 c2 _ (by omega)).mono ?_
  rintro e W3 ⟨rfl, hb⟩
  rw [decide_eq_false (by omega)]
  clear p10 p11 t1 p20 p21 t2
  have X1 : Hid (Box W3 (w.heap.size) (.bool s1) (.slice a1 n1 c1)) := X1.out.below hb X1.out.lt
  have X2 : Hid (Box W3 (w.heap.size + 1) (.bool s2) (.slice a2 n2 c2)) := X2.out.below hb X2.out.lt
  have H1 : Hid (Sl W3 a1 n1 c1 l1) := H1.out.below hb (Nat.le_refl _)
  have H2 : Hid (Sl W3 a2 n2 c2 l2) := H2.out.below hb (Nat.le_refl _)
  have HB : Hid (Below w.heap.size w W3) := HB.out.trans (hb.mono HB.out.size)
  clear hb
  have p10 := X1.out.z0
  have p11 := X1.out.z1
  have t1 := X1.out.lt
  have p20 := X2.out.z0
  have p21 := X2.out.z1
  have t2 := X2.out.lt
  go_wp2_with fail
  refine (awake_any _).mono ?_
  rintro e W4 ⟨rfl, hb⟩
  clear p10 p11 t1 p20 p21 t2
  have X1 : Hid (Box W4 (w.heap.size) (.bool s1) (.slice a1 n1 c1)) := X1.out.below hb X1.out.lt
  have X2 : Hid (Box W4 (w.heap.size + 1) (.bool s2) (.slice a2 n2 c2)) := X2.out.below hb X2.out.lt
  have H1 : Hid (Sl W4 a1 n1 c1 l1) := H1.out.below hb (Nat.le_refl _)
  have H2 : Hid (Sl W4 a2 n2 c2 l2) := H2.out.below hb (Nat.le_refl _)
  have HB : Hid (Below w.heap.size w W4) := HB.out.trans (hb.mono HB.out.size)
  clear hb
  have p10 := X1.out.z0
  have p11 := X1.out.z1
  have t1 := X1.out.lt
  have p20 := X2.out.z0
  have p21 := X2.out.z1
  have t2 := X2.out.lt
  go_wp2_with fail
  go_ret
  exact ⟨rfl, HB.out⟩
theorem laws_zi (s : Bool) (N : Nat) : cmpI (zi s N + zi (!s) N) 0 = 0 := by
  have : zi s N + zi (!s) N = 0 := by unfold zi; cases s <;> simp <;> omega
  rw [this]; rfl
theorem laws_cmp (a b : Int) : cmpI b a = -cmpI a b := by
  unfold cmpI
  (repeat' split) <;> omega
set_option maxHeartbeats 4000000 in
theorem laws_in (s1 s2 : Bool) (a1 a2 : Option Addr) (n1 n2 c1 c2 : Nat) (l1 l2 : List Nat) (w : World) (h1 : Sl w a1 n1 c1 l1) (h2 : Sl w a2 n2 c2 l2) (m1 : n1 ≤ 40) (m2 : n2 ≤ 40) :
    Calls Tryd.prog 3 #[.agg #[.bool s1, .slice a1 n1 c1], .agg #[.bool s2, .slice a2 n2 c2]] w fun e w' => e = .returned (.bool true) ∧ Below w.heap.size w w' := by
  have H1 : Hid (Sl w a1 n1 c1 l1) := h1
  have H2 : Hid (Sl w a2 n2 c2 l2) := h2
  have q1 := h1.mx
  have r1 := h1.lec
  have q2 := h2.mx
  have r2 := h2.lec
  clear h1 h2
  have HB : Hid (Below w.heap.size w w) := Below.refl _ _
  obtain ⟨sx, SX1⟩ : ∃ sx, Hid (addS s1 (vl 4294967296 l1) s2 (vl 4294967296 l2) = sx) := ⟨_, rfl⟩
  obtain ⟨ex, EX1⟩ : ∃ ex, Hid (addE s1 (vl 4294967296 l1) s2 (vl 4294967296 l2) = ex) := ⟨_, rfl⟩
  obtain ⟨vx, VX1⟩ : ∃ vx, Hid (addV s1 (vl 4294967296 l1) s2 (vl 4294967296 l2) = vx) := ⟨_, rfl⟩
  have SX2 : Hid (addS s2 (vl 4294967296 l2) s1 (vl 4294967296 l1) = sx) := (add_comm3 s1 (vl 4294967296 l1) s2 (vl 4294967296 l2)).2.2.symm.trans SX1.out
  have EX2 : Hid (addE s2 (vl 4294967296 l2) s1 (vl 4294967296 l1) = ex) := (add_comm3 s1 (vl 4294967296 l1) s2 (vl 4294967296 l2)).1.symm.trans EX1.out
  have VX2 : Hid (addV s2 (vl 4294967296 l2) s1 (vl 4294967296 l1) = vx) := (add_comm3 s1 (vl 4294967296 l1) s2 (vl 4294967296 l2)).2.1.symm.trans VX1.out
  have LX : Hid (vx < 4294967296 ^ 40) := VX1.out ▸ addV_lt _ _ _ _
  obtain ⟨sm, SM1⟩ : ∃ sm, Hid (mulS s1 (vl 4294967296 l1) s2 (vl 4294967296 l2) = sm) := ⟨_, rfl⟩
  obtain ⟨em, EM1⟩ : ∃ em, Hid (mulE (vl 4294967296 l1) (vl 4294967296 l2) = em) := ⟨_, rfl⟩
  obtain ⟨vm, VM1⟩ : ∃ vm, Hid (mulV (vl 4294967296 l1) (vl 4294967296 l2) = vm) := ⟨_, rfl⟩
  have SM2 : Hid (mulS s2 (vl 4294967296 l2) s1 (vl 4294967296 l1) = sm) := (mul_comm3 s1 (vl 4294967296 l1) s2 (vl 4294967296 l2)).2.2.symm.trans SM1.out
  have EM2 : Hid (mulE (vl 4294967296 l2) (vl 4294967296 l1) = em) := (mul_comm3 s1 (vl 4294967296 l1) s2 (vl 4294967296 l2)).1.symm.trans EM1.out
  have VM2 : Hid (mulV (vl 4294967296 l2) (vl 4294967296 l1) = vm) := (mul_comm3 s1 (vl 4294967296 l1) s2 (vl 4294967296 l2)).2.1.symm.trans VM1.out
  have LM : Hid (vm < 4294967296 ^ 40) := VM1.out ▸ mulV_lt _ _
  obtain ⟨sd, SD1⟩ : ∃ sd, Hid (addS s1 (vl 4294967296 l1) (!s1) (vl 4294967296 l1) = sd) := ⟨_, rfl⟩
  obtain ⟨ed, ED1⟩ : ∃ ed, Hid (addE s1 (vl 4294967296 l1) (!s1) (vl 4294967296 l1) = ed) := ⟨_, rfl⟩
  obtain ⟨vd, VD1⟩ : ∃ vd, Hid (addV s1 (vl 4294967296 l1) (!s1) (vl 4294967296 l1) = vd) := ⟨_, rfl⟩
  have LD : Hid (vd < 4294967296 ^ 40) := VD1.out ▸ addV_lt _ _ _ _
  go_enter Tryd.func3, Tryd.ntmps3
  go_wp2_with fail
  generalize hW : (World.alloc _ _) = W1
  obtain ⟨x1, x2, hb, hz⟩ := boxes2 w (.bool s1) (.slice a1 n1 c1) (.bool s2) (.slice a2 n2 c2) 24 24 0 hW
  have X1 : Hid (Box W1 (w.heap.size) (.bool s1) (.slice a1 n1 c1)) := x1
  have X2 : Hid (Box W1 (w.heap.size + 1) (.bool s2) (.slice a2 n2 c2)) := x2
  clear hW x1 x2 hz
  have H1 : Hid (Sl W1 a1 n1 c1 l1) := H1.out.below hb (Nat.le_refl _)
  have H2 : Hid (Sl W1 a2 n2 c2 l2) := H2.out.below hb (Nat.le_refl _)
  have HB : Hid (Below w.heap.size w W1) := HB.out.trans (hb.mono HB.out.size)
  clear hb
  have p10 := X1.out.z0
  have p11 := X1.out.z1
  have t1 := X1.out.lt
  have p20 := X2.out.z0
  have p21 := X2.out.z1
  have t2 := X2.out.lt
  refine (in_any s1 a1 n1 c1 _ (by omega)).mono ?_
  rintro e W2 ⟨rfl, hb⟩
  rw [decide_eq_true (by omega)]
  clear p10 p11 t1 p20 p21 t2
  have X1 : Hid (Box W2 (w.heap.size) (.bool s1) (.slice a1 n1 c1)) := X1.out.below hb X1.out.lt
  have X2 : Hid (Box W2 (w.heap.size + 1) (.bool s2) (.slice a2 n2 c2)) := X2.out.below hb X2.out.lt
  have H1 : Hid (Sl W2 a1 n1 c1 l1) := H1.out.below hb (Nat.le_refl _)
  have H2 : Hid (Sl W2 a2 n2 c2 l2) := H2.out.below hb (Nat.le_refl _)
  have HB : Hid (Below w.heap.size w W2) := HB.out.trans (hb.mono HB.out.size)
  clear hb
  have p10 := X1.out.z0
  have p11 := X1.out.z1
  have t1 := X1.out.lt
  have p20 := X2.out.z0
  have p21 := X2.out.z1
  have t2 := X2.out.lt
  go_wp2_with fail
  refine (in_any s2 a2 n2 c2 _ (by omega)).mono ?_
  rintro e W3 ⟨rfl, hb⟩
  rw [decide_eq_true (by omega)]
  clear p10 p11 t1 p20 p21 t2
  have X1 : Hid (Box W3 (w.heap.size) (.bool s1) (.slice a1 n1 c1)) := X1.out.below hb X1.out.lt
  have X2 : Hid (Box W3 (w.heap.size + 1) (.bool s2) (.slice a2 n2 c2)) := X2.out.below hb X2.out.lt
  have H1 : Hid (Sl W3 a1 n1 c1 l1) := H1.out.below hb (Nat.le_refl _)
  have H2 : Hid (Sl W3 a2 n2 c2 l2) := H2.out.below hb (Nat.le_refl _)
  have HB : Hid (Below w.heap.size w W3) := HB.out.trans (hb.mono HB.out.size)
  clear hb
  have p10 := X1.out.z0
  have p11 := X1.out.z1
  have t1 := X1.out.lt
  have p20 := X2.out.z0
  have p21 := X2.out.z1
  have t2 := X2.out.lt
  go_wp2_with fail
  refine (add_any s1 s2 a1 n1 c1 l1 a2 n2 c2 l2 _ H1.out H2.out (by omega) (by omega)).mono ?_
  rintro e W4 ⟨⟨v, rfl, hx⟩, hb⟩
  rw [SX1.out, VX1.out] at hx
  rw [EX1.out]
  clear p10 p11 t1 p20 p21 t2
  have X1 : Hid (Box W4 (w.heap.size) (.bool s1) (.slice a1 n1 c1)) := X1.out.below hb X1.out.lt
  have X2 : Hid (Box W4 (w.heap.size + 1) (.bool s2) (.slice a2 n2 c2)) := X2.out.below hb X2.out.lt
  have H1 : Hid (Sl W4 a1 n1 c1 l1) := H1.out.below hb (Nat.le_refl _)
  have H2 : Hid (Sl W4 a2 n2 c2 l2) := H2.out.below hb (Nat.le_refl _)
  have HB : Hid (Below w.heap.size w W4) := HB.out.trans (hb.mono HB.out.size)
  clear hb
  have p10 := X1.out.z0
  have p11 := X1.out.z1
  have t1 := X1.out.lt
  have p20 := X2.out.z0
  have p21 := X2.out.z1
  have t2 := X2.out.lt
  have Ix := hx
  obtain ⟨ax, nx, cx, lx, rfl, hs, hv, mx⟩ := hx.open LX.out
  have Hx : Hid (Sl W4 ax nx cx lx) := hs
  have Ex : Hid (vl 4294967296 lx = vx) := hv
  clear hs hv hx
  have Ix : Hid (IntR W4 _ _ _ _) := Ix
  go_wp2_with fail
  generalize hW : (World.alloc W4 _) = W5
  obtain ⟨xn, hb, hz⟩ := boxes1 W4 (.bool sx) (.slice ax nx cx) 24 hW
  have Xx : Hid (Box W5 (W4.heap.size) (.bool sx) (.slice ax nx cx)) := xn
  clear hW xn hz
  clear p10 p11 t1 p20 p21 t2
  have Ix : Hid (IntR W5 _ _ _ _) := Ix.out.below hb (Nat.le_refl _)
  have X1 : Hid (Box W5 (w.heap.size) (.bool s1) (.slice a1 n1 c1)) := X1.out.below hb X1.out.lt
  have X2 : Hid (Box W5 (w.heap.size + 1) (.bool s2) (.slice a2 n2 c2)) := X2.out.below hb X2.out.lt
  have H1 : Hid (Sl W5 a1 n1 c1 l1) := H1.out.below hb (Nat.le_refl _)
  have H2 : Hid (Sl W5 a2 n2 c2 l2) := H2.out.below hb (Nat.le_refl _)
  have Hx : Hid (Sl W5 ax nx cx lx) := Hx.out.below hb (Nat.le_refl _)
  have HB : Hid (Below w.heap.size w W5) := HB.out.trans (hb.mono HB.out.size)
  clear hb
  have p10 := X1.out.z0
  have p11 := X1.out.z1
  have t1 := X1.out.lt
  have p20 := X2.out.z0
  have p21 := X2.out.z1
  have t2 := X2.out.lt
  have px0 := Xx.out.z0
  have px1 := Xx.out.z1
  have tx := Xx.out.lt
  go_wp2_with fail
  refine (add_any s2 s1 a2 n2 c2 l2 a1 n1 c1 l1 _ H2.out H1.out (by omega) (by omega)).mono ?_
  rintro e W6 ⟨⟨v, rfl, hy⟩, hb⟩
  rw [SX2.out, VX2.out] at hy
  rw [EX2.out]
  clear p10 p11 t1 p20 p21 t2 px0 px1 tx
  have Ix : Hid (IntR W6 _ _ _ _) := Ix.out.below hb (Nat.le_refl _)
  have X1 : Hid (Box W6 (w.heap.size) (.bool s1) (.slice a1 n1 c1)) := X1.out.below hb X1.out.lt
  have X2 : Hid (Box W6 (w.heap.size + 1) (.bool s2) (.slice a2 n2 c2)) := X2.out.below hb X2.out.lt
  have Xx : Hid (Box W6 (W4.heap.size) (.bool sx) (.slice ax nx cx)) := Xx.out.below hb Xx.out.lt
  have H1 : Hid (Sl W6 a1 n1 c1 l1) := H1.out.below hb (Nat.le_refl _)
  have H2 : Hid (Sl W6 a2 n2 c2 l2) := H2.out.below hb (Nat.le_refl _)
  have Hx : Hid (Sl W6 ax nx cx lx) := Hx.out.below hb (Nat.le_refl _)
  have HB : Hid (Below w.heap.size w W6) := HB.out.trans (hb.mono HB.out.size)
  clear hb
  have p10 := X1.out.z0
  have p11 := X1.out.z1
  have t1 := X1.out.lt
  have p20 := X2.out.z0
  have p21 := X2.out.z1
  have t2 := X2.out.lt
  have px0 := Xx.out.z0
  have px1 := Xx.out.z1
  have tx := Xx.out.lt
  have Iy := hy
  obtain ⟨ay, ny, cy, ly, rfl, hs, hv, my⟩ := hy.open LX.out
  have Hy : Hid (Sl W6 ay ny cy ly) := hs
  have Ey : Hid (vl 4294967296 ly = vx) := hv
  clear hs hv hy
  have Iy : Hid (IntR W6 _ _ _ _) := Iy
  go_wp2_with fail
  generalize hW : (World.alloc W6 _) = W7
  obtain ⟨xn, hb, hz⟩ := boxes1 W6 (.bool sx) (.slice ay ny cy) 24 hW
  have Xy : Hid (Box W7 (W6.heap.size) (.bool sx) (.slice ay ny cy)) := xn
  clear hW xn hz
  clear p10 p11 t1 p20 p21 t2 px0 px1 tx
  have Ix : Hid (IntR W7 _ _ _ _) := Ix.out.below hb (Nat.le_refl _)
  have Iy : Hid (IntR W7 _ _ _ _) := Iy.out.below hb (Nat.le_refl _)
  have X1 : Hid (Box W7 (w.heap.size) (.bool s1) (.slice a1 n1 c1)) := X1.out.below hb X1.out.lt
  have X2 : Hid (Box W7 (w.heap.size + 1) (.bool s2) (.slice a2 n2 c2)) := X2.out.below hb X2.out.lt
  have Xx : Hid (Box W7 (W4.heap.size) (.bool sx) (.slice ax nx cx)) := Xx.out.below hb Xx.out.lt
  have H1 : Hid (Sl W7 a1 n1 c1 l1) := H1.out.below hb (Nat.le_refl _)
  have H2 : Hid (Sl W7 a2 n2 c2 l2) := H2.out.below hb (Nat.le_refl _)
  have Hx : Hid (Sl W7 ax nx cx lx) := Hx.out.below hb (Nat.le_refl _)
  have Hy : Hid (Sl W7 ay ny cy ly) := Hy.out.below hb (Nat.le_refl _)
  have HB : Hid (Below w.heap.size w W7) := HB.out.trans (hb.mono HB.out.size)
  clear hb
  have p10 := X1.out.z0
  have p11 := X1.out.z1
  have t1 := X1.out.lt
  have p20 := X2.out.z0
  have p21 := X2.out.z1
  have t2 := X2.out.lt
  have px0 := Xx.out.z0
  have px1 := Xx.out.z1
  have tx := Xx.out.lt
  have py0 := Xy.out.z0
  have py1 := Xy.out.z1
  have ty := Xy.out.lt
  go_wp2_with fail
  refine (mul_any s1 s2 a1 n1 c1 l1 a2 n2 c2 l2 _ H1.out H2.out (by omega) (by omega)).mono ?_
  rintro e W8 ⟨⟨v, rfl, hu⟩, hb⟩
  rw [SM1.out, VM1.out] at hu
  rw [EM1.out]
  clear p10 p11 t1 p20 p21 t2 px0 px1 tx py0 py1 ty
  have Ix : Hid (IntR W8 _ _ _ _) := Ix.out.below hb (Nat.le_refl _)
  have Iy : Hid (IntR W8 _ _ _ _) := Iy.out.below hb (Nat.le_refl _)
  have X1 : Hid (Box W8 (w.heap.size) (.bool s1) (.slice a1 n1 c1)) := X1.out.below hb X1.out.lt
  have X2 : Hid (Box W8 (w.heap.size + 1) (.bool s2) (.slice a2 n2 c2)) := X2.out.below hb X2.out.lt
  have Xx : Hid (Box W8 (W4.heap.size) (.bool sx) (.slice ax nx cx)) := Xx.out.below hb Xx.out.lt
  have Xy : Hid (Box W8 (W6.heap.size) (.bool sx) (.slice ay ny cy)) := Xy.out.below hb Xy.out.lt
  have H1 : Hid (Sl W8 a1 n1 c1 l1) := H1.out.below hb (Nat.le_refl _)
  have H2 : Hid (Sl W8 a2 n2 c2 l2) := H2.out.below hb (Nat.le_refl _)
  have Hx : Hid (Sl W8 ax nx cx lx) := Hx.out.below hb (Nat.le_refl _)
  have Hy : Hid (Sl W8 ay ny cy ly) := Hy.out.below hb (Nat.le_refl _)
  have HB : Hid (Below w.heap.size w W8) := HB.out.trans (hb.mono HB.out.size)
  clear hb
  have p10 := X1.out.z0
  have p11 := X1.out.z1
  have t1 := X1.out.lt
  have p20 := X2.out.z0
  have p21 := X2.out.z1
  have t2 := X2.out.lt
  have px0 := Xx.out.z0
  have px1 := Xx.out.z1
  have tx := Xx.out.lt
  have py0 := Xy.out.z0
  have py1 := Xy.out.z1
  have ty := Xy.out.lt
  have Iu := hu
  obtain ⟨au, nu, cu, lu, rfl, hs, hv, mu⟩ := hu.open LM.out
  have Hu : Hid (Sl W8 au nu cu lu) := hs
  have Eu : Hid (vl 4294967296 lu = vm) := hv
  clear hs hv hu
  have Iu : Hid (IntR W8 _ _ _ _) := Iu
  go_wp2_with fail
  generalize hW : (World.alloc W8 _) = W9
  obtain ⟨xn, hb, hz⟩ := boxes1 W8 (.bool sm) (.slice au nu cu) 24 hW
  have Xu : Hid (Box W9 (W8.heap.size) (.bool sm) (.slice au nu cu)) := xn
  clear hW xn hz
  clear p10 p11 t1 p20 p21 t2 px0 px1 tx py0 py1 ty
  have Ix : Hid (IntR W9 _ _ _ _) := Ix.out.below hb (Nat.le_refl _)
  have Iy : Hid (IntR W9 _ _ _ _) := Iy.out.below hb (Nat.le_refl _)
  have Iu : Hid (IntR W9 _ _ _ _) := Iu.out.below hb (Nat.le_refl _)
  have X1 : Hid (Box W9 (w.heap.size) (.bool s1) (.slice a1 n1 c1)) := X1.out.below hb X1.out.lt
  have X2 : Hid (Box W9 (w.heap.size + 1) (.bool s2) (.slice a2 n2 c2)) := X2.out.below hb X2.out.lt
  have Xx : Hid (Box W9 (W4.heap.size) (.bool sx) (.slice ax nx cx)) := Xx.out.below hb Xx.out.lt
  have Xy : Hid (Box W9 (W6.heap.size) (.bool sx) (.slice ay ny cy)) := Xy.out.below hb Xy.out.lt
  have H1 : Hid (Sl W9 a1 n1 c1 l1) := H1.out.below hb (Nat.le_refl _)
  have H2 : Hid (Sl W9 a2 n2 c2 l2) := H2.out.below hb (Nat.le_refl _)
  have Hx : Hid (Sl W9 ax nx cx lx) := Hx.out.below hb (Nat.le_refl _)
  have Hy : Hid (Sl W9 ay ny cy ly) := Hy.out.below hb (Nat.le_refl _)
  have Hu : Hid (Sl W9 au nu cu lu) := Hu.out.below hb (Nat.le_refl _)
  have HB : Hid (Below w.heap.size w W9) := HB.out.trans (hb.mono HB.out.size)
  clear hb
  have p10 := X1.out.z0
  have p11 := X1.out.z1
  have t1 := X1.out.lt
  have p20 := X2.out.z0
  have p21 := X2.out.z1
  have t2 := X2.out.lt
  have px0 := Xx.out.z0
  have px1 := Xx.out.z1
  have tx := Xx.out.lt
  have py0 := Xy.out.z0
  have py1 := Xy.out.z1
  have ty := Xy.out.lt
  have pu0 := Xu.out.z0
  have pu1 := Xu.out.z1
  have tu := Xu.out.lt
  go_wp2_with fail
  refine (mul_any s2 s1 a2 n2 c2 l2 a1 n1 c1 l1 _ H2.out H1.out (by omega) (by omega)).mono ?_
  rintro e W10 ⟨⟨v, rfl, hz⟩, hb⟩
  rw [SM2.out, VM2.out] at hz
  rw [EM2.out]
  clear p10 p11 t1 p20 p21 t2 px0 px1 tx py0 py1 ty pu0 pu1 tu
  have Ix : Hid (IntR W10 _ _ _ _) := Ix.out.below hb (Nat.le_refl _)
  have Iy : Hid (IntR W10 _ _ _ _) := Iy.out.below hb (Nat.le_refl _)
  have Iu : Hid (IntR W10 _ _ _ _) := Iu.out.below hb (Nat.le_refl _)
  have X1 : Hid (Box W10 (w.heap.size) (.bool s1) (.slice a1 n1 c1)) := X1.out.below hb X1.out.lt
  have X2 : Hid (Box W10 (w.heap.size + 1) (.bool s2) (.slice a2 n2 c2)) := X2.out.below hb X2.out.lt
  have Xx : Hid (Box W10 (W4.heap.size) (.bool sx) (.slice ax nx cx)) := Xx.out.below hb Xx.out.lt
  have Xy : Hid (Box W10 (W6.heap.size) (.bool sx) (.slice ay ny cy)) := Xy.out.below hb Xy.out.lt
  have Xu : Hid (Box W10 (W8.heap.size) (.bool sm) (.slice au nu cu)) := Xu.out.below hb Xu.out.lt
  have H1 : Hid (Sl W10 a1 n1 c1 l1) := H1.out.below hb (Nat.le_refl _)
  have H2 : Hid (Sl W10 a2 n2 c2 l2) := H2.out.below hb (Nat.le_refl _)
  have Hx : Hid (Sl W10 ax nx cx lx) := Hx.out.below hb (Nat.le_refl _)
  have Hy : Hid (Sl W10 ay ny cy ly) := Hy.out.below hb (Nat.le_refl _)
  have Hu : Hid (Sl W10 au nu cu lu) := Hu.out.below hb (Nat.le_refl _)
  have HB : Hid (Below w.heap.size w W10) := HB.out.trans (hb.mono HB.out.size)
  clear hb
  have p10 := X1.out.z0
  have p11 := X1.out.z1
  have t1 := X1.out.lt
  have p20 := X2.out.z0
  have p21 := X2.out.z1
  have t2 := X2.out.lt
  have px0 := Xx.out.z0
  have px1 := Xx.out.z1
  have tx := Xx.out.lt
  have py0 := Xy.out.z0
  have py1 := Xy.out.z1
  have ty := Xy.out.lt
  have pu0 := Xu.out.z0
  have pu1 := Xu.out.z1
  have tu := Xu.out.lt
  have Iz := hz
  obtain ⟨az, nz, cz, lz, rfl, hs, hv, mz⟩ := hz.open LM.out
  have Hz : Hid (Sl W10 az nz cz lz) := hs
  have Ez : Hid (vl 4294967296 lz = vm) := hv
  clear hs hv hz
  have Iz : Hid (IntR W10 _ _ _ _) := Iz
  go_wp2_with fail
  generalize hW : (World.alloc W10 _) = W11
  obtain ⟨xn, hb, hz⟩ := boxes1 W10 (.bool sm) (.slice az nz cz) 24 hW
  have Xz : Hid (Box W11 (W10.heap.size) (.bool sm) (.slice az nz cz)) := xn
  clear hW xn hz
  clear p10 p11 t1 p20 p21 t2 px0 px1 tx py0 py1 ty pu0 pu1 tu
  have Ix : Hid (IntR W11 _ _ _ _) := Ix.out.below hb (Nat.le_refl _)
  have Iy : Hid (IntR W11 _ _ _ _) := Iy.out.below hb (Nat.le_refl _)
  have Iu : Hid (IntR W11 _ _ _ _) := Iu.out.below hb (Nat.le_refl _)
  have Iz : Hid (IntR W11 _ _ _ _) := Iz.out.below hb (Nat.le_refl _)
  have X1 : Hid (Box W11 (w.heap.size) (.bool s1) (.slice a1 n1 c1)) := X1.out.below hb X1.out.lt
  have X2 : Hid (Box W11 (w.heap.size + 1) (.bool s2) (.slice a2 n2 c2)) := X2.out.below hb X2.out.lt
  have Xx : Hid (Box W11 (W4.heap.size) (.bool sx) (.slice ax nx cx)) := Xx.out.below hb Xx.out.lt
  have Xy : Hid (Box W11 (W6.heap.size) (.bool sx) (.slice ay ny cy)) := Xy.out.below hb Xy.out.lt
  have Xu : Hid (Box W11 (W8.heap.size) (.bool sm) (.slice au nu cu)) := Xu.out.below hb Xu.out.lt
  have H1 : Hid (Sl W11 a1 n1 c1 l1) := H1.out.below hb (Nat.le_refl _)
  have H2 : Hid (Sl W11 a2 n2 c2 l2) := H2.out.below hb (Nat.le_refl _)
  have Hx : Hid (Sl W11 ax nx cx lx) := Hx.out.below hb (Nat.le_refl _)
  have Hy : Hid (Sl W11 ay ny cy ly) := Hy.out.below hb (Nat.le_refl _)
  have Hu : Hid (Sl W11 au nu cu lu) := Hu.out.below hb (Nat.le_refl _)
  have Hz : Hid (Sl W11 az nz cz lz) := Hz.out.below hb (Nat.le_refl _)
  have HB : Hid (Below w.heap.size w W11) := HB.out.trans (hb.mono HB.out.size)
  clear hb
  have p10 := X1.out.z0
  have p11 := X1.out.z1
  have t1 := X1.out.lt
  have p20 := X2.out.z0
  have p21 := X2.out.z1
  have t2 := X2.out.lt
  have px0 := Xx.out.z0
  have px1 := Xx.out.z1
  have tx := Xx.out.lt
  have py0 := Xy.out.z0
  have py1 := Xy.out.z1
  have ty := Xy.out.lt
  have pu0 := Xu.out.z0
  have pu1 := Xu.out.z1
  have tu := Xu.out.lt
  have pz0 := Xz.out.z0
  have pz1 := Xz.out.z1
  have tz := Xz.out.lt
  go_wp2_with fail
  refine (sub_any s1 s1 a1 n1 c1 l1 a1 n1 c1 l1 _ H1.out H1.out (by omega) (by omega)).mono ?_
  rintro e W12 ⟨⟨v, rfl, hd⟩, hb⟩
  rw [SD1.out, VD1.out] at hd
  rw [ED1.out]
  clear p10 p11 t1 p20 p21 t2 px0 px1 tx py0 py1 ty pu0 pu1 tu pz0 pz1 tz
  have Ix : Hid (IntR W12 _ _ _ _) := Ix.out.below hb (Nat.le_refl _)
  have Iy : Hid (IntR W12 _ _ _ _) := Iy.out.below hb (Nat.le_refl _)
  have Iu : Hid (IntR W12 _ _ _ _) := Iu.out.below hb (Nat.le_refl _)
  have Iz : Hid (IntR W12 _ _ _ _) := Iz.out.below hb (Nat.le_refl _)
  have X1 : Hid (Box W12 (w.heap.size) (.bool s1) (.slice a1 n1 c1)) := X1.out.below hb X1.out.lt
  have X2 : Hid (Box W12 (w.heap.size + 1) (.bool s2) (.slice a2 n2 c2)) := X2.out.below hb X2.out.lt
  have Xx : Hid (Box W12 (W4.heap.size) (.bool sx) (.slice ax nx cx)) := Xx.out.below hb Xx.out.lt
  have Xy : Hid (Box W12 (W6.heap.size) (.bool sx) (.slice ay ny cy)) := Xy.out.below hb Xy.out.lt
  have Xu : Hid (Box W12 (W8.heap.size) (.bool sm) (.slice au nu cu)) := Xu.out.below hb Xu.out.lt
  have Xz : Hid (Box W12 (W10.heap.size) (.bool sm) (.slice az nz cz)) := Xz.out.below hb Xz.out.lt
  have H1 : Hid (Sl W12 a1 n1 c1 l1) := H1.out.below hb (Nat.le_refl _)
  have H2 : Hid (Sl W12 a2 n2 c2 l2) := H2.out.below hb (Nat.le_refl _)
  have Hx : Hid (Sl W12 ax nx cx lx) := Hx.out.below hb (Nat.le_refl _)
  have Hy : Hid (Sl W12 ay ny cy ly) := Hy.out.below hb (Nat.le_refl _)
  have Hu : Hid (Sl W12 au nu cu lu) := Hu.out.below hb (Nat.le_refl _)
  have Hz : Hid (Sl W12 az nz cz lz) := Hz.out.below hb (Nat.le_refl _)
  have HB : Hid (Below w.heap.size w W12) := HB.out.trans (hb.mono HB.out.size)
  clear hb
  have p10 := X1.out.z0
  have p11 := X1.out.z1
  have t1 := X1.out.lt
  have p20 := X2.out.z0
  have p21 := X2.out.z1
  have t2 := X2.out.lt
  have px0 := Xx.out.z0
  have px1 := Xx.out.z1
  have tx := Xx.out.lt
  have py0 := Xy.out.z0
  have py1 := Xy.out.z1
  have ty := Xy.out.lt
  have pu0 := Xu.out.z0
  have pu1 := Xu.out.z1
  have tu := Xu.out.lt
  have pz0 := Xz.out.z0
  have pz1 := Xz.out.z1
  have tz := Xz.out.lt
  have Id := hd
  obtain ⟨ad, nd, cd, ld, rfl, hs, hv, md⟩ := hd.open LD.out
  have Hd : Hid (Sl W12 ad nd cd ld) := hs
  have Ed : Hid (vl 4294967296 ld = vd) := hv
  clear hs hv hd
  have Id : Hid (IntR W12 _ _ _ _) := Id
  go_wp2_with fail
  generalize hW : (World.alloc W12 _) = W13
  obtain ⟨xn, hb, hz⟩ := boxes1 W12 (.bool sd) (.slice ad nd cd) 24 hW
  have Xd : Hid (Box W13 (W12.heap.size) (.bool sd) (.slice ad nd cd)) := xn
  clear hW xn hz
  clear p10 p11 t1 p20 p21 t2 px0 px1 tx py0 py1 ty pu0 pu1 tu pz0 pz1 tz
  have Ix : Hid (IntR W13 _ _ _ _) := Ix.out.below hb (Nat.le_refl _)
  have Iy : Hid (IntR W13 _ _ _ _) := Iy.out.below hb (Nat.le_refl _)
  have Iu : Hid (IntR W13 _ _ _ _) := Iu.out.below hb (Nat.le_refl _)
  have Iz : Hid (IntR W13 _ _ _ _) := Iz.out.below hb (Nat.le_refl _)
  have Id : Hid (IntR W13 _ _ _ _) := Id.out.below hb (Nat.le_refl _)
  have X1 : Hid (Box W13 (w.heap.size) (.bool s1) (.slice a1 n1 c1)) := X1.out.below hb X1.out.lt
  have X2 : Hid (Box W13 (w.heap.size + 1) (.bool s2) (.slice a2 n2 c2)) := X2.out.below hb X2.out.lt
  have Xx : Hid (Box W13 (W4.heap.size) (.bool sx) (.slice ax nx cx)) := Xx.out.below hb Xx.out.lt
  have Xy : Hid (Box W13 (W6.heap.size) (.bool sx) (.slice ay ny cy)) := Xy.out.below hb Xy.out.lt
  have Xu : Hid (Box W13 (W8.heap.size) (.bool sm) (.slice au nu cu)) := Xu.out.below hb Xu.out.lt
  have Xz : Hid (Box W13 (W10.heap.size) (.bool sm) (.slice az nz cz)) := Xz.out.below hb Xz.out.lt
  have H1 : Hid (Sl W13 a1 n1 c1 l1) := H1.out.below hb (Nat.le_refl _)
  have H2 : Hid (Sl W13 a2 n2 c2 l2) := H2.out.below hb (Nat.le_refl _)
  have Hx : Hid (Sl W13 ax nx cx lx) := Hx.out.below hb (Nat.le_refl _)
  have Hy : Hid (Sl W13 ay ny cy ly) := Hy.out.below hb (Nat.le_refl _)
  have Hu : Hid (Sl W13 au nu cu lu) := Hu.out.below hb (Nat.le_refl _)
  have Hz : Hid (Sl W13 az nz cz lz) := Hz.out.below hb (Nat.le_refl _)
  have Hd : Hid (Sl W13 ad nd cd ld) := Hd.out.below hb (Nat.le_refl _)
  have HB : Hid (Below w.heap.size w W13) := HB.out.trans (hb.mono HB.out.size)
  clear hb
  have p10 := X1.out.z0
  have p11 := X1.out.z1
  have t1 := X1.out.lt
  have p20 := X2.out.z0
  have p21 := X2.out.z1
  have t2 := X2.out.lt
  have px0 := Xx.out.z0
  have px1 := Xx.out.z1
  have tx := Xx.out.lt
  have py0 := Xy.out.z0
  have py1 := Xy.out.z1
  have ty := Xy.out.lt
  have pu0 := Xu.out.z0
  have pu1 := Xu.out.z1
  have tu := Xu.out.lt
  have pz0 := Xz.out.z0
  have pz1 := Xz.out.z1
  have tz := Xz.out.lt
  have pd0 := Xd.out.z0
  have pd1 := Xd.out.z1
  have td := Xd.out.lt
  go_wp2_with fail
  have oed : ed = 0 ∨ ed = 2 := by rw [← ED1.out]; exact addE_or _ _ _ _
  have HDO : Hid (ed = 0 → ∀ so lo, vl 4294967296 lo = 0 → cmpV sd (vl 4294967296 ld) so (vl 4294967296 lo) = 0) := by
    intro h0 so lo h1
    have hz := addE_zero (ED1.out.trans h0)
    rw [SD1.out, VD1.out] at hz
    rw [cmpV_eq, Ed.out, h1, hz]
    have : zi so 0 = 0 := by unfold zi; split <;> rfl
    rw [this]
    exact laws_zi _ _
  obtain ⟨k, HAB⟩ : ∃ k, Hid (cmpV s1 (vl 4294967296 l1) s2 (vl 4294967296 l2) = k) := ⟨_, rfl⟩
  have HBA : Hid (cmpV s2 (vl 4294967296 l2) s1 (vl 4294967296 l1) = -k) := by show _ = _; rw [← HAB.out, cmpV_eq, cmpV_eq]; exact laws_cmp _ _
  have ok : k = 1 ∨ k = -1 ∨ k = 0 := by rw [← HAB.out, cmpV_eq]; exact cmpI_or _ _
  clear p10 p11 t1 p20 p21 t2 px0 px1 tx py0 py1 ty pu0 pu1 tu pz0 pz1 tz pd0 pd1 td
  have D1 : Hid (Box W13.drew (w.heap.size) (.bool s1) (.slice a1 n1 c1)) := X1.out.below (Below.refl _ _).drew X1.out.lt
  have D2 : Hid (Box W13.drew (w.heap.size + 1) (.bool s2) (.slice a2 n2 c2)) := X2.out.below (Below.refl _ _).drew X2.out.lt
  have Dx : Hid (Box W13.drew (W4.heap.size) (.bool sx) (.slice ax nx cx)) := Xx.out.below (Below.refl _ _).drew Xx.out.lt
  have Dy : Hid (Box W13.drew (W6.heap.size) (.bool sx) (.slice ay ny cy)) := Xy.out.below (Below.refl _ _).drew Xy.out.lt
  have Du : Hid (Box W13.drew (W8.heap.size) (.bool sm) (.slice au nu cu)) := Xu.out.below (Below.refl _ _).drew Xu.out.lt
  have Dz : Hid (Box W13.drew (W10.heap.size) (.bool sm) (.slice az nz cz)) := Xz.out.below (Below.refl _ _).drew Xz.out.lt
  have Dd : Hid (Box W13.drew (W12.heap.size) (.bool sd) (.slice ad nd cd)) := Xd.out.below (Below.refl _ _).drew Xd.out.lt
  have J1 : Hid (Sl W13.drew a1 n1 c1 l1) := H1.out.below (Below.refl _ _).drew (Nat.le_refl _)
  have J2 : Hid (Sl W13.drew a2 n2 c2 l2) := H2.out.below (Below.refl _ _).drew (Nat.le_refl _)
  have Jd : Hid (Sl W13.drew ad nd cd ld) := Hd.out.below (Below.refl _ _).drew (Nat.le_refl _)
  have Ix : Hid (IntR W13.drew _ _ _ _) := Ix.out.below (Below.refl _ _).drew (Nat.le_refl _)
  have Iy : Hid (IntR W13.drew _ _ _ _) := Iy.out.below (Below.refl _ _).drew (Nat.le_refl _)
  have Iu : Hid (IntR W13.drew _ _ _ _) := Iu.out.below (Below.refl _ _).drew (Nat.le_refl _)
  have Iz : Hid (IntR W13.drew _ _ _ _) := Iz.out.below (Below.refl _ _).drew (Nat.le_refl _)
  have HBD : Hid (Below w.heap.size w W13.drew) := HB.out.drew
  have kS : W13.drew.cell? ⟨w.heap.size, 0, none⟩ = some (.bool s1) ∧ W13.drew.cell? ⟨w.heap.size, 1, none⟩ = some (.slice a1 n1 c1) ∧ W13.drew.cell? ⟨w.heap.size + 1, 0, none⟩ = some (.bool s2) ∧ W13.drew.cell? ⟨w.heap.size + 1, 1, none⟩ = some (.slice a2 n2 c2) ∧ W13.drew.cell? ⟨W4.heap.size, 0, none⟩ = some (.bool sx) ∧ W13.drew.cell? ⟨W4.heap.size, 1, none⟩ = some (.slice ax nx cx) ∧ W13.drew.cell? ⟨W6.heap.size, 0, none⟩ = some (.bool sx) ∧ W13.drew.cell? ⟨W6.heap.size, 1, none⟩ = some (.slice ay ny cy) ∧ W13.drew.cell? ⟨W8.heap.size, 0, none⟩ = some (.bool sm) ∧ W13.drew.cell? ⟨W8.heap.size, 1, none⟩ = some (.slice au nu cu) ∧ W13.drew.cell? ⟨W10.heap.size, 0, none⟩ = some (.bool sm) ∧ W13.drew.cell? ⟨W10.heap.size, 1, none⟩ = some (.slice az nz cz) ∧ W13.drew.cell? ⟨W12.heap.size, 0, none⟩ = some (.bool sd) ∧ W13.drew.cell? ⟨W12.heap.size, 1, none⟩ = some (.slice ad nd cd) := ⟨D1.out.z0, D1.out.z1, D2.out.z0, D2.out.z1, Dx.out.z0, Dx.out.z1, Dy.out.z0, Dy.out.z1, Du.out.z0, Du.out.z1, Dz.out.z0, Dz.out.z1, Dd.out.z0, Dd.out.z1⟩
  clear X1 X2 Xx Xy Xu Xz Xd H1 H2 Hx Hy Hu Hz Hd HB
  have u1 : IntKind.i64.wrap 1 = 1 := by decide
  have u2 : IntKind.i64.wrap (-1) = -1 := by decide
  have u3 : IntKind.i64.wrap 0 = 0 := by decide
  rcases oed with rfl | rfl
  · have HDZ : Hid (∀ so lo, vl 4294967296 lo = 0 → cmpV sd (vl 4294967296 ld) so (vl 4294967296 lo) = 0) := HDO.out rfl
    clear HDO
    rcases ok with rfl | rfl | rfl
    · refine wp_region_held_drew (S := fun w' => w'.cell? ⟨w.heap.size, 0, none⟩ = some (.bool s1) ∧ w'.cell? ⟨w.heap.size, 1, none⟩ = some (.slice a1 n1 c1) ∧ w'.cell? ⟨w.heap.size + 1, 0, none⟩ = some (.bool s2) ∧ w'.cell? ⟨w.heap.size + 1, 1, none⟩ = some (.slice a2 n2 c2) ∧ w'.cell? ⟨W4.heap.size, 0, none⟩ = some (.bool sx) ∧ w'.cell? ⟨W4.heap.size, 1, none⟩ = some (.slice ax nx cx) ∧ w'.cell? ⟨W6.heap.size, 0, none⟩ = some (.bool sx) ∧ w'.cell? ⟨W6.heap.size, 1, none⟩ = some (.slice ay ny cy) ∧ w'.cell? ⟨W8.heap.size, 0, none⟩ = some (.bool sm) ∧ w'.cell? ⟨W8.heap.size, 1, none⟩ = some (.slice au nu cu) ∧ w'.cell? ⟨W10.heap.size, 0, none⟩ = some (.bool sm) ∧ w'.cell? ⟨W10.heap.size, 1, none⟩ = some (.slice az nz cz) ∧ w'.cell? ⟨W12.heap.size, 0, none⟩ = some (.bool sd) ∧ w'.cell? ⟨W12.heap.size, 1, none⟩ = some (.slice ad nd cd)) (by kernel_rfl) (by exact kS) (fun hHeld => ?_)
      clear hHeld
      refine wpAnyH_take (i := 0) (oi := { dst := some 54, op := Op.move (Operand.tmp 6), type := 27, pos := "law.go:125", after := #[], guard := none }) (v := ?_) rfl (by kernel_rfl) (by kernel_rfl) (by kernel_rfl) (fun _ _ _ h => h) (Or.inl ⟨by rfl, ?_⟩) (by exact kS) ?_
      rotate_left
      · intro w hSw; (try dsimp only at hSw); (go_simp <;> with_reducible rfl)
      try simp only [Act.put, List.setIfInBounds_toArray, List.set_cons_zero, List.set_cons_succ]
      refine wpAnyH_take (i := 1) (oi := { dst := some 55, op := Op.move (Operand.tmp 8), type := 27, pos := "law.go:125", after := #[], guard := none }) (v := ?_) rfl (by kernel_rfl) (by kernel_rfl) (by kernel_rfl) (fun _ _ _ h => h) (Or.inl ⟨by rfl, ?_⟩) (by exact kS) ?_
      rotate_left
      · intro w hSw; (try dsimp only at hSw); (go_simp <;> with_reducible rfl)
      try simp only [Act.put, List.setIfInBounds_toArray, List.set_cons_zero, List.set_cons_succ]
      refine wpAnyH_take (i := 2) (oi := { dst := some 56, op := Op.binOp BinOp.eql 27 (Operand.tmp 54) (Operand.tmp 55) 27, type := 4, pos := "law.go:125", after := #[{ on := 0, ground := Ground.data }, { on := 1, ground := Ground.data }], guard := none }) (v := ?_) rfl (by kernel_rfl) (by kernel_rfl) (by kernel_rfl) (fun _ _ _ h => h) (Or.inl ⟨by rfl, ?_⟩) (by exact kS) ?_
      rotate_left
      · intro w hSw; (try dsimp only at hSw); (go_simp <;> with_reducible rfl)
      try simp only [Act.put, List.setIfInBounds_toArray, List.set_cons_zero, List.set_cons_succ]
      refine wpAnyH_take (i := 3) (oi := { dst := some 57, op := Op.move (Operand.tmp 56), type := 4, pos := "law.go:125", after := #[{ on := 2, ground := Ground.data }], guard := none }) (v := ?_) rfl (by kernel_rfl) (by kernel_rfl) (by kernel_rfl) (fun _ _ _ h => h) (Or.inl ⟨by rfl, ?_⟩) (by exact kS) ?_
      rotate_left
      · intro w hSw; (try dsimp only at hSw); (go_simp <;> with_reducible rfl)
      try simp only [Act.put, List.setIfInBounds_toArray, List.set_cons_zero, List.set_cons_succ]
      refine wpAnyH_take (i := 4) (oi := { dst := some 58, op := Op.load 24 (Operand.tmp 5), type := 24, pos := "law.go:125", after := #[{ on := 3, ground := Ground.guard }], guard := some (3, true) }) (v := ?_) rfl (by kernel_rfl) (by kernel_rfl) (by kernel_rfl) (fun _ _ _ h => h) (Or.inl ⟨by rfl, ?_⟩) (by exact kS) ?_
      rotate_left
      · intro w hSw; (try dsimp only at hSw); (go_simp <;> with_reducible rfl)
      try simp only [Act.put, List.setIfInBounds_toArray, List.set_cons_zero, List.set_cons_succ]
      refine wpAnyH_take (i := 5) (oi := { dst := some 59, op := Op.load 24 (Operand.tmp 7), type := 24, pos := "law.go:125", after := #[{ on := 3, ground := Ground.guard }], guard := some (3, true) }) (v := ?_) rfl (by kernel_rfl) (by kernel_rfl) (by kernel_rfl) (fun _ _ _ h => h) (Or.inl ⟨by rfl, ?_⟩) (by exact kS) ?_
      rotate_left
      · intro w hSw; (try dsimp only at hSw); (go_simp <;> with_reducible rfl)
      try simp only [Act.put, List.setIfInBounds_toArray, List.set_cons_zero, List.set_cons_succ]
      refine wpAnyH_ready (rs := [6]) (by kernel_rfl) (by simp) ?_
      refine AllReadyH.cons (o := { dst := some 60, op := Op.call { callee := Callee.value (Operand.func 11), args := #[Operand.tmp 58, Operand.tmp 59], argTypes := #[24, 24] }, type := 4, pos := "law.go:125", after := #[{ on := 4, ground := Ground.data }, { on := 5, ground := Ground.data }, { on := 3, ground := Ground.chain }, { on := 3, ground := Ground.guard }], guard := some (3, true) }) rfl (fun K hK => ?_) AllReadyH.nil
      go_simp
      (go_at_call_of 11 (Value.agg #[Value.bool sx, Value.slice ax nx cx]); refine (whole_any Ix.out Iy.out).mono ?_; rintro e V1 ⟨rfl, hb⟩; have D1 : Hid (Box V1 (w.heap.size) (.bool s1) (.slice a1 n1 c1)) := D1.out.below hb D1.out.lt; have D2 : Hid (Box V1 (w.heap.size + 1) (.bool s2) (.slice a2 n2 c2)) := D2.out.below hb D2.out.lt; have Dx : Hid (Box V1 (W4.heap.size) (.bool sx) (.slice ax nx cx)) := Dx.out.below hb Dx.out.lt; have Dy : Hid (Box V1 (W6.heap.size) (.bool sx) (.slice ay ny cy)) := Dy.out.below hb Dy.out.lt; have Du : Hid (Box V1 (W8.heap.size) (.bool sm) (.slice au nu cu)) := Du.out.below hb Du.out.lt; have Dz : Hid (Box V1 (W10.heap.size) (.bool sm) (.slice az nz cz)) := Dz.out.below hb Dz.out.lt; have Dd : Hid (Box V1 (W12.heap.size) (.bool sd) (.slice ad nd cd)) := Dd.out.below hb Dd.out.lt; have J1 : Hid (Sl V1 a1 n1 c1 l1) := J1.out.below hb (Nat.le_refl _); have J2 : Hid (Sl V1 a2 n2 c2 l2) := J2.out.below hb (Nat.le_refl _); have Jd : Hid (Sl V1 ad nd cd ld) := Jd.out.below hb (Nat.le_refl _); have Ix : Hid (IntR V1 _ _ _ _) := Ix.out.below hb (Nat.le_refl _); have Iy : Hid (IntR V1 _ _ _ _) := Iy.out.below hb (Nat.le_refl _); have Iu : Hid (IntR V1 _ _ _ _) := Iu.out.below hb (Nat.le_refl _); have Iz : Hid (IntR V1 _ _ _ _) := Iz.out.below hb (Nat.le_refl _); have HBD : Hid (Below w.heap.size w V1) := HBD.out.trans (hb.mono HBD.out.size); clear kS; have kS : V1.cell? ⟨w.heap.size, 0, none⟩ = some (.bool s1) ∧ V1.cell? ⟨w.heap.size, 1, none⟩ = some (.slice a1 n1 c1) ∧ V1.cell? ⟨w.heap.size + 1, 0, none⟩ = some (.bool s2) ∧ V1.cell? ⟨w.heap.size + 1, 1, none⟩ = some (.slice a2 n2 c2) ∧ V1.cell? ⟨W4.heap.size, 0, none⟩ = some (.bool sx) ∧ V1.cell? ⟨W4.heap.size, 1, none⟩ = some (.slice ax nx cx) ∧ V1.cell? ⟨W6.heap.size, 0, none⟩ = some (.bool sx) ∧ V1.cell? ⟨W6.heap.size, 1, none⟩ = some (.slice ay ny cy) ∧ V1.cell? ⟨W8.heap.size, 0, none⟩ = some (.bool sm) ∧ V1.cell? ⟨W8.heap.size, 1, none⟩ = some (.slice au nu cu) ∧ V1.cell? ⟨W10.heap.size, 0, none⟩ = some (.bool sm) ∧ V1.cell? ⟨W10.heap.size, 1, none⟩ = some (.slice az nz cz) ∧ V1.cell? ⟨W12.heap.size, 0, none⟩ = some (.bool sd) ∧ V1.cell? ⟨W12.heap.size, 1, none⟩ = some (.slice ad nd cd) := ⟨D1.out.z0, D1.out.z1, D2.out.z0, D2.out.z1, Dx.out.z0, Dx.out.z1, Dy.out.z0, Dy.out.z1, Du.out.z0, Du.out.z1, Dz.out.z0, Dz.out.z1, Dd.out.z0, Dd.out.z1⟩; clear hb)
      go_wp2_with fail
      refine hK.out _ _ (by exact kS) (fun hHeld => ?_)
      clear hK K hHeld
      try simp only [Act.put, List.setIfInBounds_toArray, List.set_cons_zero, List.set_cons_succ]
      refine wpAnyH_take (i := 7) (oi := { dst := some 61, op := Op.pick (Operand.tmp 57) (Operand.tmp 60) (Operand.const (Value.bool false)), type := 4, pos := "law.go:125", after := #[{ on := 3, ground := Ground.data }, { on := 6, ground := Ground.data }], guard := none }) (v := ?_) rfl (by kernel_rfl) (by kernel_rfl) (by kernel_rfl) (fun _ _ _ h => h) (Or.inl ⟨by rfl, ?_⟩) (by exact kS) ?_
      rotate_left
      · intro w hSw; (try dsimp only at hSw); (go_simp <;> with_reducible rfl)
      try simp only [Act.put, List.setIfInBounds_toArray, List.set_cons_zero, List.set_cons_succ]
      refine wpAnyH_take (i := 8) (oi := { dst := some 62, op := Op.move (Operand.tmp 61), type := 4, pos := "law.go:125", after := #[{ on := 7, ground := Ground.data }, { on := 6, ground := Ground.chain }], guard := none }) (v := ?_) rfl (by kernel_rfl) (by kernel_rfl) (by kernel_rfl) (fun _ _ _ h => h) (Or.inl ⟨by rfl, ?_⟩) (by exact kS) ?_
      rotate_left
      · intro w hSw; (try dsimp only at hSw); (go_simp <;> with_reducible rfl)
      try simp only [Act.put, List.setIfInBounds_toArray, List.set_cons_zero, List.set_cons_succ]
      refine wpAnyH_take (i := 9) (oi := { dst := some 63, op := Op.move (Operand.tmp 10), type := 27, pos := "law.go:125", after := #[{ on := 8, ground := Ground.guard }], guard := some (8, true) }) (v := ?_) rfl (by kernel_rfl) (by kernel_rfl) (by kernel_rfl) (fun _ _ _ h => h) (Or.inl ⟨by rfl, ?_⟩) (by exact kS) ?_
      rotate_left
      · intro w hSw; (try dsimp only at hSw); (go_simp <;> with_reducible rfl)
      try simp only [Act.put, List.setIfInBounds_toArray, List.set_cons_zero, List.set_cons_succ]
      refine wpAnyH_take (i := 10) (oi := { dst := some 64, op := Op.move (Operand.tmp 12), type := 27, pos := "law.go:125", after := #[{ on := 8, ground := Ground.guard }], guard := some (8, true) }) (v := ?_) rfl (by kernel_rfl) (by kernel_rfl) (by kernel_rfl) (fun _ _ _ h => h) (Or.inl ⟨by rfl, ?_⟩) (by exact kS) ?_
      rotate_left
      · intro w hSw; (try dsimp only at hSw); (go_simp <;> with_reducible rfl)
      try simp only [Act.put, List.setIfInBounds_toArray, List.set_cons_zero, List.set_cons_succ]
      refine wpAnyH_take (i := 11) (oi := { dst := some 65, op := Op.binOp BinOp.eql 27 (Operand.tmp 63) (Operand.tmp 64) 27, type := 4, pos := "law.go:125", after := #[{ on := 9, ground := Ground.data }, { on := 10, ground := Ground.data }, { on := 8, ground := Ground.guard }], guard := some (8, true) }) (v := ?_) rfl (by kernel_rfl) (by kernel_rfl) (by kernel_rfl) (fun _ _ _ h => h) (Or.inl ⟨by rfl, ?_⟩) (by exact kS) ?_
      rotate_left
      · intro w hSw; (try dsimp only at hSw); (go_simp <;> with_reducible rfl)
      try simp only [Act.put, List.setIfInBounds_toArray, List.set_cons_zero, List.set_cons_succ]
      refine wpAnyH_take (i := 12) (oi := { dst := some 66, op := Op.pick (Operand.tmp 62) (Operand.tmp 65) (Operand.const (Value.bool false)), type := 4, pos := "law.go:125", after := #[{ on := 8, ground := Ground.data }, { on := 11, ground := Ground.data }], guard := none }) (v := ?_) rfl (by kernel_rfl) (by kernel_rfl) (by kernel_rfl) (fun _ _ _ h => h) (Or.inl ⟨by rfl, ?_⟩) (by exact kS) ?_
      rotate_left
      · intro w hSw; (try dsimp only at hSw); (go_simp <;> with_reducible rfl)
      try simp only [Act.put, List.setIfInBounds_toArray, List.set_cons_zero, List.set_cons_succ]
      refine wpAnyH_take (i := 13) (oi := { dst := some 67, op := Op.move (Operand.tmp 66), type := 4, pos := "law.go:125", after := #[{ on := 12, ground := Ground.data }, { on := 8, ground := Ground.chain }], guard := none }) (v := ?_) rfl (by kernel_rfl) (by kernel_rfl) (by kernel_rfl) (fun _ _ _ h => h) (Or.inl ⟨by rfl, ?_⟩) (by exact kS) ?_
      rotate_left
      · intro w hSw; (try dsimp only at hSw); (go_simp <;> with_reducible rfl)
      try simp only [Act.put, List.setIfInBounds_toArray, List.set_cons_zero, List.set_cons_succ]
      refine wpAnyH_take (i := 14) (oi := { dst := some 68, op := Op.load 24 (Operand.tmp 9), type := 24, pos := "law.go:125", after := #[{ on := 13, ground := Ground.guard }], guard := some (13, true) }) (v := ?_) rfl (by kernel_rfl) (by kernel_rfl) (by kernel_rfl) (fun _ _ _ h => h) (Or.inl ⟨by rfl, ?_⟩) (by exact kS) ?_
      rotate_left
      · intro w hSw; (try dsimp only at hSw); (go_simp <;> with_reducible rfl)
      try simp only [Act.put, List.setIfInBounds_toArray, List.set_cons_zero, List.set_cons_succ]
      refine wpAnyH_take (i := 15) (oi := { dst := some 69, op := Op.load 24 (Operand.tmp 11), type := 24, pos := "law.go:125", after := #[{ on := 13, ground := Ground.guard }], guard := some (13, true) }) (v := ?_) rfl (by kernel_rfl) (by kernel_rfl) (by kernel_rfl) (fun _ _ _ h => h) (Or.inl ⟨by rfl, ?_⟩) (by exact kS) ?_
      rotate_left
      · intro w hSw; (try dsimp only at hSw); (go_simp <;> with_reducible rfl)
      try simp only [Act.put, List.setIfInBounds_toArray, List.set_cons_zero, List.set_cons_succ]
      refine wpAnyH_ready (rs := [16]) (by kernel_rfl) (by simp) ?_
      refine AllReadyH.cons (o := { dst := some 70, op := Op.call { callee := Callee.value (Operand.func 11), args := #[Operand.tmp 68, Operand.tmp 69], argTypes := #[24, 24] }, type := 4, pos := "law.go:125", after := #[{ on := 14, ground := Ground.data }, { on := 15, ground := Ground.data }, { on := 13, ground := Ground.chain }, { on := 13, ground := Ground.guard }], guard := some (13, true) }) rfl (fun K hK => ?_) AllReadyH.nil
      go_simp
      (go_at_call_of 11 (Value.agg #[Value.bool sm, Value.slice au nu cu]); refine (whole_any Iu.out Iz.out).mono ?_; rintro e V2 ⟨rfl, hb⟩; have D1 : Hid (Box V2 (w.heap.size) (.bool s1) (.slice a1 n1 c1)) := D1.out.below hb D1.out.lt; have D2 : Hid (Box V2 (w.heap.size + 1) (.bool s2) (.slice a2 n2 c2)) := D2.out.below hb D2.out.lt; have Dx : Hid (Box V2 (W4.heap.size) (.bool sx) (.slice ax nx cx)) := Dx.out.below hb Dx.out.lt; have Dy : Hid (Box V2 (W6.heap.size) (.bool sx) (.slice ay ny cy)) := Dy.out.below hb Dy.out.lt; have Du : Hid (Box V2 (W8.heap.size) (.bool sm) (.slice au nu cu)) := Du.out.below hb Du.out.lt; have Dz : Hid (Box V2 (W10.heap.size) (.bool sm) (.slice az nz cz)) := Dz.out.below hb Dz.out.lt; have Dd : Hid (Box V2 (W12.heap.size) (.bool sd) (.slice ad nd cd)) := Dd.out.below hb Dd.out.lt; have J1 : Hid (Sl V2 a1 n1 c1 l1) := J1.out.below hb (Nat.le_refl _); have J2 : Hid (Sl V2 a2 n2 c2 l2) := J2.out.below hb (Nat.le_refl _); have Jd : Hid (Sl V2 ad nd cd ld) := Jd.out.below hb (Nat.le_refl _); have Ix : Hid (IntR V2 _ _ _ _) := Ix.out.below hb (Nat.le_refl _); have Iy : Hid (IntR V2 _ _ _ _) := Iy.out.below hb (Nat.le_refl _); have Iu : Hid (IntR V2 _ _ _ _) := Iu.out.below hb (Nat.le_refl _); have Iz : Hid (IntR V2 _ _ _ _) := Iz.out.below hb (Nat.le_refl _); have HBD : Hid (Below w.heap.size w V2) := HBD.out.trans (hb.mono HBD.out.size); clear kS; have kS : V2.cell? ⟨w.heap.size, 0, none⟩ = some (.bool s1) ∧ V2.cell? ⟨w.heap.size, 1, none⟩ = some (.slice a1 n1 c1) ∧ V2.cell? ⟨w.heap.size + 1, 0, none⟩ = some (.bool s2) ∧ V2.cell? ⟨w.heap.size + 1, 1, none⟩ = some (.slice a2 n2 c2) ∧ V2.cell? ⟨W4.heap.size, 0, none⟩ = some (.bool sx) ∧ V2.cell? ⟨W4.heap.size, 1, none⟩ = some (.slice ax nx cx) ∧ V2.cell? ⟨W6.heap.size, 0, none⟩ = some (.bool sx) ∧ V2.cell? ⟨W6.heap.size, 1, none⟩ = some (.slice ay ny cy) ∧ V2.cell? ⟨W8.heap.size, 0, none⟩ = some (.bool sm) ∧ V2.cell? ⟨W8.heap.size, 1, none⟩ = some (.slice au nu cu) ∧ V2.cell? ⟨W10.heap.size, 0, none⟩ = some (.bool sm) ∧ V2.cell? ⟨W10.heap.size, 1, none⟩ = some (.slice az nz cz) ∧ V2.cell? ⟨W12.heap.size, 0, none⟩ = some (.bool sd) ∧ V2.cell? ⟨W12.heap.size, 1, none⟩ = some (.slice ad nd cd) := ⟨D1.out.z0, D1.out.z1, D2.out.z0, D2.out.z1, Dx.out.z0, Dx.out.z1, Dy.out.z0, Dy.out.z1, Du.out.z0, Du.out.z1, Dz.out.z0, Dz.out.z1, Dd.out.z0, Dd.out.z1⟩; clear hb)
      go_wp2_with fail
      refine hK.out _ _ (by exact kS) (fun hHeld => ?_)
      clear hK K hHeld
      try simp only [Act.put, List.setIfInBounds_toArray, List.set_cons_zero, List.set_cons_succ]
      refine wpAnyH_take (i := 17) (oi := { dst := some 71, op := Op.pick (Operand.tmp 67) (Operand.tmp 70) (Operand.const (Value.bool false)), type := 4, pos := "law.go:125", after := #[{ on := 13, ground := Ground.data }, { on := 16, ground := Ground.data }], guard := none }) (v := ?_) rfl (by kernel_rfl) (by kernel_rfl) (by kernel_rfl) (fun _ _ _ h => h) (Or.inl ⟨by rfl, ?_⟩) (by exact kS) ?_
      rotate_left
      · intro w hSw; (try dsimp only at hSw); (go_simp <;> with_reducible rfl)
      try simp only [Act.put, List.setIfInBounds_toArray, List.set_cons_zero, List.set_cons_succ]
      refine wpAnyH_take (i := 18) (oi := { dst := some 72, op := Op.move (Operand.tmp 71), type := 4, pos := "law.go:125", after := #[{ on := 17, ground := Ground.data }, { on := 16, ground := Ground.chain }], guard := none }) (v := ?_) rfl (by kernel_rfl) (by kernel_rfl) (by kernel_rfl) (fun _ _ _ h => h) (Or.inl ⟨by rfl, ?_⟩) (by exact kS) ?_
      rotate_left
      · intro w hSw; (try dsimp only at hSw); (go_simp <;> with_reducible rfl)
      try simp only [Act.put, List.setIfInBounds_toArray, List.set_cons_zero, List.set_cons_succ]
      refine wpAnyH_take (i := 19) (oi := { dst := some 73, op := Op.move (Operand.tmp 14), type := 27, pos := "law.go:125", after := #[{ on := 18, ground := Ground.guard }], guard := some (18, true) }) (v := ?_) rfl (by kernel_rfl) (by kernel_rfl) (by kernel_rfl) (fun _ _ _ h => h) (Or.inl ⟨by rfl, ?_⟩) (by exact kS) ?_
      rotate_left
      · intro w hSw; (try dsimp only at hSw); (go_simp <;> with_reducible rfl)
      try simp only [Act.put, List.setIfInBounds_toArray, List.set_cons_zero, List.set_cons_succ]
      refine wpAnyH_take (i := 20) (oi := { dst := some 74, op := Op.binOp BinOp.neq 27 (Operand.tmp 73) (Operand.const (Value.int IntKind.i64 0)) 27, type := 4, pos := "law.go:125", after := #[{ on := 19, ground := Ground.data }, { on := 18, ground := Ground.guard }], guard := some (18, true) }) (v := ?_) rfl (by kernel_rfl) (by kernel_rfl) (by kernel_rfl) (fun _ _ _ h => h) (Or.inl ⟨by rfl, ?_⟩) (by exact kS) ?_
      rotate_left
      · intro w hSw; (try dsimp only at hSw); (go_simp <;> with_reducible rfl)
      try simp only [Act.put, List.setIfInBounds_toArray, List.set_cons_zero, List.set_cons_succ]
      refine wpAnyH_take (i := 21) (oi := { dst := some 75, op := Op.move (Operand.tmp 74), type := 4, pos := "law.go:125", after := #[{ on := 20, ground := Ground.data }, { on := 18, ground := Ground.chain }, { on := 18, ground := Ground.guard }], guard := some (18, true) }) (v := ?_) rfl (by kernel_rfl) (by kernel_rfl) (by kernel_rfl) (fun _ _ _ h => h) (Or.inl ⟨by rfl, ?_⟩) (by exact kS) ?_
      rotate_left
      · intro w hSw; (try dsimp only at hSw); (go_simp <;> with_reducible rfl)
      try simp only [Act.put, List.setIfInBounds_toArray, List.set_cons_zero, List.set_cons_succ]
      refine wpAnyH_take (i := 22) (oi := { dst := some 76, op := Op.load 24 (Operand.tmp 13), type := 24, pos := "law.go:125", after := #[{ on := 21, ground := Ground.guard }], guard := some (21, false) }) (v := ?_) rfl (by kernel_rfl) (by kernel_rfl) (by kernel_rfl) (fun _ _ _ h => h) (Or.inl ⟨by rfl, ?_⟩) (by exact kS) ?_
      rotate_left
      · intro w hSw; (try dsimp only at hSw); (go_simp <;> with_reducible rfl)
      try simp only [Act.put, List.setIfInBounds_toArray, List.set_cons_zero, List.set_cons_succ]
      refine wpAnyH_ready (rs := [23]) (by kernel_rfl) (by simp) ?_
      refine AllReadyH.cons (o := { dst := some 77, op := Op.call { callee := Callee.value (Operand.func 13), args := #[Operand.const (Value.int IntKind.i64 0)], argTypes := #[3] }, type := 24, pos := "law.go:125", after := #[{ on := 21, ground := Ground.chain }, { on := 21, ground := Ground.guard }], guard := some (21, false) }) rfl (fun K hK => ?_) AllReadyH.nil
      go_simp
      (go_at_call 13; refine (of_any 0 _ (by omega) (by omega)).mono ?_; rintro e V6 ⟨x, rfl, hx, hb⟩; obtain ⟨so, hso⟩ : ∃ so, sgB (decide ((0:Int) < 0)) (0:Int).natAbs = so := ⟨_, rfl⟩; rw [hso] at hx; obtain ⟨ao, no, co, lo, rfl, hs, hv, mo⟩ := hx.open (by decide +kernel); have Jo : Hid (Sl V6 ao no co lo) := hs; have Zo : Hid (vl 4294967296 lo = 0) := hv; clear hs hv hx hso; have D1 : Hid (Box V6 (w.heap.size) (.bool s1) (.slice a1 n1 c1)) := D1.out.below hb D1.out.lt; have D2 : Hid (Box V6 (w.heap.size + 1) (.bool s2) (.slice a2 n2 c2)) := D2.out.below hb D2.out.lt; have Dx : Hid (Box V6 (W4.heap.size) (.bool sx) (.slice ax nx cx)) := Dx.out.below hb Dx.out.lt; have Dy : Hid (Box V6 (W6.heap.size) (.bool sx) (.slice ay ny cy)) := Dy.out.below hb Dy.out.lt; have Du : Hid (Box V6 (W8.heap.size) (.bool sm) (.slice au nu cu)) := Du.out.below hb Du.out.lt; have Dz : Hid (Box V6 (W10.heap.size) (.bool sm) (.slice az nz cz)) := Dz.out.below hb Dz.out.lt; have Dd : Hid (Box V6 (W12.heap.size) (.bool sd) (.slice ad nd cd)) := Dd.out.below hb Dd.out.lt; have J1 : Hid (Sl V6 a1 n1 c1 l1) := J1.out.below hb (Nat.le_refl _); have J2 : Hid (Sl V6 a2 n2 c2 l2) := J2.out.below hb (Nat.le_refl _); have Jd : Hid (Sl V6 ad nd cd ld) := Jd.out.below hb (Nat.le_refl _); have Ix : Hid (IntR V6 _ _ _ _) := Ix.out.below hb (Nat.le_refl _); have Iy : Hid (IntR V6 _ _ _ _) := Iy.out.below hb (Nat.le_refl _); have Iu : Hid (IntR V6 _ _ _ _) := Iu.out.below hb (Nat.le_refl _); have Iz : Hid (IntR V6 _ _ _ _) := Iz.out.below hb (Nat.le_refl _); have HBD : Hid (Below w.heap.size w V6) := HBD.out.trans (hb.mono HBD.out.size); clear kS; have kS : V6.cell? ⟨w.heap.size, 0, none⟩ = some (.bool s1) ∧ V6.cell? ⟨w.heap.size, 1, none⟩ = some (.slice a1 n1 c1) ∧ V6.cell? ⟨w.heap.size + 1, 0, none⟩ = some (.bool s2) ∧ V6.cell? ⟨w.heap.size + 1, 1, none⟩ = some (.slice a2 n2 c2) ∧ V6.cell? ⟨W4.heap.size, 0, none⟩ = some (.bool sx) ∧ V6.cell? ⟨W4.heap.size, 1, none⟩ = some (.slice ax nx cx) ∧ V6.cell? ⟨W6.heap.size, 0, none⟩ = some (.bool sx) ∧ V6.cell? ⟨W6.heap.size, 1, none⟩ = some (.slice ay ny cy) ∧ V6.cell? ⟨W8.heap.size, 0, none⟩ = some (.bool sm) ∧ V6.cell? ⟨W8.heap.size, 1, none⟩ = some (.slice au nu cu) ∧ V6.cell? ⟨W10.heap.size, 0, none⟩ = some (.bool sm) ∧ V6.cell? ⟨W10.heap.size, 1, none⟩ = some (.slice az nz cz) ∧ V6.cell? ⟨W12.heap.size, 0, none⟩ = some (.bool sd) ∧ V6.cell? ⟨W12.heap.size, 1, none⟩ = some (.slice ad nd cd) := ⟨D1.out.z0, D1.out.z1, D2.out.z0, D2.out.z1, Dx.out.z0, Dx.out.z1, Dy.out.z0, Dy.out.z1, Du.out.z0, Du.out.z1, Dz.out.z0, Dz.out.z1, Dd.out.z0, Dd.out.z1⟩; clear hb)
      go_wp2_with fail
      refine hK.out _ _ (by exact kS) (fun hHeld => ?_)
      clear hK K hHeld
      try simp only [Act.put, List.setIfInBounds_toArray, List.set_cons_zero, List.set_cons_succ]
      refine wpAnyH_ready (rs := [24]) (by kernel_rfl) (by simp) ?_
      refine AllReadyH.cons (o := { dst := some 78, op := Op.call { callee := Callee.value (Operand.func 12), args := #[Operand.tmp 76, Operand.tmp 77], argTypes := #[24, 24] }, type := 3, pos := "law.go:125", after := #[{ on := 22, ground := Ground.data }, { on := 23, ground := Ground.data }, { on := 23, ground := Ground.chain }, { on := 21, ground := Ground.guard }], guard := some (21, false) }) rfl (fun K hK => ?_) AllReadyH.nil
      go_simp
      (go_at_call_of 12 (Value.agg #[Value.bool sd, Value.slice ad nd cd]); refine (compare_any sd so ad nd cd ld ao no co lo _ (by exact Jd.out) (by exact Jo.out) (by omega) (by omega)).mono ?_; rintro e V7 ⟨rfl, hb⟩; rw [HDZ.out so lo Zo.out]; have D1 : Hid (Box V7 (w.heap.size) (.bool s1) (.slice a1 n1 c1)) := D1.out.below hb D1.out.lt; have D2 : Hid (Box V7 (w.heap.size + 1) (.bool s2) (.slice a2 n2 c2)) := D2.out.below hb D2.out.lt; have Dx : Hid (Box V7 (W4.heap.size) (.bool sx) (.slice ax nx cx)) := Dx.out.below hb Dx.out.lt; have Dy : Hid (Box V7 (W6.heap.size) (.bool sx) (.slice ay ny cy)) := Dy.out.below hb Dy.out.lt; have Du : Hid (Box V7 (W8.heap.size) (.bool sm) (.slice au nu cu)) := Du.out.below hb Du.out.lt; have Dz : Hid (Box V7 (W10.heap.size) (.bool sm) (.slice az nz cz)) := Dz.out.below hb Dz.out.lt; have Dd : Hid (Box V7 (W12.heap.size) (.bool sd) (.slice ad nd cd)) := Dd.out.below hb Dd.out.lt; have J1 : Hid (Sl V7 a1 n1 c1 l1) := J1.out.below hb (Nat.le_refl _); have J2 : Hid (Sl V7 a2 n2 c2 l2) := J2.out.below hb (Nat.le_refl _); have Jd : Hid (Sl V7 ad nd cd ld) := Jd.out.below hb (Nat.le_refl _); have Ix : Hid (IntR V7 _ _ _ _) := Ix.out.below hb (Nat.le_refl _); have Iy : Hid (IntR V7 _ _ _ _) := Iy.out.below hb (Nat.le_refl _); have Iu : Hid (IntR V7 _ _ _ _) := Iu.out.below hb (Nat.le_refl _); have Iz : Hid (IntR V7 _ _ _ _) := Iz.out.below hb (Nat.le_refl _); have HBD : Hid (Below w.heap.size w V7) := HBD.out.trans (hb.mono HBD.out.size); clear kS; have kS : V7.cell? ⟨w.heap.size, 0, none⟩ = some (.bool s1) ∧ V7.cell? ⟨w.heap.size, 1, none⟩ = some (.slice a1 n1 c1) ∧ V7.cell? ⟨w.heap.size + 1, 0, none⟩ = some (.bool s2) ∧ V7.cell? ⟨w.heap.size + 1, 1, none⟩ = some (.slice a2 n2 c2) ∧ V7.cell? ⟨W4.heap.size, 0, none⟩ = some (.bool sx) ∧ V7.cell? ⟨W4.heap.size, 1, none⟩ = some (.slice ax nx cx) ∧ V7.cell? ⟨W6.heap.size, 0, none⟩ = some (.bool sx) ∧ V7.cell? ⟨W6.heap.size, 1, none⟩ = some (.slice ay ny cy) ∧ V7.cell? ⟨W8.heap.size, 0, none⟩ = some (.bool sm) ∧ V7.cell? ⟨W8.heap.size, 1, none⟩ = some (.slice au nu cu) ∧ V7.cell? ⟨W10.heap.size, 0, none⟩ = some (.bool sm) ∧ V7.cell? ⟨W10.heap.size, 1, none⟩ = some (.slice az nz cz) ∧ V7.cell? ⟨W12.heap.size, 0, none⟩ = some (.bool sd) ∧ V7.cell? ⟨W12.heap.size, 1, none⟩ = some (.slice ad nd cd) := ⟨D1.out.z0, D1.out.z1, D2.out.z0, D2.out.z1, Dx.out.z0, Dx.out.z1, Dy.out.z0, Dy.out.z1, Du.out.z0, Du.out.z1, Dz.out.z0, Dz.out.z1, Dd.out.z0, Dd.out.z1⟩; clear hb)
      go_wp2_with fail
      refine hK.out _ _ (by exact kS) (fun hHeld => ?_)
      clear hK K hHeld
      try simp only [Act.put, List.setIfInBounds_toArray, List.set_cons_zero, List.set_cons_succ]
      refine wpAnyH_take (i := 25) (oi := { dst := some 79, op := Op.binOp BinOp.eql 3 (Operand.tmp 78) (Operand.const (Value.int IntKind.i64 0)) 3, type := 4, pos := "law.go:125", after := #[{ on := 24, ground := Ground.data }, { on := 21, ground := Ground.guard }], guard := some (21, false) }) (v := ?_) rfl (by kernel_rfl) (by kernel_rfl) (by kernel_rfl) (fun _ _ _ h => h) (Or.inl ⟨by rfl, ?_⟩) (by exact kS) ?_
      rotate_left
      · intro w hSw; (try dsimp only at hSw); (go_simp <;> with_reducible rfl)
      try simp only [Act.put, List.setIfInBounds_toArray, List.set_cons_zero, List.set_cons_succ]
      refine wpAnyH_take (i := 26) (oi := { dst := some 80, op := Op.pick (Operand.tmp 75) (Operand.const (Value.bool true)) (Operand.tmp 79), type := 4, pos := "law.go:125", after := #[{ on := 21, ground := Ground.data }, { on := 25, ground := Ground.data }, { on := 18, ground := Ground.guard }], guard := some (18, true) }) (v := ?_) rfl (by kernel_rfl) (by kernel_rfl) (by kernel_rfl) (fun _ _ _ h => h) (Or.inl ⟨by rfl, ?_⟩) (by exact kS) ?_
      rotate_left
      · intro w hSw; (try dsimp only at hSw); (go_simp <;> with_reducible rfl)
      try simp only [Act.put, List.setIfInBounds_toArray, List.set_cons_zero, List.set_cons_succ]
      refine wpAnyH_take (i := 27) (oi := { dst := some 81, op := Op.pick (Operand.tmp 72) (Operand.tmp 80) (Operand.const (Value.bool false)), type := 4, pos := "law.go:125", after := #[{ on := 18, ground := Ground.data }, { on := 26, ground := Ground.data }], guard := none }) (v := ?_) rfl (by kernel_rfl) (by kernel_rfl) (by kernel_rfl) (fun _ _ _ h => h) (Or.inl ⟨by rfl, ?_⟩) (by exact kS) ?_
      rotate_left
      · intro w hSw; (try dsimp only at hSw); (go_simp <;> with_reducible rfl)
      try simp only [Act.put, List.setIfInBounds_toArray, List.set_cons_zero, List.set_cons_succ]
      refine wpAnyH_take (i := 28) (oi := { dst := some 82, op := Op.move (Operand.tmp 81), type := 4, pos := "law.go:125", after := #[{ on := 27, ground := Ground.data }, { on := 24, ground := Ground.chain }], guard := none }) (v := ?_) rfl (by kernel_rfl) (by kernel_rfl) (by kernel_rfl) (fun _ _ _ h => h) (Or.inl ⟨by rfl, ?_⟩) (by exact kS) ?_
      rotate_left
      · intro w hSw; (try dsimp only at hSw); (go_simp <;> with_reducible rfl)
      try simp only [Act.put, List.setIfInBounds_toArray, List.set_cons_zero, List.set_cons_succ]
      refine wpAnyH_take (i := 29) (oi := { dst := some 83, op := Op.load 24 (Operand.tmp 2), type := 24, pos := "law.go:125", after := #[{ on := 28, ground := Ground.guard }], guard := some (28, true) }) (v := ?_) rfl (by kernel_rfl) (by kernel_rfl) (by kernel_rfl) (fun _ _ _ h => h) (Or.inl ⟨by rfl, ?_⟩) (by exact kS) ?_
      rotate_left
      · intro w hSw; (try dsimp only at hSw); (go_simp <;> with_reducible rfl)
      try simp only [Act.put, List.setIfInBounds_toArray, List.set_cons_zero, List.set_cons_succ]
      refine wpAnyH_take (i := 30) (oi := { dst := some 84, op := Op.load 24 (Operand.tmp 3), type := 24, pos := "law.go:125", after := #[{ on := 28, ground := Ground.guard }], guard := some (28, true) }) (v := ?_) rfl (by kernel_rfl) (by kernel_rfl) (by kernel_rfl) (fun _ _ _ h => h) (Or.inl ⟨by rfl, ?_⟩) (by exact kS) ?_
      rotate_left
      · intro w hSw; (try dsimp only at hSw); (go_simp <;> with_reducible rfl)
      try simp only [Act.put, List.setIfInBounds_toArray, List.set_cons_zero, List.set_cons_succ]
      refine wpAnyH_take (i := 32) (oi := { dst := some 86, op := Op.load 24 (Operand.tmp 3), type := 24, pos := "law.go:125", after := #[{ on := 28, ground := Ground.guard }], guard := some (28, true) }) (v := ?_) rfl (by kernel_rfl) (by kernel_rfl) (by kernel_rfl) (fun _ _ _ h => h) (Or.inl ⟨by rfl, ?_⟩) (by exact kS) ?_
      rotate_left
      · intro w hSw; (try dsimp only at hSw); (go_simp <;> with_reducible rfl)
      try simp only [Act.put, List.setIfInBounds_toArray, List.set_cons_zero, List.set_cons_succ]
      refine wpAnyH_take (i := 33) (oi := { dst := some 87, op := Op.load 24 (Operand.tmp 2), type := 24, pos := "law.go:125", after := #[{ on := 28, ground := Ground.guard }], guard := some (28, true) }) (v := ?_) rfl (by kernel_rfl) (by kernel_rfl) (by kernel_rfl) (fun _ _ _ h => h) (Or.inl ⟨by rfl, ?_⟩) (by exact kS) ?_
      rotate_left
      · intro w hSw; (try dsimp only at hSw); (go_simp <;> with_reducible rfl)
      try simp only [Act.put, List.setIfInBounds_toArray, List.set_cons_zero, List.set_cons_succ]
      refine wpAnyH_ready (rs := [31]) (by kernel_rfl) (by simp) ?_
      refine AllReadyH.cons (o := { dst := some 85, op := Op.call { callee := Callee.value (Operand.func 12), args := #[Operand.tmp 83, Operand.tmp 84], argTypes := #[24, 24] }, type := 3, pos := "law.go:125", after := #[{ on := 29, ground := Ground.data }, { on := 30, ground := Ground.data }, { on := 28, ground := Ground.chain }, { on := 28, ground := Ground.guard }], guard := some (28, true) }) rfl (fun K hK => ?_) AllReadyH.nil
      go_simp
      (go_at_call_of 12 (Value.agg #[Value.bool s1, Value.slice a1 n1 c1]); refine (compare_any s1 s2 a1 n1 c1 l1 a2 n2 c2 l2 _ (by exact J1.out) (by exact J2.out) (by omega) (by omega)).mono ?_; rintro e V3 ⟨rfl, hb⟩; rw [HAB.out]; have D1 : Hid (Box V3 (w.heap.size) (.bool s1) (.slice a1 n1 c1)) := D1.out.below hb D1.out.lt; have D2 : Hid (Box V3 (w.heap.size + 1) (.bool s2) (.slice a2 n2 c2)) := D2.out.below hb D2.out.lt; have Dx : Hid (Box V3 (W4.heap.size) (.bool sx) (.slice ax nx cx)) := Dx.out.below hb Dx.out.lt; have Dy : Hid (Box V3 (W6.heap.size) (.bool sx) (.slice ay ny cy)) := Dy.out.below hb Dy.out.lt; have Du : Hid (Box V3 (W8.heap.size) (.bool sm) (.slice au nu cu)) := Du.out.below hb Du.out.lt; have Dz : Hid (Box V3 (W10.heap.size) (.bool sm) (.slice az nz cz)) := Dz.out.below hb Dz.out.lt; have Dd : Hid (Box V3 (W12.heap.size) (.bool sd) (.slice ad nd cd)) := Dd.out.below hb Dd.out.lt; have J1 : Hid (Sl V3 a1 n1 c1 l1) := J1.out.below hb (Nat.le_refl _); have J2 : Hid (Sl V3 a2 n2 c2 l2) := J2.out.below hb (Nat.le_refl _); have Jd : Hid (Sl V3 ad nd cd ld) := Jd.out.below hb (Nat.le_refl _); have Ix : Hid (IntR V3 _ _ _ _) := Ix.out.below hb (Nat.le_refl _); have Iy : Hid (IntR V3 _ _ _ _) := Iy.out.below hb (Nat.le_refl _); have Iu : Hid (IntR V3 _ _ _ _) := Iu.out.below hb (Nat.le_refl _); have Iz : Hid (IntR V3 _ _ _ _) := Iz.out.below hb (Nat.le_refl _); have HBD : Hid (Below w.heap.size w V3) := HBD.out.trans (hb.mono HBD.out.size); clear kS; have kS : V3.cell? ⟨w.heap.size, 0, none⟩ = some (.bool s1) ∧ V3.cell? ⟨w.heap.size, 1, none⟩ = some (.slice a1 n1 c1) ∧ V3.cell? ⟨w.heap.size + 1, 0, none⟩ = some (.bool s2) ∧ V3.cell? ⟨w.heap.size + 1, 1, none⟩ = some (.slice a2 n2 c2) ∧ V3.cell? ⟨W4.heap.size, 0, none⟩ = some (.bool sx) ∧ V3.cell? ⟨W4.heap.size, 1, none⟩ = some (.slice ax nx cx) ∧ V3.cell? ⟨W6.heap.size, 0, none⟩ = some (.bool sx) ∧ V3.cell? ⟨W6.heap.size, 1, none⟩ = some (.slice ay ny cy) ∧ V3.cell? ⟨W8.heap.size, 0, none⟩ = some (.bool sm) ∧ V3.cell? ⟨W8.heap.size, 1, none⟩ = some (.slice au nu cu) ∧ V3.cell? ⟨W10.heap.size, 0, none⟩ = some (.bool sm) ∧ V3.cell? ⟨W10.heap.size, 1, none⟩ = some (.slice az nz cz) ∧ V3.cell? ⟨W12.heap.size, 0, none⟩ = some (.bool sd) ∧ V3.cell? ⟨W12.heap.size, 1, none⟩ = some (.slice ad nd cd) := ⟨D1.out.z0, D1.out.z1, D2.out.z0, D2.out.z1, Dx.out.z0, Dx.out.z1, Dy.out.z0, Dy.out.z1, Du.out.z0, Du.out.z1, Dz.out.z0, Dz.out.z1, Dd.out.z0, Dd.out.z1⟩; clear hb)
      go_wp2_with fail
      refine hK.out _ _ (by exact kS) (fun hHeld => ?_)
      clear hK K hHeld
      try simp only [Act.put, List.setIfInBounds_toArray, List.set_cons_zero, List.set_cons_succ]
      refine wpAnyH_ready (rs := [34]) (by kernel_rfl) (by simp) ?_
      refine AllReadyH.cons (o := { dst := some 88, op := Op.call { callee := Callee.value (Operand.func 12), args := #[Operand.tmp 86, Operand.tmp 87], argTypes := #[24, 24] }, type := 3, pos := "law.go:125", after := #[{ on := 32, ground := Ground.data }, { on := 33, ground := Ground.data }, { on := 31, ground := Ground.chain }, { on := 28, ground := Ground.guard }], guard := some (28, true) }) rfl (fun K hK => ?_) AllReadyH.nil
      go_simp
      (go_at_call_of 12 (Value.agg #[Value.bool s2, Value.slice a2 n2 c2]); refine (compare_any s2 s1 a2 n2 c2 l2 a1 n1 c1 l1 _ (by exact J2.out) (by exact J1.out) (by omega) (by omega)).mono ?_; rintro e V4 ⟨rfl, hb⟩; rw [HBA.out]; have D1 : Hid (Box V4 (w.heap.size) (.bool s1) (.slice a1 n1 c1)) := D1.out.below hb D1.out.lt; have D2 : Hid (Box V4 (w.heap.size + 1) (.bool s2) (.slice a2 n2 c2)) := D2.out.below hb D2.out.lt; have Dx : Hid (Box V4 (W4.heap.size) (.bool sx) (.slice ax nx cx)) := Dx.out.below hb Dx.out.lt; have Dy : Hid (Box V4 (W6.heap.size) (.bool sx) (.slice ay ny cy)) := Dy.out.below hb Dy.out.lt; have Du : Hid (Box V4 (W8.heap.size) (.bool sm) (.slice au nu cu)) := Du.out.below hb Du.out.lt; have Dz : Hid (Box V4 (W10.heap.size) (.bool sm) (.slice az nz cz)) := Dz.out.below hb Dz.out.lt; have Dd : Hid (Box V4 (W12.heap.size) (.bool sd) (.slice ad nd cd)) := Dd.out.below hb Dd.out.lt; have J1 : Hid (Sl V4 a1 n1 c1 l1) := J1.out.below hb (Nat.le_refl _); have J2 : Hid (Sl V4 a2 n2 c2 l2) := J2.out.below hb (Nat.le_refl _); have Jd : Hid (Sl V4 ad nd cd ld) := Jd.out.below hb (Nat.le_refl _); have Ix : Hid (IntR V4 _ _ _ _) := Ix.out.below hb (Nat.le_refl _); have Iy : Hid (IntR V4 _ _ _ _) := Iy.out.below hb (Nat.le_refl _); have Iu : Hid (IntR V4 _ _ _ _) := Iu.out.below hb (Nat.le_refl _); have Iz : Hid (IntR V4 _ _ _ _) := Iz.out.below hb (Nat.le_refl _); have HBD : Hid (Below w.heap.size w V4) := HBD.out.trans (hb.mono HBD.out.size); clear kS; have kS : V4.cell? ⟨w.heap.size, 0, none⟩ = some (.bool s1) ∧ V4.cell? ⟨w.heap.size, 1, none⟩ = some (.slice a1 n1 c1) ∧ V4.cell? ⟨w.heap.size + 1, 0, none⟩ = some (.bool s2) ∧ V4.cell? ⟨w.heap.size + 1, 1, none⟩ = some (.slice a2 n2 c2) ∧ V4.cell? ⟨W4.heap.size, 0, none⟩ = some (.bool sx) ∧ V4.cell? ⟨W4.heap.size, 1, none⟩ = some (.slice ax nx cx) ∧ V4.cell? ⟨W6.heap.size, 0, none⟩ = some (.bool sx) ∧ V4.cell? ⟨W6.heap.size, 1, none⟩ = some (.slice ay ny cy) ∧ V4.cell? ⟨W8.heap.size, 0, none⟩ = some (.bool sm) ∧ V4.cell? ⟨W8.heap.size, 1, none⟩ = some (.slice au nu cu) ∧ V4.cell? ⟨W10.heap.size, 0, none⟩ = some (.bool sm) ∧ V4.cell? ⟨W10.heap.size, 1, none⟩ = some (.slice az nz cz) ∧ V4.cell? ⟨W12.heap.size, 0, none⟩ = some (.bool sd) ∧ V4.cell? ⟨W12.heap.size, 1, none⟩ = some (.slice ad nd cd) := ⟨D1.out.z0, D1.out.z1, D2.out.z0, D2.out.z1, Dx.out.z0, Dx.out.z1, Dy.out.z0, Dy.out.z1, Du.out.z0, Du.out.z1, Dz.out.z0, Dz.out.z1, Dd.out.z0, Dd.out.z1⟩; clear hb)
      go_wp2_with fail
      refine hK.out _ _ (by exact kS) (fun hHeld => ?_)
      clear hK K hHeld
      try simp only [Act.put, List.setIfInBounds_toArray, List.set_cons_zero, List.set_cons_succ]
      refine wpAnyH_take (i := 35) (oi := { dst := some 89, op := Op.unOp UnOp.neg 3 (Operand.tmp 88), type := 3, pos := "law.go:125", after := #[{ on := 34, ground := Ground.data }, { on := 28, ground := Ground.guard }], guard := some (28, true) }) (v := ?_) rfl (by kernel_rfl) (by kernel_rfl) (by kernel_rfl) (fun _ _ _ h => h) (Or.inl ⟨by rfl, ?_⟩) (by exact kS) ?_
      rotate_left
      · intro w hSw; (try dsimp only at hSw); (go_simp <;> with_reducible rfl)
      try simp only [Act.put, List.setIfInBounds_toArray, List.set_cons_zero, List.set_cons_succ]
      refine wpAnyH_take (i := 36) (oi := { dst := some 90, op := Op.binOp BinOp.eql 3 (Operand.tmp 85) (Operand.tmp 89) 3, type := 4, pos := "law.go:125", after := #[{ on := 31, ground := Ground.data }, { on := 35, ground := Ground.data }, { on := 28, ground := Ground.guard }], guard := some (28, true) }) (v := ?_) rfl (by kernel_rfl) (by kernel_rfl) (by kernel_rfl) (fun _ _ _ h => h) (Or.inl ⟨by rfl, ?_⟩) (by exact kS) ?_
      rotate_left
      · intro w hSw; (try dsimp only at hSw); (go_simp <;> with_reducible rfl)
      try simp only [Act.put, List.setIfInBounds_toArray, List.set_cons_zero, List.set_cons_succ]
      refine wpAnyH_take (i := 37) (oi := { dst := some 91, op := Op.pick (Operand.tmp 82) (Operand.tmp 90) (Operand.const (Value.bool false)), type := 4, pos := "law.go:125", after := #[{ on := 28, ground := Ground.data }, { on := 36, ground := Ground.data }], guard := none }) (v := ?_) rfl (by kernel_rfl) (by kernel_rfl) (by kernel_rfl) (fun _ _ _ h => h) (Or.inl ⟨by rfl, ?_⟩) (by exact kS) ?_
      rotate_left
      · intro w hSw; (try dsimp only at hSw); (go_simp <;> with_reducible rfl)
      try simp only [Act.put, List.setIfInBounds_toArray, List.set_cons_zero, List.set_cons_succ]
      refine wpAnyH_take (i := 38) (oi := { dst := some 92, op := Op.move (Operand.tmp 91), type := 4, pos := "law.go:125", after := #[{ on := 37, ground := Ground.data }, { on := 34, ground := Ground.chain }], guard := none }) (v := ?_) rfl (by kernel_rfl) (by kernel_rfl) (by kernel_rfl) (fun _ _ _ h => h) (Or.inl ⟨by rfl, ?_⟩) (by exact kS) ?_
      rotate_left
      · intro w hSw; (try dsimp only at hSw); (go_simp <;> with_reducible rfl)
      try simp only [Act.put, List.setIfInBounds_toArray, List.set_cons_zero, List.set_cons_succ]
      refine wpAnyH_ready (rs := [39]) (by kernel_rfl) (by simp) ?_
      refine AllReadyH.cons (o := { dst := some 93, op := Op.call { callee := Callee.value (Operand.func 7), args := #[], argTypes := #[] }, type := 4, pos := "law.go:125", after := #[{ on := 38, ground := Ground.chain }, { on := 38, ground := Ground.guard }], guard := some (38, true) }) rfl (fun K hK => ?_) AllReadyH.nil
      go_simp
      (go_at_call 7; refine (awake_any _).mono ?_; rintro e V5 ⟨rfl, hb⟩; have D1 : Hid (Box V5 (w.heap.size) (.bool s1) (.slice a1 n1 c1)) := D1.out.below hb D1.out.lt; have D2 : Hid (Box V5 (w.heap.size + 1) (.bool s2) (.slice a2 n2 c2)) := D2.out.below hb D2.out.lt; have Dx : Hid (Box V5 (W4.heap.size) (.bool sx) (.slice ax nx cx)) := Dx.out.below hb Dx.out.lt; have Dy : Hid (Box V5 (W6.heap.size) (.bool sx) (.slice ay ny cy)) := Dy.out.below hb Dy.out.lt; have Du : Hid (Box V5 (W8.heap.size) (.bool sm) (.slice au nu cu)) := Du.out.below hb Du.out.lt; have Dz : Hid (Box V5 (W10.heap.size) (.bool sm) (.slice az nz cz)) := Dz.out.below hb Dz.out.lt; have Dd : Hid (Box V5 (W12.heap.size) (.bool sd) (.slice ad nd cd)) := Dd.out.below hb Dd.out.lt; have J1 : Hid (Sl V5 a1 n1 c1 l1) := J1.out.below hb (Nat.le_refl _); have J2 : Hid (Sl V5 a2 n2 c2 l2) := J2.out.below hb (Nat.le_refl _); have Jd : Hid (Sl V5 ad nd cd ld) := Jd.out.below hb (Nat.le_refl _); have Ix : Hid (IntR V5 _ _ _ _) := Ix.out.below hb (Nat.le_refl _); have Iy : Hid (IntR V5 _ _ _ _) := Iy.out.below hb (Nat.le_refl _); have Iu : Hid (IntR V5 _ _ _ _) := Iu.out.below hb (Nat.le_refl _); have Iz : Hid (IntR V5 _ _ _ _) := Iz.out.below hb (Nat.le_refl _); have HBD : Hid (Below w.heap.size w V5) := HBD.out.trans (hb.mono HBD.out.size); clear kS; have kS : V5.cell? ⟨w.heap.size, 0, none⟩ = some (.bool s1) ∧ V5.cell? ⟨w.heap.size, 1, none⟩ = some (.slice a1 n1 c1) ∧ V5.cell? ⟨w.heap.size + 1, 0, none⟩ = some (.bool s2) ∧ V5.cell? ⟨w.heap.size + 1, 1, none⟩ = some (.slice a2 n2 c2) ∧ V5.cell? ⟨W4.heap.size, 0, none⟩ = some (.bool sx) ∧ V5.cell? ⟨W4.heap.size, 1, none⟩ = some (.slice ax nx cx) ∧ V5.cell? ⟨W6.heap.size, 0, none⟩ = some (.bool sx) ∧ V5.cell? ⟨W6.heap.size, 1, none⟩ = some (.slice ay ny cy) ∧ V5.cell? ⟨W8.heap.size, 0, none⟩ = some (.bool sm) ∧ V5.cell? ⟨W8.heap.size, 1, none⟩ = some (.slice au nu cu) ∧ V5.cell? ⟨W10.heap.size, 0, none⟩ = some (.bool sm) ∧ V5.cell? ⟨W10.heap.size, 1, none⟩ = some (.slice az nz cz) ∧ V5.cell? ⟨W12.heap.size, 0, none⟩ = some (.bool sd) ∧ V5.cell? ⟨W12.heap.size, 1, none⟩ = some (.slice ad nd cd) := ⟨D1.out.z0, D1.out.z1, D2.out.z0, D2.out.z1, Dx.out.z0, Dx.out.z1, Dy.out.z0, Dy.out.z1, Du.out.z0, Du.out.z1, Dz.out.z0, Dz.out.z1, Dd.out.z0, Dd.out.z1⟩; clear hb)
      go_wp2_with fail
      refine hK.out _ _ (by exact kS) (fun hHeld => ?_)
      clear hK K hHeld
      try simp only [Act.put, List.setIfInBounds_toArray, List.set_cons_zero, List.set_cons_succ]
      refine wpAnyH_take (i := 40) (oi := { dst := some 94, op := Op.pick (Operand.tmp 92) (Operand.tmp 93) (Operand.const (Value.bool false)), type := 4, pos := "law.go:125", after := #[{ on := 38, ground := Ground.data }, { on := 39, ground := Ground.data }], guard := none }) (v := ?_) rfl (by kernel_rfl) (by kernel_rfl) (by kernel_rfl) (fun _ _ _ h => h) (Or.inl ⟨by rfl, ?_⟩) (by exact kS) ?_
      rotate_left
      · intro w hSw; (try dsimp only at hSw); (go_simp <;> with_reducible rfl)
      try simp only [Act.put, List.setIfInBounds_toArray, List.set_cons_zero, List.set_cons_succ]
      refine wpAnyH_take (i := 41) (oi := { dst := some 4, op := Op.assign (Operand.tmp 94), type := 4, pos := "law.go:125", after := #[{ on := 40, ground := Ground.data }, { on := 39, ground := Ground.chain }, { on := 0, ground := Ground.phase }, { on := 1, ground := Ground.phase }, { on := 2, ground := Ground.phase }, { on := 3, ground := Ground.phase }, { on := 4, ground := Ground.phase }, { on := 5, ground := Ground.phase }, { on := 6, ground := Ground.phase }, { on := 7, ground := Ground.phase }, { on := 8, ground := Ground.phase }, { on := 9, ground := Ground.phase }, { on := 10, ground := Ground.phase }, { on := 11, ground := Ground.phase }, { on := 12, ground := Ground.phase }, { on := 13, ground := Ground.phase }, { on := 14, ground := Ground.phase }, { on := 15, ground := Ground.phase }, { on := 16, ground := Ground.phase }, { on := 17, ground := Ground.phase }, { on := 18, ground := Ground.phase }, { on := 19, ground := Ground.phase }, { on := 20, ground := Ground.phase }, { on := 21, ground := Ground.phase }, { on := 22, ground := Ground.phase }, { on := 23, ground := Ground.phase }, { on := 24, ground := Ground.phase }, { on := 25, ground := Ground.phase }, { on := 26, ground := Ground.phase }, { on := 27, ground := Ground.phase }, { on := 28, ground := Ground.phase }, { on := 29, ground := Ground.phase }, { on := 30, ground := Ground.phase }, { on := 31, ground := Ground.phase }, { on := 32, ground := Ground.phase }, { on := 33, ground := Ground.phase }, { on := 34, ground := Ground.phase }, { on := 35, ground := Ground.phase }, { on := 36, ground := Ground.phase }, { on := 37, ground := Ground.phase }, { on := 38, ground := Ground.phase }, { on := 39, ground := Ground.phase }, { on := 40, ground := Ground.phase }], guard := none }) (v := ?_) rfl (by kernel_rfl) (by kernel_rfl) (by kernel_rfl) (fun _ _ _ h => h) (Or.inl ⟨by rfl, ?_⟩) (by exact kS) ?_
      rotate_left
      · intro w hSw; (try dsimp only at hSw); (go_simp <;> with_reducible rfl)
      try simp only [Act.put, List.setIfInBounds_toArray, List.set_cons_zero, List.set_cons_succ]
      refine wpAnyH_done (by kernel_rfl) ?_ _
      go_wp2_with fail
      go_ret
      exact ⟨rfl, HBD.out⟩
    · refine wp_region_held_drew (S := fun w' => w'.cell? ⟨w.heap.size, 0, none⟩ = some (.bool s1) ∧ w'.cell? ⟨w.heap.size, 1, none⟩ = some (.slice a1 n1 c1) ∧ w'.cell? ⟨w.heap.size + 1, 0, none⟩ = some (.bool s2) ∧ w'.cell? ⟨w.heap.size + 1, 1, none⟩ = some (.slice a2 n2 c2) ∧ w'.cell? ⟨W4.heap.size, 0, none⟩ = some (.bool sx) ∧ w'.cell? ⟨W4.heap.size, 1, none⟩ = some (.slice ax nx cx) ∧ w'.cell? ⟨W6.heap.size, 0, none⟩ = some (.bool sx) ∧ w'.cell? ⟨W6.heap.size, 1, none⟩ = some (.slice ay ny cy) ∧ w'.cell? ⟨W8.heap.size, 0, none⟩ = some (.bool sm) ∧ w'.cell? ⟨W8.heap.size, 1, none⟩ = some (.slice au nu cu) ∧ w'.cell? ⟨W10.heap.size, 0, none⟩ = some (.bool sm) ∧ w'.cell? ⟨W10.heap.size, 1, none⟩ = some (.slice az nz cz) ∧ w'.cell? ⟨W12.heap.size, 0, none⟩ = some (.bool sd) ∧ w'.cell? ⟨W12.heap.size, 1, none⟩ = some (.slice ad nd cd)) (by kernel_rfl) (by exact kS) (fun hHeld => ?_)
      clear hHeld
      refine wpAnyH_take (i := 0) (oi := { dst := some 54, op := Op.move (Operand.tmp 6), type := 27, pos := "law.go:125", after := #[], guard := none }) (v := ?_) rfl (by kernel_rfl) (by kernel_rfl) (by kernel_rfl) (fun _ _ _ h => h) (Or.inl ⟨by rfl, ?_⟩) (by exact kS) ?_
      rotate_left
      · intro w hSw; (try dsimp only at hSw); (go_simp <;> with_reducible rfl)
      try simp only [Act.put, List.setIfInBounds_toArray, List.set_cons_zero, List.set_cons_succ]
      refine wpAnyH_take (i := 1) (oi := { dst := some 55, op := Op.move (Operand.tmp 8), type := 27, pos := "law.go:125", after := #[], guard := none }) (v := ?_) rfl (by kernel_rfl) (by kernel_rfl) (by kernel_rfl) (fun _ _ _ h => h) (Or.inl ⟨by rfl, ?_⟩) (by exact kS) ?_
      rotate_left
      · intro w hSw; (try dsimp only at hSw); (go_simp <;> with_reducible rfl)
      try simp only [Act.put, List.setIfInBounds_toArray, List.set_cons_zero, List.set_cons_succ]
      refine wpAnyH_take (i := 2) (oi := { dst := some 56, op := Op.binOp BinOp.eql 27 (Operand.tmp 54) (Operand.tmp 55) 27, type := 4, pos := "law.go:125", after := #[{ on := 0, ground := Ground.data }, { on := 1, ground := Ground.data }], guard := none }) (v := ?_) rfl (by kernel_rfl) (by kernel_rfl) (by kernel_rfl) (fun _ _ _ h => h) (Or.inl ⟨by rfl, ?_⟩) (by exact kS) ?_
      rotate_left
      · intro w hSw; (try dsimp only at hSw); (go_simp <;> with_reducible rfl)
      try simp only [Act.put, List.setIfInBounds_toArray, List.set_cons_zero, List.set_cons_succ]
      refine wpAnyH_take (i := 3) (oi := { dst := some 57, op := Op.move (Operand.tmp 56), type := 4, pos := "law.go:125", after := #[{ on := 2, ground := Ground.data }], guard := none }) (v := ?_) rfl (by kernel_rfl) (by kernel_rfl) (by kernel_rfl) (fun _ _ _ h => h) (Or.inl ⟨by rfl, ?_⟩) (by exact kS) ?_
      rotate_left
      · intro w hSw; (try dsimp only at hSw); (go_simp <;> with_reducible rfl)
      try simp only [Act.put, List.setIfInBounds_toArray, List.set_cons_zero, List.set_cons_succ]
      refine wpAnyH_take (i := 4) (oi := { dst := some 58, op := Op.load 24 (Operand.tmp 5), type := 24, pos := "law.go:125", after := #[{ on := 3, ground := Ground.guard }], guard := some (3, true) }) (v := ?_) rfl (by kernel_rfl) (by kernel_rfl) (by kernel_rfl) (fun _ _ _ h => h) (Or.inl ⟨by rfl, ?_⟩) (by exact kS) ?_
      rotate_left
      · intro w hSw; (try dsimp only at hSw); (go_simp <;> with_reducible rfl)
      try simp only [Act.put, List.setIfInBounds_toArray, List.set_cons_zero, List.set_cons_succ]
      refine wpAnyH_take (i := 5) (oi := { dst := some 59, op := Op.load 24 (Operand.tmp 7), type := 24, pos := "law.go:125", after := #[{ on := 3, ground := Ground.guard }], guard := some (3, true) }) (v := ?_) rfl (by kernel_rfl) (by kernel_rfl) (by kernel_rfl) (fun _ _ _ h => h) (Or.inl ⟨by rfl, ?_⟩) (by exact kS) ?_
      rotate_left
      · intro w hSw; (try dsimp only at hSw); (go_simp <;> with_reducible rfl)
      try simp only [Act.put, List.setIfInBounds_toArray, List.set_cons_zero, List.set_cons_succ]
      refine wpAnyH_ready (rs := [6]) (by kernel_rfl) (by simp) ?_
      refine AllReadyH.cons (o := { dst := some 60, op := Op.call { callee := Callee.value (Operand.func 11), args := #[Operand.tmp 58, Operand.tmp 59], argTypes := #[24, 24] }, type := 4, pos := "law.go:125", after := #[{ on := 4, ground := Ground.data }, { on := 5, ground := Ground.data }, { on := 3, ground := Ground.chain }, { on := 3, ground := Ground.guard }], guard := some (3, true) }) rfl (fun K hK => ?_) AllReadyH.nil
      go_simp
      (go_at_call_of 11 (Value.agg #[Value.bool sx, Value.slice ax nx cx]); refine (whole_any Ix.out Iy.out).mono ?_; rintro e V1 ⟨rfl, hb⟩; have D1 : Hid (Box V1 (w.heap.size) (.bool s1) (.slice a1 n1 c1)) := D1.out.below hb D1.out.lt; have D2 : Hid (Box V1 (w.heap.size + 1) (.bool s2) (.slice a2 n2 c2)) := D2.out.below hb D2.out.lt; have Dx : Hid (Box V1 (W4.heap.size) (.bool sx) (.slice ax nx cx)) := Dx.out.below hb Dx.out.lt; have Dy : Hid (Box V1 (W6.heap.size) (.bool sx) (.slice ay ny cy)) := Dy.out.below hb Dy.out.lt; have Du : Hid (Box V1 (W8.heap.size) (.bool sm) (.slice au nu cu)) := Du.out.below hb Du.out.lt; have Dz : Hid (Box V1 (W10.heap.size) (.bool sm) (.slice az nz cz)) := Dz.out.below hb Dz.out.lt; have Dd : Hid (Box V1 (W12.heap.size) (.bool sd) (.slice ad nd cd)) := Dd.out.below hb Dd.out.lt; have J1 : Hid (Sl V1 a1 n1 c1 l1) := J1.out.below hb (Nat.le_refl _); have J2 : Hid (Sl V1 a2 n2 c2 l2) := J2.out.below hb (Nat.le_refl _); have Jd : Hid (Sl V1 ad nd cd ld) := Jd.out.below hb (Nat.le_refl _); have Ix : Hid (IntR V1 _ _ _ _) := Ix.out.below hb (Nat.le_refl _); have Iy : Hid (IntR V1 _ _ _ _) := Iy.out.below hb (Nat.le_refl _); have Iu : Hid (IntR V1 _ _ _ _) := Iu.out.below hb (Nat.le_refl _); have Iz : Hid (IntR V1 _ _ _ _) := Iz.out.below hb (Nat.le_refl _); have HBD : Hid (Below w.heap.size w V1) := HBD.out.trans (hb.mono HBD.out.size); clear kS; have kS : V1.cell? ⟨w.heap.size, 0, none⟩ = some (.bool s1) ∧ V1.cell? ⟨w.heap.size, 1, none⟩ = some (.slice a1 n1 c1) ∧ V1.cell? ⟨w.heap.size + 1, 0, none⟩ = some (.bool s2) ∧ V1.cell? ⟨w.heap.size + 1, 1, none⟩ = some (.slice a2 n2 c2) ∧ V1.cell? ⟨W4.heap.size, 0, none⟩ = some (.bool sx) ∧ V1.cell? ⟨W4.heap.size, 1, none⟩ = some (.slice ax nx cx) ∧ V1.cell? ⟨W6.heap.size, 0, none⟩ = some (.bool sx) ∧ V1.cell? ⟨W6.heap.size, 1, none⟩ = some (.slice ay ny cy) ∧ V1.cell? ⟨W8.heap.size, 0, none⟩ = some (.bool sm) ∧ V1.cell? ⟨W8.heap.size, 1, none⟩ = some (.slice au nu cu) ∧ V1.cell? ⟨W10.heap.size, 0, none⟩ = some (.bool sm) ∧ V1.cell? ⟨W10.heap.size, 1, none⟩ = some (.slice az nz cz) ∧ V1.cell? ⟨W12.heap.size, 0, none⟩ = some (.bool sd) ∧ V1.cell? ⟨W12.heap.size, 1, none⟩ = some (.slice ad nd cd) := ⟨D1.out.z0, D1.out.z1, D2.out.z0, D2.out.z1, Dx.out.z0, Dx.out.z1, Dy.out.z0, Dy.out.z1, Du.out.z0, Du.out.z1, Dz.out.z0, Dz.out.z1, Dd.out.z0, Dd.out.z1⟩; clear hb)
      go_wp2_with fail
      refine hK.out _ _ (by exact kS) (fun hHeld => ?_)
      clear hK K hHeld
      try simp only [Act.put, List.setIfInBounds_toArray, List.set_cons_zero, List.set_cons_succ]
      refine wpAnyH_take (i := 7) (oi := { dst := some 61, op := Op.pick (Operand.tmp 57) (Operand.tmp 60) (Operand.const (Value.bool false)), type := 4, pos := "law.go:125", after := #[{ on := 3, ground := Ground.data }, { on := 6, ground := Ground.data }], guard := none }) (v := ?_) rfl (by kernel_rfl) (by kernel_rfl) (by kernel_rfl) (fun _ _ _ h => h) (Or.inl ⟨by rfl, ?_⟩) (by exact kS) ?_
      rotate_left
      · intro w hSw; (try dsimp only at hSw); (go_simp <;> with_reducible rfl)
      try simp only [Act.put, List.setIfInBounds_toArray, List.set_cons_zero, List.set_cons_succ]
      refine wpAnyH_take (i := 8) (oi := { dst := some 62, op := Op.move (Operand.tmp 61), type := 4, pos := "law.go:125", after := #[{ on := 7, ground := Ground.data }, { on := 6, ground := Ground.chain }], guard := none }) (v := ?_) rfl (by kernel_rfl) (by kernel_rfl) (by kernel_rfl) (fun _ _ _ h => h) (Or.inl ⟨by rfl, ?_⟩) (by exact kS) ?_
      rotate_left
      · intro w hSw; (try dsimp only at hSw); (go_simp <;> with_reducible rfl)
      try simp only [Act.put, List.setIfInBounds_toArray, List.set_cons_zero, List.set_cons_succ]
      refine wpAnyH_take (i := 9) (oi := { dst := some 63, op := Op.move (Operand.tmp 10), type := 27, pos := "law.go:125", after := #[{ on := 8, ground := Ground.guard }], guard := some (8, true) }) (v := ?_) rfl (by kernel_rfl) (by kernel_rfl) (by kernel_rfl) (fun _ _ _ h => h) (Or.inl ⟨by rfl, ?_⟩) (by exact kS) ?_
      rotate_left
      · intro w hSw; (try dsimp only at hSw); (go_simp <;> with_reducible rfl)
      try simp only [Act.put, List.setIfInBounds_toArray, List.set_cons_zero, List.set_cons_succ]
      refine wpAnyH_take (i := 10) (oi := { dst := some 64, op := Op.move (Operand.tmp 12), type := 27, pos := "law.go:125", after := #[{ on := 8, ground := Ground.guard }], guard := some (8, true) }) (v := ?_) rfl (by kernel_rfl) (by kernel_rfl) (by kernel_rfl) (fun _ _ _ h => h) (Or.inl ⟨by rfl, ?_⟩) (by exact kS) ?_
      rotate_left
      · intro w hSw; (try dsimp only at hSw); (go_simp <;> with_reducible rfl)
      try simp only [Act.put, List.setIfInBounds_toArray, List.set_cons_zero, List.set_cons_succ]
      refine wpAnyH_take (i := 11) (oi := { dst := some 65, op := Op.binOp BinOp.eql 27 (Operand.tmp 63) (Operand.tmp 64) 27, type := 4, pos := "law.go:125", after := #[{ on := 9, ground := Ground.data }, { on := 10, ground := Ground.data }, { on := 8, ground := Ground.guard }], guard := some (8, true) }) (v := ?_) rfl (by kernel_rfl) (by kernel_rfl) (by kernel_rfl) (fun _ _ _ h => h) (Or.inl ⟨by rfl, ?_⟩) (by exact kS) ?_
      rotate_left
      · intro w hSw; (try dsimp only at hSw); (go_simp <;> with_reducible rfl)
      try simp only [Act.put, List.setIfInBounds_toArray, List.set_cons_zero, List.set_cons_succ]
      refine wpAnyH_take (i := 12) (oi := { dst := some 66, op := Op.pick (Operand.tmp 62) (Operand.tmp 65) (Operand.const (Value.bool false)), type := 4, pos := "law.go:125", after := #[{ on := 8, ground := Ground.data }, { on := 11, ground := Ground.data }], guard := none }) (v := ?_) rfl (by kernel_rfl) (by kernel_rfl) (by kernel_rfl) (fun _ _ _ h => h) (Or.inl ⟨by rfl, ?_⟩) (by exact kS) ?_
      rotate_left
      · intro w hSw; (try dsimp only at hSw); (go_simp <;> with_reducible rfl)
      try simp only [Act.put, List.setIfInBounds_toArray, List.set_cons_zero, List.set_cons_succ]
      refine wpAnyH_take (i := 13) (oi := { dst := some 67, op := Op.move (Operand.tmp 66), type := 4, pos := "law.go:125", after := #[{ on := 12, ground := Ground.data }, { on := 8, ground := Ground.chain }], guard := none }) (v := ?_) rfl (by kernel_rfl) (by kernel_rfl) (by kernel_rfl) (fun _ _ _ h => h) (Or.inl ⟨by rfl, ?_⟩) (by exact kS) ?_
      rotate_left
      · intro w hSw; (try dsimp only at hSw); (go_simp <;> with_reducible rfl)
      try simp only [Act.put, List.setIfInBounds_toArray, List.set_cons_zero, List.set_cons_succ]
      refine wpAnyH_take (i := 14) (oi := { dst := some 68, op := Op.load 24 (Operand.tmp 9), type := 24, pos := "law.go:125", after := #[{ on := 13, ground := Ground.guard }], guard := some (13, true) }) (v := ?_) rfl (by kernel_rfl) (by kernel_rfl) (by kernel_rfl) (fun _ _ _ h => h) (Or.inl ⟨by rfl, ?_⟩) (by exact kS) ?_
      rotate_left
      · intro w hSw; (try dsimp only at hSw); (go_simp <;> with_reducible rfl)
      try simp only [Act.put, List.setIfInBounds_toArray, List.set_cons_zero, List.set_cons_succ]
      refine wpAnyH_take (i := 15) (oi := { dst := some 69, op := Op.load 24 (Operand.tmp 11), type := 24, pos := "law.go:125", after := #[{ on := 13, ground := Ground.guard }], guard := some (13, true) }) (v := ?_) rfl (by kernel_rfl) (by kernel_rfl) (by kernel_rfl) (fun _ _ _ h => h) (Or.inl ⟨by rfl, ?_⟩) (by exact kS) ?_
      rotate_left
      · intro w hSw; (try dsimp only at hSw); (go_simp <;> with_reducible rfl)
      try simp only [Act.put, List.setIfInBounds_toArray, List.set_cons_zero, List.set_cons_succ]
      refine wpAnyH_ready (rs := [16]) (by kernel_rfl) (by simp) ?_
      refine AllReadyH.cons (o := { dst := some 70, op := Op.call { callee := Callee.value (Operand.func 11), args := #[Operand.tmp 68, Operand.tmp 69], argTypes := #[24, 24] }, type := 4, pos := "law.go:125", after := #[{ on := 14, ground := Ground.data }, { on := 15, ground := Ground.data }, { on := 13, ground := Ground.chain }, { on := 13, ground := Ground.guard }], guard := some (13, true) }) rfl (fun K hK => ?_) AllReadyH.nil
      go_simp
      (go_at_call_of 11 (Value.agg #[Value.bool sm, Value.slice au nu cu]); refine (whole_any Iu.out Iz.out).mono ?_; rintro e V2 ⟨rfl, hb⟩; have D1 : Hid (Box V2 (w.heap.size) (.bool s1) (.slice a1 n1 c1)) := D1.out.below hb D1.out.lt; have D2 : Hid (Box V2 (w.heap.size + 1) (.bool s2) (.slice a2 n2 c2)) := D2.out.below hb D2.out.lt; have Dx : Hid (Box V2 (W4.heap.size) (.bool sx) (.slice ax nx cx)) := Dx.out.below hb Dx.out.lt; have Dy : Hid (Box V2 (W6.heap.size) (.bool sx) (.slice ay ny cy)) := Dy.out.below hb Dy.out.lt; have Du : Hid (Box V2 (W8.heap.size) (.bool sm) (.slice au nu cu)) := Du.out.below hb Du.out.lt; have Dz : Hid (Box V2 (W10.heap.size) (.bool sm) (.slice az nz cz)) := Dz.out.below hb Dz.out.lt; have Dd : Hid (Box V2 (W12.heap.size) (.bool sd) (.slice ad nd cd)) := Dd.out.below hb Dd.out.lt; have J1 : Hid (Sl V2 a1 n1 c1 l1) := J1.out.below hb (Nat.le_refl _); have J2 : Hid (Sl V2 a2 n2 c2 l2) := J2.out.below hb (Nat.le_refl _); have Jd : Hid (Sl V2 ad nd cd ld) := Jd.out.below hb (Nat.le_refl _); have Ix : Hid (IntR V2 _ _ _ _) := Ix.out.below hb (Nat.le_refl _); have Iy : Hid (IntR V2 _ _ _ _) := Iy.out.below hb (Nat.le_refl _); have Iu : Hid (IntR V2 _ _ _ _) := Iu.out.below hb (Nat.le_refl _); have Iz : Hid (IntR V2 _ _ _ _) := Iz.out.below hb (Nat.le_refl _); have HBD : Hid (Below w.heap.size w V2) := HBD.out.trans (hb.mono HBD.out.size); clear kS; have kS : V2.cell? ⟨w.heap.size, 0, none⟩ = some (.bool s1) ∧ V2.cell? ⟨w.heap.size, 1, none⟩ = some (.slice a1 n1 c1) ∧ V2.cell? ⟨w.heap.size + 1, 0, none⟩ = some (.bool s2) ∧ V2.cell? ⟨w.heap.size + 1, 1, none⟩ = some (.slice a2 n2 c2) ∧ V2.cell? ⟨W4.heap.size, 0, none⟩ = some (.bool sx) ∧ V2.cell? ⟨W4.heap.size, 1, none⟩ = some (.slice ax nx cx) ∧ V2.cell? ⟨W6.heap.size, 0, none⟩ = some (.bool sx) ∧ V2.cell? ⟨W6.heap.size, 1, none⟩ = some (.slice ay ny cy) ∧ V2.cell? ⟨W8.heap.size, 0, none⟩ = some (.bool sm) ∧ V2.cell? ⟨W8.heap.size, 1, none⟩ = some (.slice au nu cu) ∧ V2.cell? ⟨W10.heap.size, 0, none⟩ = some (.bool sm) ∧ V2.cell? ⟨W10.heap.size, 1, none⟩ = some (.slice az nz cz) ∧ V2.cell? ⟨W12.heap.size, 0, none⟩ = some (.bool sd) ∧ V2.cell? ⟨W12.heap.size, 1, none⟩ = some (.slice ad nd cd) := ⟨D1.out.z0, D1.out.z1, D2.out.z0, D2.out.z1, Dx.out.z0, Dx.out.z1, Dy.out.z0, Dy.out.z1, Du.out.z0, Du.out.z1, Dz.out.z0, Dz.out.z1, Dd.out.z0, Dd.out.z1⟩; clear hb)
      go_wp2_with fail
      refine hK.out _ _ (by exact kS) (fun hHeld => ?_)
      clear hK K hHeld
      try simp only [Act.put, List.setIfInBounds_toArray, List.set_cons_zero, List.set_cons_succ]
      refine wpAnyH_take (i := 17) (oi := { dst := some 71, op := Op.pick (Operand.tmp 67) (Operand.tmp 70) (Operand.const (Value.bool false)), type := 4, pos := "law.go:125", after := #[{ on := 13, ground := Ground.data }, { on := 16, ground := Ground.data }], guard := none }) (v := ?_) rfl (by kernel_rfl) (by kernel_rfl) (by kernel_rfl) (fun _ _ _ h => h) (Or.inl ⟨by rfl, ?_⟩) (by exact kS) ?_
      rotate_left
      · intro w hSw; (try dsimp only at hSw); (go_simp <;> with_reducible rfl)
      try simp only [Act.put, List.setIfInBounds_toArray, List.set_cons_zero, List.set_cons_succ]
      refine wpAnyH_take (i := 18) (oi := { dst := some 72, op := Op.move (Operand.tmp 71), type := 4, pos := "law.go:125", after := #[{ on := 17, ground := Ground.data }, { on := 16, ground := Ground.chain }], guard := none }) (v := ?_) rfl (by kernel_rfl) (by kernel_rfl) (by kernel_rfl) (fun _ _ _ h => h) (Or.inl ⟨by rfl, ?_⟩) (by exact kS) ?_
      rotate_left
      · intro w hSw; (try dsimp only at hSw); (go_simp <;> with_reducible rfl)
      try simp only [Act.put, List.setIfInBounds_toArray, List.set_cons_zero, List.set_cons_succ]
      refine wpAnyH_take (i := 19) (oi := { dst := some 73, op := Op.move (Operand.tmp 14), type := 27, pos := "law.go:125", after := #[{ on := 18, ground := Ground.guard }], guard := some (18, true) }) (v := ?_) rfl (by kernel_rfl) (by kernel_rfl) (by kernel_rfl) (fun _ _ _ h => h) (Or.inl ⟨by rfl, ?_⟩) (by exact kS) ?_
      rotate_left
      · intro w hSw; (try dsimp only at hSw); (go_simp <;> with_reducible rfl)
      try simp only [Act.put, List.setIfInBounds_toArray, List.set_cons_zero, List.set_cons_succ]
      refine wpAnyH_take (i := 20) (oi := { dst := some 74, op := Op.binOp BinOp.neq 27 (Operand.tmp 73) (Operand.const (Value.int IntKind.i64 0)) 27, type := 4, pos := "law.go:125", after := #[{ on := 19, ground := Ground.data }, { on := 18, ground := Ground.guard }], guard := some (18, true) }) (v := ?_) rfl (by kernel_rfl) (by kernel_rfl) (by kernel_rfl) (fun _ _ _ h => h) (Or.inl ⟨by rfl, ?_⟩) (by exact kS) ?_
      rotate_left
      · intro w hSw; (try dsimp only at hSw); (go_simp <;> with_reducible rfl)
      try simp only [Act.put, List.setIfInBounds_toArray, List.set_cons_zero, List.set_cons_succ]
      refine wpAnyH_take (i := 21) (oi := { dst := some 75, op := Op.move (Operand.tmp 74), type := 4, pos := "law.go:125", after := #[{ on := 20, ground := Ground.data }, { on := 18, ground := Ground.chain }, { on := 18, ground := Ground.guard }], guard := some (18, true) }) (v := ?_) rfl (by kernel_rfl) (by kernel_rfl) (by kernel_rfl) (fun _ _ _ h => h) (Or.inl ⟨by rfl, ?_⟩) (by exact kS) ?_
      rotate_left
      · intro w hSw; (try dsimp only at hSw); (go_simp <;> with_reducible rfl)
      try simp only [Act.put, List.setIfInBounds_toArray, List.set_cons_zero, List.set_cons_succ]
      refine wpAnyH_take (i := 22) (oi := { dst := some 76, op := Op.load 24 (Operand.tmp 13), type := 24, pos := "law.go:125", after := #[{ on := 21, ground := Ground.guard }], guard := some (21, false) }) (v := ?_) rfl (by kernel_rfl) (by kernel_rfl) (by kernel_rfl) (fun _ _ _ h => h) (Or.inl ⟨by rfl, ?_⟩) (by exact kS) ?_
      rotate_left
      · intro w hSw; (try dsimp only at hSw); (go_simp <;> with_reducible rfl)
      try simp only [Act.put, List.setIfInBounds_toArray, List.set_cons_zero, List.set_cons_succ]
      refine wpAnyH_ready (rs := [23]) (by kernel_rfl) (by simp) ?_
      refine AllReadyH.cons (o := { dst := some 77, op := Op.call { callee := Callee.value (Operand.func 13), args := #[Operand.const (Value.int IntKind.i64 0)], argTypes := #[3] }, type := 24, pos := "law.go:125", after := #[{ on := 21, ground := Ground.chain }, { on := 21, ground := Ground.guard }], guard := some (21, false) }) rfl (fun K hK => ?_) AllReadyH.nil
      go_simp
      (go_at_call 13; refine (of_any 0 _ (by omega) (by omega)).mono ?_; rintro e V6 ⟨x, rfl, hx, hb⟩; obtain ⟨so, hso⟩ : ∃ so, sgB (decide ((0:Int) < 0)) (0:Int).natAbs = so := ⟨_, rfl⟩; rw [hso] at hx; obtain ⟨ao, no, co, lo, rfl, hs, hv, mo⟩ := hx.open (by decide +kernel); have Jo : Hid (Sl V6 ao no co lo) := hs; have Zo : Hid (vl 4294967296 lo = 0) := hv; clear hs hv hx hso; have D1 : Hid (Box V6 (w.heap.size) (.bool s1) (.slice a1 n1 c1)) := D1.out.below hb D1.out.lt; have D2 : Hid (Box V6 (w.heap.size + 1) (.bool s2) (.slice a2 n2 c2)) := D2.out.below hb D2.out.lt; have Dx : Hid (Box V6 (W4.heap.size) (.bool sx) (.slice ax nx cx)) := Dx.out.below hb Dx.out.lt; have Dy : Hid (Box V6 (W6.heap.size) (.bool sx) (.slice ay ny cy)) := Dy.out.below hb Dy.out.lt; have Du : Hid (Box V6 (W8.heap.size) (.bool sm) (.slice au nu cu)) := Du.out.below hb Du.out.lt; have Dz : Hid (Box V6 (W10.heap.size) (.bool sm) (.slice az nz cz)) := Dz.out.below hb Dz.out.lt; have Dd : Hid (Box V6 (W12.heap.size) (.bool sd) (.slice ad nd cd)) := Dd.out.below hb Dd.out.lt; have J1 : Hid (Sl V6 a1 n1 c1 l1) := J1.out.below hb (Nat.le_refl _); have J2 : Hid (Sl V6 a2 n2 c2 l2) := J2.out.below hb (Nat.le_refl _); have Jd : Hid (Sl V6 ad nd cd ld) := Jd.out.below hb (Nat.le_refl _); have Ix : Hid (IntR V6 _ _ _ _) := Ix.out.below hb (Nat.le_refl _); have Iy : Hid (IntR V6 _ _ _ _) := Iy.out.below hb (Nat.le_refl _); have Iu : Hid (IntR V6 _ _ _ _) := Iu.out.below hb (Nat.le_refl _); have Iz : Hid (IntR V6 _ _ _ _) := Iz.out.below hb (Nat.le_refl _); have HBD : Hid (Below w.heap.size w V6) := HBD.out.trans (hb.mono HBD.out.size); clear kS; have kS : V6.cell? ⟨w.heap.size, 0, none⟩ = some (.bool s1) ∧ V6.cell? ⟨w.heap.size, 1, none⟩ = some (.slice a1 n1 c1) ∧ V6.cell? ⟨w.heap.size + 1, 0, none⟩ = some (.bool s2) ∧ V6.cell? ⟨w.heap.size + 1, 1, none⟩ = some (.slice a2 n2 c2) ∧ V6.cell? ⟨W4.heap.size, 0, none⟩ = some (.bool sx) ∧ V6.cell? ⟨W4.heap.size, 1, none⟩ = some (.slice ax nx cx) ∧ V6.cell? ⟨W6.heap.size, 0, none⟩ = some (.bool sx) ∧ V6.cell? ⟨W6.heap.size, 1, none⟩ = some (.slice ay ny cy) ∧ V6.cell? ⟨W8.heap.size, 0, none⟩ = some (.bool sm) ∧ V6.cell? ⟨W8.heap.size, 1, none⟩ = some (.slice au nu cu) ∧ V6.cell? ⟨W10.heap.size, 0, none⟩ = some (.bool sm) ∧ V6.cell? ⟨W10.heap.size, 1, none⟩ = some (.slice az nz cz) ∧ V6.cell? ⟨W12.heap.size, 0, none⟩ = some (.bool sd) ∧ V6.cell? ⟨W12.heap.size, 1, none⟩ = some (.slice ad nd cd) := ⟨D1.out.z0, D1.out.z1, D2.out.z0, D2.out.z1, Dx.out.z0, Dx.out.z1, Dy.out.z0, Dy.out.z1, Du.out.z0, Du.out.z1, Dz.out.z0, Dz.out.z1, Dd.out.z0, Dd.out.z1⟩; clear hb)
      go_wp2_with fail
      refine hK.out _ _ (by exact kS) (fun hHeld => ?_)
      clear hK K hHeld
      try simp only [Act.put, List.setIfInBounds_toArray, List.set_cons_zero, List.set_cons_succ]
      refine wpAnyH_ready (rs := [24]) (by kernel_rfl) (by simp) ?_
      refine AllReadyH.cons (o := { dst := some 78, op := Op.call { callee := Callee.value (Operand.func 12), args := #[Operand.tmp 76, Operand.tmp 77], argTypes := #[24, 24] }, type := 3, pos := "law.go:125", after := #[{ on := 22, ground := Ground.data }, { on := 23, ground := Ground.data }, { on := 23, ground := Ground.chain }, { on := 21, ground := Ground.guard }], guard := some (21, false) }) rfl (fun K hK => ?_) AllReadyH.nil
      go_simp
      (go_at_call_of 12 (Value.agg #[Value.bool sd, Value.slice ad nd cd]); refine (compare_any sd so ad nd cd ld ao no co lo _ (by exact Jd.out) (by exact Jo.out) (by omega) (by omega)).mono ?_; rintro e V7 ⟨rfl, hb⟩; rw [HDZ.out so lo Zo.out]; have D1 : Hid (Box V7 (w.heap.size) (.bool s1) (.slice a1 n1 c1)) := D1.out.below hb D1.out.lt; have D2 : Hid (Box V7 (w.heap.size + 1) (.bool s2) (.slice a2 n2 c2)) := D2.out.below hb D2.out.lt; have Dx : Hid (Box V7 (W4.heap.size) (.bool sx) (.slice ax nx cx)) := Dx.out.below hb Dx.out.lt; have Dy : Hid (Box V7 (W6.heap.size) (.bool sx) (.slice ay ny cy)) := Dy.out.below hb Dy.out.lt; have Du : Hid (Box V7 (W8.heap.size) (.bool sm) (.slice au nu cu)) := Du.out.below hb Du.out.lt; have Dz : Hid (Box V7 (W10.heap.size) (.bool sm) (.slice az nz cz)) := Dz.out.below hb Dz.out.lt; have Dd : Hid (Box V7 (W12.heap.size) (.bool sd) (.slice ad nd cd)) := Dd.out.below hb Dd.out.lt; have J1 : Hid (Sl V7 a1 n1 c1 l1) := J1.out.below hb (Nat.le_refl _); have J2 : Hid (Sl V7 a2 n2 c2 l2) := J2.out.below hb (Nat.le_refl _); have Jd : Hid (Sl V7 ad nd cd ld) := Jd.out.below hb (Nat.le_refl _); have Ix : Hid (IntR V7 _ _ _ _) := Ix.out.below hb (Nat.le_refl _); have Iy : Hid (IntR V7 _ _ _ _) := Iy.out.below hb (Nat.le_refl _); have Iu : Hid (IntR V7 _ _ _ _) := Iu.out.below hb (Nat.le_refl _); have Iz : Hid (IntR V7 _ _ _ _) := Iz.out.below hb (Nat.le_refl _); have HBD : Hid (Below w.heap.size w V7) := HBD.out.trans (hb.mono HBD.out.size); clear kS; have kS : V7.cell? ⟨w.heap.size, 0, none⟩ = some (.bool s1) ∧ V7.cell? ⟨w.heap.size, 1, none⟩ = some (.slice a1 n1 c1) ∧ V7.cell? ⟨w.heap.size + 1, 0, none⟩ = some (.bool s2) ∧ V7.cell? ⟨w.heap.size + 1, 1, none⟩ = some (.slice a2 n2 c2) ∧ V7.cell? ⟨W4.heap.size, 0, none⟩ = some (.bool sx) ∧ V7.cell? ⟨W4.heap.size, 1, none⟩ = some (.slice ax nx cx) ∧ V7.cell? ⟨W6.heap.size, 0, none⟩ = some (.bool sx) ∧ V7.cell? ⟨W6.heap.size, 1, none⟩ = some (.slice ay ny cy) ∧ V7.cell? ⟨W8.heap.size, 0, none⟩ = some (.bool sm) ∧ V7.cell? ⟨W8.heap.size, 1, none⟩ = some (.slice au nu cu) ∧ V7.cell? ⟨W10.heap.size, 0, none⟩ = some (.bool sm) ∧ V7.cell? ⟨W10.heap.size, 1, none⟩ = some (.slice az nz cz) ∧ V7.cell? ⟨W12.heap.size, 0, none⟩ = some (.bool sd) ∧ V7.cell? ⟨W12.heap.size, 1, none⟩ = some (.slice ad nd cd) := ⟨D1.out.z0, D1.out.z1, D2.out.z0, D2.out.z1, Dx.out.z0, Dx.out.z1, Dy.out.z0, Dy.out.z1, Du.out.z0, Du.out.z1, Dz.out.z0, Dz.out.z1, Dd.out.z0, Dd.out.z1⟩; clear hb)
      go_wp2_with fail
      refine hK.out _ _ (by exact kS) (fun hHeld => ?_)
      clear hK K hHeld
      try simp only [Act.put, List.setIfInBounds_toArray, List.set_cons_zero, List.set_cons_succ]
      refine wpAnyH_take (i := 25) (oi := { dst := some 79, op := Op.binOp BinOp.eql 3 (Operand.tmp 78) (Operand.const (Value.int IntKind.i64 0)) 3, type := 4, pos := "law.go:125", after := #[{ on := 24, ground := Ground.data }, { on := 21, ground := Ground.guard }], guard := some (21, false) }) (v := ?_) rfl (by kernel_rfl) (by kernel_rfl) (by kernel_rfl) (fun _ _ _ h => h) (Or.inl ⟨by rfl, ?_⟩) (by exact kS) ?_
      rotate_left
      · intro w hSw; (try dsimp only at hSw); (go_simp <;> with_reducible rfl)
      try simp only [Act.put, List.setIfInBounds_toArray, List.set_cons_zero, List.set_cons_succ]
      refine wpAnyH_take (i := 26) (oi := { dst := some 80, op := Op.pick (Operand.tmp 75) (Operand.const (Value.bool true)) (Operand.tmp 79), type := 4, pos := "law.go:125", after := #[{ on := 21, ground := Ground.data }, { on := 25, ground := Ground.data }, { on := 18, ground := Ground.guard }], guard := some (18, true) }) (v := ?_) rfl (by kernel_rfl) (by kernel_rfl) (by kernel_rfl) (fun _ _ _ h => h) (Or.inl ⟨by rfl, ?_⟩) (by exact kS) ?_
      rotate_left
      · intro w hSw; (try dsimp only at hSw); (go_simp <;> with_reducible rfl)
      try simp only [Act.put, List.setIfInBounds_toArray, List.set_cons_zero, List.set_cons_succ]
      refine wpAnyH_take (i := 27) (oi := { dst := some 81, op := Op.pick (Operand.tmp 72) (Operand.tmp 80) (Operand.const (Value.bool false)), type := 4, pos := "law.go:125", after := #[{ on := 18, ground := Ground.data }, { on := 26, ground := Ground.data }], guard := none }) (v := ?_) rfl (by kernel_rfl) (by kernel_rfl) (by kernel_rfl) (fun _ _ _ h => h) (Or.inl ⟨by rfl, ?_⟩) (by exact kS) ?_
      rotate_left
      · intro w hSw; (try dsimp only at hSw); (go_simp <;> with_reducible rfl)
      try simp only [Act.put, List.setIfInBounds_toArray, List.set_cons_zero, List.set_cons_succ]
      refine wpAnyH_take (i := 28) (oi := { dst := some 82, op := Op.move (Operand.tmp 81), type := 4, pos := "law.go:125", after := #[{ on := 27, ground := Ground.data }, { on := 24, ground := Ground.chain }], guard := none }) (v := ?_) rfl (by kernel_rfl) (by kernel_rfl) (by kernel_rfl) (fun _ _ _ h => h) (Or.inl ⟨by rfl, ?_⟩) (by exact kS) ?_
      rotate_left
      · intro w hSw; (try dsimp only at hSw); (go_simp <;> with_reducible rfl)
      try simp only [Act.put, List.setIfInBounds_toArray, List.set_cons_zero, List.set_cons_succ]
      refine wpAnyH_take (i := 29) (oi := { dst := some 83, op := Op.load 24 (Operand.tmp 2), type := 24, pos := "law.go:125", after := #[{ on := 28, ground := Ground.guard }], guard := some (28, true) }) (v := ?_) rfl (by kernel_rfl) (by kernel_rfl) (by kernel_rfl) (fun _ _ _ h => h) (Or.inl ⟨by rfl, ?_⟩) (by exact kS) ?_
      rotate_left
      · intro w hSw; (try dsimp only at hSw); (go_simp <;> with_reducible rfl)
      try simp only [Act.put, List.setIfInBounds_toArray, List.set_cons_zero, List.set_cons_succ]
      refine wpAnyH_take (i := 30) (oi := { dst := some 84, op := Op.load 24 (Operand.tmp 3), type := 24, pos := "law.go:125", after := #[{ on := 28, ground := Ground.guard }], guard := some (28, true) }) (v := ?_) rfl (by kernel_rfl) (by kernel_rfl) (by kernel_rfl) (fun _ _ _ h => h) (Or.inl ⟨by rfl, ?_⟩) (by exact kS) ?_
      rotate_left
      · intro w hSw; (try dsimp only at hSw); (go_simp <;> with_reducible rfl)
      try simp only [Act.put, List.setIfInBounds_toArray, List.set_cons_zero, List.set_cons_succ]
      refine wpAnyH_take (i := 32) (oi := { dst := some 86, op := Op.load 24 (Operand.tmp 3), type := 24, pos := "law.go:125", after := #[{ on := 28, ground := Ground.guard }], guard := some (28, true) }) (v := ?_) rfl (by kernel_rfl) (by kernel_rfl) (by kernel_rfl) (fun _ _ _ h => h) (Or.inl ⟨by rfl, ?_⟩) (by exact kS) ?_
      rotate_left
      · intro w hSw; (try dsimp only at hSw); (go_simp <;> with_reducible rfl)
      try simp only [Act.put, List.setIfInBounds_toArray, List.set_cons_zero, List.set_cons_succ]
      refine wpAnyH_take (i := 33) (oi := { dst := some 87, op := Op.load 24 (Operand.tmp 2), type := 24, pos := "law.go:125", after := #[{ on := 28, ground := Ground.guard }], guard := some (28, true) }) (v := ?_) rfl (by kernel_rfl) (by kernel_rfl) (by kernel_rfl) (fun _ _ _ h => h) (Or.inl ⟨by rfl, ?_⟩) (by exact kS) ?_
      rotate_left
      · intro w hSw; (try dsimp only at hSw); (go_simp <;> with_reducible rfl)
      try simp only [Act.put, List.setIfInBounds_toArray, List.set_cons_zero, List.set_cons_succ]
      refine wpAnyH_ready (rs := [31]) (by kernel_rfl) (by simp) ?_
      refine AllReadyH.cons (o := { dst := some 85, op := Op.call { callee := Callee.value (Operand.func 12), args := #[Operand.tmp 83, Operand.tmp 84], argTypes := #[24, 24] }, type := 3, pos := "law.go:125", after := #[{ on := 29, ground := Ground.data }, { on := 30, ground := Ground.data }, { on := 28, ground := Ground.chain }, { on := 28, ground := Ground.guard }], guard := some (28, true) }) rfl (fun K hK => ?_) AllReadyH.nil
      go_simp
      (go_at_call_of 12 (Value.agg #[Value.bool s1, Value.slice a1 n1 c1]); refine (compare_any s1 s2 a1 n1 c1 l1 a2 n2 c2 l2 _ (by exact J1.out) (by exact J2.out) (by omega) (by omega)).mono ?_; rintro e V3 ⟨rfl, hb⟩; rw [HAB.out]; have D1 : Hid (Box V3 (w.heap.size) (.bool s1) (.slice a1 n1 c1)) := D1.out.below hb D1.out.lt; have D2 : Hid (Box V3 (w.heap.size + 1) (.bool s2) (.slice a2 n2 c2)) := D2.out.below hb D2.out.lt; have Dx : Hid (Box V3 (W4.heap.size) (.bool sx) (.slice ax nx cx)) := Dx.out.below hb Dx.out.lt; have Dy : Hid (Box V3 (W6.heap.size) (.bool sx) (.slice ay ny cy)) := Dy.out.below hb Dy.out.lt; have Du : Hid (Box V3 (W8.heap.size) (.bool sm) (.slice au nu cu)) := Du.out.below hb Du.out.lt; have Dz : Hid (Box V3 (W10.heap.size) (.bool sm) (.slice az nz cz)) := Dz.out.below hb Dz.out.lt; have Dd : Hid (Box V3 (W12.heap.size) (.bool sd) (.slice ad nd cd)) := Dd.out.below hb Dd.out.lt; have J1 : Hid (Sl V3 a1 n1 c1 l1) := J1.out.below hb (Nat.le_refl _); have J2 : Hid (Sl V3 a2 n2 c2 l2) := J2.out.below hb (Nat.le_refl _); have Jd : Hid (Sl V3 ad nd cd ld) := Jd.out.below hb (Nat.le_refl _); have Ix : Hid (IntR V3 _ _ _ _) := Ix.out.below hb (Nat.le_refl _); have Iy : Hid (IntR V3 _ _ _ _) := Iy.out.below hb (Nat.le_refl _); have Iu : Hid (IntR V3 _ _ _ _) := Iu.out.below hb (Nat.le_refl _); have Iz : Hid (IntR V3 _ _ _ _) := Iz.out.below hb (Nat.le_refl _); have HBD : Hid (Below w.heap.size w V3) := HBD.out.trans (hb.mono HBD.out.size); clear kS; have kS : V3.cell? ⟨w.heap.size, 0, none⟩ = some (.bool s1) ∧ V3.cell? ⟨w.heap.size, 1, none⟩ = some (.slice a1 n1 c1) ∧ V3.cell? ⟨w.heap.size + 1, 0, none⟩ = some (.bool s2) ∧ V3.cell? ⟨w.heap.size + 1, 1, none⟩ = some (.slice a2 n2 c2) ∧ V3.cell? ⟨W4.heap.size, 0, none⟩ = some (.bool sx) ∧ V3.cell? ⟨W4.heap.size, 1, none⟩ = some (.slice ax nx cx) ∧ V3.cell? ⟨W6.heap.size, 0, none⟩ = some (.bool sx) ∧ V3.cell? ⟨W6.heap.size, 1, none⟩ = some (.slice ay ny cy) ∧ V3.cell? ⟨W8.heap.size, 0, none⟩ = some (.bool sm) ∧ V3.cell? ⟨W8.heap.size, 1, none⟩ = some (.slice au nu cu) ∧ V3.cell? ⟨W10.heap.size, 0, none⟩ = some (.bool sm) ∧ V3.cell? ⟨W10.heap.size, 1, none⟩ = some (.slice az nz cz) ∧ V3.cell? ⟨W12.heap.size, 0, none⟩ = some (.bool sd) ∧ V3.cell? ⟨W12.heap.size, 1, none⟩ = some (.slice ad nd cd) := ⟨D1.out.z0, D1.out.z1, D2.out.z0, D2.out.z1, Dx.out.z0, Dx.out.z1, Dy.out.z0, Dy.out.z1, Du.out.z0, Du.out.z1, Dz.out.z0, Dz.out.z1, Dd.out.z0, Dd.out.z1⟩; clear hb)
      go_wp2_with fail
      refine hK.out _ _ (by exact kS) (fun hHeld => ?_)
      clear hK K hHeld
      try simp only [Act.put, List.setIfInBounds_toArray, List.set_cons_zero, List.set_cons_succ]
      refine wpAnyH_ready (rs := [34]) (by kernel_rfl) (by simp) ?_
      refine AllReadyH.cons (o := { dst := some 88, op := Op.call { callee := Callee.value (Operand.func 12), args := #[Operand.tmp 86, Operand.tmp 87], argTypes := #[24, 24] }, type := 3, pos := "law.go:125", after := #[{ on := 32, ground := Ground.data }, { on := 33, ground := Ground.data }, { on := 31, ground := Ground.chain }, { on := 28, ground := Ground.guard }], guard := some (28, true) }) rfl (fun K hK => ?_) AllReadyH.nil
      go_simp
      (go_at_call_of 12 (Value.agg #[Value.bool s2, Value.slice a2 n2 c2]); refine (compare_any s2 s1 a2 n2 c2 l2 a1 n1 c1 l1 _ (by exact J2.out) (by exact J1.out) (by omega) (by omega)).mono ?_; rintro e V4 ⟨rfl, hb⟩; rw [HBA.out]; have D1 : Hid (Box V4 (w.heap.size) (.bool s1) (.slice a1 n1 c1)) := D1.out.below hb D1.out.lt; have D2 : Hid (Box V4 (w.heap.size + 1) (.bool s2) (.slice a2 n2 c2)) := D2.out.below hb D2.out.lt; have Dx : Hid (Box V4 (W4.heap.size) (.bool sx) (.slice ax nx cx)) := Dx.out.below hb Dx.out.lt; have Dy : Hid (Box V4 (W6.heap.size) (.bool sx) (.slice ay ny cy)) := Dy.out.below hb Dy.out.lt; have Du : Hid (Box V4 (W8.heap.size) (.bool sm) (.slice au nu cu)) := Du.out.below hb Du.out.lt; have Dz : Hid (Box V4 (W10.heap.size) (.bool sm) (.slice az nz cz)) := Dz.out.below hb Dz.out.lt; have Dd : Hid (Box V4 (W12.heap.size) (.bool sd) (.slice ad nd cd)) := Dd.out.below hb Dd.out.lt; have J1 : Hid (Sl V4 a1 n1 c1 l1) := J1.out.below hb (Nat.le_refl _); have J2 : Hid (Sl V4 a2 n2 c2 l2) := J2.out.below hb (Nat.le_refl _); have Jd : Hid (Sl V4 ad nd cd ld) := Jd.out.below hb (Nat.le_refl _); have Ix : Hid (IntR V4 _ _ _ _) := Ix.out.below hb (Nat.le_refl _); have Iy : Hid (IntR V4 _ _ _ _) := Iy.out.below hb (Nat.le_refl _); have Iu : Hid (IntR V4 _ _ _ _) := Iu.out.below hb (Nat.le_refl _); have Iz : Hid (IntR V4 _ _ _ _) := Iz.out.below hb (Nat.le_refl _); have HBD : Hid (Below w.heap.size w V4) := HBD.out.trans (hb.mono HBD.out.size); clear kS; have kS : V4.cell? ⟨w.heap.size, 0, none⟩ = some (.bool s1) ∧ V4.cell? ⟨w.heap.size, 1, none⟩ = some (.slice a1 n1 c1) ∧ V4.cell? ⟨w.heap.size + 1, 0, none⟩ = some (.bool s2) ∧ V4.cell? ⟨w.heap.size + 1, 1, none⟩ = some (.slice a2 n2 c2) ∧ V4.cell? ⟨W4.heap.size, 0, none⟩ = some (.bool sx) ∧ V4.cell? ⟨W4.heap.size, 1, none⟩ = some (.slice ax nx cx) ∧ V4.cell? ⟨W6.heap.size, 0, none⟩ = some (.bool sx) ∧ V4.cell? ⟨W6.heap.size, 1, none⟩ = some (.slice ay ny cy) ∧ V4.cell? ⟨W8.heap.size, 0, none⟩ = some (.bool sm) ∧ V4.cell? ⟨W8.heap.size, 1, none⟩ = some (.slice au nu cu) ∧ V4.cell? ⟨W10.heap.size, 0, none⟩ = some (.bool sm) ∧ V4.cell? ⟨W10.heap.size, 1, none⟩ = some (.slice az nz cz) ∧ V4.cell? ⟨W12.heap.size, 0, none⟩ = some (.bool sd) ∧ V4.cell? ⟨W12.heap.size, 1, none⟩ = some (.slice ad nd cd) := ⟨D1.out.z0, D1.out.z1, D2.out.z0, D2.out.z1, Dx.out.z0, Dx.out.z1, Dy.out.z0, Dy.out.z1, Du.out.z0, Du.out.z1, Dz.out.z0, Dz.out.z1, Dd.out.z0, Dd.out.z1⟩; clear hb)
      go_wp2_with fail
      refine hK.out _ _ (by exact kS) (fun hHeld => ?_)
      clear hK K hHeld
      try simp only [Act.put, List.setIfInBounds_toArray, List.set_cons_zero, List.set_cons_succ]
      refine wpAnyH_take (i := 35) (oi := { dst := some 89, op := Op.unOp UnOp.neg 3 (Operand.tmp 88), type := 3, pos := "law.go:125", after := #[{ on := 34, ground := Ground.data }, { on := 28, ground := Ground.guard }], guard := some (28, true) }) (v := ?_) rfl (by kernel_rfl) (by kernel_rfl) (by kernel_rfl) (fun _ _ _ h => h) (Or.inl ⟨by rfl, ?_⟩) (by exact kS) ?_
      rotate_left
      · intro w hSw; (try dsimp only at hSw); (go_simp <;> with_reducible rfl)
      try simp only [Act.put, List.setIfInBounds_toArray, List.set_cons_zero, List.set_cons_succ]
      refine wpAnyH_take (i := 36) (oi := { dst := some 90, op := Op.binOp BinOp.eql 3 (Operand.tmp 85) (Operand.tmp 89) 3, type := 4, pos := "law.go:125", after := #[{ on := 31, ground := Ground.data }, { on := 35, ground := Ground.data }, { on := 28, ground := Ground.guard }], guard := some (28, true) }) (v := ?_) rfl (by kernel_rfl) (by kernel_rfl) (by kernel_rfl) (fun _ _ _ h => h) (Or.inl ⟨by rfl, ?_⟩) (by exact kS) ?_
      rotate_left
      · intro w hSw; (try dsimp only at hSw); (go_simp <;> with_reducible rfl)
      try simp only [Act.put, List.setIfInBounds_toArray, List.set_cons_zero, List.set_cons_succ]
      refine wpAnyH_take (i := 37) (oi := { dst := some 91, op := Op.pick (Operand.tmp 82) (Operand.tmp 90) (Operand.const (Value.bool false)), type := 4, pos := "law.go:125", after := #[{ on := 28, ground := Ground.data }, { on := 36, ground := Ground.data }], guard := none }) (v := ?_) rfl (by kernel_rfl) (by kernel_rfl) (by kernel_rfl) (fun _ _ _ h => h) (Or.inl ⟨by rfl, ?_⟩) (by exact kS) ?_
      rotate_left
      · intro w hSw; (try dsimp only at hSw); (go_simp <;> with_reducible rfl)
      try simp only [Act.put, List.setIfInBounds_toArray, List.set_cons_zero, List.set_cons_succ]
      refine wpAnyH_take (i := 38) (oi := { dst := some 92, op := Op.move (Operand.tmp 91), type := 4, pos := "law.go:125", after := #[{ on := 37, ground := Ground.data }, { on := 34, ground := Ground.chain }], guard := none }) (v := ?_) rfl (by kernel_rfl) (by kernel_rfl) (by kernel_rfl) (fun _ _ _ h => h) (Or.inl ⟨by rfl, ?_⟩) (by exact kS) ?_
      rotate_left
      · intro w hSw; (try dsimp only at hSw); (go_simp <;> with_reducible rfl)
      try simp only [Act.put, List.setIfInBounds_toArray, List.set_cons_zero, List.set_cons_succ]
      refine wpAnyH_ready (rs := [39]) (by kernel_rfl) (by simp) ?_
      refine AllReadyH.cons (o := { dst := some 93, op := Op.call { callee := Callee.value (Operand.func 7), args := #[], argTypes := #[] }, type := 4, pos := "law.go:125", after := #[{ on := 38, ground := Ground.chain }, { on := 38, ground := Ground.guard }], guard := some (38, true) }) rfl (fun K hK => ?_) AllReadyH.nil
      go_simp
      (go_at_call 7; refine (awake_any _).mono ?_; rintro e V5 ⟨rfl, hb⟩; have D1 : Hid (Box V5 (w.heap.size) (.bool s1) (.slice a1 n1 c1)) := D1.out.below hb D1.out.lt; have D2 : Hid (Box V5 (w.heap.size + 1) (.bool s2) (.slice a2 n2 c2)) := D2.out.below hb D2.out.lt; have Dx : Hid (Box V5 (W4.heap.size) (.bool sx) (.slice ax nx cx)) := Dx.out.below hb Dx.out.lt; have Dy : Hid (Box V5 (W6.heap.size) (.bool sx) (.slice ay ny cy)) := Dy.out.below hb Dy.out.lt; have Du : Hid (Box V5 (W8.heap.size) (.bool sm) (.slice au nu cu)) := Du.out.below hb Du.out.lt; have Dz : Hid (Box V5 (W10.heap.size) (.bool sm) (.slice az nz cz)) := Dz.out.below hb Dz.out.lt; have Dd : Hid (Box V5 (W12.heap.size) (.bool sd) (.slice ad nd cd)) := Dd.out.below hb Dd.out.lt; have J1 : Hid (Sl V5 a1 n1 c1 l1) := J1.out.below hb (Nat.le_refl _); have J2 : Hid (Sl V5 a2 n2 c2 l2) := J2.out.below hb (Nat.le_refl _); have Jd : Hid (Sl V5 ad nd cd ld) := Jd.out.below hb (Nat.le_refl _); have Ix : Hid (IntR V5 _ _ _ _) := Ix.out.below hb (Nat.le_refl _); have Iy : Hid (IntR V5 _ _ _ _) := Iy.out.below hb (Nat.le_refl _); have Iu : Hid (IntR V5 _ _ _ _) := Iu.out.below hb (Nat.le_refl _); have Iz : Hid (IntR V5 _ _ _ _) := Iz.out.below hb (Nat.le_refl _); have HBD : Hid (Below w.heap.size w V5) := HBD.out.trans (hb.mono HBD.out.size); clear kS; have kS : V5.cell? ⟨w.heap.size, 0, none⟩ = some (.bool s1) ∧ V5.cell? ⟨w.heap.size, 1, none⟩ = some (.slice a1 n1 c1) ∧ V5.cell? ⟨w.heap.size + 1, 0, none⟩ = some (.bool s2) ∧ V5.cell? ⟨w.heap.size + 1, 1, none⟩ = some (.slice a2 n2 c2) ∧ V5.cell? ⟨W4.heap.size, 0, none⟩ = some (.bool sx) ∧ V5.cell? ⟨W4.heap.size, 1, none⟩ = some (.slice ax nx cx) ∧ V5.cell? ⟨W6.heap.size, 0, none⟩ = some (.bool sx) ∧ V5.cell? ⟨W6.heap.size, 1, none⟩ = some (.slice ay ny cy) ∧ V5.cell? ⟨W8.heap.size, 0, none⟩ = some (.bool sm) ∧ V5.cell? ⟨W8.heap.size, 1, none⟩ = some (.slice au nu cu) ∧ V5.cell? ⟨W10.heap.size, 0, none⟩ = some (.bool sm) ∧ V5.cell? ⟨W10.heap.size, 1, none⟩ = some (.slice az nz cz) ∧ V5.cell? ⟨W12.heap.size, 0, none⟩ = some (.bool sd) ∧ V5.cell? ⟨W12.heap.size, 1, none⟩ = some (.slice ad nd cd) := ⟨D1.out.z0, D1.out.z1, D2.out.z0, D2.out.z1, Dx.out.z0, Dx.out.z1, Dy.out.z0, Dy.out.z1, Du.out.z0, Du.out.z1, Dz.out.z0, Dz.out.z1, Dd.out.z0, Dd.out.z1⟩; clear hb)
      go_wp2_with fail
      refine hK.out _ _ (by exact kS) (fun hHeld => ?_)
      clear hK K hHeld
      try simp only [Act.put, List.setIfInBounds_toArray, List.set_cons_zero, List.set_cons_succ]
      refine wpAnyH_take (i := 40) (oi := { dst := some 94, op := Op.pick (Operand.tmp 92) (Operand.tmp 93) (Operand.const (Value.bool false)), type := 4, pos := "law.go:125", after := #[{ on := 38, ground := Ground.data }, { on := 39, ground := Ground.data }], guard := none }) (v := ?_) rfl (by kernel_rfl) (by kernel_rfl) (by kernel_rfl) (fun _ _ _ h => h) (Or.inl ⟨by rfl, ?_⟩) (by exact kS) ?_
      rotate_left
      · intro w hSw; (try dsimp only at hSw); (go_simp <;> with_reducible rfl)
      try simp only [Act.put, List.setIfInBounds_toArray, List.set_cons_zero, List.set_cons_succ]
      refine wpAnyH_take (i := 41) (oi := { dst := some 4, op := Op.assign (Operand.tmp 94), type := 4, pos := "law.go:125", after := #[{ on := 40, ground := Ground.data }, { on := 39, ground := Ground.chain }, { on := 0, ground := Ground.phase }, { on := 1, ground := Ground.phase }, { on := 2, ground := Ground.phase }, { on := 3, ground := Ground.phase }, { on := 4, ground := Ground.phase }, { on := 5, ground := Ground.phase }, { on := 6, ground := Ground.phase }, { on := 7, ground := Ground.phase }, { on := 8, ground := Ground.phase }, { on := 9, ground := Ground.phase }, { on := 10, ground := Ground.phase }, { on := 11, ground := Ground.phase }, { on := 12, ground := Ground.phase }, { on := 13, ground := Ground.phase }, { on := 14, ground := Ground.phase }, { on := 15, ground := Ground.phase }, { on := 16, ground := Ground.phase }, { on := 17, ground := Ground.phase }, { on := 18, ground := Ground.phase }, { on := 19, ground := Ground.phase }, { on := 20, ground := Ground.phase }, { on := 21, ground := Ground.phase }, { on := 22, ground := Ground.phase }, { on := 23, ground := Ground.phase }, { on := 24, ground := Ground.phase }, { on := 25, ground := Ground.phase }, { on := 26, ground := Ground.phase }, { on := 27, ground := Ground.phase }, { on := 28, ground := Ground.phase }, { on := 29, ground := Ground.phase }, { on := 30, ground := Ground.phase }, { on := 31, ground := Ground.phase }, { on := 32, ground := Ground.phase }, { on := 33, ground := Ground.phase }, { on := 34, ground := Ground.phase }, { on := 35, ground := Ground.phase }, { on := 36, ground := Ground.phase }, { on := 37, ground := Ground.phase }, { on := 38, ground := Ground.phase }, { on := 39, ground := Ground.phase }, { on := 40, ground := Ground.phase }], guard := none }) (v := ?_) rfl (by kernel_rfl) (by kernel_rfl) (by kernel_rfl) (fun _ _ _ h => h) (Or.inl ⟨by rfl, ?_⟩) (by exact kS) ?_
      rotate_left
      · intro w hSw; (try dsimp only at hSw); (go_simp <;> with_reducible rfl)
      try simp only [Act.put, List.setIfInBounds_toArray, List.set_cons_zero, List.set_cons_succ]
      refine wpAnyH_done (by kernel_rfl) ?_ _
      go_wp2_with fail
      go_ret
      exact ⟨rfl, HBD.out⟩
    · refine wp_region_held_drew (S := fun w' => w'.cell? ⟨w.heap.size, 0, none⟩ = some (.bool s1) ∧ w'.cell? ⟨w.heap.size, 1, none⟩ = some (.slice a1 n1 c1) ∧ w'.cell? ⟨w.heap.size + 1, 0, none⟩ = some (.bool s2) ∧ w'.cell? ⟨w.heap.size + 1, 1, none⟩ = some (.slice a2 n2 c2) ∧ w'.cell? ⟨W4.heap.size, 0, none⟩ = some (.bool sx) ∧ w'.cell? ⟨W4.heap.size, 1, none⟩ = some (.slice ax nx cx) ∧ w'.cell? ⟨W6.heap.size, 0, none⟩ = some (.bool sx) ∧ w'.cell? ⟨W6.heap.size, 1, none⟩ = some (.slice ay ny cy) ∧ w'.cell? ⟨W8.heap.size, 0, none⟩ = some (.bool sm) ∧ w'.cell? ⟨W8.heap.size, 1, none⟩ = some (.slice au nu cu) ∧ w'.cell? ⟨W10.heap.size, 0, none⟩ = some (.bool sm) ∧ w'.cell? ⟨W10.heap.size, 1, none⟩ = some (.slice az nz cz) ∧ w'.cell? ⟨W12.heap.size, 0, none⟩ = some (.bool sd) ∧ w'.cell? ⟨W12.heap.size, 1, none⟩ = some (.slice ad nd cd)) (by kernel_rfl) (by exact kS) (fun hHeld => ?_)
      clear hHeld
      refine wpAnyH_take (i := 0) (oi := { dst := some 54, op := Op.move (Operand.tmp 6), type := 27, pos := "law.go:125", after := #[], guard := none }) (v := ?_) rfl (by kernel_rfl) (by kernel_rfl) (by kernel_rfl) (fun _ _ _ h => h) (Or.inl ⟨by rfl, ?_⟩) (by exact kS) ?_
      rotate_left
      · intro w hSw; (try dsimp only at hSw); (go_simp <;> with_reducible rfl)
      try simp only [Act.put, List.setIfInBounds_toArray, List.set_cons_zero, List.set_cons_succ]
      refine wpAnyH_take (i := 1) (oi := { dst := some 55, op := Op.move (Operand.tmp 8), type := 27, pos := "law.go:125", after := #[], guard := none }) (v := ?_) rfl (by kernel_rfl) (by kernel_rfl) (by kernel_rfl) (fun _ _ _ h => h) (Or.inl ⟨by rfl, ?_⟩) (by exact kS) ?_
      rotate_left
      · intro w hSw; (try dsimp only at hSw); (go_simp <;> with_reducible rfl)
      try simp only [Act.put, List.setIfInBounds_toArray, List.set_cons_zero, List.set_cons_succ]
      refine wpAnyH_take (i := 2) (oi := { dst := some 56, op := Op.binOp BinOp.eql 27 (Operand.tmp 54) (Operand.tmp 55) 27, type := 4, pos := "law.go:125", after := #[{ on := 0, ground := Ground.data }, { on := 1, ground := Ground.data }], guard := none }) (v := ?_) rfl (by kernel_rfl) (by kernel_rfl) (by kernel_rfl) (fun _ _ _ h => h) (Or.inl ⟨by rfl, ?_⟩) (by exact kS) ?_
      rotate_left
      · intro w hSw; (try dsimp only at hSw); (go_simp <;> with_reducible rfl)
      try simp only [Act.put, List.setIfInBounds_toArray, List.set_cons_zero, List.set_cons_succ]
      refine wpAnyH_take (i := 3) (oi := { dst := some 57, op := Op.move (Operand.tmp 56), type := 4, pos := "law.go:125", after := #[{ on := 2, ground := Ground.data }], guard := none }) (v := ?_) rfl (by kernel_rfl) (by kernel_rfl) (by kernel_rfl) (fun _ _ _ h => h) (Or.inl ⟨by rfl, ?_⟩) (by exact kS) ?_
      rotate_left
      · intro w hSw; (try dsimp only at hSw); (go_simp <;> with_reducible rfl)
      try simp only [Act.put, List.setIfInBounds_toArray, List.set_cons_zero, List.set_cons_succ]
      refine wpAnyH_take (i := 4) (oi := { dst := some 58, op := Op.load 24 (Operand.tmp 5), type := 24, pos := "law.go:125", after := #[{ on := 3, ground := Ground.guard }], guard := some (3, true) }) (v := ?_) rfl (by kernel_rfl) (by kernel_rfl) (by kernel_rfl) (fun _ _ _ h => h) (Or.inl ⟨by rfl, ?_⟩) (by exact kS) ?_
      rotate_left
      · intro w hSw; (try dsimp only at hSw); (go_simp <;> with_reducible rfl)
      try simp only [Act.put, List.setIfInBounds_toArray, List.set_cons_zero, List.set_cons_succ]
      refine wpAnyH_take (i := 5) (oi := { dst := some 59, op := Op.load 24 (Operand.tmp 7), type := 24, pos := "law.go:125", after := #[{ on := 3, ground := Ground.guard }], guard := some (3, true) }) (v := ?_) rfl (by kernel_rfl) (by kernel_rfl) (by kernel_rfl) (fun _ _ _ h => h) (Or.inl ⟨by rfl, ?_⟩) (by exact kS) ?_
      rotate_left
      · intro w hSw; (try dsimp only at hSw); (go_simp <;> with_reducible rfl)
      try simp only [Act.put, List.setIfInBounds_toArray, List.set_cons_zero, List.set_cons_succ]
      refine wpAnyH_ready (rs := [6]) (by kernel_rfl) (by simp) ?_
      refine AllReadyH.cons (o := { dst := some 60, op := Op.call { callee := Callee.value (Operand.func 11), args := #[Operand.tmp 58, Operand.tmp 59], argTypes := #[24, 24] }, type := 4, pos := "law.go:125", after := #[{ on := 4, ground := Ground.data }, { on := 5, ground := Ground.data }, { on := 3, ground := Ground.chain }, { on := 3, ground := Ground.guard }], guard := some (3, true) }) rfl (fun K hK => ?_) AllReadyH.nil
      go_simp
      (go_at_call_of 11 (Value.agg #[Value.bool sx, Value.slice ax nx cx]); refine (whole_any Ix.out Iy.out).mono ?_; rintro e V1 ⟨rfl, hb⟩; have D1 : Hid (Box V1 (w.heap.size) (.bool s1) (.slice a1 n1 c1)) := D1.out.below hb D1.out.lt; have D2 : Hid (Box V1 (w.heap.size + 1) (.bool s2) (.slice a2 n2 c2)) := D2.out.below hb D2.out.lt; have Dx : Hid (Box V1 (W4.heap.size) (.bool sx) (.slice ax nx cx)) := Dx.out.below hb Dx.out.lt; have Dy : Hid (Box V1 (W6.heap.size) (.bool sx) (.slice ay ny cy)) := Dy.out.below hb Dy.out.lt; have Du : Hid (Box V1 (W8.heap.size) (.bool sm) (.slice au nu cu)) := Du.out.below hb Du.out.lt; have Dz : Hid (Box V1 (W10.heap.size) (.bool sm) (.slice az nz cz)) := Dz.out.below hb Dz.out.lt; have Dd : Hid (Box V1 (W12.heap.size) (.bool sd) (.slice ad nd cd)) := Dd.out.below hb Dd.out.lt; have J1 : Hid (Sl V1 a1 n1 c1 l1) := J1.out.below hb (Nat.le_refl _); have J2 : Hid (Sl V1 a2 n2 c2 l2) := J2.out.below hb (Nat.le_refl _); have Jd : Hid (Sl V1 ad nd cd ld) := Jd.out.below hb (Nat.le_refl _); have Ix : Hid (IntR V1 _ _ _ _) := Ix.out.below hb (Nat.le_refl _); have Iy : Hid (IntR V1 _ _ _ _) := Iy.out.below hb (Nat.le_refl _); have Iu : Hid (IntR V1 _ _ _ _) := Iu.out.below hb (Nat.le_refl _); have Iz : Hid (IntR V1 _ _ _ _) := Iz.out.below hb (Nat.le_refl _); have HBD : Hid (Below w.heap.size w V1) := HBD.out.trans (hb.mono HBD.out.size); clear kS; have kS : V1.cell? ⟨w.heap.size, 0, none⟩ = some (.bool s1) ∧ V1.cell? ⟨w.heap.size, 1, none⟩ = some (.slice a1 n1 c1) ∧ V1.cell? ⟨w.heap.size + 1, 0, none⟩ = some (.bool s2) ∧ V1.cell? ⟨w.heap.size + 1, 1, none⟩ = some (.slice a2 n2 c2) ∧ V1.cell? ⟨W4.heap.size, 0, none⟩ = some (.bool sx) ∧ V1.cell? ⟨W4.heap.size, 1, none⟩ = some (.slice ax nx cx) ∧ V1.cell? ⟨W6.heap.size, 0, none⟩ = some (.bool sx) ∧ V1.cell? ⟨W6.heap.size, 1, none⟩ = some (.slice ay ny cy) ∧ V1.cell? ⟨W8.heap.size, 0, none⟩ = some (.bool sm) ∧ V1.cell? ⟨W8.heap.size, 1, none⟩ = some (.slice au nu cu) ∧ V1.cell? ⟨W10.heap.size, 0, none⟩ = some (.bool sm) ∧ V1.cell? ⟨W10.heap.size, 1, none⟩ = some (.slice az nz cz) ∧ V1.cell? ⟨W12.heap.size, 0, none⟩ = some (.bool sd) ∧ V1.cell? ⟨W12.heap.size, 1, none⟩ = some (.slice ad nd cd) := ⟨D1.out.z0, D1.out.z1, D2.out.z0, D2.out.z1, Dx.out.z0, Dx.out.z1, Dy.out.z0, Dy.out.z1, Du.out.z0, Du.out.z1, Dz.out.z0, Dz.out.z1, Dd.out.z0, Dd.out.z1⟩; clear hb)
      go_wp2_with fail
      refine hK.out _ _ (by exact kS) (fun hHeld => ?_)
      clear hK K hHeld
      try simp only [Act.put, List.setIfInBounds_toArray, List.set_cons_zero, List.set_cons_succ]
      refine wpAnyH_take (i := 7) (oi := { dst := some 61, op := Op.pick (Operand.tmp 57) (Operand.tmp 60) (Operand.const (Value.bool false)), type := 4, pos := "law.go:125", after := #[{ on := 3, ground := Ground.data }, { on := 6, ground := Ground.data }], guard := none }) (v := ?_) rfl (by kernel_rfl) (by kernel_rfl) (by kernel_rfl) (fun _ _ _ h => h) (Or.inl ⟨by rfl, ?_⟩) (by exact kS) ?_
      rotate_left
      · intro w hSw; (try dsimp only at hSw); (go_simp <;> with_reducible rfl)
      try simp only [Act.put, List.setIfInBounds_toArray, List.set_cons_zero, List.set_cons_succ]
      refine wpAnyH_take (i := 8) (oi := { dst := some 62, op := Op.move (Operand.tmp 61), type := 4, pos := "law.go:125", after := #[{ on := 7, ground := Ground.data }, { on := 6, ground := Ground.chain }], guard := none }) (v := ?_) rfl (by kernel_rfl) (by kernel_rfl) (by kernel_rfl) (fun _ _ _ h => h) (Or.inl ⟨by rfl, ?_⟩) (by exact kS) ?_
      rotate_left
      · intro w hSw; (try dsimp only at hSw); (go_simp <;> with_reducible rfl)
      try simp only [Act.put, List.setIfInBounds_toArray, List.set_cons_zero, List.set_cons_succ]
      refine wpAnyH_take (i := 9) (oi := { dst := some 63, op := Op.move (Operand.tmp 10), type := 27, pos := "law.go:125", after := #[{ on := 8, ground := Ground.guard }], guard := some (8, true) }) (v := ?_) rfl (by kernel_rfl) (by kernel_rfl) (by kernel_rfl) (fun _ _ _ h => h) (Or.inl ⟨by rfl, ?_⟩) (by exact kS) ?_
      rotate_left
      · intro w hSw; (try dsimp only at hSw); (go_simp <;> with_reducible rfl)
      try simp only [Act.put, List.setIfInBounds_toArray, List.set_cons_zero, List.set_cons_succ]
      refine wpAnyH_take (i := 10) (oi := { dst := some 64, op := Op.move (Operand.tmp 12), type := 27, pos := "law.go:125", after := #[{ on := 8, ground := Ground.guard }], guard := some (8, true) }) (v := ?_) rfl (by kernel_rfl) (by kernel_rfl) (by kernel_rfl) (fun _ _ _ h => h) (Or.inl ⟨by rfl, ?_⟩) (by exact kS) ?_
      rotate_left
      · intro w hSw; (try dsimp only at hSw); (go_simp <;> with_reducible rfl)
      try simp only [Act.put, List.setIfInBounds_toArray, List.set_cons_zero, List.set_cons_succ]
      refine wpAnyH_take (i := 11) (oi := { dst := some 65, op := Op.binOp BinOp.eql 27 (Operand.tmp 63) (Operand.tmp 64) 27, type := 4, pos := "law.go:125", after := #[{ on := 9, ground := Ground.data }, { on := 10, ground := Ground.data }, { on := 8, ground := Ground.guard }], guard := some (8, true) }) (v := ?_) rfl (by kernel_rfl) (by kernel_rfl) (by kernel_rfl) (fun _ _ _ h => h) (Or.inl ⟨by rfl, ?_⟩) (by exact kS) ?_
      rotate_left
      · intro w hSw; (try dsimp only at hSw); (go_simp <;> with_reducible rfl)
      try simp only [Act.put, List.setIfInBounds_toArray, List.set_cons_zero, List.set_cons_succ]
      refine wpAnyH_take (i := 12) (oi := { dst := some 66, op := Op.pick (Operand.tmp 62) (Operand.tmp 65) (Operand.const (Value.bool false)), type := 4, pos := "law.go:125", after := #[{ on := 8, ground := Ground.data }, { on := 11, ground := Ground.data }], guard := none }) (v := ?_) rfl (by kernel_rfl) (by kernel_rfl) (by kernel_rfl) (fun _ _ _ h => h) (Or.inl ⟨by rfl, ?_⟩) (by exact kS) ?_
      rotate_left
      · intro w hSw; (try dsimp only at hSw); (go_simp <;> with_reducible rfl)
      try simp only [Act.put, List.setIfInBounds_toArray, List.set_cons_zero, List.set_cons_succ]
      refine wpAnyH_take (i := 13) (oi := { dst := some 67, op := Op.move (Operand.tmp 66), type := 4, pos := "law.go:125", after := #[{ on := 12, ground := Ground.data }, { on := 8, ground := Ground.chain }], guard := none }) (v := ?_) rfl (by kernel_rfl) (by kernel_rfl) (by kernel_rfl) (fun _ _ _ h => h) (Or.inl ⟨by rfl, ?_⟩) (by exact kS) ?_
      rotate_left
      · intro w hSw; (try dsimp only at hSw); (go_simp <;> with_reducible rfl)
      try simp only [Act.put, List.setIfInBounds_toArray, List.set_cons_zero, List.set_cons_succ]
      refine wpAnyH_take (i := 14) (oi := { dst := some 68, op := Op.load 24 (Operand.tmp 9), type := 24, pos := "law.go:125", after := #[{ on := 13, ground := Ground.guard }], guard := some (13, true) }) (v := ?_) rfl (by kernel_rfl) (by kernel_rfl) (by kernel_rfl) (fun _ _ _ h => h) (Or.inl ⟨by rfl, ?_⟩) (by exact kS) ?_
      rotate_left
      · intro w hSw; (try dsimp only at hSw); (go_simp <;> with_reducible rfl)
      try simp only [Act.put, List.setIfInBounds_toArray, List.set_cons_zero, List.set_cons_succ]
      refine wpAnyH_take (i := 15) (oi := { dst := some 69, op := Op.load 24 (Operand.tmp 11), type := 24, pos := "law.go:125", after := #[{ on := 13, ground := Ground.guard }], guard := some (13, true) }) (v := ?_) rfl (by kernel_rfl) (by kernel_rfl) (by kernel_rfl) (fun _ _ _ h => h) (Or.inl ⟨by rfl, ?_⟩) (by exact kS) ?_
      rotate_left
      · intro w hSw; (try dsimp only at hSw); (go_simp <;> with_reducible rfl)
      try simp only [Act.put, List.setIfInBounds_toArray, List.set_cons_zero, List.set_cons_succ]
      refine wpAnyH_ready (rs := [16]) (by kernel_rfl) (by simp) ?_
      refine AllReadyH.cons (o := { dst := some 70, op := Op.call { callee := Callee.value (Operand.func 11), args := #[Operand.tmp 68, Operand.tmp 69], argTypes := #[24, 24] }, type := 4, pos := "law.go:125", after := #[{ on := 14, ground := Ground.data }, { on := 15, ground := Ground.data }, { on := 13, ground := Ground.chain }, { on := 13, ground := Ground.guard }], guard := some (13, true) }) rfl (fun K hK => ?_) AllReadyH.nil
      go_simp
      (go_at_call_of 11 (Value.agg #[Value.bool sm, Value.slice au nu cu]); refine (whole_any Iu.out Iz.out).mono ?_; rintro e V2 ⟨rfl, hb⟩; have D1 : Hid (Box V2 (w.heap.size) (.bool s1) (.slice a1 n1 c1)) := D1.out.below hb D1.out.lt; have D2 : Hid (Box V2 (w.heap.size + 1) (.bool s2) (.slice a2 n2 c2)) := D2.out.below hb D2.out.lt; have Dx : Hid (Box V2 (W4.heap.size) (.bool sx) (.slice ax nx cx)) := Dx.out.below hb Dx.out.lt; have Dy : Hid (Box V2 (W6.heap.size) (.bool sx) (.slice ay ny cy)) := Dy.out.below hb Dy.out.lt; have Du : Hid (Box V2 (W8.heap.size) (.bool sm) (.slice au nu cu)) := Du.out.below hb Du.out.lt; have Dz : Hid (Box V2 (W10.heap.size) (.bool sm) (.slice az nz cz)) := Dz.out.below hb Dz.out.lt; have Dd : Hid (Box V2 (W12.heap.size) (.bool sd) (.slice ad nd cd)) := Dd.out.below hb Dd.out.lt; have J1 : Hid (Sl V2 a1 n1 c1 l1) := J1.out.below hb (Nat.le_refl _); have J2 : Hid (Sl V2 a2 n2 c2 l2) := J2.out.below hb (Nat.le_refl _); have Jd : Hid (Sl V2 ad nd cd ld) := Jd.out.below hb (Nat.le_refl _); have Ix : Hid (IntR V2 _ _ _ _) := Ix.out.below hb (Nat.le_refl _); have Iy : Hid (IntR V2 _ _ _ _) := Iy.out.below hb (Nat.le_refl _); have Iu : Hid (IntR V2 _ _ _ _) := Iu.out.below hb (Nat.le_refl _); have Iz : Hid (IntR V2 _ _ _ _) := Iz.out.below hb (Nat.le_refl _); have HBD : Hid (Below w.heap.size w V2) := HBD.out.trans (hb.mono HBD.out.size); clear kS; have kS : V2.cell? ⟨w.heap.size, 0, none⟩ = some (.bool s1) ∧ V2.cell? ⟨w.heap.size, 1, none⟩ = some (.slice a1 n1 c1) ∧ V2.cell? ⟨w.heap.size + 1, 0, none⟩ = some (.bool s2) ∧ V2.cell? ⟨w.heap.size + 1, 1, none⟩ = some (.slice a2 n2 c2) ∧ V2.cell? ⟨W4.heap.size, 0, none⟩ = some (.bool sx) ∧ V2.cell? ⟨W4.heap.size, 1, none⟩ = some (.slice ax nx cx) ∧ V2.cell? ⟨W6.heap.size, 0, none⟩ = some (.bool sx) ∧ V2.cell? ⟨W6.heap.size, 1, none⟩ = some (.slice ay ny cy) ∧ V2.cell? ⟨W8.heap.size, 0, none⟩ = some (.bool sm) ∧ V2.cell? ⟨W8.heap.size, 1, none⟩ = some (.slice au nu cu) ∧ V2.cell? ⟨W10.heap.size, 0, none⟩ = some (.bool sm) ∧ V2.cell? ⟨W10.heap.size, 1, none⟩ = some (.slice az nz cz) ∧ V2.cell? ⟨W12.heap.size, 0, none⟩ = some (.bool sd) ∧ V2.cell? ⟨W12.heap.size, 1, none⟩ = some (.slice ad nd cd) := ⟨D1.out.z0, D1.out.z1, D2.out.z0, D2.out.z1, Dx.out.z0, Dx.out.z1, Dy.out.z0, Dy.out.z1, Du.out.z0, Du.out.z1, Dz.out.z0, Dz.out.z1, Dd.out.z0, Dd.out.z1⟩; clear hb)
      go_wp2_with fail
      refine hK.out _ _ (by exact kS) (fun hHeld => ?_)
      clear hK K hHeld
      try simp only [Act.put, List.setIfInBounds_toArray, List.set_cons_zero, List.set_cons_succ]
      refine wpAnyH_take (i := 17) (oi := { dst := some 71, op := Op.pick (Operand.tmp 67) (Operand.tmp 70) (Operand.const (Value.bool false)), type := 4, pos := "law.go:125", after := #[{ on := 13, ground := Ground.data }, { on := 16, ground := Ground.data }], guard := none }) (v := ?_) rfl (by kernel_rfl) (by kernel_rfl) (by kernel_rfl) (fun _ _ _ h => h) (Or.inl ⟨by rfl, ?_⟩) (by exact kS) ?_
      rotate_left
      · intro w hSw; (try dsimp only at hSw); (go_simp <;> with_reducible rfl)
      try simp only [Act.put, List.setIfInBounds_toArray, List.set_cons_zero, List.set_cons_succ]
      refine wpAnyH_take (i := 18) (oi := { dst := some 72, op := Op.move (Operand.tmp 71), type := 4, pos := "law.go:125", after := #[{ on := 17, ground := Ground.data }, { on := 16, ground := Ground.chain }], guard := none }) (v := ?_) rfl (by kernel_rfl) (by kernel_rfl) (by kernel_rfl) (fun _ _ _ h => h) (Or.inl ⟨by rfl, ?_⟩) (by exact kS) ?_
      rotate_left
      · intro w hSw; (try dsimp only at hSw); (go_simp <;> with_reducible rfl)
      try simp only [Act.put, List.setIfInBounds_toArray, List.set_cons_zero, List.set_cons_succ]
      refine wpAnyH_take (i := 19) (oi := { dst := some 73, op := Op.move (Operand.tmp 14), type := 27, pos := "law.go:125", after := #[{ on := 18, ground := Ground.guard }], guard := some (18, true) }) (v := ?_) rfl (by kernel_rfl) (by kernel_rfl) (by kernel_rfl) (fun _ _ _ h => h) (Or.inl ⟨by rfl, ?_⟩) (by exact kS) ?_
      rotate_left
      · intro w hSw; (try dsimp only at hSw); (go_simp <;> with_reducible rfl)
      try simp only [Act.put, List.setIfInBounds_toArray, List.set_cons_zero, List.set_cons_succ]
      refine wpAnyH_take (i := 20) (oi := { dst := some 74, op := Op.binOp BinOp.neq 27 (Operand.tmp 73) (Operand.const (Value.int IntKind.i64 0)) 27, type := 4, pos := "law.go:125", after := #[{ on := 19, ground := Ground.data }, { on := 18, ground := Ground.guard }], guard := some (18, true) }) (v := ?_) rfl (by kernel_rfl) (by kernel_rfl) (by kernel_rfl) (fun _ _ _ h => h) (Or.inl ⟨by rfl, ?_⟩) (by exact kS) ?_
      rotate_left
      · intro w hSw; (try dsimp only at hSw); (go_simp <;> with_reducible rfl)
      try simp only [Act.put, List.setIfInBounds_toArray, List.set_cons_zero, List.set_cons_succ]
      refine wpAnyH_take (i := 21) (oi := { dst := some 75, op := Op.move (Operand.tmp 74), type := 4, pos := "law.go:125", after := #[{ on := 20, ground := Ground.data }, { on := 18, ground := Ground.chain }, { on := 18, ground := Ground.guard }], guard := some (18, true) }) (v := ?_) rfl (by kernel_rfl) (by kernel_rfl) (by kernel_rfl) (fun _ _ _ h => h) (Or.inl ⟨by rfl, ?_⟩) (by exact kS) ?_
      rotate_left
      · intro w hSw; (try dsimp only at hSw); (go_simp <;> with_reducible rfl)
      try simp only [Act.put, List.setIfInBounds_toArray, List.set_cons_zero, List.set_cons_succ]
      refine wpAnyH_take (i := 22) (oi := { dst := some 76, op := Op.load 24 (Operand.tmp 13), type := 24, pos := "law.go:125", after := #[{ on := 21, ground := Ground.guard }], guard := some (21, false) }) (v := ?_) rfl (by kernel_rfl) (by kernel_rfl) (by kernel_rfl) (fun _ _ _ h => h) (Or.inl ⟨by rfl, ?_⟩) (by exact kS) ?_
      rotate_left
      · intro w hSw; (try dsimp only at hSw); (go_simp <;> with_reducible rfl)
      try simp only [Act.put, List.setIfInBounds_toArray, List.set_cons_zero, List.set_cons_succ]
      refine wpAnyH_ready (rs := [23]) (by kernel_rfl) (by simp) ?_
      refine AllReadyH.cons (o := { dst := some 77, op := Op.call { callee := Callee.value (Operand.func 13), args := #[Operand.const (Value.int IntKind.i64 0)], argTypes := #[3] }, type := 24, pos := "law.go:125", after := #[{ on := 21, ground := Ground.chain }, { on := 21, ground := Ground.guard }], guard := some (21, false) }) rfl (fun K hK => ?_) AllReadyH.nil
      go_simp
      (go_at_call 13; refine (of_any 0 _ (by omega) (by omega)).mono ?_; rintro e V6 ⟨x, rfl, hx, hb⟩; obtain ⟨so, hso⟩ : ∃ so, sgB (decide ((0:Int) < 0)) (0:Int).natAbs = so := ⟨_, rfl⟩; rw [hso] at hx; obtain ⟨ao, no, co, lo, rfl, hs, hv, mo⟩ := hx.open (by decide +kernel); have Jo : Hid (Sl V6 ao no co lo) := hs; have Zo : Hid (vl 4294967296 lo = 0) := hv; clear hs hv hx hso; have D1 : Hid (Box V6 (w.heap.size) (.bool s1) (.slice a1 n1 c1)) := D1.out.below hb D1.out.lt; have D2 : Hid (Box V6 (w.heap.size + 1) (.bool s2) (.slice a2 n2 c2)) := D2.out.below hb D2.out.lt; have Dx : Hid (Box V6 (W4.heap.size) (.bool sx) (.slice ax nx cx)) := Dx.out.below hb Dx.out.lt; have Dy : Hid (Box V6 (W6.heap.size) (.bool sx) (.slice ay ny cy)) := Dy.out.below hb Dy.out.lt; have Du : Hid (Box V6 (W8.heap.size) (.bool sm) (.slice au nu cu)) := Du.out.below hb Du.out.lt; have Dz : Hid (Box V6 (W10.heap.size) (.bool sm) (.slice az nz cz)) := Dz.out.below hb Dz.out.lt; have Dd : Hid (Box V6 (W12.heap.size) (.bool sd) (.slice ad nd cd)) := Dd.out.below hb Dd.out.lt; have J1 : Hid (Sl V6 a1 n1 c1 l1) := J1.out.below hb (Nat.le_refl _); have J2 : Hid (Sl V6 a2 n2 c2 l2) := J2.out.below hb (Nat.le_refl _); have Jd : Hid (Sl V6 ad nd cd ld) := Jd.out.below hb (Nat.le_refl _); have Ix : Hid (IntR V6 _ _ _ _) := Ix.out.below hb (Nat.le_refl _); have Iy : Hid (IntR V6 _ _ _ _) := Iy.out.below hb (Nat.le_refl _); have Iu : Hid (IntR V6 _ _ _ _) := Iu.out.below hb (Nat.le_refl _); have Iz : Hid (IntR V6 _ _ _ _) := Iz.out.below hb (Nat.le_refl _); have HBD : Hid (Below w.heap.size w V6) := HBD.out.trans (hb.mono HBD.out.size); clear kS; have kS : V6.cell? ⟨w.heap.size, 0, none⟩ = some (.bool s1) ∧ V6.cell? ⟨w.heap.size, 1, none⟩ = some (.slice a1 n1 c1) ∧ V6.cell? ⟨w.heap.size + 1, 0, none⟩ = some (.bool s2) ∧ V6.cell? ⟨w.heap.size + 1, 1, none⟩ = some (.slice a2 n2 c2) ∧ V6.cell? ⟨W4.heap.size, 0, none⟩ = some (.bool sx) ∧ V6.cell? ⟨W4.heap.size, 1, none⟩ = some (.slice ax nx cx) ∧ V6.cell? ⟨W6.heap.size, 0, none⟩ = some (.bool sx) ∧ V6.cell? ⟨W6.heap.size, 1, none⟩ = some (.slice ay ny cy) ∧ V6.cell? ⟨W8.heap.size, 0, none⟩ = some (.bool sm) ∧ V6.cell? ⟨W8.heap.size, 1, none⟩ = some (.slice au nu cu) ∧ V6.cell? ⟨W10.heap.size, 0, none⟩ = some (.bool sm) ∧ V6.cell? ⟨W10.heap.size, 1, none⟩ = some (.slice az nz cz) ∧ V6.cell? ⟨W12.heap.size, 0, none⟩ = some (.bool sd) ∧ V6.cell? ⟨W12.heap.size, 1, none⟩ = some (.slice ad nd cd) := ⟨D1.out.z0, D1.out.z1, D2.out.z0, D2.out.z1, Dx.out.z0, Dx.out.z1, Dy.out.z0, Dy.out.z1, Du.out.z0, Du.out.z1, Dz.out.z0, Dz.out.z1, Dd.out.z0, Dd.out.z1⟩; clear hb)
      go_wp2_with fail
      refine hK.out _ _ (by exact kS) (fun hHeld => ?_)
      clear hK K hHeld
      try simp only [Act.put, List.setIfInBounds_toArray, List.set_cons_zero, List.set_cons_succ]
      refine wpAnyH_ready (rs := [24]) (by kernel_rfl) (by simp) ?_
      refine AllReadyH.cons (o := { dst := some 78, op := Op.call { callee := Callee.value (Operand.func 12), args := #[Operand.tmp 76, Operand.tmp 77], argTypes := #[24, 24] }, type := 3, pos := "law.go:125", after := #[{ on := 22, ground := Ground.data }, { on := 23, ground := Ground.data }, { on := 23, ground := Ground.chain }, { on := 21, ground := Ground.guard }], guard := some (21, false) }) rfl (fun K hK => ?_) AllReadyH.nil
      go_simp
      (go_at_call_of 12 (Value.agg #[Value.bool sd, Value.slice ad nd cd]); refine (compare_any sd so ad nd cd ld ao no co lo _ (by exact Jd.out) (by exact Jo.out) (by omega) (by omega)).mono ?_; rintro e V7 ⟨rfl, hb⟩; rw [HDZ.out so lo Zo.out]; have D1 : Hid (Box V7 (w.heap.size) (.bool s1) (.slice a1 n1 c1)) := D1.out.below hb D1.out.lt; have D2 : Hid (Box V7 (w.heap.size + 1) (.bool s2) (.slice a2 n2 c2)) := D2.out.below hb D2.out.lt; have Dx : Hid (Box V7 (W4.heap.size) (.bool sx) (.slice ax nx cx)) := Dx.out.below hb Dx.out.lt; have Dy : Hid (Box V7 (W6.heap.size) (.bool sx) (.slice ay ny cy)) := Dy.out.below hb Dy.out.lt; have Du : Hid (Box V7 (W8.heap.size) (.bool sm) (.slice au nu cu)) := Du.out.below hb Du.out.lt; have Dz : Hid (Box V7 (W10.heap.size) (.bool sm) (.slice az nz cz)) := Dz.out.below hb Dz.out.lt; have Dd : Hid (Box V7 (W12.heap.size) (.bool sd) (.slice ad nd cd)) := Dd.out.below hb Dd.out.lt; have J1 : Hid (Sl V7 a1 n1 c1 l1) := J1.out.below hb (Nat.le_refl _); have J2 : Hid (Sl V7 a2 n2 c2 l2) := J2.out.below hb (Nat.le_refl _); have Jd : Hid (Sl V7 ad nd cd ld) := Jd.out.below hb (Nat.le_refl _); have Ix : Hid (IntR V7 _ _ _ _) := Ix.out.below hb (Nat.le_refl _); have Iy : Hid (IntR V7 _ _ _ _) := Iy.out.below hb (Nat.le_refl _); have Iu : Hid (IntR V7 _ _ _ _) := Iu.out.below hb (Nat.le_refl _); have Iz : Hid (IntR V7 _ _ _ _) := Iz.out.below hb (Nat.le_refl _); have HBD : Hid (Below w.heap.size w V7) := HBD.out.trans (hb.mono HBD.out.size); clear kS; have kS : V7.cell? ⟨w.heap.size, 0, none⟩ = some (.bool s1) ∧ V7.cell? ⟨w.heap.size, 1, none⟩ = some (.slice a1 n1 c1) ∧ V7.cell? ⟨w.heap.size + 1, 0, none⟩ = some (.bool s2) ∧ V7.cell? ⟨w.heap.size + 1, 1, none⟩ = some (.slice a2 n2 c2) ∧ V7.cell? ⟨W4.heap.size, 0, none⟩ = some (.bool sx) ∧ V7.cell? ⟨W4.heap.size, 1, none⟩ = some (.slice ax nx cx) ∧ V7.cell? ⟨W6.heap.size, 0, none⟩ = some (.bool sx) ∧ V7.cell? ⟨W6.heap.size, 1, none⟩ = some (.slice ay ny cy) ∧ V7.cell? ⟨W8.heap.size, 0, none⟩ = some (.bool sm) ∧ V7.cell? ⟨W8.heap.size, 1, none⟩ = some (.slice au nu cu) ∧ V7.cell? ⟨W10.heap.size, 0, none⟩ = some (.bool sm) ∧ V7.cell? ⟨W10.heap.size, 1, none⟩ = some (.slice az nz cz) ∧ V7.cell? ⟨W12.heap.size, 0, none⟩ = some (.bool sd) ∧ V7.cell? ⟨W12.heap.size, 1, none⟩ = some (.slice ad nd cd) := ⟨D1.out.z0, D1.out.z1, D2.out.z0, D2.out.z1, Dx.out.z0, Dx.out.z1, Dy.out.z0, Dy.out.z1, Du.out.z0, Du.out.z1, Dz.out.z0, Dz.out.z1, Dd.out.z0, Dd.out.z1⟩; clear hb)
      go_wp2_with fail
      refine hK.out _ _ (by exact kS) (fun hHeld => ?_)
      clear hK K hHeld
      try simp only [Act.put, List.setIfInBounds_toArray, List.set_cons_zero, List.set_cons_succ]
      refine wpAnyH_take (i := 25) (oi := { dst := some 79, op := Op.binOp BinOp.eql 3 (Operand.tmp 78) (Operand.const (Value.int IntKind.i64 0)) 3, type := 4, pos := "law.go:125", after := #[{ on := 24, ground := Ground.data }, { on := 21, ground := Ground.guard }], guard := some (21, false) }) (v := ?_) rfl (by kernel_rfl) (by kernel_rfl) (by kernel_rfl) (fun _ _ _ h => h) (Or.inl ⟨by rfl, ?_⟩) (by exact kS) ?_
      rotate_left
      · intro w hSw; (try dsimp only at hSw); (go_simp <;> with_reducible rfl)
      try simp only [Act.put, List.setIfInBounds_toArray, List.set_cons_zero, List.set_cons_succ]
      refine wpAnyH_take (i := 26) (oi := { dst := some 80, op := Op.pick (Operand.tmp 75) (Operand.const (Value.bool true)) (Operand.tmp 79), type := 4, pos := "law.go:125", after := #[{ on := 21, ground := Ground.data }, { on := 25, ground := Ground.data }, { on := 18, ground := Ground.guard }], guard := some (18, true) }) (v := ?_) rfl (by kernel_rfl) (by kernel_rfl) (by kernel_rfl) (fun _ _ _ h => h) (Or.inl ⟨by rfl, ?_⟩) (by exact kS) ?_
      rotate_left
      · intro w hSw; (try dsimp only at hSw); (go_simp <;> with_reducible rfl)
      try simp only [Act.put, List.setIfInBounds_toArray, List.set_cons_zero, List.set_cons_succ]
      refine wpAnyH_take (i := 27) (oi := { dst := some 81, op := Op.pick (Operand.tmp 72) (Operand.tmp 80) (Operand.const (Value.bool false)), type := 4, pos := "law.go:125", after := #[{ on := 18, ground := Ground.data }, { on := 26, ground := Ground.data }], guard := none }) (v := ?_) rfl (by kernel_rfl) (by kernel_rfl) (by kernel_rfl) (fun _ _ _ h => h) (Or.inl ⟨by rfl, ?_⟩) (by exact kS) ?_
      rotate_left
      · intro w hSw; (try dsimp only at hSw); (go_simp <;> with_reducible rfl)
      try simp only [Act.put, List.setIfInBounds_toArray, List.set_cons_zero, List.set_cons_succ]
      refine wpAnyH_take (i := 28) (oi := { dst := some 82, op := Op.move (Operand.tmp 81), type := 4, pos := "law.go:125", after := #[{ on := 27, ground := Ground.data }, { on := 24, ground := Ground.chain }], guard := none }) (v := ?_) rfl (by kernel_rfl) (by kernel_rfl) (by kernel_rfl) (fun _ _ _ h => h) (Or.inl ⟨by rfl, ?_⟩) (by exact kS) ?_
      rotate_left
      · intro w hSw; (try dsimp only at hSw); (go_simp <;> with_reducible rfl)
      try simp only [Act.put, List.setIfInBounds_toArray, List.set_cons_zero, List.set_cons_succ]
      refine wpAnyH_take (i := 29) (oi := { dst := some 83, op := Op.load 24 (Operand.tmp 2), type := 24, pos := "law.go:125", after := #[{ on := 28, ground := Ground.guard }], guard := some (28, true) }) (v := ?_) rfl (by kernel_rfl) (by kernel_rfl) (by kernel_rfl) (fun _ _ _ h => h) (Or.inl ⟨by rfl, ?_⟩) (by exact kS) ?_
      rotate_left
      · intro w hSw; (try dsimp only at hSw); (go_simp <;> with_reducible rfl)
      try simp only [Act.put, List.setIfInBounds_toArray, List.set_cons_zero, List.set_cons_succ]
      refine wpAnyH_take (i := 30) (oi := { dst := some 84, op := Op.load 24 (Operand.tmp 3), type := 24, pos := "law.go:125", after := #[{ on := 28, ground := Ground.guard }], guard := some (28, true) }) (v := ?_) rfl (by kernel_rfl) (by kernel_rfl) (by kernel_rfl) (fun _ _ _ h => h) (Or.inl ⟨by rfl, ?_⟩) (by exact kS) ?_
      rotate_left
      · intro w hSw; (try dsimp only at hSw); (go_simp <;> with_reducible rfl)
      try simp only [Act.put, List.setIfInBounds_toArray, List.set_cons_zero, List.set_cons_succ]
      refine wpAnyH_take (i := 32) (oi := { dst := some 86, op := Op.load 24 (Operand.tmp 3), type := 24, pos := "law.go:125", after := #[{ on := 28, ground := Ground.guard }], guard := some (28, true) }) (v := ?_) rfl (by kernel_rfl) (by kernel_rfl) (by kernel_rfl) (fun _ _ _ h => h) (Or.inl ⟨by rfl, ?_⟩) (by exact kS) ?_
      rotate_left
      · intro w hSw; (try dsimp only at hSw); (go_simp <;> with_reducible rfl)
      try simp only [Act.put, List.setIfInBounds_toArray, List.set_cons_zero, List.set_cons_succ]
      refine wpAnyH_take (i := 33) (oi := { dst := some 87, op := Op.load 24 (Operand.tmp 2), type := 24, pos := "law.go:125", after := #[{ on := 28, ground := Ground.guard }], guard := some (28, true) }) (v := ?_) rfl (by kernel_rfl) (by kernel_rfl) (by kernel_rfl) (fun _ _ _ h => h) (Or.inl ⟨by rfl, ?_⟩) (by exact kS) ?_
      rotate_left
      · intro w hSw; (try dsimp only at hSw); (go_simp <;> with_reducible rfl)
      try simp only [Act.put, List.setIfInBounds_toArray, List.set_cons_zero, List.set_cons_succ]
      refine wpAnyH_ready (rs := [31]) (by kernel_rfl) (by simp) ?_
      refine AllReadyH.cons (o := { dst := some 85, op := Op.call { callee := Callee.value (Operand.func 12), args := #[Operand.tmp 83, Operand.tmp 84], argTypes := #[24, 24] }, type := 3, pos := "law.go:125", after := #[{ on := 29, ground := Ground.data }, { on := 30, ground := Ground.data }, { on := 28, ground := Ground.chain }, { on := 28, ground := Ground.guard }], guard := some (28, true) }) rfl (fun K hK => ?_) AllReadyH.nil
      go_simp
      (go_at_call_of 12 (Value.agg #[Value.bool s1, Value.slice a1 n1 c1]); refine (compare_any s1 s2 a1 n1 c1 l1 a2 n2 c2 l2 _ (by exact J1.out) (by exact J2.out) (by omega) (by omega)).mono ?_; rintro e V3 ⟨rfl, hb⟩; rw [HAB.out]; have D1 : Hid (Box V3 (w.heap.size) (.bool s1) (.slice a1 n1 c1)) := D1.out.below hb D1.out.lt; have D2 : Hid (Box V3 (w.heap.size + 1) (.bool s2) (.slice a2 n2 c2)) := D2.out.below hb D2.out.lt; have Dx : Hid (Box V3 (W4.heap.size) (.bool sx) (.slice ax nx cx)) := Dx.out.below hb Dx.out.lt; have Dy : Hid (Box V3 (W6.heap.size) (.bool sx) (.slice ay ny cy)) := Dy.out.below hb Dy.out.lt; have Du : Hid (Box V3 (W8.heap.size) (.bool sm) (.slice au nu cu)) := Du.out.below hb Du.out.lt; have Dz : Hid (Box V3 (W10.heap.size) (.bool sm) (.slice az nz cz)) := Dz.out.below hb Dz.out.lt; have Dd : Hid (Box V3 (W12.heap.size) (.bool sd) (.slice ad nd cd)) := Dd.out.below hb Dd.out.lt; have J1 : Hid (Sl V3 a1 n1 c1 l1) := J1.out.below hb (Nat.le_refl _); have J2 : Hid (Sl V3 a2 n2 c2 l2) := J2.out.below hb (Nat.le_refl _); have Jd : Hid (Sl V3 ad nd cd ld) := Jd.out.below hb (Nat.le_refl _); have Ix : Hid (IntR V3 _ _ _ _) := Ix.out.below hb (Nat.le_refl _); have Iy : Hid (IntR V3 _ _ _ _) := Iy.out.below hb (Nat.le_refl _); have Iu : Hid (IntR V3 _ _ _ _) := Iu.out.below hb (Nat.le_refl _); have Iz : Hid (IntR V3 _ _ _ _) := Iz.out.below hb (Nat.le_refl _); have HBD : Hid (Below w.heap.size w V3) := HBD.out.trans (hb.mono HBD.out.size); clear kS; have kS : V3.cell? ⟨w.heap.size, 0, none⟩ = some (.bool s1) ∧ V3.cell? ⟨w.heap.size, 1, none⟩ = some (.slice a1 n1 c1) ∧ V3.cell? ⟨w.heap.size + 1, 0, none⟩ = some (.bool s2) ∧ V3.cell? ⟨w.heap.size + 1, 1, none⟩ = some (.slice a2 n2 c2) ∧ V3.cell? ⟨W4.heap.size, 0, none⟩ = some (.bool sx) ∧ V3.cell? ⟨W4.heap.size, 1, none⟩ = some (.slice ax nx cx) ∧ V3.cell? ⟨W6.heap.size, 0, none⟩ = some (.bool sx) ∧ V3.cell? ⟨W6.heap.size, 1, none⟩ = some (.slice ay ny cy) ∧ V3.cell? ⟨W8.heap.size, 0, none⟩ = some (.bool sm) ∧ V3.cell? ⟨W8.heap.size, 1, none⟩ = some (.slice au nu cu) ∧ V3.cell? ⟨W10.heap.size, 0, none⟩ = some (.bool sm) ∧ V3.cell? ⟨W10.heap.size, 1, none⟩ = some (.slice az nz cz) ∧ V3.cell? ⟨W12.heap.size, 0, none⟩ = some (.bool sd) ∧ V3.cell? ⟨W12.heap.size, 1, none⟩ = some (.slice ad nd cd) := ⟨D1.out.z0, D1.out.z1, D2.out.z0, D2.out.z1, Dx.out.z0, Dx.out.z1, Dy.out.z0, Dy.out.z1, Du.out.z0, Du.out.z1, Dz.out.z0, Dz.out.z1, Dd.out.z0, Dd.out.z1⟩; clear hb)
      go_wp2_with fail
      refine hK.out _ _ (by exact kS) (fun hHeld => ?_)
      clear hK K hHeld
      try simp only [Act.put, List.setIfInBounds_toArray, List.set_cons_zero, List.set_cons_succ]
      refine wpAnyH_ready (rs := [34]) (by kernel_rfl) (by simp) ?_
      refine AllReadyH.cons (o := { dst := some 88, op := Op.call { callee := Callee.value (Operand.func 12), args := #[Operand.tmp 86, Operand.tmp 87], argTypes := #[24, 24] }, type := 3, pos := "law.go:125", after := #[{ on := 32, ground := Ground.data }, { on := 33, ground := Ground.data }, { on := 31, ground := Ground.chain }, { on := 28, ground := Ground.guard }], guard := some (28, true) }) rfl (fun K hK => ?_) AllReadyH.nil
      go_simp
      (go_at_call_of 12 (Value.agg #[Value.bool s2, Value.slice a2 n2 c2]); refine (compare_any s2 s1 a2 n2 c2 l2 a1 n1 c1 l1 _ (by exact J2.out) (by exact J1.out) (by omega) (by omega)).mono ?_; rintro e V4 ⟨rfl, hb⟩; rw [HBA.out]; have D1 : Hid (Box V4 (w.heap.size) (.bool s1) (.slice a1 n1 c1)) := D1.out.below hb D1.out.lt; have D2 : Hid (Box V4 (w.heap.size + 1) (.bool s2) (.slice a2 n2 c2)) := D2.out.below hb D2.out.lt; have Dx : Hid (Box V4 (W4.heap.size) (.bool sx) (.slice ax nx cx)) := Dx.out.below hb Dx.out.lt; have Dy : Hid (Box V4 (W6.heap.size) (.bool sx) (.slice ay ny cy)) := Dy.out.below hb Dy.out.lt; have Du : Hid (Box V4 (W8.heap.size) (.bool sm) (.slice au nu cu)) := Du.out.below hb Du.out.lt; have Dz : Hid (Box V4 (W10.heap.size) (.bool sm) (.slice az nz cz)) := Dz.out.below hb Dz.out.lt; have Dd : Hid (Box V4 (W12.heap.size) (.bool sd) (.slice ad nd cd)) := Dd.out.below hb Dd.out.lt; have J1 : Hid (Sl V4 a1 n1 c1 l1) := J1.out.below hb (Nat.le_refl _); have J2 : Hid (Sl V4 a2 n2 c2 l2) := J2.out.below hb (Nat.le_refl _); have Jd : Hid (Sl V4 ad nd cd ld) := Jd.out.below hb (Nat.le_refl _); have Ix : Hid (IntR V4 _ _ _ _) := Ix.out.below hb (Nat.le_refl _); have Iy : Hid (IntR V4 _ _ _ _) := Iy.out.below hb (Nat.le_refl _); have Iu : Hid (IntR V4 _ _ _ _) := Iu.out.below hb (Nat.le_refl _); have Iz : Hid (IntR V4 _ _ _ _) := Iz.out.below hb (Nat.le_refl _); have HBD : Hid (Below w.heap.size w V4) := HBD.out.trans (hb.mono HBD.out.size); clear kS; have kS : V4.cell? ⟨w.heap.size, 0, none⟩ = some (.bool s1) ∧ V4.cell? ⟨w.heap.size, 1, none⟩ = some (.slice a1 n1 c1) ∧ V4.cell? ⟨w.heap.size + 1, 0, none⟩ = some (.bool s2) ∧ V4.cell? ⟨w.heap.size + 1, 1, none⟩ = some (.slice a2 n2 c2) ∧ V4.cell? ⟨W4.heap.size, 0, none⟩ = some (.bool sx) ∧ V4.cell? ⟨W4.heap.size, 1, none⟩ = some (.slice ax nx cx) ∧ V4.cell? ⟨W6.heap.size, 0, none⟩ = some (.bool sx) ∧ V4.cell? ⟨W6.heap.size, 1, none⟩ = some (.slice ay ny cy) ∧ V4.cell? ⟨W8.heap.size, 0, none⟩ = some (.bool sm) ∧ V4.cell? ⟨W8.heap.size, 1, none⟩ = some (.slice au nu cu) ∧ V4.cell? ⟨W10.heap.size, 0, none⟩ = some (.bool sm) ∧ V4.cell? ⟨W10.heap.size, 1, none⟩ = some (.slice az nz cz) ∧ V4.cell? ⟨W12.heap.size, 0, none⟩ = some (.bool sd) ∧ V4.cell? ⟨W12.heap.size, 1, none⟩ = some (.slice ad nd cd) := ⟨D1.out.z0, D1.out.z1, D2.out.z0, D2.out.z1, Dx.out.z0, Dx.out.z1, Dy.out.z0, Dy.out.z1, Du.out.z0, Du.out.z1, Dz.out.z0, Dz.out.z1, Dd.out.z0, Dd.out.z1⟩; clear hb)
      go_wp2_with fail
      refine hK.out _ _ (by exact kS) (fun hHeld => ?_)
      clear hK K hHeld
      try simp only [Act.put, List.setIfInBounds_toArray, List.set_cons_zero, List.set_cons_succ]
      refine wpAnyH_take (i := 35) (oi := { dst := some 89, op := Op.unOp UnOp.neg 3 (Operand.tmp 88), type := 3, pos := "law.go:125", after := #[{ on := 34, ground := Ground.data }, { on := 28, ground := Ground.guard }], guard := some (28, true) }) (v := ?_) rfl (by kernel_rfl) (by kernel_rfl) (by kernel_rfl) (fun _ _ _ h => h) (Or.inl ⟨by rfl, ?_⟩) (by exact kS) ?_
      rotate_left
      · intro w hSw; (try dsimp only at hSw); (go_simp <;> with_reducible rfl)
      try simp only [Act.put, List.setIfInBounds_toArray, List.set_cons_zero, List.set_cons_succ]
      refine wpAnyH_take (i := 36) (oi := { dst := some 90, op := Op.binOp BinOp.eql 3 (Operand.tmp 85) (Operand.tmp 89) 3, type := 4, pos := "law.go:125", after := #[{ on := 31, ground := Ground.data }, { on := 35, ground := Ground.data }, { on := 28, ground := Ground.guard }], guard := some (28, true) }) (v := ?_) rfl (by kernel_rfl) (by kernel_rfl) (by kernel_rfl) (fun _ _ _ h => h) (Or.inl ⟨by rfl, ?_⟩) (by exact kS) ?_
      rotate_left
      · intro w hSw; (try dsimp only at hSw); (go_simp <;> with_reducible rfl)
      try simp only [Act.put, List.setIfInBounds_toArray, List.set_cons_zero, List.set_cons_succ]
      refine wpAnyH_take (i := 37) (oi := { dst := some 91, op := Op.pick (Operand.tmp 82) (Operand.tmp 90) (Operand.const (Value.bool false)), type := 4, pos := "law.go:125", after := #[{ on := 28, ground := Ground.data }, { on := 36, ground := Ground.data }], guard := none }) (v := ?_) rfl (by kernel_rfl) (by kernel_rfl) (by kernel_rfl) (fun _ _ _ h => h) (Or.inl ⟨by rfl, ?_⟩) (by exact kS) ?_
      rotate_left
      · intro w hSw; (try dsimp only at hSw); (go_simp <;> with_reducible rfl)
      try simp only [Act.put, List.setIfInBounds_toArray, List.set_cons_zero, List.set_cons_succ]
      refine wpAnyH_take (i := 38) (oi := { dst := some 92, op := Op.move (Operand.tmp 91), type := 4, pos := "law.go:125", after := #[{ on := 37, ground := Ground.data }, { on := 34, ground := Ground.chain }], guard := none }) (v := ?_) rfl (by kernel_rfl) (by kernel_rfl) (by kernel_rfl) (fun _ _ _ h => h) (Or.inl ⟨by rfl, ?_⟩) (by exact kS) ?_
      rotate_left
      · intro w hSw; (try dsimp only at hSw); (go_simp <;> with_reducible rfl)
      try simp only [Act.put, List.setIfInBounds_toArray, List.set_cons_zero, List.set_cons_succ]
      refine wpAnyH_ready (rs := [39]) (by kernel_rfl) (by simp) ?_
      refine AllReadyH.cons (o := { dst := some 93, op := Op.call { callee := Callee.value (Operand.func 7), args := #[], argTypes := #[] }, type := 4, pos := "law.go:125", after := #[{ on := 38, ground := Ground.chain }, { on := 38, ground := Ground.guard }], guard := some (38, true) }) rfl (fun K hK => ?_) AllReadyH.nil
      go_simp
      (go_at_call 7; refine (awake_any _).mono ?_; rintro e V5 ⟨rfl, hb⟩; have D1 : Hid (Box V5 (w.heap.size) (.bool s1) (.slice a1 n1 c1)) := D1.out.below hb D1.out.lt; have D2 : Hid (Box V5 (w.heap.size + 1) (.bool s2) (.slice a2 n2 c2)) := D2.out.below hb D2.out.lt; have Dx : Hid (Box V5 (W4.heap.size) (.bool sx) (.slice ax nx cx)) := Dx.out.below hb Dx.out.lt; have Dy : Hid (Box V5 (W6.heap.size) (.bool sx) (.slice ay ny cy)) := Dy.out.below hb Dy.out.lt; have Du : Hid (Box V5 (W8.heap.size) (.bool sm) (.slice au nu cu)) := Du.out.below hb Du.out.lt; have Dz : Hid (Box V5 (W10.heap.size) (.bool sm) (.slice az nz cz)) := Dz.out.below hb Dz.out.lt; have Dd : Hid (Box V5 (W12.heap.size) (.bool sd) (.slice ad nd cd)) := Dd.out.below hb Dd.out.lt; have J1 : Hid (Sl V5 a1 n1 c1 l1) := J1.out.below hb (Nat.le_refl _); have J2 : Hid (Sl V5 a2 n2 c2 l2) := J2.out.below hb (Nat.le_refl _); have Jd : Hid (Sl V5 ad nd cd ld) := Jd.out.below hb (Nat.le_refl _); have Ix : Hid (IntR V5 _ _ _ _) := Ix.out.below hb (Nat.le_refl _); have Iy : Hid (IntR V5 _ _ _ _) := Iy.out.below hb (Nat.le_refl _); have Iu : Hid (IntR V5 _ _ _ _) := Iu.out.below hb (Nat.le_refl _); have Iz : Hid (IntR V5 _ _ _ _) := Iz.out.below hb (Nat.le_refl _); have HBD : Hid (Below w.heap.size w V5) := HBD.out.trans (hb.mono HBD.out.size); clear kS; have kS : V5.cell? ⟨w.heap.size, 0, none⟩ = some (.bool s1) ∧ V5.cell? ⟨w.heap.size, 1, none⟩ = some (.slice a1 n1 c1) ∧ V5.cell? ⟨w.heap.size + 1, 0, none⟩ = some (.bool s2) ∧ V5.cell? ⟨w.heap.size + 1, 1, none⟩ = some (.slice a2 n2 c2) ∧ V5.cell? ⟨W4.heap.size, 0, none⟩ = some (.bool sx) ∧ V5.cell? ⟨W4.heap.size, 1, none⟩ = some (.slice ax nx cx) ∧ V5.cell? ⟨W6.heap.size, 0, none⟩ = some (.bool sx) ∧ V5.cell? ⟨W6.heap.size, 1, none⟩ = some (.slice ay ny cy) ∧ V5.cell? ⟨W8.heap.size, 0, none⟩ = some (.bool sm) ∧ V5.cell? ⟨W8.heap.size, 1, none⟩ = some (.slice au nu cu) ∧ V5.cell? ⟨W10.heap.size, 0, none⟩ = some (.bool sm) ∧ V5.cell? ⟨W10.heap.size, 1, none⟩ = some (.slice az nz cz) ∧ V5.cell? ⟨W12.heap.size, 0, none⟩ = some (.bool sd) ∧ V5.cell? ⟨W12.heap.size, 1, none⟩ = some (.slice ad nd cd) := ⟨D1.out.z0, D1.out.z1, D2.out.z0, D2.out.z1, Dx.out.z0, Dx.out.z1, Dy.out.z0, Dy.out.z1, Du.out.z0, Du.out.z1, Dz.out.z0, Dz.out.z1, Dd.out.z0, Dd.out.z1⟩; clear hb)
      go_wp2_with fail
      refine hK.out _ _ (by exact kS) (fun hHeld => ?_)
      clear hK K hHeld
      try simp only [Act.put, List.setIfInBounds_toArray, List.set_cons_zero, List.set_cons_succ]
      refine wpAnyH_take (i := 40) (oi := { dst := some 94, op := Op.pick (Operand.tmp 92) (Operand.tmp 93) (Operand.const (Value.bool false)), type := 4, pos := "law.go:125", after := #[{ on := 38, ground := Ground.data }, { on := 39, ground := Ground.data }], guard := none }) (v := ?_) rfl (by kernel_rfl) (by kernel_rfl) (by kernel_rfl) (fun _ _ _ h => h) (Or.inl ⟨by rfl, ?_⟩) (by exact kS) ?_
      rotate_left
      · intro w hSw; (try dsimp only at hSw); (go_simp <;> with_reducible rfl)
      try simp only [Act.put, List.setIfInBounds_toArray, List.set_cons_zero, List.set_cons_succ]
      refine wpAnyH_take (i := 41) (oi := { dst := some 4, op := Op.assign (Operand.tmp 94), type := 4, pos := "law.go:125", after := #[{ on := 40, ground := Ground.data }, { on := 39, ground := Ground.chain }, { on := 0, ground := Ground.phase }, { on := 1, ground := Ground.phase }, { on := 2, ground := Ground.phase }, { on := 3, ground := Ground.phase }, { on := 4, ground := Ground.phase }, { on := 5, ground := Ground.phase }, { on := 6, ground := Ground.phase }, { on := 7, ground := Ground.phase }, { on := 8, ground := Ground.phase }, { on := 9, ground := Ground.phase }, { on := 10, ground := Ground.phase }, { on := 11, ground := Ground.phase }, { on := 12, ground := Ground.phase }, { on := 13, ground := Ground.phase }, { on := 14, ground := Ground.phase }, { on := 15, ground := Ground.phase }, { on := 16, ground := Ground.phase }, { on := 17, ground := Ground.phase }, { on := 18, ground := Ground.phase }, { on := 19, ground := Ground.phase }, { on := 20, ground := Ground.phase }, { on := 21, ground := Ground.phase }, { on := 22, ground := Ground.phase }, { on := 23, ground := Ground.phase }, { on := 24, ground := Ground.phase }, { on := 25, ground := Ground.phase }, { on := 26, ground := Ground.phase }, { on := 27, ground := Ground.phase }, { on := 28, ground := Ground.phase }, { on := 29, ground := Ground.phase }, { on := 30, ground := Ground.phase }, { on := 31, ground := Ground.phase }, { on := 32, ground := Ground.phase }, { on := 33, ground := Ground.phase }, { on := 34, ground := Ground.phase }, { on := 35, ground := Ground.phase }, { on := 36, ground := Ground.phase }, { on := 37, ground := Ground.phase }, { on := 38, ground := Ground.phase }, { on := 39, ground := Ground.phase }, { on := 40, ground := Ground.phase }], guard := none }) (v := ?_) rfl (by kernel_rfl) (by kernel_rfl) (by kernel_rfl) (fun _ _ _ h => h) (Or.inl ⟨by rfl, ?_⟩) (by exact kS) ?_
      rotate_left
      · intro w hSw; (try dsimp only at hSw); (go_simp <;> with_reducible rfl)
      try simp only [Act.put, List.setIfInBounds_toArray, List.set_cons_zero, List.set_cons_succ]
      refine wpAnyH_done (by kernel_rfl) ?_ _
      go_wp2_with fail
      go_ret
      exact ⟨rfl, HBD.out⟩
  · clear HDO
    rcases ok with rfl | rfl | rfl
    · refine wp_region_held_drew (S := fun w' => w'.cell? ⟨w.heap.size, 0, none⟩ = some (.bool s1) ∧ w'.cell? ⟨w.heap.size, 1, none⟩ = some (.slice a1 n1 c1) ∧ w'.cell? ⟨w.heap.size + 1, 0, none⟩ = some (.bool s2) ∧ w'.cell? ⟨w.heap.size + 1, 1, none⟩ = some (.slice a2 n2 c2) ∧ w'.cell? ⟨W4.heap.size, 0, none⟩ = some (.bool sx) ∧ w'.cell? ⟨W4.heap.size, 1, none⟩ = some (.slice ax nx cx) ∧ w'.cell? ⟨W6.heap.size, 0, none⟩ = some (.bool sx) ∧ w'.cell? ⟨W6.heap.size, 1, none⟩ = some (.slice ay ny cy) ∧ w'.cell? ⟨W8.heap.size, 0, none⟩ = some (.bool sm) ∧ w'.cell? ⟨W8.heap.size, 1, none⟩ = some (.slice au nu cu) ∧ w'.cell? ⟨W10.heap.size, 0, none⟩ = some (.bool sm) ∧ w'.cell? ⟨W10.heap.size, 1, none⟩ = some (.slice az nz cz) ∧ w'.cell? ⟨W12.heap.size, 0, none⟩ = some (.bool sd) ∧ w'.cell? ⟨W12.heap.size, 1, none⟩ = some (.slice ad nd cd)) (by kernel_rfl) (by exact kS) (fun hHeld => ?_)
      clear hHeld
      refine wpAnyH_take (i := 0) (oi := { dst := some 54, op := Op.move (Operand.tmp 6), type := 27, pos := "law.go:125", after := #[], guard := none }) (v := ?_) rfl (by kernel_rfl) (by kernel_rfl) (by kernel_rfl) (fun _ _ _ h => h) (Or.inl ⟨by rfl, ?_⟩) (by exact kS) ?_
      rotate_left
      · intro w hSw; (try dsimp only at hSw); (go_simp <;> with_reducible rfl)
      try simp only [Act.put, List.setIfInBounds_toArray, List.set_cons_zero, List.set_cons_succ]
      refine wpAnyH_take (i := 1) (oi := { dst := some 55, op := Op.move (Operand.tmp 8), type := 27, pos := "law.go:125", after := #[], guard := none }) (v := ?_) rfl (by kernel_rfl) (by kernel_rfl) (by kernel_rfl) (fun _ _ _ h => h) (Or.inl ⟨by rfl, ?_⟩) (by exact kS) ?_
      rotate_left
      · intro w hSw; (try dsimp only at hSw); (go_simp <;> with_reducible rfl)
      try simp only [Act.put, List.setIfInBounds_toArray, List.set_cons_zero, List.set_cons_succ]
      refine wpAnyH_take (i := 2) (oi := { dst := some 56, op := Op.binOp BinOp.eql 27 (Operand.tmp 54) (Operand.tmp 55) 27, type := 4, pos := "law.go:125", after := #[{ on := 0, ground := Ground.data }, { on := 1, ground := Ground.data }], guard := none }) (v := ?_) rfl (by kernel_rfl) (by kernel_rfl) (by kernel_rfl) (fun _ _ _ h => h) (Or.inl ⟨by rfl, ?_⟩) (by exact kS) ?_
      rotate_left
      · intro w hSw; (try dsimp only at hSw); (go_simp <;> with_reducible rfl)
      try simp only [Act.put, List.setIfInBounds_toArray, List.set_cons_zero, List.set_cons_succ]
      refine wpAnyH_take (i := 3) (oi := { dst := some 57, op := Op.move (Operand.tmp 56), type := 4, pos := "law.go:125", after := #[{ on := 2, ground := Ground.data }], guard := none }) (v := ?_) rfl (by kernel_rfl) (by kernel_rfl) (by kernel_rfl) (fun _ _ _ h => h) (Or.inl ⟨by rfl, ?_⟩) (by exact kS) ?_
      rotate_left
      · intro w hSw; (try dsimp only at hSw); (go_simp <;> with_reducible rfl)
      try simp only [Act.put, List.setIfInBounds_toArray, List.set_cons_zero, List.set_cons_succ]
      refine wpAnyH_take (i := 4) (oi := { dst := some 58, op := Op.load 24 (Operand.tmp 5), type := 24, pos := "law.go:125", after := #[{ on := 3, ground := Ground.guard }], guard := some (3, true) }) (v := ?_) rfl (by kernel_rfl) (by kernel_rfl) (by kernel_rfl) (fun _ _ _ h => h) (Or.inl ⟨by rfl, ?_⟩) (by exact kS) ?_
      rotate_left
      · intro w hSw; (try dsimp only at hSw); (go_simp <;> with_reducible rfl)
      try simp only [Act.put, List.setIfInBounds_toArray, List.set_cons_zero, List.set_cons_succ]
      refine wpAnyH_take (i := 5) (oi := { dst := some 59, op := Op.load 24 (Operand.tmp 7), type := 24, pos := "law.go:125", after := #[{ on := 3, ground := Ground.guard }], guard := some (3, true) }) (v := ?_) rfl (by kernel_rfl) (by kernel_rfl) (by kernel_rfl) (fun _ _ _ h => h) (Or.inl ⟨by rfl, ?_⟩) (by exact kS) ?_
      rotate_left
      · intro w hSw; (try dsimp only at hSw); (go_simp <;> with_reducible rfl)
      try simp only [Act.put, List.setIfInBounds_toArray, List.set_cons_zero, List.set_cons_succ]
      refine wpAnyH_ready (rs := [6]) (by kernel_rfl) (by simp) ?_
      refine AllReadyH.cons (o := { dst := some 60, op := Op.call { callee := Callee.value (Operand.func 11), args := #[Operand.tmp 58, Operand.tmp 59], argTypes := #[24, 24] }, type := 4, pos := "law.go:125", after := #[{ on := 4, ground := Ground.data }, { on := 5, ground := Ground.data }, { on := 3, ground := Ground.chain }, { on := 3, ground := Ground.guard }], guard := some (3, true) }) rfl (fun K hK => ?_) AllReadyH.nil
      go_simp
      (go_at_call_of 11 (Value.agg #[Value.bool sx, Value.slice ax nx cx]); refine (whole_any Ix.out Iy.out).mono ?_; rintro e V1 ⟨rfl, hb⟩; have D1 : Hid (Box V1 (w.heap.size) (.bool s1) (.slice a1 n1 c1)) := D1.out.below hb D1.out.lt; have D2 : Hid (Box V1 (w.heap.size + 1) (.bool s2) (.slice a2 n2 c2)) := D2.out.below hb D2.out.lt; have Dx : Hid (Box V1 (W4.heap.size) (.bool sx) (.slice ax nx cx)) := Dx.out.below hb Dx.out.lt; have Dy : Hid (Box V1 (W6.heap.size) (.bool sx) (.slice ay ny cy)) := Dy.out.below hb Dy.out.lt; have Du : Hid (Box V1 (W8.heap.size) (.bool sm) (.slice au nu cu)) := Du.out.below hb Du.out.lt; have Dz : Hid (Box V1 (W10.heap.size) (.bool sm) (.slice az nz cz)) := Dz.out.below hb Dz.out.lt; have Dd : Hid (Box V1 (W12.heap.size) (.bool sd) (.slice ad nd cd)) := Dd.out.below hb Dd.out.lt; have J1 : Hid (Sl V1 a1 n1 c1 l1) := J1.out.below hb (Nat.le_refl _); have J2 : Hid (Sl V1 a2 n2 c2 l2) := J2.out.below hb (Nat.le_refl _); have Jd : Hid (Sl V1 ad nd cd ld) := Jd.out.below hb (Nat.le_refl _); have Ix : Hid (IntR V1 _ _ _ _) := Ix.out.below hb (Nat.le_refl _); have Iy : Hid (IntR V1 _ _ _ _) := Iy.out.below hb (Nat.le_refl _); have Iu : Hid (IntR V1 _ _ _ _) := Iu.out.below hb (Nat.le_refl _); have Iz : Hid (IntR V1 _ _ _ _) := Iz.out.below hb (Nat.le_refl _); have HBD : Hid (Below w.heap.size w V1) := HBD.out.trans (hb.mono HBD.out.size); clear kS; have kS : V1.cell? ⟨w.heap.size, 0, none⟩ = some (.bool s1) ∧ V1.cell? ⟨w.heap.size, 1, none⟩ = some (.slice a1 n1 c1) ∧ V1.cell? ⟨w.heap.size + 1, 0, none⟩ = some (.bool s2) ∧ V1.cell? ⟨w.heap.size + 1, 1, none⟩ = some (.slice a2 n2 c2) ∧ V1.cell? ⟨W4.heap.size, 0, none⟩ = some (.bool sx) ∧ V1.cell? ⟨W4.heap.size, 1, none⟩ = some (.slice ax nx cx) ∧ V1.cell? ⟨W6.heap.size, 0, none⟩ = some (.bool sx) ∧ V1.cell? ⟨W6.heap.size, 1, none⟩ = some (.slice ay ny cy) ∧ V1.cell? ⟨W8.heap.size, 0, none⟩ = some (.bool sm) ∧ V1.cell? ⟨W8.heap.size, 1, none⟩ = some (.slice au nu cu) ∧ V1.cell? ⟨W10.heap.size, 0, none⟩ = some (.bool sm) ∧ V1.cell? ⟨W10.heap.size, 1, none⟩ = some (.slice az nz cz) ∧ V1.cell? ⟨W12.heap.size, 0, none⟩ = some (.bool sd) ∧ V1.cell? ⟨W12.heap.size, 1, none⟩ = some (.slice ad nd cd) := ⟨D1.out.z0, D1.out.z1, D2.out.z0, D2.out.z1, Dx.out.z0, Dx.out.z1, Dy.out.z0, Dy.out.z1, Du.out.z0, Du.out.z1, Dz.out.z0, Dz.out.z1, Dd.out.z0, Dd.out.z1⟩; clear hb)
      go_wp2_with fail
      refine hK.out _ _ (by exact kS) (fun hHeld => ?_)
      clear hK K hHeld
      try simp only [Act.put, List.setIfInBounds_toArray, List.set_cons_zero, List.set_cons_succ]
      refine wpAnyH_take (i := 7) (oi := { dst := some 61, op := Op.pick (Operand.tmp 57) (Operand.tmp 60) (Operand.const (Value.bool false)), type := 4, pos := "law.go:125", after := #[{ on := 3, ground := Ground.data }, { on := 6, ground := Ground.data }], guard := none }) (v := ?_) rfl (by kernel_rfl) (by kernel_rfl) (by kernel_rfl) (fun _ _ _ h => h) (Or.inl ⟨by rfl, ?_⟩) (by exact kS) ?_
      rotate_left
      · intro w hSw; (try dsimp only at hSw); (go_simp <;> with_reducible rfl)
      try simp only [Act.put, List.setIfInBounds_toArray, List.set_cons_zero, List.set_cons_succ]
      refine wpAnyH_take (i := 8) (oi := { dst := some 62, op := Op.move (Operand.tmp 61), type := 4, pos := "law.go:125", after := #[{ on := 7, ground := Ground.data }, { on := 6, ground := Ground.chain }], guard := none }) (v := ?_) rfl (by kernel_rfl) (by kernel_rfl) (by kernel_rfl) (fun _ _ _ h => h) (Or.inl ⟨by rfl, ?_⟩) (by exact kS) ?_
      rotate_left
      · intro w hSw; (try dsimp only at hSw); (go_simp <;> with_reducible rfl)
      try simp only [Act.put, List.setIfInBounds_toArray, List.set_cons_zero, List.set_cons_succ]
      refine wpAnyH_take (i := 9) (oi := { dst := some 63, op := Op.move (Operand.tmp 10), type := 27, pos := "law.go:125", after := #[{ on := 8, ground := Ground.guard }], guard := some (8, true) }) (v := ?_) rfl (by kernel_rfl) (by kernel_rfl) (by kernel_rfl) (fun _ _ _ h => h) (Or.inl ⟨by rfl, ?_⟩) (by exact kS) ?_
      rotate_left
      · intro w hSw; (try dsimp only at hSw); (go_simp <;> with_reducible rfl)
      try simp only [Act.put, List.setIfInBounds_toArray, List.set_cons_zero, List.set_cons_succ]
      refine wpAnyH_take (i := 10) (oi := { dst := some 64, op := Op.move (Operand.tmp 12), type := 27, pos := "law.go:125", after := #[{ on := 8, ground := Ground.guard }], guard := some (8, true) }) (v := ?_) rfl (by kernel_rfl) (by kernel_rfl) (by kernel_rfl) (fun _ _ _ h => h) (Or.inl ⟨by rfl, ?_⟩) (by exact kS) ?_
      rotate_left
      · intro w hSw; (try dsimp only at hSw); (go_simp <;> with_reducible rfl)
      try simp only [Act.put, List.setIfInBounds_toArray, List.set_cons_zero, List.set_cons_succ]
      refine wpAnyH_take (i := 11) (oi := { dst := some 65, op := Op.binOp BinOp.eql 27 (Operand.tmp 63) (Operand.tmp 64) 27, type := 4, pos := "law.go:125", after := #[{ on := 9, ground := Ground.data }, { on := 10, ground := Ground.data }, { on := 8, ground := Ground.guard }], guard := some (8, true) }) (v := ?_) rfl (by kernel_rfl) (by kernel_rfl) (by kernel_rfl) (fun _ _ _ h => h) (Or.inl ⟨by rfl, ?_⟩) (by exact kS) ?_
      rotate_left
      · intro w hSw; (try dsimp only at hSw); (go_simp <;> with_reducible rfl)
      try simp only [Act.put, List.setIfInBounds_toArray, List.set_cons_zero, List.set_cons_succ]
      refine wpAnyH_take (i := 12) (oi := { dst := some 66, op := Op.pick (Operand.tmp 62) (Operand.tmp 65) (Operand.const (Value.bool false)), type := 4, pos := "law.go:125", after := #[{ on := 8, ground := Ground.data }, { on := 11, ground := Ground.data }], guard := none }) (v := ?_) rfl (by kernel_rfl) (by kernel_rfl) (by kernel_rfl) (fun _ _ _ h => h) (Or.inl ⟨by rfl, ?_⟩) (by exact kS) ?_
      rotate_left
      · intro w hSw; (try dsimp only at hSw); (go_simp <;> with_reducible rfl)
      try simp only [Act.put, List.setIfInBounds_toArray, List.set_cons_zero, List.set_cons_succ]
      refine wpAnyH_take (i := 13) (oi := { dst := some 67, op := Op.move (Operand.tmp 66), type := 4, pos := "law.go:125", after := #[{ on := 12, ground := Ground.data }, { on := 8, ground := Ground.chain }], guard := none }) (v := ?_) rfl (by kernel_rfl) (by kernel_rfl) (by kernel_rfl) (fun _ _ _ h => h) (Or.inl ⟨by rfl, ?_⟩) (by exact kS) ?_
      rotate_left
      · intro w hSw; (try dsimp only at hSw); (go_simp <;> with_reducible rfl)
      try simp only [Act.put, List.setIfInBounds_toArray, List.set_cons_zero, List.set_cons_succ]
      refine wpAnyH_take (i := 14) (oi := { dst := some 68, op := Op.load 24 (Operand.tmp 9), type := 24, pos := "law.go:125", after := #[{ on := 13, ground := Ground.guard }], guard := some (13, true) }) (v := ?_) rfl (by kernel_rfl) (by kernel_rfl) (by kernel_rfl) (fun _ _ _ h => h) (Or.inl ⟨by rfl, ?_⟩) (by exact kS) ?_
      rotate_left
      · intro w hSw; (try dsimp only at hSw); (go_simp <;> with_reducible rfl)
      try simp only [Act.put, List.setIfInBounds_toArray, List.set_cons_zero, List.set_cons_succ]
      refine wpAnyH_take (i := 15) (oi := { dst := some 69, op := Op.load 24 (Operand.tmp 11), type := 24, pos := "law.go:125", after := #[{ on := 13, ground := Ground.guard }], guard := some (13, true) }) (v := ?_) rfl (by kernel_rfl) (by kernel_rfl) (by kernel_rfl) (fun _ _ _ h => h) (Or.inl ⟨by rfl, ?_⟩) (by exact kS) ?_
      rotate_left
      · intro w hSw; (try dsimp only at hSw); (go_simp <;> with_reducible rfl)
      try simp only [Act.put, List.setIfInBounds_toArray, List.set_cons_zero, List.set_cons_succ]
      refine wpAnyH_ready (rs := [16]) (by kernel_rfl) (by simp) ?_
      refine AllReadyH.cons (o := { dst := some 70, op := Op.call { callee := Callee.value (Operand.func 11), args := #[Operand.tmp 68, Operand.tmp 69], argTypes := #[24, 24] }, type := 4, pos := "law.go:125", after := #[{ on := 14, ground := Ground.data }, { on := 15, ground := Ground.data }, { on := 13, ground := Ground.chain }, { on := 13, ground := Ground.guard }], guard := some (13, true) }) rfl (fun K hK => ?_) AllReadyH.nil
      go_simp
      (go_at_call_of 11 (Value.agg #[Value.bool sm, Value.slice au nu cu]); refine (whole_any Iu.out Iz.out).mono ?_; rintro e V2 ⟨rfl, hb⟩; have D1 : Hid (Box V2 (w.heap.size) (.bool s1) (.slice a1 n1 c1)) := D1.out.below hb D1.out.lt; have D2 : Hid (Box V2 (w.heap.size + 1) (.bool s2) (.slice a2 n2 c2)) := D2.out.below hb D2.out.lt; have Dx : Hid (Box V2 (W4.heap.size) (.bool sx) (.slice ax nx cx)) := Dx.out.below hb Dx.out.lt; have Dy : Hid (Box V2 (W6.heap.size) (.bool sx) (.slice ay ny cy)) := Dy.out.below hb Dy.out.lt; have Du : Hid (Box V2 (W8.heap.size) (.bool sm) (.slice au nu cu)) := Du.out.below hb Du.out.lt; have Dz : Hid (Box V2 (W10.heap.size) (.bool sm) (.slice az nz cz)) := Dz.out.below hb Dz.out.lt; have Dd : Hid (Box V2 (W12.heap.size) (.bool sd) (.slice ad nd cd)) := Dd.out.below hb Dd.out.lt; have J1 : Hid (Sl V2 a1 n1 c1 l1) := J1.out.below hb (Nat.le_refl _); have J2 : Hid (Sl V2 a2 n2 c2 l2) := J2.out.below hb (Nat.le_refl _); have Jd : Hid (Sl V2 ad nd cd ld) := Jd.out.below hb (Nat.le_refl _); have Ix : Hid (IntR V2 _ _ _ _) := Ix.out.below hb (Nat.le_refl _); have Iy : Hid (IntR V2 _ _ _ _) := Iy.out.below hb (Nat.le_refl _); have Iu : Hid (IntR V2 _ _ _ _) := Iu.out.below hb (Nat.le_refl _); have Iz : Hid (IntR V2 _ _ _ _) := Iz.out.below hb (Nat.le_refl _); have HBD : Hid (Below w.heap.size w V2) := HBD.out.trans (hb.mono HBD.out.size); clear kS; have kS : V2.cell? ⟨w.heap.size, 0, none⟩ = some (.bool s1) ∧ V2.cell? ⟨w.heap.size, 1, none⟩ = some (.slice a1 n1 c1) ∧ V2.cell? ⟨w.heap.size + 1, 0, none⟩ = some (.bool s2) ∧ V2.cell? ⟨w.heap.size + 1, 1, none⟩ = some (.slice a2 n2 c2) ∧ V2.cell? ⟨W4.heap.size, 0, none⟩ = some (.bool sx) ∧ V2.cell? ⟨W4.heap.size, 1, none⟩ = some (.slice ax nx cx) ∧ V2.cell? ⟨W6.heap.size, 0, none⟩ = some (.bool sx) ∧ V2.cell? ⟨W6.heap.size, 1, none⟩ = some (.slice ay ny cy) ∧ V2.cell? ⟨W8.heap.size, 0, none⟩ = some (.bool sm) ∧ V2.cell? ⟨W8.heap.size, 1, none⟩ = some (.slice au nu cu) ∧ V2.cell? ⟨W10.heap.size, 0, none⟩ = some (.bool sm) ∧ V2.cell? ⟨W10.heap.size, 1, none⟩ = some (.slice az nz cz) ∧ V2.cell? ⟨W12.heap.size, 0, none⟩ = some (.bool sd) ∧ V2.cell? ⟨W12.heap.size, 1, none⟩ = some (.slice ad nd cd) := ⟨D1.out.z0, D1.out.z1, D2.out.z0, D2.out.z1, Dx.out.z0, Dx.out.z1, Dy.out.z0, Dy.out.z1, Du.out.z0, Du.out.z1, Dz.out.z0, Dz.out.z1, Dd.out.z0, Dd.out.z1⟩; clear hb)
      go_wp2_with fail
      refine hK.out _ _ (by exact kS) (fun hHeld => ?_)
      clear hK K hHeld
      try simp only [Act.put, List.setIfInBounds_toArray, List.set_cons_zero, List.set_cons_succ]
      refine wpAnyH_take (i := 17) (oi := { dst := some 71, op := Op.pick (Operand.tmp 67) (Operand.tmp 70) (Operand.const (Value.bool false)), type := 4, pos := "law.go:125", after := #[{ on := 13, ground := Ground.data }, { on := 16, ground := Ground.data }], guard := none }) (v := ?_) rfl (by kernel_rfl) (by kernel_rfl) (by kernel_rfl) (fun _ _ _ h => h) (Or.inl ⟨by rfl, ?_⟩) (by exact kS) ?_
      rotate_left
      · intro w hSw; (try dsimp only at hSw); (go_simp <;> with_reducible rfl)
      try simp only [Act.put, List.setIfInBounds_toArray, List.set_cons_zero, List.set_cons_succ]
      refine wpAnyH_take (i := 18) (oi := { dst := some 72, op := Op.move (Operand.tmp 71), type := 4, pos := "law.go:125", after := #[{ on := 17, ground := Ground.data }, { on := 16, ground := Ground.chain }], guard := none }) (v := ?_) rfl (by kernel_rfl) (by kernel_rfl) (by kernel_rfl) (fun _ _ _ h => h) (Or.inl ⟨by rfl, ?_⟩) (by exact kS) ?_
      rotate_left
      · intro w hSw; (try dsimp only at hSw); (go_simp <;> with_reducible rfl)
      try simp only [Act.put, List.setIfInBounds_toArray, List.set_cons_zero, List.set_cons_succ]
      refine wpAnyH_take (i := 19) (oi := { dst := some 73, op := Op.move (Operand.tmp 14), type := 27, pos := "law.go:125", after := #[{ on := 18, ground := Ground.guard }], guard := some (18, true) }) (v := ?_) rfl (by kernel_rfl) (by kernel_rfl) (by kernel_rfl) (fun _ _ _ h => h) (Or.inl ⟨by rfl, ?_⟩) (by exact kS) ?_
      rotate_left
      · intro w hSw; (try dsimp only at hSw); (go_simp <;> with_reducible rfl)
      try simp only [Act.put, List.setIfInBounds_toArray, List.set_cons_zero, List.set_cons_succ]
      refine wpAnyH_take (i := 20) (oi := { dst := some 74, op := Op.binOp BinOp.neq 27 (Operand.tmp 73) (Operand.const (Value.int IntKind.i64 0)) 27, type := 4, pos := "law.go:125", after := #[{ on := 19, ground := Ground.data }, { on := 18, ground := Ground.guard }], guard := some (18, true) }) (v := ?_) rfl (by kernel_rfl) (by kernel_rfl) (by kernel_rfl) (fun _ _ _ h => h) (Or.inl ⟨by rfl, ?_⟩) (by exact kS) ?_
      rotate_left
      · intro w hSw; (try dsimp only at hSw); (go_simp <;> with_reducible rfl)
      try simp only [Act.put, List.setIfInBounds_toArray, List.set_cons_zero, List.set_cons_succ]
      refine wpAnyH_take (i := 21) (oi := { dst := some 75, op := Op.move (Operand.tmp 74), type := 4, pos := "law.go:125", after := #[{ on := 20, ground := Ground.data }, { on := 18, ground := Ground.chain }, { on := 18, ground := Ground.guard }], guard := some (18, true) }) (v := ?_) rfl (by kernel_rfl) (by kernel_rfl) (by kernel_rfl) (fun _ _ _ h => h) (Or.inl ⟨by rfl, ?_⟩) (by exact kS) ?_
      rotate_left
      · intro w hSw; (try dsimp only at hSw); (go_simp <;> with_reducible rfl)
      try simp only [Act.put, List.setIfInBounds_toArray, List.set_cons_zero, List.set_cons_succ]
      refine wpAnyH_take (i := 22) (oi := { dst := some 76, op := Op.load 24 (Operand.tmp 13), type := 24, pos := "law.go:125", after := #[{ on := 21, ground := Ground.guard }], guard := some (21, false) }) (v := undef) rfl (by kernel_rfl) (by kernel_rfl) (by kernel_rfl) (fun _ _ _ h => h) (Or.inr ⟨by rfl, rfl⟩) (by exact kS) ?_
      try simp only [Act.put, List.setIfInBounds_toArray, List.set_cons_zero, List.set_cons_succ]
      refine wpAnyH_ready (rs := [23]) (by kernel_rfl) (by simp) ?_
      refine AllReadyH.cons (o := { dst := some 77, op := Op.call { callee := Callee.value (Operand.func 13), args := #[Operand.const (Value.int IntKind.i64 0)], argTypes := #[3] }, type := 24, pos := "law.go:125", after := #[{ on := 21, ground := Ground.chain }, { on := 21, ground := Ground.guard }], guard := some (21, false) }) rfl (fun K hK => ?_) AllReadyH.nil
      go_simp
      refine hK.out _ _ (by exact kS) (fun hHeld => ?_)
      clear hK K hHeld
      try simp only [Act.put, List.setIfInBounds_toArray, List.set_cons_zero, List.set_cons_succ]
      refine wpAnyH_ready (rs := [24]) (by kernel_rfl) (by simp) ?_
      refine AllReadyH.cons (o := { dst := some 78, op := Op.call { callee := Callee.value (Operand.func 12), args := #[Operand.tmp 76, Operand.tmp 77], argTypes := #[24, 24] }, type := 3, pos := "law.go:125", after := #[{ on := 22, ground := Ground.data }, { on := 23, ground := Ground.data }, { on := 23, ground := Ground.chain }, { on := 21, ground := Ground.guard }], guard := some (21, false) }) rfl (fun K hK => ?_) AllReadyH.nil
      go_simp
      refine hK.out _ _ (by exact kS) (fun hHeld => ?_)
      clear hK K hHeld
      try simp only [Act.put, List.setIfInBounds_toArray, List.set_cons_zero, List.set_cons_succ]
      refine wpAnyH_take (i := 25) (oi := { dst := some 79, op := Op.binOp BinOp.eql 3 (Operand.tmp 78) (Operand.const (Value.int IntKind.i64 0)) 3, type := 4, pos := "law.go:125", after := #[{ on := 24, ground := Ground.data }, { on := 21, ground := Ground.guard }], guard := some (21, false) }) (v := undef) rfl (by kernel_rfl) (by kernel_rfl) (by kernel_rfl) (fun _ _ _ h => h) (Or.inr ⟨by rfl, rfl⟩) (by exact kS) ?_
      try simp only [Act.put, List.setIfInBounds_toArray, List.set_cons_zero, List.set_cons_succ]
      refine wpAnyH_take (i := 26) (oi := { dst := some 80, op := Op.pick (Operand.tmp 75) (Operand.const (Value.bool true)) (Operand.tmp 79), type := 4, pos := "law.go:125", after := #[{ on := 21, ground := Ground.data }, { on := 25, ground := Ground.data }, { on := 18, ground := Ground.guard }], guard := some (18, true) }) (v := ?_) rfl (by kernel_rfl) (by kernel_rfl) (by kernel_rfl) (fun _ _ _ h => h) (Or.inl ⟨by rfl, ?_⟩) (by exact kS) ?_
      rotate_left
      · intro w hSw; (try dsimp only at hSw); (go_simp <;> with_reducible rfl)
      try simp only [Act.put, List.setIfInBounds_toArray, List.set_cons_zero, List.set_cons_succ]
      refine wpAnyH_take (i := 27) (oi := { dst := some 81, op := Op.pick (Operand.tmp 72) (Operand.tmp 80) (Operand.const (Value.bool false)), type := 4, pos := "law.go:125", after := #[{ on := 18, ground := Ground.data }, { on := 26, ground := Ground.data }], guard := none }) (v := ?_) rfl (by kernel_rfl) (by kernel_rfl) (by kernel_rfl) (fun _ _ _ h => h) (Or.inl ⟨by rfl, ?_⟩) (by exact kS) ?_
      rotate_left
      · intro w hSw; (try dsimp only at hSw); (go_simp <;> with_reducible rfl)
      try simp only [Act.put, List.setIfInBounds_toArray, List.set_cons_zero, List.set_cons_succ]
      refine wpAnyH_take (i := 28) (oi := { dst := some 82, op := Op.move (Operand.tmp 81), type := 4, pos := "law.go:125", after := #[{ on := 27, ground := Ground.data }, { on := 24, ground := Ground.chain }], guard := none }) (v := ?_) rfl (by kernel_rfl) (by kernel_rfl) (by kernel_rfl) (fun _ _ _ h => h) (Or.inl ⟨by rfl, ?_⟩) (by exact kS) ?_
      rotate_left
      · intro w hSw; (try dsimp only at hSw); (go_simp <;> with_reducible rfl)
      try simp only [Act.put, List.setIfInBounds_toArray, List.set_cons_zero, List.set_cons_succ]
      refine wpAnyH_take (i := 29) (oi := { dst := some 83, op := Op.load 24 (Operand.tmp 2), type := 24, pos := "law.go:125", after := #[{ on := 28, ground := Ground.guard }], guard := some (28, true) }) (v := ?_) rfl (by kernel_rfl) (by kernel_rfl) (by kernel_rfl) (fun _ _ _ h => h) (Or.inl ⟨by rfl, ?_⟩) (by exact kS) ?_
      rotate_left
      · intro w hSw; (try dsimp only at hSw); (go_simp <;> with_reducible rfl)
      try simp only [Act.put, List.setIfInBounds_toArray, List.set_cons_zero, List.set_cons_succ]
      refine wpAnyH_take (i := 30) (oi := { dst := some 84, op := Op.load 24 (Operand.tmp 3), type := 24, pos := "law.go:125", after := #[{ on := 28, ground := Ground.guard }], guard := some (28, true) }) (v := ?_) rfl (by kernel_rfl) (by kernel_rfl) (by kernel_rfl) (fun _ _ _ h => h) (Or.inl ⟨by rfl, ?_⟩) (by exact kS) ?_
      rotate_left
      · intro w hSw; (try dsimp only at hSw); (go_simp <;> with_reducible rfl)
      try simp only [Act.put, List.setIfInBounds_toArray, List.set_cons_zero, List.set_cons_succ]
      refine wpAnyH_take (i := 32) (oi := { dst := some 86, op := Op.load 24 (Operand.tmp 3), type := 24, pos := "law.go:125", after := #[{ on := 28, ground := Ground.guard }], guard := some (28, true) }) (v := ?_) rfl (by kernel_rfl) (by kernel_rfl) (by kernel_rfl) (fun _ _ _ h => h) (Or.inl ⟨by rfl, ?_⟩) (by exact kS) ?_
      rotate_left
      · intro w hSw; (try dsimp only at hSw); (go_simp <;> with_reducible rfl)
      try simp only [Act.put, List.setIfInBounds_toArray, List.set_cons_zero, List.set_cons_succ]
      refine wpAnyH_take (i := 33) (oi := { dst := some 87, op := Op.load 24 (Operand.tmp 2), type := 24, pos := "law.go:125", after := #[{ on := 28, ground := Ground.guard }], guard := some (28, true) }) (v := ?_) rfl (by kernel_rfl) (by kernel_rfl) (by kernel_rfl) (fun _ _ _ h => h) (Or.inl ⟨by rfl, ?_⟩) (by exact kS) ?_
      rotate_left
      · intro w hSw; (try dsimp only at hSw); (go_simp <;> with_reducible rfl)
      try simp only [Act.put, List.setIfInBounds_toArray, List.set_cons_zero, List.set_cons_succ]
      refine wpAnyH_ready (rs := [31]) (by kernel_rfl) (by simp) ?_
      refine AllReadyH.cons (o := { dst := some 85, op := Op.call { callee := Callee.value (Operand.func 12), args := #[Operand.tmp 83, Operand.tmp 84], argTypes := #[24, 24] }, type := 3, pos := "law.go:125", after := #[{ on := 29, ground := Ground.data }, { on := 30, ground := Ground.data }, { on := 28, ground := Ground.chain }, { on := 28, ground := Ground.guard }], guard := some (28, true) }) rfl (fun K hK => ?_) AllReadyH.nil
      go_simp
      (go_at_call_of 12 (Value.agg #[Value.bool s1, Value.slice a1 n1 c1]); refine (compare_any s1 s2 a1 n1 c1 l1 a2 n2 c2 l2 _ (by exact J1.out) (by exact J2.out) (by omega) (by omega)).mono ?_; rintro e V3 ⟨rfl, hb⟩; rw [HAB.out]; have D1 : Hid (Box V3 (w.heap.size) (.bool s1) (.slice a1 n1 c1)) := D1.out.below hb D1.out.lt; have D2 : Hid (Box V3 (w.heap.size + 1) (.bool s2) (.slice a2 n2 c2)) := D2.out.below hb D2.out.lt; have Dx : Hid (Box V3 (W4.heap.size) (.bool sx) (.slice ax nx cx)) := Dx.out.below hb Dx.out.lt; have Dy : Hid (Box V3 (W6.heap.size) (.bool sx) (.slice ay ny cy)) := Dy.out.below hb Dy.out.lt; have Du : Hid (Box V3 (W8.heap.size) (.bool sm) (.slice au nu cu)) := Du.out.below hb Du.out.lt; have Dz : Hid (Box V3 (W10.heap.size) (.bool sm) (.slice az nz cz)) := Dz.out.below hb Dz.out.lt; have Dd : Hid (Box V3 (W12.heap.size) (.bool sd) (.slice ad nd cd)) := Dd.out.below hb Dd.out.lt; have J1 : Hid (Sl V3 a1 n1 c1 l1) := J1.out.below hb (Nat.le_refl _); have J2 : Hid (Sl V3 a2 n2 c2 l2) := J2.out.below hb (Nat.le_refl _); have Jd : Hid (Sl V3 ad nd cd ld) := Jd.out.below hb (Nat.le_refl _); have Ix : Hid (IntR V3 _ _ _ _) := Ix.out.below hb (Nat.le_refl _); have Iy : Hid (IntR V3 _ _ _ _) := Iy.out.below hb (Nat.le_refl _); have Iu : Hid (IntR V3 _ _ _ _) := Iu.out.below hb (Nat.le_refl _); have Iz : Hid (IntR V3 _ _ _ _) := Iz.out.below hb (Nat.le_refl _); have HBD : Hid (Below w.heap.size w V3) := HBD.out.trans (hb.mono HBD.out.size); clear kS; have kS : V3.cell? ⟨w.heap.size, 0, none⟩ = some (.bool s1) ∧ V3.cell? ⟨w.heap.size, 1, none⟩ = some (.slice a1 n1 c1) ∧ V3.cell? ⟨w.heap.size + 1, 0, none⟩ = some (.bool s2) ∧ V3.cell? ⟨w.heap.size + 1, 1, none⟩ = some (.slice a2 n2 c2) ∧ V3.cell? ⟨W4.heap.size, 0, none⟩ = some (.bool sx) ∧ V3.cell? ⟨W4.heap.size, 1, none⟩ = some (.slice ax nx cx) ∧ V3.cell? ⟨W6.heap.size, 0, none⟩ = some (.bool sx) ∧ V3.cell? ⟨W6.heap.size, 1, none⟩ = some (.slice ay ny cy) ∧ V3.cell? ⟨W8.heap.size, 0, none⟩ = some (.bool sm) ∧ V3.cell? ⟨W8.heap.size, 1, none⟩ = some (.slice au nu cu) ∧ V3.cell? ⟨W10.heap.size, 0, none⟩ = some (.bool sm) ∧ V3.cell? ⟨W10.heap.size, 1, none⟩ = some (.slice az nz cz) ∧ V3.cell? ⟨W12.heap.size, 0, none⟩ = some (.bool sd) ∧ V3.cell? ⟨W12.heap.size, 1, none⟩ = some (.slice ad nd cd) := ⟨D1.out.z0, D1.out.z1, D2.out.z0, D2.out.z1, Dx.out.z0, Dx.out.z1, Dy.out.z0, Dy.out.z1, Du.out.z0, Du.out.z1, Dz.out.z0, Dz.out.z1, Dd.out.z0, Dd.out.z1⟩; clear hb)
      go_wp2_with fail
      refine hK.out _ _ (by exact kS) (fun hHeld => ?_)
      clear hK K hHeld
      try simp only [Act.put, List.setIfInBounds_toArray, List.set_cons_zero, List.set_cons_succ]
      refine wpAnyH_ready (rs := [34]) (by kernel_rfl) (by simp) ?_
      refine AllReadyH.cons (o := { dst := some 88, op := Op.call { callee := Callee.value (Operand.func 12), args := #[Operand.tmp 86, Operand.tmp 87], argTypes := #[24, 24] }, type := 3, pos := "law.go:125", after := #[{ on := 32, ground := Ground.data }, { on := 33, ground := Ground.data }, { on := 31, ground := Ground.chain }, { on := 28, ground := Ground.guard }], guard := some (28, true) }) rfl (fun K hK => ?_) AllReadyH.nil
      go_simp
      (go_at_call_of 12 (Value.agg #[Value.bool s2, Value.slice a2 n2 c2]); refine (compare_any s2 s1 a2 n2 c2 l2 a1 n1 c1 l1 _ (by exact J2.out) (by exact J1.out) (by omega) (by omega)).mono ?_; rintro e V4 ⟨rfl, hb⟩; rw [HBA.out]; have D1 : Hid (Box V4 (w.heap.size) (.bool s1) (.slice a1 n1 c1)) := D1.out.below hb D1.out.lt; have D2 : Hid (Box V4 (w.heap.size + 1) (.bool s2) (.slice a2 n2 c2)) := D2.out.below hb D2.out.lt; have Dx : Hid (Box V4 (W4.heap.size) (.bool sx) (.slice ax nx cx)) := Dx.out.below hb Dx.out.lt; have Dy : Hid (Box V4 (W6.heap.size) (.bool sx) (.slice ay ny cy)) := Dy.out.below hb Dy.out.lt; have Du : Hid (Box V4 (W8.heap.size) (.bool sm) (.slice au nu cu)) := Du.out.below hb Du.out.lt; have Dz : Hid (Box V4 (W10.heap.size) (.bool sm) (.slice az nz cz)) := Dz.out.below hb Dz.out.lt; have Dd : Hid (Box V4 (W12.heap.size) (.bool sd) (.slice ad nd cd)) := Dd.out.below hb Dd.out.lt; have J1 : Hid (Sl V4 a1 n1 c1 l1) := J1.out.below hb (Nat.le_refl _); have J2 : Hid (Sl V4 a2 n2 c2 l2) := J2.out.below hb (Nat.le_refl _); have Jd : Hid (Sl V4 ad nd cd ld) := Jd.out.below hb (Nat.le_refl _); have Ix : Hid (IntR V4 _ _ _ _) := Ix.out.below hb (Nat.le_refl _); have Iy : Hid (IntR V4 _ _ _ _) := Iy.out.below hb (Nat.le_refl _); have Iu : Hid (IntR V4 _ _ _ _) := Iu.out.below hb (Nat.le_refl _); have Iz : Hid (IntR V4 _ _ _ _) := Iz.out.below hb (Nat.le_refl _); have HBD : Hid (Below w.heap.size w V4) := HBD.out.trans (hb.mono HBD.out.size); clear kS; have kS : V4.cell? ⟨w.heap.size, 0, none⟩ = some (.bool s1) ∧ V4.cell? ⟨w.heap.size, 1, none⟩ = some (.slice a1 n1 c1) ∧ V4.cell? ⟨w.heap.size + 1, 0, none⟩ = some (.bool s2) ∧ V4.cell? ⟨w.heap.size + 1, 1, none⟩ = some (.slice a2 n2 c2) ∧ V4.cell? ⟨W4.heap.size, 0, none⟩ = some (.bool sx) ∧ V4.cell? ⟨W4.heap.size, 1, none⟩ = some (.slice ax nx cx) ∧ V4.cell? ⟨W6.heap.size, 0, none⟩ = some (.bool sx) ∧ V4.cell? ⟨W6.heap.size, 1, none⟩ = some (.slice ay ny cy) ∧ V4.cell? ⟨W8.heap.size, 0, none⟩ = some (.bool sm) ∧ V4.cell? ⟨W8.heap.size, 1, none⟩ = some (.slice au nu cu) ∧ V4.cell? ⟨W10.heap.size, 0, none⟩ = some (.bool sm) ∧ V4.cell? ⟨W10.heap.size, 1, none⟩ = some (.slice az nz cz) ∧ V4.cell? ⟨W12.heap.size, 0, none⟩ = some (.bool sd) ∧ V4.cell? ⟨W12.heap.size, 1, none⟩ = some (.slice ad nd cd) := ⟨D1.out.z0, D1.out.z1, D2.out.z0, D2.out.z1, Dx.out.z0, Dx.out.z1, Dy.out.z0, Dy.out.z1, Du.out.z0, Du.out.z1, Dz.out.z0, Dz.out.z1, Dd.out.z0, Dd.out.z1⟩; clear hb)
      go_wp2_with fail
      refine hK.out _ _ (by exact kS) (fun hHeld => ?_)
      clear hK K hHeld
      try simp only [Act.put, List.setIfInBounds_toArray, List.set_cons_zero, List.set_cons_succ]
      refine wpAnyH_take (i := 35) (oi := { dst := some 89, op := Op.unOp UnOp.neg 3 (Operand.tmp 88), type := 3, pos := "law.go:125", after := #[{ on := 34, ground := Ground.data }, { on := 28, ground := Ground.guard }], guard := some (28, true) }) (v := ?_) rfl (by kernel_rfl) (by kernel_rfl) (by kernel_rfl) (fun _ _ _ h => h) (Or.inl ⟨by rfl, ?_⟩) (by exact kS) ?_
      rotate_left
      · intro w hSw; (try dsimp only at hSw); (go_simp <;> with_reducible rfl)
      try simp only [Act.put, List.setIfInBounds_toArray, List.set_cons_zero, List.set_cons_succ]
      refine wpAnyH_take (i := 36) (oi := { dst := some 90, op := Op.binOp BinOp.eql 3 (Operand.tmp 85) (Operand.tmp 89) 3, type := 4, pos := "law.go:125", after := #[{ on := 31, ground := Ground.data }, { on := 35, ground := Ground.data }, { on := 28, ground := Ground.guard }], guard := some (28, true) }) (v := ?_) rfl (by kernel_rfl) (by kernel_rfl) (by kernel_rfl) (fun _ _ _ h => h) (Or.inl ⟨by rfl, ?_⟩) (by exact kS) ?_
      rotate_left
      · intro w hSw; (try dsimp only at hSw); (go_simp <;> with_reducible rfl)
      try simp only [Act.put, List.setIfInBounds_toArray, List.set_cons_zero, List.set_cons_succ]
      refine wpAnyH_take (i := 37) (oi := { dst := some 91, op := Op.pick (Operand.tmp 82) (Operand.tmp 90) (Operand.const (Value.bool false)), type := 4, pos := "law.go:125", after := #[{ on := 28, ground := Ground.data }, { on := 36, ground := Ground.data }], guard := none }) (v := ?_) rfl (by kernel_rfl) (by kernel_rfl) (by kernel_rfl) (fun _ _ _ h => h) (Or.inl ⟨by rfl, ?_⟩) (by exact kS) ?_
      rotate_left
      · intro w hSw; (try dsimp only at hSw); (go_simp <;> with_reducible rfl)
      try simp only [Act.put, List.setIfInBounds_toArray, List.set_cons_zero, List.set_cons_succ]
      refine wpAnyH_take (i := 38) (oi := { dst := some 92, op := Op.move (Operand.tmp 91), type := 4, pos := "law.go:125", after := #[{ on := 37, ground := Ground.data }, { on := 34, ground := Ground.chain }], guard := none }) (v := ?_) rfl (by kernel_rfl) (by kernel_rfl) (by kernel_rfl) (fun _ _ _ h => h) (Or.inl ⟨by rfl, ?_⟩) (by exact kS) ?_
      rotate_left
      · intro w hSw; (try dsimp only at hSw); (go_simp <;> with_reducible rfl)
      try simp only [Act.put, List.setIfInBounds_toArray, List.set_cons_zero, List.set_cons_succ]
      refine wpAnyH_ready (rs := [39]) (by kernel_rfl) (by simp) ?_
      refine AllReadyH.cons (o := { dst := some 93, op := Op.call { callee := Callee.value (Operand.func 7), args := #[], argTypes := #[] }, type := 4, pos := "law.go:125", after := #[{ on := 38, ground := Ground.chain }, { on := 38, ground := Ground.guard }], guard := some (38, true) }) rfl (fun K hK => ?_) AllReadyH.nil
      go_simp
      (go_at_call 7; refine (awake_any _).mono ?_; rintro e V5 ⟨rfl, hb⟩; have D1 : Hid (Box V5 (w.heap.size) (.bool s1) (.slice a1 n1 c1)) := D1.out.below hb D1.out.lt; have D2 : Hid (Box V5 (w.heap.size + 1) (.bool s2) (.slice a2 n2 c2)) := D2.out.below hb D2.out.lt; have Dx : Hid (Box V5 (W4.heap.size) (.bool sx) (.slice ax nx cx)) := Dx.out.below hb Dx.out.lt; have Dy : Hid (Box V5 (W6.heap.size) (.bool sx) (.slice ay ny cy)) := Dy.out.below hb Dy.out.lt; have Du : Hid (Box V5 (W8.heap.size) (.bool sm) (.slice au nu cu)) := Du.out.below hb Du.out.lt; have Dz : Hid (Box V5 (W10.heap.size) (.bool sm) (.slice az nz cz)) := Dz.out.below hb Dz.out.lt; have Dd : Hid (Box V5 (W12.heap.size) (.bool sd) (.slice ad nd cd)) := Dd.out.below hb Dd.out.lt; have J1 : Hid (Sl V5 a1 n1 c1 l1) := J1.out.below hb (Nat.le_refl _); have J2 : Hid (Sl V5 a2 n2 c2 l2) := J2.out.below hb (Nat.le_refl _); have Jd : Hid (Sl V5 ad nd cd ld) := Jd.out.below hb (Nat.le_refl _); have Ix : Hid (IntR V5 _ _ _ _) := Ix.out.below hb (Nat.le_refl _); have Iy : Hid (IntR V5 _ _ _ _) := Iy.out.below hb (Nat.le_refl _); have Iu : Hid (IntR V5 _ _ _ _) := Iu.out.below hb (Nat.le_refl _); have Iz : Hid (IntR V5 _ _ _ _) := Iz.out.below hb (Nat.le_refl _); have HBD : Hid (Below w.heap.size w V5) := HBD.out.trans (hb.mono HBD.out.size); clear kS; have kS : V5.cell? ⟨w.heap.size, 0, none⟩ = some (.bool s1) ∧ V5.cell? ⟨w.heap.size, 1, none⟩ = some (.slice a1 n1 c1) ∧ V5.cell? ⟨w.heap.size + 1, 0, none⟩ = some (.bool s2) ∧ V5.cell? ⟨w.heap.size + 1, 1, none⟩ = some (.slice a2 n2 c2) ∧ V5.cell? ⟨W4.heap.size, 0, none⟩ = some (.bool sx) ∧ V5.cell? ⟨W4.heap.size, 1, none⟩ = some (.slice ax nx cx) ∧ V5.cell? ⟨W6.heap.size, 0, none⟩ = some (.bool sx) ∧ V5.cell? ⟨W6.heap.size, 1, none⟩ = some (.slice ay ny cy) ∧ V5.cell? ⟨W8.heap.size, 0, none⟩ = some (.bool sm) ∧ V5.cell? ⟨W8.heap.size, 1, none⟩ = some (.slice au nu cu) ∧ V5.cell? ⟨W10.heap.size, 0, none⟩ = some (.bool sm) ∧ V5.cell? ⟨W10.heap.size, 1, none⟩ = some (.slice az nz cz) ∧ V5.cell? ⟨W12.heap.size, 0, none⟩ = some (.bool sd) ∧ V5.cell? ⟨W12.heap.size, 1, none⟩ = some (.slice ad nd cd) := ⟨D1.out.z0, D1.out.z1, D2.out.z0, D2.out.z1, Dx.out.z0, Dx.out.z1, Dy.out.z0, Dy.out.z1, Du.out.z0, Du.out.z1, Dz.out.z0, Dz.out.z1, Dd.out.z0, Dd.out.z1⟩; clear hb)
      go_wp2_with fail
      refine hK.out _ _ (by exact kS) (fun hHeld => ?_)
      clear hK K hHeld
      try simp only [Act.put, List.setIfInBounds_toArray, List.set_cons_zero, List.set_cons_succ]
      refine wpAnyH_take (i := 40) (oi := { dst := some 94, op := Op.pick (Operand.tmp 92) (Operand.tmp 93) (Operand.const (Value.bool false)), type := 4, pos := "law.go:125", after := #[{ on := 38, ground := Ground.data }, { on := 39, ground := Ground.data }], guard := none }) (v := ?_) rfl (by kernel_rfl) (by kernel_rfl) (by kernel_rfl) (fun _ _ _ h => h) (Or.inl ⟨by rfl, ?_⟩) (by exact kS) ?_
      rotate_left
      · intro w hSw; (try dsimp only at hSw); (go_simp <;> with_reducible rfl)
      try simp only [Act.put, List.setIfInBounds_toArray, List.set_cons_zero, List.set_cons_succ]
      refine wpAnyH_take (i := 41) (oi := { dst := some 4, op := Op.assign (Operand.tmp 94), type := 4, pos := "law.go:125", after := #[{ on := 40, ground := Ground.data }, { on := 39, ground := Ground.chain }, { on := 0, ground := Ground.phase }, { on := 1, ground := Ground.phase }, { on := 2, ground := Ground.phase }, { on := 3, ground := Ground.phase }, { on := 4, ground := Ground.phase }, { on := 5, ground := Ground.phase }, { on := 6, ground := Ground.phase }, { on := 7, ground := Ground.phase }, { on := 8, ground := Ground.phase }, { on := 9, ground := Ground.phase }, { on := 10, ground := Ground.phase }, { on := 11, ground := Ground.phase }, { on := 12, ground := Ground.phase }, { on := 13, ground := Ground.phase }, { on := 14, ground := Ground.phase }, { on := 15, ground := Ground.phase }, { on := 16, ground := Ground.phase }, { on := 17, ground := Ground.phase }, { on := 18, ground := Ground.phase }, { on := 19, ground := Ground.phase }, { on := 20, ground := Ground.phase }, { on := 21, ground := Ground.phase }, { on := 22, ground := Ground.phase }, { on := 23, ground := Ground.phase }, { on := 24, ground := Ground.phase }, { on := 25, ground := Ground.phase }, { on := 26, ground := Ground.phase }, { on := 27, ground := Ground.phase }, { on := 28, ground := Ground.phase }, { on := 29, ground := Ground.phase }, { on := 30, ground := Ground.phase }, { on := 31, ground := Ground.phase }, { on := 32, ground := Ground.phase }, { on := 33, ground := Ground.phase }, { on := 34, ground := Ground.phase }, { on := 35, ground := Ground.phase }, { on := 36, ground := Ground.phase }, { on := 37, ground := Ground.phase }, { on := 38, ground := Ground.phase }, { on := 39, ground := Ground.phase }, { on := 40, ground := Ground.phase }], guard := none }) (v := ?_) rfl (by kernel_rfl) (by kernel_rfl) (by kernel_rfl) (fun _ _ _ h => h) (Or.inl ⟨by rfl, ?_⟩) (by exact kS) ?_
      rotate_left
      · intro w hSw; (try dsimp only at hSw); (go_simp <;> with_reducible rfl)
      try simp only [Act.put, List.setIfInBounds_toArray, List.set_cons_zero, List.set_cons_succ]
      refine wpAnyH_done (by kernel_rfl) ?_ _
      go_wp2_with fail
      go_ret
      exact ⟨rfl, HBD.out⟩
    · refine wp_region_held_drew (S := fun w' => w'.cell? ⟨w.heap.size, 0, none⟩ = some (.bool s1) ∧ w'.cell? ⟨w.heap.size, 1, none⟩ = some (.slice a1 n1 c1) ∧ w'.cell? ⟨w.heap.size + 1, 0, none⟩ = some (.bool s2) ∧ w'.cell? ⟨w.heap.size + 1, 1, none⟩ = some (.slice a2 n2 c2) ∧ w'.cell? ⟨W4.heap.size, 0, none⟩ = some (.bool sx) ∧ w'.cell? ⟨W4.heap.size, 1, none⟩ = some (.slice ax nx cx) ∧ w'.cell? ⟨W6.heap.size, 0, none⟩ = some (.bool sx) ∧ w'.cell? ⟨W6.heap.size, 1, none⟩ = some (.slice ay ny cy) ∧ w'.cell? ⟨W8.heap.size, 0, none⟩ = some (.bool sm) ∧ w'.cell? ⟨W8.heap.size, 1, none⟩ = some (.slice au nu cu) ∧ w'.cell? ⟨W10.heap.size, 0, none⟩ = some (.bool sm) ∧ w'.cell? ⟨W10.heap.size, 1, none⟩ = some (.slice az nz cz) ∧ w'.cell? ⟨W12.heap.size, 0, none⟩ = some (.bool sd) ∧ w'.cell? ⟨W12.heap.size, 1, none⟩ = some (.slice ad nd cd)) (by kernel_rfl) (by exact kS) (fun hHeld => ?_)
      clear hHeld
      refine wpAnyH_take (i := 0) (oi := { dst := some 54, op := Op.move (Operand.tmp 6), type := 27, pos := "law.go:125", after := #[], guard := none }) (v := ?_) rfl (by kernel_rfl) (by kernel_rfl) (by kernel_rfl) (fun _ _ _ h => h) (Or.inl ⟨by rfl, ?_⟩) (by exact kS) ?_
      rotate_left
      · intro w hSw; (try dsimp only at hSw); (go_simp <;> with_reducible rfl)
      try simp only [Act.put, List.setIfInBounds_toArray, List.set_cons_zero, List.set_cons_succ]
      refine wpAnyH_take (i := 1) (oi := { dst := some 55, op := Op.move (Operand.tmp 8), type := 27, pos := "law.go:125", after := #[], guard := none }) (v := ?_) rfl (by kernel_rfl) (by kernel_rfl) (by kernel_rfl) (fun _ _ _ h => h) (Or.inl ⟨by rfl, ?_⟩) (by exact kS) ?_
      rotate_left
      · intro w hSw; (try dsimp only at hSw); (go_simp <;> with_reducible rfl)
      try simp only [Act.put, List.setIfInBounds_toArray, List.set_cons_zero, List.set_cons_succ]
      refine wpAnyH_take (i := 2) (oi := { dst := some 56, op := Op.binOp BinOp.eql 27 (Operand.tmp 54) (Operand.tmp 55) 27, type := 4, pos := "law.go:125", after := #[{ on := 0, ground := Ground.data }, { on := 1, ground := Ground.data }], guard := none }) (v := ?_) rfl (by kernel_rfl) (by kernel_rfl) (by kernel_rfl) (fun _ _ _ h => h) (Or.inl ⟨by rfl, ?_⟩) (by exact kS) ?_
      rotate_left
      · intro w hSw; (try dsimp only at hSw); (go_simp <;> with_reducible rfl)
      try simp only [Act.put, List.setIfInBounds_toArray, List.set_cons_zero, List.set_cons_succ]
      refine wpAnyH_take (i := 3) (oi := { dst := some 57, op := Op.move (Operand.tmp 56), type := 4, pos := "law.go:125", after := #[{ on := 2, ground := Ground.data }], guard := none }) (v := ?_) rfl (by kernel_rfl) (by kernel_rfl) (by kernel_rfl) (fun _ _ _ h => h) (Or.inl ⟨by rfl, ?_⟩) (by exact kS) ?_
      rotate_left
      · intro w hSw; (try dsimp only at hSw); (go_simp <;> with_reducible rfl)
      try simp only [Act.put, List.setIfInBounds_toArray, List.set_cons_zero, List.set_cons_succ]
      refine wpAnyH_take (i := 4) (oi := { dst := some 58, op := Op.load 24 (Operand.tmp 5), type := 24, pos := "law.go:125", after := #[{ on := 3, ground := Ground.guard }], guard := some (3, true) }) (v := ?_) rfl (by kernel_rfl) (by kernel_rfl) (by kernel_rfl) (fun _ _ _ h => h) (Or.inl ⟨by rfl, ?_⟩) (by exact kS) ?_
      rotate_left
      · intro w hSw; (try dsimp only at hSw); (go_simp <;> with_reducible rfl)
      try simp only [Act.put, List.setIfInBounds_toArray, List.set_cons_zero, List.set_cons_succ]
      refine wpAnyH_take (i := 5) (oi := { dst := some 59, op := Op.load 24 (Operand.tmp 7), type := 24, pos := "law.go:125", after := #[{ on := 3, ground := Ground.guard }], guard := some (3, true) }) (v := ?_) rfl (by kernel_rfl) (by kernel_rfl) (by kernel_rfl) (fun _ _ _ h => h) (Or.inl ⟨by rfl, ?_⟩) (by exact kS) ?_
      rotate_left
      · intro w hSw; (try dsimp only at hSw); (go_simp <;> with_reducible rfl)
      try simp only [Act.put, List.setIfInBounds_toArray, List.set_cons_zero, List.set_cons_succ]
      refine wpAnyH_ready (rs := [6]) (by kernel_rfl) (by simp) ?_
      refine AllReadyH.cons (o := { dst := some 60, op := Op.call { callee := Callee.value (Operand.func 11), args := #[Operand.tmp 58, Operand.tmp 59], argTypes := #[24, 24] }, type := 4, pos := "law.go:125", after := #[{ on := 4, ground := Ground.data }, { on := 5, ground := Ground.data }, { on := 3, ground := Ground.chain }, { on := 3, ground := Ground.guard }], guard := some (3, true) }) rfl (fun K hK => ?_) AllReadyH.nil
      go_simp
      (go_at_call_of 11 (Value.agg #[Value.bool sx, Value.slice ax nx cx]); refine (whole_any Ix.out Iy.out).mono ?_; rintro e V1 ⟨rfl, hb⟩; have D1 : Hid (Box V1 (w.heap.size) (.bool s1) (.slice a1 n1 c1)) := D1.out.below hb D1.out.lt; have D2 : Hid (Box V1 (w.heap.size + 1) (.bool s2) (.slice a2 n2 c2)) := D2.out.below hb D2.out.lt; have Dx : Hid (Box V1 (W4.heap.size) (.bool sx) (.slice ax nx cx)) := Dx.out.below hb Dx.out.lt; have Dy : Hid (Box V1 (W6.heap.size) (.bool sx) (.slice ay ny cy)) := Dy.out.below hb Dy.out.lt; have Du : Hid (Box V1 (W8.heap.size) (.bool sm) (.slice au nu cu)) := Du.out.below hb Du.out.lt; have Dz : Hid (Box V1 (W10.heap.size) (.bool sm) (.slice az nz cz)) := Dz.out.below hb Dz.out.lt; have Dd : Hid (Box V1 (W12.heap.size) (.bool sd) (.slice ad nd cd)) := Dd.out.below hb Dd.out.lt; have J1 : Hid (Sl V1 a1 n1 c1 l1) := J1.out.below hb (Nat.le_refl _); have J2 : Hid (Sl V1 a2 n2 c2 l2) := J2.out.below hb (Nat.le_refl _); have Jd : Hid (Sl V1 ad nd cd ld) := Jd.out.below hb (Nat.le_refl _); have Ix : Hid (IntR V1 _ _ _ _) := Ix.out.below hb (Nat.le_refl _); have Iy : Hid (IntR V1 _ _ _ _) := Iy.out.below hb (Nat.le_refl _); have Iu : Hid (IntR V1 _ _ _ _) := Iu.out.below hb (Nat.le_refl _); have Iz : Hid (IntR V1 _ _ _ _) := Iz.out.below hb (Nat.le_refl _); have HBD : Hid (Below w.heap.size w V1) := HBD.out.trans (hb.mono HBD.out.size); clear kS; have kS : V1.cell? ⟨w.heap.size, 0, none⟩ = some (.bool s1) ∧ V1.cell? ⟨w.heap.size, 1, none⟩ = some (.slice a1 n1 c1) ∧ V1.cell? ⟨w.heap.size + 1, 0, none⟩ = some (.bool s2) ∧ V1.cell? ⟨w.heap.size + 1, 1, none⟩ = some (.slice a2 n2 c2) ∧ V1.cell? ⟨W4.heap.size, 0, none⟩ = some (.bool sx) ∧ V1.cell? ⟨W4.heap.size, 1, none⟩ = some (.slice ax nx cx) ∧ V1.cell? ⟨W6.heap.size, 0, none⟩ = some (.bool sx) ∧ V1.cell? ⟨W6.heap.size, 1, none⟩ = some (.slice ay ny cy) ∧ V1.cell? ⟨W8.heap.size, 0, none⟩ = some (.bool sm) ∧ V1.cell? ⟨W8.heap.size, 1, none⟩ = some (.slice au nu cu) ∧ V1.cell? ⟨W10.heap.size, 0, none⟩ = some (.bool sm) ∧ V1.cell? ⟨W10.heap.size, 1, none⟩ = some (.slice az nz cz) ∧ V1.cell? ⟨W12.heap.size, 0, none⟩ = some (.bool sd) ∧ V1.cell? ⟨W12.heap.size, 1, none⟩ = some (.slice ad nd cd) := ⟨D1.out.z0, D1.out.z1, D2.out.z0, D2.out.z1, Dx.out.z0, Dx.out.z1, Dy.out.z0, Dy.out.z1, Du.out.z0, Du.out.z1, Dz.out.z0, Dz.out.z1, Dd.out.z0, Dd.out.z1⟩; clear hb)
      go_wp2_with fail
      refine hK.out _ _ (by exact kS) (fun hHeld => ?_)
      clear hK K hHeld
      try simp only [Act.put, List.setIfInBounds_toArray, List.set_cons_zero, List.set_cons_succ]
      refine wpAnyH_take (i := 7) (oi := { dst := some 61, op := Op.pick (Operand.tmp 57) (Operand.tmp 60) (Operand.const (Value.bool false)), type := 4, pos := "law.go:125", after := #[{ on := 3, ground := Ground.data }, { on := 6, ground := Ground.data }], guard := none }) (v := ?_) rfl (by kernel_rfl) (by kernel_rfl) (by kernel_rfl) (fun _ _ _ h => h) (Or.inl ⟨by rfl, ?_⟩) (by exact kS) ?_
      rotate_left
      · intro w hSw; (try dsimp only at hSw); (go_simp <;> with_reducible rfl)
      try simp only [Act.put, List.setIfInBounds_toArray, List.set_cons_zero, List.set_cons_succ]
      refine wpAnyH_take (i := 8) (oi := { dst := some 62, op := Op.move (Operand.tmp 61), type := 4, pos := "law.go:125", after := #[{ on := 7, ground := Ground.data }, { on := 6, ground := Ground.chain }], guard := none }) (v := ?_) rfl (by kernel_rfl) (by kernel_rfl) (by kernel_rfl) (fun _ _ _ h => h) (Or.inl ⟨by rfl, ?_⟩) (by exact kS) ?_
      rotate_left
      · intro w hSw; (try dsimp only at hSw); (go_simp <;> with_reducible rfl)
      try simp only [Act.put, List.setIfInBounds_toArray, List.set_cons_zero, List.set_cons_succ]
      refine wpAnyH_take (i := 9) (oi := { dst := some 63, op := Op.move (Operand.tmp 10), type := 27, pos := "law.go:125", after := #[{ on := 8, ground := Ground.guard }], guard := some (8, true) }) (v := ?_) rfl (by kernel_rfl) (by kernel_rfl) (by kernel_rfl) (fun _ _ _ h => h) (Or.inl ⟨by rfl, ?_⟩) (by exact kS) ?_
      rotate_left
      · intro w hSw; (try dsimp only at hSw); (go_simp <;> with_reducible rfl)
      try simp only [Act.put, List.setIfInBounds_toArray, List.set_cons_zero, List.set_cons_succ]
      refine wpAnyH_take (i := 10) (oi := { dst := some 64, op := Op.move (Operand.tmp 12), type := 27, pos := "law.go:125", after := #[{ on := 8, ground := Ground.guard }], guard := some (8, true) }) (v := ?_) rfl (by kernel_rfl) (by kernel_rfl) (by kernel_rfl) (fun _ _ _ h => h) (Or.inl ⟨by rfl, ?_⟩) (by exact kS) ?_
      rotate_left
      · intro w hSw; (try dsimp only at hSw); (go_simp <;> with_reducible rfl)
      try simp only [Act.put, List.setIfInBounds_toArray, List.set_cons_zero, List.set_cons_succ]
      refine wpAnyH_take (i := 11) (oi := { dst := some 65, op := Op.binOp BinOp.eql 27 (Operand.tmp 63) (Operand.tmp 64) 27, type := 4, pos := "law.go:125", after := #[{ on := 9, ground := Ground.data }, { on := 10, ground := Ground.data }, { on := 8, ground := Ground.guard }], guard := some (8, true) }) (v := ?_) rfl (by kernel_rfl) (by kernel_rfl) (by kernel_rfl) (fun _ _ _ h => h) (Or.inl ⟨by rfl, ?_⟩) (by exact kS) ?_
      rotate_left
      · intro w hSw; (try dsimp only at hSw); (go_simp <;> with_reducible rfl)
      try simp only [Act.put, List.setIfInBounds_toArray, List.set_cons_zero, List.set_cons_succ]
      refine wpAnyH_take (i := 12) (oi := { dst := some 66, op := Op.pick (Operand.tmp 62) (Operand.tmp 65) (Operand.const (Value.bool false)), type := 4, pos := "law.go:125", after := #[{ on := 8, ground := Ground.data }, { on := 11, ground := Ground.data }], guard := none }) (v := ?_) rfl (by kernel_rfl) (by kernel_rfl) (by kernel_rfl) (fun _ _ _ h => h) (Or.inl ⟨by rfl, ?_⟩) (by exact kS) ?_
      rotate_left
      · intro w hSw; (try dsimp only at hSw); (go_simp <;> with_reducible rfl)
      try simp only [Act.put, List.setIfInBounds_toArray, List.set_cons_zero, List.set_cons_succ]
      refine wpAnyH_take (i := 13) (oi := { dst := some 67, op := Op.move (Operand.tmp 66), type := 4, pos := "law.go:125", after := #[{ on := 12, ground := Ground.data }, { on := 8, ground := Ground.chain }], guard := none }) (v := ?_) rfl (by kernel_rfl) (by kernel_rfl) (by kernel_rfl) (fun _ _ _ h => h) (Or.inl ⟨by rfl, ?_⟩) (by exact kS) ?_
      rotate_left
      · intro w hSw; (try dsimp only at hSw); (go_simp <;> with_reducible rfl)
      try simp only [Act.put, List.setIfInBounds_toArray, List.set_cons_zero, List.set_cons_succ]
      refine wpAnyH_take (i := 14) (oi := { dst := some 68, op := Op.load 24 (Operand.tmp 9), type := 24, pos := "law.go:125", after := #[{ on := 13, ground := Ground.guard }], guard := some (13, true) }) (v := ?_) rfl (by kernel_rfl) (by kernel_rfl) (by kernel_rfl) (fun _ _ _ h => h) (Or.inl ⟨by rfl, ?_⟩) (by exact kS) ?_
      rotate_left
      · intro w hSw; (try dsimp only at hSw); (go_simp <;> with_reducible rfl)
      try simp only [Act.put, List.setIfInBounds_toArray, List.set_cons_zero, List.set_cons_succ]
      refine wpAnyH_take (i := 15) (oi := { dst := some 69, op := Op.load 24 (Operand.tmp 11), type := 24, pos := "law.go:125", after := #[{ on := 13, ground := Ground.guard }], guard := some (13, true) }) (v := ?_) rfl (by kernel_rfl) (by kernel_rfl) (by kernel_rfl) (fun _ _ _ h => h) (Or.inl ⟨by rfl, ?_⟩) (by exact kS) ?_
      rotate_left
      · intro w hSw; (try dsimp only at hSw); (go_simp <;> with_reducible rfl)
      try simp only [Act.put, List.setIfInBounds_toArray, List.set_cons_zero, List.set_cons_succ]
      refine wpAnyH_ready (rs := [16]) (by kernel_rfl) (by simp) ?_
      refine AllReadyH.cons (o := { dst := some 70, op := Op.call { callee := Callee.value (Operand.func 11), args := #[Operand.tmp 68, Operand.tmp 69], argTypes := #[24, 24] }, type := 4, pos := "law.go:125", after := #[{ on := 14, ground := Ground.data }, { on := 15, ground := Ground.data }, { on := 13, ground := Ground.chain }, { on := 13, ground := Ground.guard }], guard := some (13, true) }) rfl (fun K hK => ?_) AllReadyH.nil
      go_simp
      (go_at_call_of 11 (Value.agg #[Value.bool sm, Value.slice au nu cu]); refine (whole_any Iu.out Iz.out).mono ?_; rintro e V2 ⟨rfl, hb⟩; have D1 : Hid (Box V2 (w.heap.size) (.bool s1) (.slice a1 n1 c1)) := D1.out.below hb D1.out.lt; have D2 : Hid (Box V2 (w.heap.size + 1) (.bool s2) (.slice a2 n2 c2)) := D2.out.below hb D2.out.lt; have Dx : Hid (Box V2 (W4.heap.size) (.bool sx) (.slice ax nx cx)) := Dx.out.below hb Dx.out.lt; have Dy : Hid (Box V2 (W6.heap.size) (.bool sx) (.slice ay ny cy)) := Dy.out.below hb Dy.out.lt; have Du : Hid (Box V2 (W8.heap.size) (.bool sm) (.slice au nu cu)) := Du.out.below hb Du.out.lt; have Dz : Hid (Box V2 (W10.heap.size) (.bool sm) (.slice az nz cz)) := Dz.out.below hb Dz.out.lt; have Dd : Hid (Box V2 (W12.heap.size) (.bool sd) (.slice ad nd cd)) := Dd.out.below hb Dd.out.lt; have J1 : Hid (Sl V2 a1 n1 c1 l1) := J1.out.below hb (Nat.le_refl _); have J2 : Hid (Sl V2 a2 n2 c2 l2) := J2.out.below hb (Nat.le_refl _); have Jd : Hid (Sl V2 ad nd cd ld) := Jd.out.below hb (Nat.le_refl _); have Ix : Hid (IntR V2 _ _ _ _) := Ix.out.below hb (Nat.le_refl _); have Iy : Hid (IntR V2 _ _ _ _) := Iy.out.below hb (Nat.le_refl _); have Iu : Hid (IntR V2 _ _ _ _) := Iu.out.below hb (Nat.le_refl _); have Iz : Hid (IntR V2 _ _ _ _) := Iz.out.below hb (Nat.le_refl _); have HBD : Hid (Below w.heap.size w V2) := HBD.out.trans (hb.mono HBD.out.size); clear kS; have kS : V2.cell? ⟨w.heap.size, 0, none⟩ = some (.bool s1) ∧ V2.cell? ⟨w.heap.size, 1, none⟩ = some (.slice a1 n1 c1) ∧ V2.cell? ⟨w.heap.size + 1, 0, none⟩ = some (.bool s2) ∧ V2.cell? ⟨w.heap.size + 1, 1, none⟩ = some (.slice a2 n2 c2) ∧ V2.cell? ⟨W4.heap.size, 0, none⟩ = some (.bool sx) ∧ V2.cell? ⟨W4.heap.size, 1, none⟩ = some (.slice ax nx cx) ∧ V2.cell? ⟨W6.heap.size, 0, none⟩ = some (.bool sx) ∧ V2.cell? ⟨W6.heap.size, 1, none⟩ = some (.slice ay ny cy) ∧ V2.cell? ⟨W8.heap.size, 0, none⟩ = some (.bool sm) ∧ V2.cell? ⟨W8.heap.size, 1, none⟩ = some (.slice au nu cu) ∧ V2.cell? ⟨W10.heap.size, 0, none⟩ = some (.bool sm) ∧ V2.cell? ⟨W10.heap.size, 1, none⟩ = some (.slice az nz cz) ∧ V2.cell? ⟨W12.heap.size, 0, none⟩ = some (.bool sd) ∧ V2.cell? ⟨W12.heap.size, 1, none⟩ = some (.slice ad nd cd) := ⟨D1.out.z0, D1.out.z1, D2.out.z0, D2.out.z1, Dx.out.z0, Dx.out.z1, Dy.out.z0, Dy.out.z1, Du.out.z0, Du.out.z1, Dz.out.z0, Dz.out.z1, Dd.out.z0, Dd.out.z1⟩; clear hb)
      go_wp2_with fail
      refine hK.out _ _ (by exact kS) (fun hHeld => ?_)
      clear hK K hHeld
      try simp only [Act.put, List.setIfInBounds_toArray, List.set_cons_zero, List.set_cons_succ]
      refine wpAnyH_take (i := 17) (oi := { dst := some 71, op := Op.pick (Operand.tmp 67) (Operand.tmp 70) (Operand.const (Value.bool false)), type := 4, pos := "law.go:125", after := #[{ on := 13, ground := Ground.data }, { on := 16, ground := Ground.data }], guard := none }) (v := ?_) rfl (by kernel_rfl) (by kernel_rfl) (by kernel_rfl) (fun _ _ _ h => h) (Or.inl ⟨by rfl, ?_⟩) (by exact kS) ?_
      rotate_left
      · intro w hSw; (try dsimp only at hSw); (go_simp <;> with_reducible rfl)
      try simp only [Act.put, List.setIfInBounds_toArray, List.set_cons_zero, List.set_cons_succ]
      refine wpAnyH_take (i := 18) (oi := { dst := some 72, op := Op.move (Operand.tmp 71), type := 4, pos := "law.go:125", after := #[{ on := 17, ground := Ground.data }, { on := 16, ground := Ground.chain }], guard := none }) (v := ?_) rfl (by kernel_rfl) (by kernel_rfl) (by kernel_rfl) (fun _ _ _ h => h) (Or.inl ⟨by rfl, ?_⟩) (by exact kS) ?_
      rotate_left
      · intro w hSw; (try dsimp only at hSw); (go_simp <;> with_reducible rfl)
      try simp only [Act.put, List.setIfInBounds_toArray, List.set_cons_zero, List.set_cons_succ]
      refine wpAnyH_take (i := 19) (oi := { dst := some 73, op := Op.move (Operand.tmp 14), type := 27, pos := "law.go:125", after := #[{ on := 18, ground := Ground.guard }], guard := some (18, true) }) (v := ?_) rfl (by kernel_rfl) (by kernel_rfl) (by kernel_rfl) (fun _ _ _ h => h) (Or.inl ⟨by rfl, ?_⟩) (by exact kS) ?_
      rotate_left
      · intro w hSw; (try dsimp only at hSw); (go_simp <;> with_reducible rfl)
      try simp only [Act.put, List.setIfInBounds_toArray, List.set_cons_zero, List.set_cons_succ]
      refine wpAnyH_take (i := 20) (oi := { dst := some 74, op := Op.binOp BinOp.neq 27 (Operand.tmp 73) (Operand.const (Value.int IntKind.i64 0)) 27, type := 4, pos := "law.go:125", after := #[{ on := 19, ground := Ground.data }, { on := 18, ground := Ground.guard }], guard := some (18, true) }) (v := ?_) rfl (by kernel_rfl) (by kernel_rfl) (by kernel_rfl) (fun _ _ _ h => h) (Or.inl ⟨by rfl, ?_⟩) (by exact kS) ?_
      rotate_left
      · intro w hSw; (try dsimp only at hSw); (go_simp <;> with_reducible rfl)
      try simp only [Act.put, List.setIfInBounds_toArray, List.set_cons_zero, List.set_cons_succ]
      refine wpAnyH_take (i := 21) (oi := { dst := some 75, op := Op.move (Operand.tmp 74), type := 4, pos := "law.go:125", after := #[{ on := 20, ground := Ground.data }, { on := 18, ground := Ground.chain }, { on := 18, ground := Ground.guard }], guard := some (18, true) }) (v := ?_) rfl (by kernel_rfl) (by kernel_rfl) (by kernel_rfl) (fun _ _ _ h => h) (Or.inl ⟨by rfl, ?_⟩) (by exact kS) ?_
      rotate_left
      · intro w hSw; (try dsimp only at hSw); (go_simp <;> with_reducible rfl)
      try simp only [Act.put, List.setIfInBounds_toArray, List.set_cons_zero, List.set_cons_succ]
      refine wpAnyH_take (i := 22) (oi := { dst := some 76, op := Op.load 24 (Operand.tmp 13), type := 24, pos := "law.go:125", after := #[{ on := 21, ground := Ground.guard }], guard := some (21, false) }) (v := undef) rfl (by kernel_rfl) (by kernel_rfl) (by kernel_rfl) (fun _ _ _ h => h) (Or.inr ⟨by rfl, rfl⟩) (by exact kS) ?_
      try simp only [Act.put, List.setIfInBounds_toArray, List.set_cons_zero, List.set_cons_succ]
      refine wpAnyH_ready (rs := [23]) (by kernel_rfl) (by simp) ?_
      refine AllReadyH.cons (o := { dst := some 77, op := Op.call { callee := Callee.value (Operand.func 13), args := #[Operand.const (Value.int IntKind.i64 0)], argTypes := #[3] }, type := 24, pos := "law.go:125", after := #[{ on := 21, ground := Ground.chain }, { on := 21, ground := Ground.guard }], guard := some (21, false) }) rfl (fun K hK => ?_) AllReadyH.nil
      go_simp
      refine hK.out _ _ (by exact kS) (fun hHeld => ?_)
      clear hK K hHeld
      try simp only [Act.put, List.setIfInBounds_toArray, List.set_cons_zero, List.set_cons_succ]
      refine wpAnyH_ready (rs := [24]) (by kernel_rfl) (by simp) ?_
      refine AllReadyH.cons (o := { dst := some 78, op := Op.call { callee := Callee.value (Operand.func 12), args := #[Operand.tmp 76, Operand.tmp 77], argTypes := #[24, 24] }, type := 3, pos := "law.go:125", after := #[{ on := 22, ground := Ground.data }, { on := 23, ground := Ground.data }, { on := 23, ground := Ground.chain }, { on := 21, ground := Ground.guard }], guard := some (21, false) }) rfl (fun K hK => ?_) AllReadyH.nil
      go_simp
      refine hK.out _ _ (by exact kS) (fun hHeld => ?_)
      clear hK K hHeld
      try simp only [Act.put, List.setIfInBounds_toArray, List.set_cons_zero, List.set_cons_succ]
      refine wpAnyH_take (i := 25) (oi := { dst := some 79, op := Op.binOp BinOp.eql 3 (Operand.tmp 78) (Operand.const (Value.int IntKind.i64 0)) 3, type := 4, pos := "law.go:125", after := #[{ on := 24, ground := Ground.data }, { on := 21, ground := Ground.guard }], guard := some (21, false) }) (v := undef) rfl (by kernel_rfl) (by kernel_rfl) (by kernel_rfl) (fun _ _ _ h => h) (Or.inr ⟨by rfl, rfl⟩) (by exact kS) ?_
      try simp only [Act.put, List.setIfInBounds_toArray, List.set_cons_zero, List.set_cons_succ]
      refine wpAnyH_take (i := 26) (oi := { dst := some 80, op := Op.pick (Operand.tmp 75) (Operand.const (Value.bool true)) (Operand.tmp 79), type := 4, pos := "law.go:125", after := #[{ on := 21, ground := Ground.data }, { on := 25, ground := Ground.data }, { on := 18, ground := Ground.guard }], guard := some (18, true) }) (v := ?_) rfl (by kernel_rfl) (by kernel_rfl) (by kernel_rfl) (fun _ _ _ h => h) (Or.inl ⟨by rfl, ?_⟩) (by exact kS) ?_
      rotate_left
      · intro w hSw; (try dsimp only at hSw); (go_simp <;> with_reducible rfl)
      try simp only [Act.put, List.setIfInBounds_toArray, List.set_cons_zero, List.set_cons_succ]
      refine wpAnyH_take (i := 27) (oi := { dst := some 81, op := Op.pick (Operand.tmp 72) (Operand.tmp 80) (Operand.const (Value.bool false)), type := 4, pos := "law.go:125", after := #[{ on := 18, ground := Ground.data }, { on := 26, ground := Ground.data }], guard := none }) (v := ?_) rfl (by kernel_rfl) (by kernel_rfl) (by kernel_rfl) (fun _ _ _ h => h) (Or.inl ⟨by rfl, ?_⟩) (by exact kS) ?_
      rotate_left
      · intro w hSw; (try dsimp only at hSw); (go_simp <;> with_reducible rfl)
      try simp only [Act.put, List.setIfInBounds_toArray, List.set_cons_zero, List.set_cons_succ]
      refine wpAnyH_take (i := 28) (oi := { dst := some 82, op := Op.move (Operand.tmp 81), type := 4, pos := "law.go:125", after := #[{ on := 27, ground := Ground.data }, { on := 24, ground := Ground.chain }], guard := none }) (v := ?_) rfl (by kernel_rfl) (by kernel_rfl) (by kernel_rfl) (fun _ _ _ h => h) (Or.inl ⟨by rfl, ?_⟩) (by exact kS) ?_
      rotate_left
      · intro w hSw; (try dsimp only at hSw); (go_simp <;> with_reducible rfl)
      try simp only [Act.put, List.setIfInBounds_toArray, List.set_cons_zero, List.set_cons_succ]
      refine wpAnyH_take (i := 29) (oi := { dst := some 83, op := Op.load 24 (Operand.tmp 2), type := 24, pos := "law.go:125", after := #[{ on := 28, ground := Ground.guard }], guard := some (28, true) }) (v := ?_) rfl (by kernel_rfl) (by kernel_rfl) (by kernel_rfl) (fun _ _ _ h => h) (Or.inl ⟨by rfl, ?_⟩) (by exact kS) ?_
      rotate_left
      · intro w hSw; (try dsimp only at hSw); (go_simp <;> with_reducible rfl)
      try simp only [Act.put, List.setIfInBounds_toArray, List.set_cons_zero, List.set_cons_succ]
      refine wpAnyH_take (i := 30) (oi := { dst := some 84, op := Op.load 24 (Operand.tmp 3), type := 24, pos := "law.go:125", after := #[{ on := 28, ground := Ground.guard }], guard := some (28, true) }) (v := ?_) rfl (by kernel_rfl) (by kernel_rfl) (by kernel_rfl) (fun _ _ _ h => h) (Or.inl ⟨by rfl, ?_⟩) (by exact kS) ?_
      rotate_left
      · intro w hSw; (try dsimp only at hSw); (go_simp <;> with_reducible rfl)
      try simp only [Act.put, List.setIfInBounds_toArray, List.set_cons_zero, List.set_cons_succ]
      refine wpAnyH_take (i := 32) (oi := { dst := some 86, op := Op.load 24 (Operand.tmp 3), type := 24, pos := "law.go:125", after := #[{ on := 28, ground := Ground.guard }], guard := some (28, true) }) (v := ?_) rfl (by kernel_rfl) (by kernel_rfl) (by kernel_rfl) (fun _ _ _ h => h) (Or.inl ⟨by rfl, ?_⟩) (by exact kS) ?_
      rotate_left
      · intro w hSw; (try dsimp only at hSw); (go_simp <;> with_reducible rfl)
      try simp only [Act.put, List.setIfInBounds_toArray, List.set_cons_zero, List.set_cons_succ]
      refine wpAnyH_take (i := 33) (oi := { dst := some 87, op := Op.load 24 (Operand.tmp 2), type := 24, pos := "law.go:125", after := #[{ on := 28, ground := Ground.guard }], guard := some (28, true) }) (v := ?_) rfl (by kernel_rfl) (by kernel_rfl) (by kernel_rfl) (fun _ _ _ h => h) (Or.inl ⟨by rfl, ?_⟩) (by exact kS) ?_
      rotate_left
      · intro w hSw; (try dsimp only at hSw); (go_simp <;> with_reducible rfl)
      try simp only [Act.put, List.setIfInBounds_toArray, List.set_cons_zero, List.set_cons_succ]
      refine wpAnyH_ready (rs := [31]) (by kernel_rfl) (by simp) ?_
      refine AllReadyH.cons (o := { dst := some 85, op := Op.call { callee := Callee.value (Operand.func 12), args := #[Operand.tmp 83, Operand.tmp 84], argTypes := #[24, 24] }, type := 3, pos := "law.go:125", after := #[{ on := 29, ground := Ground.data }, { on := 30, ground := Ground.data }, { on := 28, ground := Ground.chain }, { on := 28, ground := Ground.guard }], guard := some (28, true) }) rfl (fun K hK => ?_) AllReadyH.nil
      go_simp
      (go_at_call_of 12 (Value.agg #[Value.bool s1, Value.slice a1 n1 c1]); refine (compare_any s1 s2 a1 n1 c1 l1 a2 n2 c2 l2 _ (by exact J1.out) (by exact J2.out) (by omega) (by omega)).mono ?_; rintro e V3 ⟨rfl, hb⟩; rw [HAB.out]; have D1 : Hid (Box V3 (w.heap.size) (.bool s1) (.slice a1 n1 c1)) := D1.out.below hb D1.out.lt; have D2 : Hid (Box V3 (w.heap.size + 1) (.bool s2) (.slice a2 n2 c2)) := D2.out.below hb D2.out.lt; have Dx : Hid (Box V3 (W4.heap.size) (.bool sx) (.slice ax nx cx)) := Dx.out.below hb Dx.out.lt; have Dy : Hid (Box V3 (W6.heap.size) (.bool sx) (.slice ay ny cy)) := Dy.out.below hb Dy.out.lt; have Du : Hid (Box V3 (W8.heap.size) (.bool sm) (.slice au nu cu)) := Du.out.below hb Du.out.lt; have Dz : Hid (Box V3 (W10.heap.size) (.bool sm) (.slice az nz cz)) := Dz.out.below hb Dz.out.lt; have Dd : Hid (Box V3 (W12.heap.size) (.bool sd) (.slice ad nd cd)) := Dd.out.below hb Dd.out.lt; have J1 : Hid (Sl V3 a1 n1 c1 l1) := J1.out.below hb (Nat.le_refl _); have J2 : Hid (Sl V3 a2 n2 c2 l2) := J2.out.below hb (Nat.le_refl _); have Jd : Hid (Sl V3 ad nd cd ld) := Jd.out.below hb (Nat.le_refl _); have Ix : Hid (IntR V3 _ _ _ _) := Ix.out.below hb (Nat.le_refl _); have Iy : Hid (IntR V3 _ _ _ _) := Iy.out.below hb (Nat.le_refl _); have Iu : Hid (IntR V3 _ _ _ _) := Iu.out.below hb (Nat.le_refl _); have Iz : Hid (IntR V3 _ _ _ _) := Iz.out.below hb (Nat.le_refl _); have HBD : Hid (Below w.heap.size w V3) := HBD.out.trans (hb.mono HBD.out.size); clear kS; have kS : V3.cell? ⟨w.heap.size, 0, none⟩ = some (.bool s1) ∧ V3.cell? ⟨w.heap.size, 1, none⟩ = some (.slice a1 n1 c1) ∧ V3.cell? ⟨w.heap.size + 1, 0, none⟩ = some (.bool s2) ∧ V3.cell? ⟨w.heap.size + 1, 1, none⟩ = some (.slice a2 n2 c2) ∧ V3.cell? ⟨W4.heap.size, 0, none⟩ = some (.bool sx) ∧ V3.cell? ⟨W4.heap.size, 1, none⟩ = some (.slice ax nx cx) ∧ V3.cell? ⟨W6.heap.size, 0, none⟩ = some (.bool sx) ∧ V3.cell? ⟨W6.heap.size, 1, none⟩ = some (.slice ay ny cy) ∧ V3.cell? ⟨W8.heap.size, 0, none⟩ = some (.bool sm) ∧ V3.cell? ⟨W8.heap.size, 1, none⟩ = some (.slice au nu cu) ∧ V3.cell? ⟨W10.heap.size, 0, none⟩ = some (.bool sm) ∧ V3.cell? ⟨W10.heap.size, 1, none⟩ = some (.slice az nz cz) ∧ V3.cell? ⟨W12.heap.size, 0, none⟩ = some (.bool sd) ∧ V3.cell? ⟨W12.heap.size, 1, none⟩ = some (.slice ad nd cd) := ⟨D1.out.z0, D1.out.z1, D2.out.z0, D2.out.z1, Dx.out.z0, Dx.out.z1, Dy.out.z0, Dy.out.z1, Du.out.z0, Du.out.z1, Dz.out.z0, Dz.out.z1, Dd.out.z0, Dd.out.z1⟩; clear hb)
      go_wp2_with fail
      refine hK.out _ _ (by exact kS) (fun hHeld => ?_)
      clear hK K hHeld
      try simp only [Act.put, List.setIfInBounds_toArray, List.set_cons_zero, List.set_cons_succ]
      refine wpAnyH_ready (rs := [34]) (by kernel_rfl) (by simp) ?_
      refine AllReadyH.cons (o := { dst := some 88, op := Op.call { callee := Callee.value (Operand.func 12), args := #[Operand.tmp 86, Operand.tmp 87], argTypes := #[24, 24] }, type := 3, pos := "law.go:125", after := #[{ on := 32, ground := Ground.data }, { on := 33, ground := Ground.data }, { on := 31, ground := Ground.chain }, { on := 28, ground := Ground.guard }], guard := some (28, true) }) rfl (fun K hK => ?_) AllReadyH.nil
      go_simp
      (go_at_call_of 12 (Value.agg #[Value.bool s2, Value.slice a2 n2 c2]); refine (compare_any s2 s1 a2 n2 c2 l2 a1 n1 c1 l1 _ (by exact J2.out) (by exact J1.out) (by omega) (by omega)).mono ?_; rintro e V4 ⟨rfl, hb⟩; rw [HBA.out]; have D1 : Hid (Box V4 (w.heap.size) (.bool s1) (.slice a1 n1 c1)) := D1.out.below hb D1.out.lt; have D2 : Hid (Box V4 (w.heap.size + 1) (.bool s2) (.slice a2 n2 c2)) := D2.out.below hb D2.out.lt; have Dx : Hid (Box V4 (W4.heap.size) (.bool sx) (.slice ax nx cx)) := Dx.out.below hb Dx.out.lt; have Dy : Hid (Box V4 (W6.heap.size) (.bool sx) (.slice ay ny cy)) := Dy.out.below hb Dy.out.lt; have Du : Hid (Box V4 (W8.heap.size) (.bool sm) (.slice au nu cu)) := Du.out.below hb Du.out.lt; have Dz : Hid (Box V4 (W10.heap.size) (.bool sm) (.slice az nz cz)) := Dz.out.below hb Dz.out.lt; have Dd : Hid (Box V4 (W12.heap.size) (.bool sd) (.slice ad nd cd)) := Dd.out.below hb Dd.out.lt; have J1 : Hid (Sl V4 a1 n1 c1 l1) := J1.out.below hb (Nat.le_refl _); have J2 : Hid (Sl V4 a2 n2 c2 l2) := J2.out.below hb (Nat.le_refl _); have Jd : Hid (Sl V4 ad nd cd ld) := Jd.out.below hb (Nat.le_refl _); have Ix : Hid (IntR V4 _ _ _ _) := Ix.out.below hb (Nat.le_refl _); have Iy : Hid (IntR V4 _ _ _ _) := Iy.out.below hb (Nat.le_refl _); have Iu : Hid (IntR V4 _ _ _ _) := Iu.out.below hb (Nat.le_refl _); have Iz : Hid (IntR V4 _ _ _ _) := Iz.out.below hb (Nat.le_refl _); have HBD : Hid (Below w.heap.size w V4) := HBD.out.trans (hb.mono HBD.out.size); clear kS; have kS : V4.cell? ⟨w.heap.size, 0, none⟩ = some (.bool s1) ∧ V4.cell? ⟨w.heap.size, 1, none⟩ = some (.slice a1 n1 c1) ∧ V4.cell? ⟨w.heap.size + 1, 0, none⟩ = some (.bool s2) ∧ V4.cell? ⟨w.heap.size + 1, 1, none⟩ = some (.slice a2 n2 c2) ∧ V4.cell? ⟨W4.heap.size, 0, none⟩ = some (.bool sx) ∧ V4.cell? ⟨W4.heap.size, 1, none⟩ = some (.slice ax nx cx) ∧ V4.cell? ⟨W6.heap.size, 0, none⟩ = some (.bool sx) ∧ V4.cell? ⟨W6.heap.size, 1, none⟩ = some (.slice ay ny cy) ∧ V4.cell? ⟨W8.heap.size, 0, none⟩ = some (.bool sm) ∧ V4.cell? ⟨W8.heap.size, 1, none⟩ = some (.slice au nu cu) ∧ V4.cell? ⟨W10.heap.size, 0, none⟩ = some (.bool sm) ∧ V4.cell? ⟨W10.heap.size, 1, none⟩ = some (.slice az nz cz) ∧ V4.cell? ⟨W12.heap.size, 0, none⟩ = some (.bool sd) ∧ V4.cell? ⟨W12.heap.size, 1, none⟩ = some (.slice ad nd cd) := ⟨D1.out.z0, D1.out.z1, D2.out.z0, D2.out.z1, Dx.out.z0, Dx.out.z1, Dy.out.z0, Dy.out.z1, Du.out.z0, Du.out.z1, Dz.out.z0, Dz.out.z1, Dd.out.z0, Dd.out.z1⟩; clear hb)
      go_wp2_with fail
      refine hK.out _ _ (by exact kS) (fun hHeld => ?_)
      clear hK K hHeld
      try simp only [Act.put, List.setIfInBounds_toArray, List.set_cons_zero, List.set_cons_succ]
      refine wpAnyH_take (i := 35) (oi := { dst := some 89, op := Op.unOp UnOp.neg 3 (Operand.tmp 88), type := 3, pos := "law.go:125", after := #[{ on := 34, ground := Ground.data }, { on := 28, ground := Ground.guard }], guard := some (28, true) }) (v := ?_) rfl (by kernel_rfl) (by kernel_rfl) (by kernel_rfl) (fun _ _ _ h => h) (Or.inl ⟨by rfl, ?_⟩) (by exact kS) ?_
      rotate_left
      · intro w hSw; (try dsimp only at hSw); (go_simp <;> with_reducible rfl)
      try simp only [Act.put, List.setIfInBounds_toArray, List.set_cons_zero, List.set_cons_succ]
      refine wpAnyH_take (i := 36) (oi := { dst := some 90, op := Op.binOp BinOp.eql 3 (Operand.tmp 85) (Operand.tmp 89) 3, type := 4, pos := "law.go:125", after := #[{ on := 31, ground := Ground.data }, { on := 35, ground := Ground.data }, { on := 28, ground := Ground.guard }], guard := some (28, true) }) (v := ?_) rfl (by kernel_rfl) (by kernel_rfl) (by kernel_rfl) (fun _ _ _ h => h) (Or.inl ⟨by rfl, ?_⟩) (by exact kS) ?_
      rotate_left
      · intro w hSw; (try dsimp only at hSw); (go_simp <;> with_reducible rfl)
      try simp only [Act.put, List.setIfInBounds_toArray, List.set_cons_zero, List.set_cons_succ]
      refine wpAnyH_take (i := 37) (oi := { dst := some 91, op := Op.pick (Operand.tmp 82) (Operand.tmp 90) (Operand.const (Value.bool false)), type := 4, pos := "law.go:125", after := #[{ on := 28, ground := Ground.data }, { on := 36, ground := Ground.data }], guard := none }) (v := ?_) rfl (by kernel_rfl) (by kernel_rfl) (by kernel_rfl) (fun _ _ _ h => h) (Or.inl ⟨by rfl, ?_⟩) (by exact kS) ?_
      rotate_left
      · intro w hSw; (try dsimp only at hSw); (go_simp <;> with_reducible rfl)
      try simp only [Act.put, List.setIfInBounds_toArray, List.set_cons_zero, List.set_cons_succ]
      refine wpAnyH_take (i := 38) (oi := { dst := some 92, op := Op.move (Operand.tmp 91), type := 4, pos := "law.go:125", after := #[{ on := 37, ground := Ground.data }, { on := 34, ground := Ground.chain }], guard := none }) (v := ?_) rfl (by kernel_rfl) (by kernel_rfl) (by kernel_rfl) (fun _ _ _ h => h) (Or.inl ⟨by rfl, ?_⟩) (by exact kS) ?_
      rotate_left
      · intro w hSw; (try dsimp only at hSw); (go_simp <;> with_reducible rfl)
      try simp only [Act.put, List.setIfInBounds_toArray, List.set_cons_zero, List.set_cons_succ]
      refine wpAnyH_ready (rs := [39]) (by kernel_rfl) (by simp) ?_
      refine AllReadyH.cons (o := { dst := some 93, op := Op.call { callee := Callee.value (Operand.func 7), args := #[], argTypes := #[] }, type := 4, pos := "law.go:125", after := #[{ on := 38, ground := Ground.chain }, { on := 38, ground := Ground.guard }], guard := some (38, true) }) rfl (fun K hK => ?_) AllReadyH.nil
      go_simp
      (go_at_call 7; refine (awake_any _).mono ?_; rintro e V5 ⟨rfl, hb⟩; have D1 : Hid (Box V5 (w.heap.size) (.bool s1) (.slice a1 n1 c1)) := D1.out.below hb D1.out.lt; have D2 : Hid (Box V5 (w.heap.size + 1) (.bool s2) (.slice a2 n2 c2)) := D2.out.below hb D2.out.lt; have Dx : Hid (Box V5 (W4.heap.size) (.bool sx) (.slice ax nx cx)) := Dx.out.below hb Dx.out.lt; have Dy : Hid (Box V5 (W6.heap.size) (.bool sx) (.slice ay ny cy)) := Dy.out.below hb Dy.out.lt; have Du : Hid (Box V5 (W8.heap.size) (.bool sm) (.slice au nu cu)) := Du.out.below hb Du.out.lt; have Dz : Hid (Box V5 (W10.heap.size) (.bool sm) (.slice az nz cz)) := Dz.out.below hb Dz.out.lt; have Dd : Hid (Box V5 (W12.heap.size) (.bool sd) (.slice ad nd cd)) := Dd.out.below hb Dd.out.lt; have J1 : Hid (Sl V5 a1 n1 c1 l1) := J1.out.below hb (Nat.le_refl _); have J2 : Hid (Sl V5 a2 n2 c2 l2) := J2.out.below hb (Nat.le_refl _); have Jd : Hid (Sl V5 ad nd cd ld) := Jd.out.below hb (Nat.le_refl _); have Ix : Hid (IntR V5 _ _ _ _) := Ix.out.below hb (Nat.le_refl _); have Iy : Hid (IntR V5 _ _ _ _) := Iy.out.below hb (Nat.le_refl _); have Iu : Hid (IntR V5 _ _ _ _) := Iu.out.below hb (Nat.le_refl _); have Iz : Hid (IntR V5 _ _ _ _) := Iz.out.below hb (Nat.le_refl _); have HBD : Hid (Below w.heap.size w V5) := HBD.out.trans (hb.mono HBD.out.size); clear kS; have kS : V5.cell? ⟨w.heap.size, 0, none⟩ = some (.bool s1) ∧ V5.cell? ⟨w.heap.size, 1, none⟩ = some (.slice a1 n1 c1) ∧ V5.cell? ⟨w.heap.size + 1, 0, none⟩ = some (.bool s2) ∧ V5.cell? ⟨w.heap.size + 1, 1, none⟩ = some (.slice a2 n2 c2) ∧ V5.cell? ⟨W4.heap.size, 0, none⟩ = some (.bool sx) ∧ V5.cell? ⟨W4.heap.size, 1, none⟩ = some (.slice ax nx cx) ∧ V5.cell? ⟨W6.heap.size, 0, none⟩ = some (.bool sx) ∧ V5.cell? ⟨W6.heap.size, 1, none⟩ = some (.slice ay ny cy) ∧ V5.cell? ⟨W8.heap.size, 0, none⟩ = some (.bool sm) ∧ V5.cell? ⟨W8.heap.size, 1, none⟩ = some (.slice au nu cu) ∧ V5.cell? ⟨W10.heap.size, 0, none⟩ = some (.bool sm) ∧ V5.cell? ⟨W10.heap.size, 1, none⟩ = some (.slice az nz cz) ∧ V5.cell? ⟨W12.heap.size, 0, none⟩ = some (.bool sd) ∧ V5.cell? ⟨W12.heap.size, 1, none⟩ = some (.slice ad nd cd) := ⟨D1.out.z0, D1.out.z1, D2.out.z0, D2.out.z1, Dx.out.z0, Dx.out.z1, Dy.out.z0, Dy.out.z1, Du.out.z0, Du.out.z1, Dz.out.z0, Dz.out.z1, Dd.out.z0, Dd.out.z1⟩; clear hb)
      go_wp2_with fail
      refine hK.out _ _ (by exact kS) (fun hHeld => ?_)
      clear hK K hHeld
      try simp only [Act.put, List.setIfInBounds_toArray, List.set_cons_zero, List.set_cons_succ]
      refine wpAnyH_take (i := 40) (oi := { dst := some 94, op := Op.pick (Operand.tmp 92) (Operand.tmp 93) (Operand.const (Value.bool false)), type := 4, pos := "law.go:125", after := #[{ on := 38, ground := Ground.data }, { on := 39, ground := Ground.data }], guard := none }) (v := ?_) rfl (by kernel_rfl) (by kernel_rfl) (by kernel_rfl) (fun _ _ _ h => h) (Or.inl ⟨by rfl, ?_⟩) (by exact kS) ?_
      rotate_left
      · intro w hSw; (try dsimp only at hSw); (go_simp <;> with_reducible rfl)
      try simp only [Act.put, List.setIfInBounds_toArray, List.set_cons_zero, List.set_cons_succ]
      refine wpAnyH_take (i := 41) (oi := { dst := some 4, op := Op.assign (Operand.tmp 94), type := 4, pos := "law.go:125", after := #[{ on := 40, ground := Ground.data }, { on := 39, ground := Ground.chain }, { on := 0, ground := Ground.phase }, { on := 1, ground := Ground.phase }, { on := 2, ground := Ground.phase }, { on := 3, ground := Ground.phase }, { on := 4, ground := Ground.phase }, { on := 5, ground := Ground.phase }, { on := 6, ground := Ground.phase }, { on := 7, ground := Ground.phase }, { on := 8, ground := Ground.phase }, { on := 9, ground := Ground.phase }, { on := 10, ground := Ground.phase }, { on := 11, ground := Ground.phase }, { on := 12, ground := Ground.phase }, { on := 13, ground := Ground.phase }, { on := 14, ground := Ground.phase }, { on := 15, ground := Ground.phase }, { on := 16, ground := Ground.phase }, { on := 17, ground := Ground.phase }, { on := 18, ground := Ground.phase }, { on := 19, ground := Ground.phase }, { on := 20, ground := Ground.phase }, { on := 21, ground := Ground.phase }, { on := 22, ground := Ground.phase }, { on := 23, ground := Ground.phase }, { on := 24, ground := Ground.phase }, { on := 25, ground := Ground.phase }, { on := 26, ground := Ground.phase }, { on := 27, ground := Ground.phase }, { on := 28, ground := Ground.phase }, { on := 29, ground := Ground.phase }, { on := 30, ground := Ground.phase }, { on := 31, ground := Ground.phase }, { on := 32, ground := Ground.phase }, { on := 33, ground := Ground.phase }, { on := 34, ground := Ground.phase }, { on := 35, ground := Ground.phase }, { on := 36, ground := Ground.phase }, { on := 37, ground := Ground.phase }, { on := 38, ground := Ground.phase }, { on := 39, ground := Ground.phase }, { on := 40, ground := Ground.phase }], guard := none }) (v := ?_) rfl (by kernel_rfl) (by kernel_rfl) (by kernel_rfl) (fun _ _ _ h => h) (Or.inl ⟨by rfl, ?_⟩) (by exact kS) ?_
      rotate_left
      · intro w hSw; (try dsimp only at hSw); (go_simp <;> with_reducible rfl)
      try simp only [Act.put, List.setIfInBounds_toArray, List.set_cons_zero, List.set_cons_succ]
      refine wpAnyH_done (by kernel_rfl) ?_ _
      go_wp2_with fail
      go_ret
      exact ⟨rfl, HBD.out⟩
    · refine wp_region_held_drew (S := fun w' => w'.cell? ⟨w.heap.size, 0, none⟩ = some (.bool s1) ∧ w'.cell? ⟨w.heap.size, 1, none⟩ = some (.slice a1 n1 c1) ∧ w'.cell? ⟨w.heap.size + 1, 0, none⟩ = some (.bool s2) ∧ w'.cell? ⟨w.heap.size + 1, 1, none⟩ = some (.slice a2 n2 c2) ∧ w'.cell? ⟨W4.heap.size, 0, none⟩ = some (.bool sx) ∧ w'.cell? ⟨W4.heap.size, 1, none⟩ = some (.slice ax nx cx) ∧ w'.cell? ⟨W6.heap.size, 0, none⟩ = some (.bool sx) ∧ w'.cell? ⟨W6.heap.size, 1, none⟩ = some (.slice ay ny cy) ∧ w'.cell? ⟨W8.heap.size, 0, none⟩ = some (.bool sm) ∧ w'.cell? ⟨W8.heap.size, 1, none⟩ = some (.slice au nu cu) ∧ w'.cell? ⟨W10.heap.size, 0, none⟩ = some (.bool sm) ∧ w'.cell? ⟨W10.heap.size, 1, none⟩ = some (.slice az nz cz) ∧ w'.cell? ⟨W12.heap.size, 0, none⟩ = some (.bool sd) ∧ w'.cell? ⟨W12.heap.size, 1, none⟩ = some (.slice ad nd cd)) (by kernel_rfl) (by exact kS) (fun hHeld => ?_)
      clear hHeld
      refine wpAnyH_take (i := 0) (oi := { dst := some 54, op := Op.move (Operand.tmp 6), type := 27, pos := "law.go:125", after := #[], guard := none }) (v := ?_) rfl (by kernel_rfl) (by kernel_rfl) (by kernel_rfl) (fun _ _ _ h => h) (Or.inl ⟨by rfl, ?_⟩) (by exact kS) ?_
      rotate_left
      · intro w hSw; (try dsimp only at hSw); (go_simp <;> with_reducible rfl)
      try simp only [Act.put, List.setIfInBounds_toArray, List.set_cons_zero, List.set_cons_succ]
      refine wpAnyH_take (i := 1) (oi := { dst := some 55, op := Op.move (Operand.tmp 8), type := 27, pos := "law.go:125", after := #[], guard := none }) (v := ?_) rfl (by kernel_rfl) (by kernel_rfl) (by kernel_rfl) (fun _ _ _ h => h) (Or.inl ⟨by rfl, ?_⟩) (by exact kS) ?_
      rotate_left
      · intro w hSw; (try dsimp only at hSw); (go_simp <;> with_reducible rfl)
      try simp only [Act.put, List.setIfInBounds_toArray, List.set_cons_zero, List.set_cons_succ]
      refine wpAnyH_take (i := 2) (oi := { dst := some 56, op := Op.binOp BinOp.eql 27 (Operand.tmp 54) (Operand.tmp 55) 27, type := 4, pos := "law.go:125", after := #[{ on := 0, ground := Ground.data }, { on := 1, ground := Ground.data }], guard := none }) (v := ?_) rfl (by kernel_rfl) (by kernel_rfl) (by kernel_rfl) (fun _ _ _ h => h) (Or.inl ⟨by rfl, ?_⟩) (by exact kS) ?_
      rotate_left
      · intro w hSw; (try dsimp only at hSw); (go_simp <;> with_reducible rfl)
      try simp only [Act.put, List.setIfInBounds_toArray, List.set_cons_zero, List.set_cons_succ]
      refine wpAnyH_take (i := 3) (oi := { dst := some 57, op := Op.move (Operand.tmp 56), type := 4, pos := "law.go:125", after := #[{ on := 2, ground := Ground.data }], guard := none }) (v := ?_) rfl (by kernel_rfl) (by kernel_rfl) (by kernel_rfl) (fun _ _ _ h => h) (Or.inl ⟨by rfl, ?_⟩) (by exact kS) ?_
      rotate_left
      · intro w hSw; (try dsimp only at hSw); (go_simp <;> with_reducible rfl)
      try simp only [Act.put, List.setIfInBounds_toArray, List.set_cons_zero, List.set_cons_succ]
      refine wpAnyH_take (i := 4) (oi := { dst := some 58, op := Op.load 24 (Operand.tmp 5), type := 24, pos := "law.go:125", after := #[{ on := 3, ground := Ground.guard }], guard := some (3, true) }) (v := ?_) rfl (by kernel_rfl) (by kernel_rfl) (by kernel_rfl) (fun _ _ _ h => h) (Or.inl ⟨by rfl, ?_⟩) (by exact kS) ?_
      rotate_left
      · intro w hSw; (try dsimp only at hSw); (go_simp <;> with_reducible rfl)
      try simp only [Act.put, List.setIfInBounds_toArray, List.set_cons_zero, List.set_cons_succ]
      refine wpAnyH_take (i := 5) (oi := { dst := some 59, op := Op.load 24 (Operand.tmp 7), type := 24, pos := "law.go:125", after := #[{ on := 3, ground := Ground.guard }], guard := some (3, true) }) (v := ?_) rfl (by kernel_rfl) (by kernel_rfl) (by kernel_rfl) (fun _ _ _ h => h) (Or.inl ⟨by rfl, ?_⟩) (by exact kS) ?_
      rotate_left
      · intro w hSw; (try dsimp only at hSw); (go_simp <;> with_reducible rfl)
      try simp only [Act.put, List.setIfInBounds_toArray, List.set_cons_zero, List.set_cons_succ]
      refine wpAnyH_ready (rs := [6]) (by kernel_rfl) (by simp) ?_
      refine AllReadyH.cons (o := { dst := some 60, op := Op.call { callee := Callee.value (Operand.func 11), args := #[Operand.tmp 58, Operand.tmp 59], argTypes := #[24, 24] }, type := 4, pos := "law.go:125", after := #[{ on := 4, ground := Ground.data }, { on := 5, ground := Ground.data }, { on := 3, ground := Ground.chain }, { on := 3, ground := Ground.guard }], guard := some (3, true) }) rfl (fun K hK => ?_) AllReadyH.nil
      go_simp
      (go_at_call_of 11 (Value.agg #[Value.bool sx, Value.slice ax nx cx]); refine (whole_any Ix.out Iy.out).mono ?_; rintro e V1 ⟨rfl, hb⟩; have D1 : Hid (Box V1 (w.heap.size) (.bool s1) (.slice a1 n1 c1)) := D1.out.below hb D1.out.lt; have D2 : Hid (Box V1 (w.heap.size + 1) (.bool s2) (.slice a2 n2 c2)) := D2.out.below hb D2.out.lt; have Dx : Hid (Box V1 (W4.heap.size) (.bool sx) (.slice ax nx cx)) := Dx.out.below hb Dx.out.lt; have Dy : Hid (Box V1 (W6.heap.size) (.bool sx) (.slice ay ny cy)) := Dy.out.below hb Dy.out.lt; have Du : Hid (Box V1 (W8.heap.size) (.bool sm) (.slice au nu cu)) := Du.out.below hb Du.out.lt; have Dz : Hid (Box V1 (W10.heap.size) (.bool sm) (.slice az nz cz)) := Dz.out.below hb Dz.out.lt; have Dd : Hid (Box V1 (W12.heap.size) (.bool sd) (.slice ad nd cd)) := Dd.out.below hb Dd.out.lt; have J1 : Hid (Sl V1 a1 n1 c1 l1) := J1.out.below hb (Nat.le_refl _); have J2 : Hid (Sl V1 a2 n2 c2 l2) := J2.out.below hb (Nat.le_refl _); have Jd : Hid (Sl V1 ad nd cd ld) := Jd.out.below hb (Nat.le_refl _); have Ix : Hid (IntR V1 _ _ _ _) := Ix.out.below hb (Nat.le_refl _); have Iy : Hid (IntR V1 _ _ _ _) := Iy.out.below hb (Nat.le_refl _); have Iu : Hid (IntR V1 _ _ _ _) := Iu.out.below hb (Nat.le_refl _); have Iz : Hid (IntR V1 _ _ _ _) := Iz.out.below hb (Nat.le_refl _); have HBD : Hid (Below w.heap.size w V1) := HBD.out.trans (hb.mono HBD.out.size); clear kS; have kS : V1.cell? ⟨w.heap.size, 0, none⟩ = some (.bool s1) ∧ V1.cell? ⟨w.heap.size, 1, none⟩ = some (.slice a1 n1 c1) ∧ V1.cell? ⟨w.heap.size + 1, 0, none⟩ = some (.bool s2) ∧ V1.cell? ⟨w.heap.size + 1, 1, none⟩ = some (.slice a2 n2 c2) ∧ V1.cell? ⟨W4.heap.size, 0, none⟩ = some (.bool sx) ∧ V1.cell? ⟨W4.heap.size, 1, none⟩ = some (.slice ax nx cx) ∧ V1.cell? ⟨W6.heap.size, 0, none⟩ = some (.bool sx) ∧ V1.cell? ⟨W6.heap.size, 1, none⟩ = some (.slice ay ny cy) ∧ V1.cell? ⟨W8.heap.size, 0, none⟩ = some (.bool sm) ∧ V1.cell? ⟨W8.heap.size, 1, none⟩ = some (.slice au nu cu) ∧ V1.cell? ⟨W10.heap.size, 0, none⟩ = some (.bool sm) ∧ V1.cell? ⟨W10.heap.size, 1, none⟩ = some (.slice az nz cz) ∧ V1.cell? ⟨W12.heap.size, 0, none⟩ = some (.bool sd) ∧ V1.cell? ⟨W12.heap.size, 1, none⟩ = some (.slice ad nd cd) := ⟨D1.out.z0, D1.out.z1, D2.out.z0, D2.out.z1, Dx.out.z0, Dx.out.z1, Dy.out.z0, Dy.out.z1, Du.out.z0, Du.out.z1, Dz.out.z0, Dz.out.z1, Dd.out.z0, Dd.out.z1⟩; clear hb)
      go_wp2_with fail
      refine hK.out _ _ (by exact kS) (fun hHeld => ?_)
      clear hK K hHeld
      try simp only [Act.put, List.setIfInBounds_toArray, List.set_cons_zero, List.set_cons_succ]
      refine wpAnyH_take (i := 7) (oi := { dst := some 61, op := Op.pick (Operand.tmp 57) (Operand.tmp 60) (Operand.const (Value.bool false)), type := 4, pos := "law.go:125", after := #[{ on := 3, ground := Ground.data }, { on := 6, ground := Ground.data }], guard := none }) (v := ?_) rfl (by kernel_rfl) (by kernel_rfl) (by kernel_rfl) (fun _ _ _ h => h) (Or.inl ⟨by rfl, ?_⟩) (by exact kS) ?_
      rotate_left
      · intro w hSw; (try dsimp only at hSw); (go_simp <;> with_reducible rfl)
      try simp only [Act.put, List.setIfInBounds_toArray, List.set_cons_zero, List.set_cons_succ]
      refine wpAnyH_take (i := 8) (oi := { dst := some 62, op := Op.move (Operand.tmp 61), type := 4, pos := "law.go:125", after := #[{ on := 7, ground := Ground.data }, { on := 6, ground := Ground.chain }], guard := none }) (v := ?_) rfl (by kernel_rfl) (by kernel_rfl) (by kernel_rfl) (fun _ _ _ h => h) (Or.inl ⟨by rfl, ?_⟩) (by exact kS) ?_
      rotate_left
      · intro w hSw; (try dsimp only at hSw); (go_simp <;> with_reducible rfl)
      try simp only [Act.put, List.setIfInBounds_toArray, List.set_cons_zero, List.set_cons_succ]
      refine wpAnyH_take (i := 9) (oi := { dst := some 63, op := Op.move (Operand.tmp 10), type := 27, pos := "law.go:125", after := #[{ on := 8, ground := Ground.guard }], guard := some (8, true) }) (v := ?_) rfl (by kernel_rfl) (by kernel_rfl) (by kernel_rfl) (fun _ _ _ h => h) (Or.inl ⟨by rfl, ?_⟩) (by exact kS) ?_
      rotate_left
      · intro w hSw; (try dsimp only at hSw); (go_simp <;> with_reducible rfl)
      try simp only [Act.put, List.setIfInBounds_toArray, List.set_cons_zero, List.set_cons_succ]
      refine wpAnyH_take (i := 10) (oi := { dst := some 64, op := Op.move (Operand.tmp 12), type := 27, pos := "law.go:125", after := #[{ on := 8, ground := Ground.guard }], guard := some (8, true) }) (v := ?_) rfl (by kernel_rfl) (by kernel_rfl) (by kernel_rfl) (fun _ _ _ h => h) (Or.inl ⟨by rfl, ?_⟩) (by exact kS) ?_
      rotate_left
      · intro w hSw; (try dsimp only at hSw); (go_simp <;> with_reducible rfl)
      try simp only [Act.put, List.setIfInBounds_toArray, List.set_cons_zero, List.set_cons_succ]
      refine wpAnyH_take (i := 11) (oi := { dst := some 65, op := Op.binOp BinOp.eql 27 (Operand.tmp 63) (Operand.tmp 64) 27, type := 4, pos := "law.go:125", after := #[{ on := 9, ground := Ground.data }, { on := 10, ground := Ground.data }, { on := 8, ground := Ground.guard }], guard := some (8, true) }) (v := ?_) rfl (by kernel_rfl) (by kernel_rfl) (by kernel_rfl) (fun _ _ _ h => h) (Or.inl ⟨by rfl, ?_⟩) (by exact kS) ?_
      rotate_left
      · intro w hSw; (try dsimp only at hSw); (go_simp <;> with_reducible rfl)
      try simp only [Act.put, List.setIfInBounds_toArray, List.set_cons_zero, List.set_cons_succ]
      refine wpAnyH_take (i := 12) (oi := { dst := some 66, op := Op.pick (Operand.tmp 62) (Operand.tmp 65) (Operand.const (Value.bool false)), type := 4, pos := "law.go:125", after := #[{ on := 8, ground := Ground.data }, { on := 11, ground := Ground.data }], guard := none }) (v := ?_) rfl (by kernel_rfl) (by kernel_rfl) (by kernel_rfl) (fun _ _ _ h => h) (Or.inl ⟨by rfl, ?_⟩) (by exact kS) ?_
      rotate_left
      · intro w hSw; (try dsimp only at hSw); (go_simp <;> with_reducible rfl)
      try simp only [Act.put, List.setIfInBounds_toArray, List.set_cons_zero, List.set_cons_succ]
      refine wpAnyH_take (i := 13) (oi := { dst := some 67, op := Op.move (Operand.tmp 66), type := 4, pos := "law.go:125", after := #[{ on := 12, ground := Ground.data }, { on := 8, ground := Ground.chain }], guard := none }) (v := ?_) rfl (by kernel_rfl) (by kernel_rfl) (by kernel_rfl) (fun _ _ _ h => h) (Or.inl ⟨by rfl, ?_⟩) (by exact kS) ?_
      rotate_left
      · intro w hSw; (try dsimp only at hSw); (go_simp <;> with_reducible rfl)
      try simp only [Act.put, List.setIfInBounds_toArray, List.set_cons_zero, List.set_cons_succ]
      refine wpAnyH_take (i := 14) (oi := { dst := some 68, op := Op.load 24 (Operand.tmp 9), type := 24, pos := "law.go:125", after := #[{ on := 13, ground := Ground.guard }], guard := some (13, true) }) (v := ?_) rfl (by kernel_rfl) (by kernel_rfl) (by kernel_rfl) (fun _ _ _ h => h) (Or.inl ⟨by rfl, ?_⟩) (by exact kS) ?_
      rotate_left
      · intro w hSw; (try dsimp only at hSw); (go_simp <;> with_reducible rfl)
      try simp only [Act.put, List.setIfInBounds_toArray, List.set_cons_zero, List.set_cons_succ]
      refine wpAnyH_take (i := 15) (oi := { dst := some 69, op := Op.load 24 (Operand.tmp 11), type := 24, pos := "law.go:125", after := #[{ on := 13, ground := Ground.guard }], guard := some (13, true) }) (v := ?_) rfl (by kernel_rfl) (by kernel_rfl) (by kernel_rfl) (fun _ _ _ h => h) (Or.inl ⟨by rfl, ?_⟩) (by exact kS) ?_
      rotate_left
      · intro w hSw; (try dsimp only at hSw); (go_simp <;> with_reducible rfl)
      try simp only [Act.put, List.setIfInBounds_toArray, List.set_cons_zero, List.set_cons_succ]
      refine wpAnyH_ready (rs := [16]) (by kernel_rfl) (by simp) ?_
      refine AllReadyH.cons (o := { dst := some 70, op := Op.call { callee := Callee.value (Operand.func 11), args := #[Operand.tmp 68, Operand.tmp 69], argTypes := #[24, 24] }, type := 4, pos := "law.go:125", after := #[{ on := 14, ground := Ground.data }, { on := 15, ground := Ground.data }, { on := 13, ground := Ground.chain }, { on := 13, ground := Ground.guard }], guard := some (13, true) }) rfl (fun K hK => ?_) AllReadyH.nil
      go_simp
      (go_at_call_of 11 (Value.agg #[Value.bool sm, Value.slice au nu cu]); refine (whole_any Iu.out Iz.out).mono ?_; rintro e V2 ⟨rfl, hb⟩; have D1 : Hid (Box V2 (w.heap.size) (.bool s1) (.slice a1 n1 c1)) := D1.out.below hb D1.out.lt; have D2 : Hid (Box V2 (w.heap.size + 1) (.bool s2) (.slice a2 n2 c2)) := D2.out.below hb D2.out.lt; have Dx : Hid (Box V2 (W4.heap.size) (.bool sx) (.slice ax nx cx)) := Dx.out.below hb Dx.out.lt; have Dy : Hid (Box V2 (W6.heap.size) (.bool sx) (.slice ay ny cy)) := Dy.out.below hb Dy.out.lt; have Du : Hid (Box V2 (W8.heap.size) (.bool sm) (.slice au nu cu)) := Du.out.below hb Du.out.lt; have Dz : Hid (Box V2 (W10.heap.size) (.bool sm) (.slice az nz cz)) := Dz.out.below hb Dz.out.lt; have Dd : Hid (Box V2 (W12.heap.size) (.bool sd) (.slice ad nd cd)) := Dd.out.below hb Dd.out.lt; have J1 : Hid (Sl V2 a1 n1 c1 l1) := J1.out.below hb (Nat.le_refl _); have J2 : Hid (Sl V2 a2 n2 c2 l2) := J2.out.below hb (Nat.le_refl _); have Jd : Hid (Sl V2 ad nd cd ld) := Jd.out.below hb (Nat.le_refl _); have Ix : Hid (IntR V2 _ _ _ _) := Ix.out.below hb (Nat.le_refl _); have Iy : Hid (IntR V2 _ _ _ _) := Iy.out.below hb (Nat.le_refl _); have Iu : Hid (IntR V2 _ _ _ _) := Iu.out.below hb (Nat.le_refl _); have Iz : Hid (IntR V2 _ _ _ _) := Iz.out.below hb (Nat.le_refl _); have HBD : Hid (Below w.heap.size w V2) := HBD.out.trans (hb.mono HBD.out.size); clear kS; have kS : V2.cell? ⟨w.heap.size, 0, none⟩ = some (.bool s1) ∧ V2.cell? ⟨w.heap.size, 1, none⟩ = some (.slice a1 n1 c1) ∧ V2.cell? ⟨w.heap.size + 1, 0, none⟩ = some (.bool s2) ∧ V2.cell? ⟨w.heap.size + 1, 1, none⟩ = some (.slice a2 n2 c2) ∧ V2.cell? ⟨W4.heap.size, 0, none⟩ = some (.bool sx) ∧ V2.cell? ⟨W4.heap.size, 1, none⟩ = some (.slice ax nx cx) ∧ V2.cell? ⟨W6.heap.size, 0, none⟩ = some (.bool sx) ∧ V2.cell? ⟨W6.heap.size, 1, none⟩ = some (.slice ay ny cy) ∧ V2.cell? ⟨W8.heap.size, 0, none⟩ = some (.bool sm) ∧ V2.cell? ⟨W8.heap.size, 1, none⟩ = some (.slice au nu cu) ∧ V2.cell? ⟨W10.heap.size, 0, none⟩ = some (.bool sm) ∧ V2.cell? ⟨W10.heap.size, 1, none⟩ = some (.slice az nz cz) ∧ V2.cell? ⟨W12.heap.size, 0, none⟩ = some (.bool sd) ∧ V2.cell? ⟨W12.heap.size, 1, none⟩ = some (.slice ad nd cd) := ⟨D1.out.z0, D1.out.z1, D2.out.z0, D2.out.z1, Dx.out.z0, Dx.out.z1, Dy.out.z0, Dy.out.z1, Du.out.z0, Du.out.z1, Dz.out.z0, Dz.out.z1, Dd.out.z0, Dd.out.z1⟩; clear hb)
      go_wp2_with fail
      refine hK.out _ _ (by exact kS) (fun hHeld => ?_)
      clear hK K hHeld
      try simp only [Act.put, List.setIfInBounds_toArray, List.set_cons_zero, List.set_cons_succ]
      refine wpAnyH_take (i := 17) (oi := { dst := some 71, op := Op.pick (Operand.tmp 67) (Operand.tmp 70) (Operand.const (Value.bool false)), type := 4, pos := "law.go:125", after := #[{ on := 13, ground := Ground.data }, { on := 16, ground := Ground.data }], guard := none }) (v := ?_) rfl (by kernel_rfl) (by kernel_rfl) (by kernel_rfl) (fun _ _ _ h => h) (Or.inl ⟨by rfl, ?_⟩) (by exact kS) ?_
      rotate_left
      · intro w hSw; (try dsimp only at hSw); (go_simp <;> with_reducible rfl)
      try simp only [Act.put, List.setIfInBounds_toArray, List.set_cons_zero, List.set_cons_succ]
      refine wpAnyH_take (i := 18) (oi := { dst := some 72, op := Op.move (Operand.tmp 71), type := 4, pos := "law.go:125", after := #[{ on := 17, ground := Ground.data }, { on := 16, ground := Ground.chain }], guard := none }) (v := ?_) rfl (by kernel_rfl) (by kernel_rfl) (by kernel_rfl) (fun _ _ _ h => h) (Or.inl ⟨by rfl, ?_⟩) (by exact kS) ?_
      rotate_left
      · intro w hSw; (try dsimp only at hSw); (go_simp <;> with_reducible rfl)
      try simp only [Act.put, List.setIfInBounds_toArray, List.set_cons_zero, List.set_cons_succ]
      refine wpAnyH_take (i := 19) (oi := { dst := some 73, op := Op.move (Operand.tmp 14), type := 27, pos := "law.go:125", after := #[{ on := 18, ground := Ground.guard }], guard := some (18, true) }) (v := ?_) rfl (by kernel_rfl) (by kernel_rfl) (by kernel_rfl) (fun _ _ _ h => h) (Or.inl ⟨by rfl, ?_⟩) (by exact kS) ?_
      rotate_left
      · intro w hSw; (try dsimp only at hSw); (go_simp <;> with_reducible rfl)
      try simp only [Act.put, List.setIfInBounds_toArray, List.set_cons_zero, List.set_cons_succ]
      refine wpAnyH_take (i := 20) (oi := { dst := some 74, op := Op.binOp BinOp.neq 27 (Operand.tmp 73) (Operand.const (Value.int IntKind.i64 0)) 27, type := 4, pos := "law.go:125", after := #[{ on := 19, ground := Ground.data }, { on := 18, ground := Ground.guard }], guard := some (18, true) }) (v := ?_) rfl (by kernel_rfl) (by kernel_rfl) (by kernel_rfl) (fun _ _ _ h => h) (Or.inl ⟨by rfl, ?_⟩) (by exact kS) ?_
      rotate_left
      · intro w hSw; (try dsimp only at hSw); (go_simp <;> with_reducible rfl)
      try simp only [Act.put, List.setIfInBounds_toArray, List.set_cons_zero, List.set_cons_succ]
      refine wpAnyH_take (i := 21) (oi := { dst := some 75, op := Op.move (Operand.tmp 74), type := 4, pos := "law.go:125", after := #[{ on := 20, ground := Ground.data }, { on := 18, ground := Ground.chain }, { on := 18, ground := Ground.guard }], guard := some (18, true) }) (v := ?_) rfl (by kernel_rfl) (by kernel_rfl) (by kernel_rfl) (fun _ _ _ h => h) (Or.inl ⟨by rfl, ?_⟩) (by exact kS) ?_
      rotate_left
      · intro w hSw; (try dsimp only at hSw); (go_simp <;> with_reducible rfl)
      try simp only [Act.put, List.setIfInBounds_toArray, List.set_cons_zero, List.set_cons_succ]
      refine wpAnyH_take (i := 22) (oi := { dst := some 76, op := Op.load 24 (Operand.tmp 13), type := 24, pos := "law.go:125", after := #[{ on := 21, ground := Ground.guard }], guard := some (21, false) }) (v := undef) rfl (by kernel_rfl) (by kernel_rfl) (by kernel_rfl) (fun _ _ _ h => h) (Or.inr ⟨by rfl, rfl⟩) (by exact kS) ?_
      try simp only [Act.put, List.setIfInBounds_toArray, List.set_cons_zero, List.set_cons_succ]
      refine wpAnyH_ready (rs := [23]) (by kernel_rfl) (by simp) ?_
      refine AllReadyH.cons (o := { dst := some 77, op := Op.call { callee := Callee.value (Operand.func 13), args := #[Operand.const (Value.int IntKind.i64 0)], argTypes := #[3] }, type := 24, pos := "law.go:125", after := #[{ on := 21, ground := Ground.chain }, { on := 21, ground := Ground.guard }], guard := some (21, false) }) rfl (fun K hK => ?_) AllReadyH.nil
      go_simp
      refine hK.out _ _ (by exact kS) (fun hHeld => ?_)
      clear hK K hHeld
      try simp only [Act.put, List.setIfInBounds_toArray, List.set_cons_zero, List.set_cons_succ]
      refine wpAnyH_ready (rs := [24]) (by kernel_rfl) (by simp) ?_
      refine AllReadyH.cons (o := { dst := some 78, op := Op.call { callee := Callee.value (Operand.func 12), args := #[Operand.tmp 76, Operand.tmp 77], argTypes := #[24, 24] }, type := 3, pos := "law.go:125", after := #[{ on := 22, ground := Ground.data }, { on := 23, ground := Ground.data }, { on := 23, ground := Ground.chain }, { on := 21, ground := Ground.guard }], guard := some (21, false) }) rfl (fun K hK => ?_) AllReadyH.nil
      go_simp
      refine hK.out _ _ (by exact kS) (fun hHeld => ?_)
      clear hK K hHeld
      try simp only [Act.put, List.setIfInBounds_toArray, List.set_cons_zero, List.set_cons_succ]
      refine wpAnyH_take (i := 25) (oi := { dst := some 79, op := Op.binOp BinOp.eql 3 (Operand.tmp 78) (Operand.const (Value.int IntKind.i64 0)) 3, type := 4, pos := "law.go:125", after := #[{ on := 24, ground := Ground.data }, { on := 21, ground := Ground.guard }], guard := some (21, false) }) (v := undef) rfl (by kernel_rfl) (by kernel_rfl) (by kernel_rfl) (fun _ _ _ h => h) (Or.inr ⟨by rfl, rfl⟩) (by exact kS) ?_
      try simp only [Act.put, List.setIfInBounds_toArray, List.set_cons_zero, List.set_cons_succ]
      refine wpAnyH_take (i := 26) (oi := { dst := some 80, op := Op.pick (Operand.tmp 75) (Operand.const (Value.bool true)) (Operand.tmp 79), type := 4, pos := "law.go:125", after := #[{ on := 21, ground := Ground.data }, { on := 25, ground := Ground.data }, { on := 18, ground := Ground.guard }], guard := some (18, true) }) (v := ?_) rfl (by kernel_rfl) (by kernel_rfl) (by kernel_rfl) (fun _ _ _ h => h) (Or.inl ⟨by rfl, ?_⟩) (by exact kS) ?_
      rotate_left
      · intro w hSw; (try dsimp only at hSw); (go_simp <;> with_reducible rfl)
      try simp only [Act.put, List.setIfInBounds_toArray, List.set_cons_zero, List.set_cons_succ]
      refine wpAnyH_take (i := 27) (oi := { dst := some 81, op := Op.pick (Operand.tmp 72) (Operand.tmp 80) (Operand.const (Value.bool false)), type := 4, pos := "law.go:125", after := #[{ on := 18, ground := Ground.data }, { on := 26, ground := Ground.data }], guard := none }) (v := ?_) rfl (by kernel_rfl) (by kernel_rfl) (by kernel_rfl) (fun _ _ _ h => h) (Or.inl ⟨by rfl, ?_⟩) (by exact kS) ?_
      rotate_left
      · intro w hSw; (try dsimp only at hSw); (go_simp <;> with_reducible rfl)
      try simp only [Act.put, List.setIfInBounds_toArray, List.set_cons_zero, List.set_cons_succ]
      refine wpAnyH_take (i := 28) (oi := { dst := some 82, op := Op.move (Operand.tmp 81), type := 4, pos := "law.go:125", after := #[{ on := 27, ground := Ground.data }, { on := 24, ground := Ground.chain }], guard := none }) (v := ?_) rfl (by kernel_rfl) (by kernel_rfl) (by kernel_rfl) (fun _ _ _ h => h) (Or.inl ⟨by rfl, ?_⟩) (by exact kS) ?_
      rotate_left
      · intro w hSw; (try dsimp only at hSw); (go_simp <;> with_reducible rfl)
      try simp only [Act.put, List.setIfInBounds_toArray, List.set_cons_zero, List.set_cons_succ]
      refine wpAnyH_take (i := 29) (oi := { dst := some 83, op := Op.load 24 (Operand.tmp 2), type := 24, pos := "law.go:125", after := #[{ on := 28, ground := Ground.guard }], guard := some (28, true) }) (v := ?_) rfl (by kernel_rfl) (by kernel_rfl) (by kernel_rfl) (fun _ _ _ h => h) (Or.inl ⟨by rfl, ?_⟩) (by exact kS) ?_
      rotate_left
      · intro w hSw; (try dsimp only at hSw); (go_simp <;> with_reducible rfl)
      try simp only [Act.put, List.setIfInBounds_toArray, List.set_cons_zero, List.set_cons_succ]
      refine wpAnyH_take (i := 30) (oi := { dst := some 84, op := Op.load 24 (Operand.tmp 3), type := 24, pos := "law.go:125", after := #[{ on := 28, ground := Ground.guard }], guard := some (28, true) }) (v := ?_) rfl (by kernel_rfl) (by kernel_rfl) (by kernel_rfl) (fun _ _ _ h => h) (Or.inl ⟨by rfl, ?_⟩) (by exact kS) ?_
      rotate_left
      · intro w hSw; (try dsimp only at hSw); (go_simp <;> with_reducible rfl)
      try simp only [Act.put, List.setIfInBounds_toArray, List.set_cons_zero, List.set_cons_succ]
      refine wpAnyH_take (i := 32) (oi := { dst := some 86, op := Op.load 24 (Operand.tmp 3), type := 24, pos := "law.go:125", after := #[{ on := 28, ground := Ground.guard }], guard := some (28, true) }) (v := ?_) rfl (by kernel_rfl) (by kernel_rfl) (by kernel_rfl) (fun _ _ _ h => h) (Or.inl ⟨by rfl, ?_⟩) (by exact kS) ?_
      rotate_left
      · intro w hSw; (try dsimp only at hSw); (go_simp <;> with_reducible rfl)
      try simp only [Act.put, List.setIfInBounds_toArray, List.set_cons_zero, List.set_cons_succ]
      refine wpAnyH_take (i := 33) (oi := { dst := some 87, op := Op.load 24 (Operand.tmp 2), type := 24, pos := "law.go:125", after := #[{ on := 28, ground := Ground.guard }], guard := some (28, true) }) (v := ?_) rfl (by kernel_rfl) (by kernel_rfl) (by kernel_rfl) (fun _ _ _ h => h) (Or.inl ⟨by rfl, ?_⟩) (by exact kS) ?_
      rotate_left
      · intro w hSw; (try dsimp only at hSw); (go_simp <;> with_reducible rfl)
      try simp only [Act.put, List.setIfInBounds_toArray, List.set_cons_zero, List.set_cons_succ]
      refine wpAnyH_ready (rs := [31]) (by kernel_rfl) (by simp) ?_
      refine AllReadyH.cons (o := { dst := some 85, op := Op.call { callee := Callee.value (Operand.func 12), args := #[Operand.tmp 83, Operand.tmp 84], argTypes := #[24, 24] }, type := 3, pos := "law.go:125", after := #[{ on := 29, ground := Ground.data }, { on := 30, ground := Ground.data }, { on := 28, ground := Ground.chain }, { on := 28, ground := Ground.guard }], guard := some (28, true) }) rfl (fun K hK => ?_) AllReadyH.nil
      go_simp
      (go_at_call_of 12 (Value.agg #[Value.bool s1, Value.slice a1 n1 c1]); refine (compare_any s1 s2 a1 n1 c1 l1 a2 n2 c2 l2 _ (by exact J1.out) (by exact J2.out) (by omega) (by omega)).mono ?_; rintro e V3 ⟨rfl, hb⟩; rw [HAB.out]; have D1 : Hid (Box V3 (w.heap.size) (.bool s1) (.slice a1 n1 c1)) := D1.out.below hb D1.out.lt; have D2 : Hid (Box V3 (w.heap.size + 1) (.bool s2) (.slice a2 n2 c2)) := D2.out.below hb D2.out.lt; have Dx : Hid (Box V3 (W4.heap.size) (.bool sx) (.slice ax nx cx)) := Dx.out.below hb Dx.out.lt; have Dy : Hid (Box V3 (W6.heap.size) (.bool sx) (.slice ay ny cy)) := Dy.out.below hb Dy.out.lt; have Du : Hid (Box V3 (W8.heap.size) (.bool sm) (.slice au nu cu)) := Du.out.below hb Du.out.lt; have Dz : Hid (Box V3 (W10.heap.size) (.bool sm) (.slice az nz cz)) := Dz.out.below hb Dz.out.lt; have Dd : Hid (Box V3 (W12.heap.size) (.bool sd) (.slice ad nd cd)) := Dd.out.below hb Dd.out.lt; have J1 : Hid (Sl V3 a1 n1 c1 l1) := J1.out.below hb (Nat.le_refl _); have J2 : Hid (Sl V3 a2 n2 c2 l2) := J2.out.below hb (Nat.le_refl _); have Jd : Hid (Sl V3 ad nd cd ld) := Jd.out.below hb (Nat.le_refl _); have Ix : Hid (IntR V3 _ _ _ _) := Ix.out.below hb (Nat.le_refl _); have Iy : Hid (IntR V3 _ _ _ _) := Iy.out.below hb (Nat.le_refl _); have Iu : Hid (IntR V3 _ _ _ _) := Iu.out.below hb (Nat.le_refl _); have Iz : Hid (IntR V3 _ _ _ _) := Iz.out.below hb (Nat.le_refl _); have HBD : Hid (Below w.heap.size w V3) := HBD.out.trans (hb.mono HBD.out.size); clear kS; have kS : V3.cell? ⟨w.heap.size, 0, none⟩ = some (.bool s1) ∧ V3.cell? ⟨w.heap.size, 1, none⟩ = some (.slice a1 n1 c1) ∧ V3.cell? ⟨w.heap.size + 1, 0, none⟩ = some (.bool s2) ∧ V3.cell? ⟨w.heap.size + 1, 1, none⟩ = some (.slice a2 n2 c2) ∧ V3.cell? ⟨W4.heap.size, 0, none⟩ = some (.bool sx) ∧ V3.cell? ⟨W4.heap.size, 1, none⟩ = some (.slice ax nx cx) ∧ V3.cell? ⟨W6.heap.size, 0, none⟩ = some (.bool sx) ∧ V3.cell? ⟨W6.heap.size, 1, none⟩ = some (.slice ay ny cy) ∧ V3.cell? ⟨W8.heap.size, 0, none⟩ = some (.bool sm) ∧ V3.cell? ⟨W8.heap.size, 1, none⟩ = some (.slice au nu cu) ∧ V3.cell? ⟨W10.heap.size, 0, none⟩ = some (.bool sm) ∧ V3.cell? ⟨W10.heap.size, 1, none⟩ = some (.slice az nz cz) ∧ V3.cell? ⟨W12.heap.size, 0, none⟩ = some (.bool sd) ∧ V3.cell? ⟨W12.heap.size, 1, none⟩ = some (.slice ad nd cd) := ⟨D1.out.z0, D1.out.z1, D2.out.z0, D2.out.z1, Dx.out.z0, Dx.out.z1, Dy.out.z0, Dy.out.z1, Du.out.z0, Du.out.z1, Dz.out.z0, Dz.out.z1, Dd.out.z0, Dd.out.z1⟩; clear hb)
      go_wp2_with fail
      refine hK.out _ _ (by exact kS) (fun hHeld => ?_)
      clear hK K hHeld
      try simp only [Act.put, List.setIfInBounds_toArray, List.set_cons_zero, List.set_cons_succ]
      refine wpAnyH_ready (rs := [34]) (by kernel_rfl) (by simp) ?_
      refine AllReadyH.cons (o := { dst := some 88, op := Op.call { callee := Callee.value (Operand.func 12), args := #[Operand.tmp 86, Operand.tmp 87], argTypes := #[24, 24] }, type := 3, pos := "law.go:125", after := #[{ on := 32, ground := Ground.data }, { on := 33, ground := Ground.data }, { on := 31, ground := Ground.chain }, { on := 28, ground := Ground.guard }], guard := some (28, true) }) rfl (fun K hK => ?_) AllReadyH.nil
      go_simp
      (go_at_call_of 12 (Value.agg #[Value.bool s2, Value.slice a2 n2 c2]); refine (compare_any s2 s1 a2 n2 c2 l2 a1 n1 c1 l1 _ (by exact J2.out) (by exact J1.out) (by omega) (by omega)).mono ?_; rintro e V4 ⟨rfl, hb⟩; rw [HBA.out]; have D1 : Hid (Box V4 (w.heap.size) (.bool s1) (.slice a1 n1 c1)) := D1.out.below hb D1.out.lt; have D2 : Hid (Box V4 (w.heap.size + 1) (.bool s2) (.slice a2 n2 c2)) := D2.out.below hb D2.out.lt; have Dx : Hid (Box V4 (W4.heap.size) (.bool sx) (.slice ax nx cx)) := Dx.out.below hb Dx.out.lt; have Dy : Hid (Box V4 (W6.heap.size) (.bool sx) (.slice ay ny cy)) := Dy.out.below hb Dy.out.lt; have Du : Hid (Box V4 (W8.heap.size) (.bool sm) (.slice au nu cu)) := Du.out.below hb Du.out.lt; have Dz : Hid (Box V4 (W10.heap.size) (.bool sm) (.slice az nz cz)) := Dz.out.below hb Dz.out.lt; have Dd : Hid (Box V4 (W12.heap.size) (.bool sd) (.slice ad nd cd)) := Dd.out.below hb Dd.out.lt; have J1 : Hid (Sl V4 a1 n1 c1 l1) := J1.out.below hb (Nat.le_refl _); have J2 : Hid (Sl V4 a2 n2 c2 l2) := J2.out.below hb (Nat.le_refl _); have Jd : Hid (Sl V4 ad nd cd ld) := Jd.out.below hb (Nat.le_refl _); have Ix : Hid (IntR V4 _ _ _ _) := Ix.out.below hb (Nat.le_refl _); have Iy : Hid (IntR V4 _ _ _ _) := Iy.out.below hb (Nat.le_refl _); have Iu : Hid (IntR V4 _ _ _ _) := Iu.out.below hb (Nat.le_refl _); have Iz : Hid (IntR V4 _ _ _ _) := Iz.out.below hb (Nat.le_refl _); have HBD : Hid (Below w.heap.size w V4) := HBD.out.trans (hb.mono HBD.out.size); clear kS; have kS : V4.cell? ⟨w.heap.size, 0, none⟩ = some (.bool s1) ∧ V4.cell? ⟨w.heap.size, 1, none⟩ = some (.slice a1 n1 c1) ∧ V4.cell? ⟨w.heap.size + 1, 0, none⟩ = some (.bool s2) ∧ V4.cell? ⟨w.heap.size + 1, 1, none⟩ = some (.slice a2 n2 c2) ∧ V4.cell? ⟨W4.heap.size, 0, none⟩ = some (.bool sx) ∧ V4.cell? ⟨W4.heap.size, 1, none⟩ = some (.slice ax nx cx) ∧ V4.cell? ⟨W6.heap.size, 0, none⟩ = some (.bool sx) ∧ V4.cell? ⟨W6.heap.size, 1, none⟩ = some (.slice ay ny cy) ∧ V4.cell? ⟨W8.heap.size, 0, none⟩ = some (.bool sm) ∧ V4.cell? ⟨W8.heap.size, 1, none⟩ = some (.slice au nu cu) ∧ V4.cell? ⟨W10.heap.size, 0, none⟩ = some (.bool sm) ∧ V4.cell? ⟨W10.heap.size, 1, none⟩ = some (.slice az nz cz) ∧ V4.cell? ⟨W12.heap.size, 0, none⟩ = some (.bool sd) ∧ V4.cell? ⟨W12.heap.size, 1, none⟩ = some (.slice ad nd cd) := ⟨D1.out.z0, D1.out.z1, D2.out.z0, D2.out.z1, Dx.out.z0, Dx.out.z1, Dy.out.z0, Dy.out.z1, Du.out.z0, Du.out.z1, Dz.out.z0, Dz.out.z1, Dd.out.z0, Dd.out.z1⟩; clear hb)
      go_wp2_with fail
      refine hK.out _ _ (by exact kS) (fun hHeld => ?_)
      clear hK K hHeld
      try simp only [Act.put, List.setIfInBounds_toArray, List.set_cons_zero, List.set_cons_succ]
      refine wpAnyH_take (i := 35) (oi := { dst := some 89, op := Op.unOp UnOp.neg 3 (Operand.tmp 88), type := 3, pos := "law.go:125", after := #[{ on := 34, ground := Ground.data }, { on := 28, ground := Ground.guard }], guard := some (28, true) }) (v := ?_) rfl (by kernel_rfl) (by kernel_rfl) (by kernel_rfl) (fun _ _ _ h => h) (Or.inl ⟨by rfl, ?_⟩) (by exact kS) ?_
      rotate_left
      · intro w hSw; (try dsimp only at hSw); (go_simp <;> with_reducible rfl)
      try simp only [Act.put, List.setIfInBounds_toArray, List.set_cons_zero, List.set_cons_succ]
      refine wpAnyH_take (i := 36) (oi := { dst := some 90, op := Op.binOp BinOp.eql 3 (Operand.tmp 85) (Operand.tmp 89) 3, type := 4, pos := "law.go:125", after := #[{ on := 31, ground := Ground.data }, { on := 35, ground := Ground.data }, { on := 28, ground := Ground.guard }], guard := some (28, true) }) (v := ?_) rfl (by kernel_rfl) (by kernel_rfl) (by kernel_rfl) (fun _ _ _ h => h) (Or.inl ⟨by rfl, ?_⟩) (by exact kS) ?_
      rotate_left
      · intro w hSw; (try dsimp only at hSw); (go_simp <;> with_reducible rfl)
      try simp only [Act.put, List.setIfInBounds_toArray, List.set_cons_zero, List.set_cons_succ]
      refine wpAnyH_take (i := 37) (oi := { dst := some 91, op := Op.pick (Operand.tmp 82) (Operand.tmp 90) (Operand.const (Value.bool false)), type := 4, pos := "law.go:125", after := #[{ on := 28, ground := Ground.data }, { on := 36, ground := Ground.data }], guard := none }) (v := ?_) rfl (by kernel_rfl) (by kernel_rfl) (by kernel_rfl) (fun _ _ _ h => h) (Or.inl ⟨by rfl, ?_⟩) (by exact kS) ?_
      rotate_left
      · intro w hSw; (try dsimp only at hSw); (go_simp <;> with_reducible rfl)
      try simp only [Act.put, List.setIfInBounds_toArray, List.set_cons_zero, List.set_cons_succ]
      refine wpAnyH_take (i := 38) (oi := { dst := some 92, op := Op.move (Operand.tmp 91), type := 4, pos := "law.go:125", after := #[{ on := 37, ground := Ground.data }, { on := 34, ground := Ground.chain }], guard := none }) (v := ?_) rfl (by kernel_rfl) (by kernel_rfl) (by kernel_rfl) (fun _ _ _ h => h) (Or.inl ⟨by rfl, ?_⟩) (by exact kS) ?_
      rotate_left
      · intro w hSw; (try dsimp only at hSw); (go_simp <;> with_reducible rfl)
      try simp only [Act.put, List.setIfInBounds_toArray, List.set_cons_zero, List.set_cons_succ]
      refine wpAnyH_ready (rs := [39]) (by kernel_rfl) (by simp) ?_
      refine AllReadyH.cons (o := { dst := some 93, op := Op.call { callee := Callee.value (Operand.func 7), args := #[], argTypes := #[] }, type := 4, pos := "law.go:125", after := #[{ on := 38, ground := Ground.chain }, { on := 38, ground := Ground.guard }], guard := some (38, true) }) rfl (fun K hK => ?_) AllReadyH.nil
      go_simp
      (go_at_call 7; refine (awake_any _).mono ?_; rintro e V5 ⟨rfl, hb⟩; have D1 : Hid (Box V5 (w.heap.size) (.bool s1) (.slice a1 n1 c1)) := D1.out.below hb D1.out.lt; have D2 : Hid (Box V5 (w.heap.size + 1) (.bool s2) (.slice a2 n2 c2)) := D2.out.below hb D2.out.lt; have Dx : Hid (Box V5 (W4.heap.size) (.bool sx) (.slice ax nx cx)) := Dx.out.below hb Dx.out.lt; have Dy : Hid (Box V5 (W6.heap.size) (.bool sx) (.slice ay ny cy)) := Dy.out.below hb Dy.out.lt; have Du : Hid (Box V5 (W8.heap.size) (.bool sm) (.slice au nu cu)) := Du.out.below hb Du.out.lt; have Dz : Hid (Box V5 (W10.heap.size) (.bool sm) (.slice az nz cz)) := Dz.out.below hb Dz.out.lt; have Dd : Hid (Box V5 (W12.heap.size) (.bool sd) (.slice ad nd cd)) := Dd.out.below hb Dd.out.lt; have J1 : Hid (Sl V5 a1 n1 c1 l1) := J1.out.below hb (Nat.le_refl _); have J2 : Hid (Sl V5 a2 n2 c2 l2) := J2.out.below hb (Nat.le_refl _); have Jd : Hid (Sl V5 ad nd cd ld) := Jd.out.below hb (Nat.le_refl _); have Ix : Hid (IntR V5 _ _ _ _) := Ix.out.below hb (Nat.le_refl _); have Iy : Hid (IntR V5 _ _ _ _) := Iy.out.below hb (Nat.le_refl _); have Iu : Hid (IntR V5 _ _ _ _) := Iu.out.below hb (Nat.le_refl _); have Iz : Hid (IntR V5 _ _ _ _) := Iz.out.below hb (Nat.le_refl _); have HBD : Hid (Below w.heap.size w V5) := HBD.out.trans (hb.mono HBD.out.size); clear kS; have kS : V5.cell? ⟨w.heap.size, 0, none⟩ = some (.bool s1) ∧ V5.cell? ⟨w.heap.size, 1, none⟩ = some (.slice a1 n1 c1) ∧ V5.cell? ⟨w.heap.size + 1, 0, none⟩ = some (.bool s2) ∧ V5.cell? ⟨w.heap.size + 1, 1, none⟩ = some (.slice a2 n2 c2) ∧ V5.cell? ⟨W4.heap.size, 0, none⟩ = some (.bool sx) ∧ V5.cell? ⟨W4.heap.size, 1, none⟩ = some (.slice ax nx cx) ∧ V5.cell? ⟨W6.heap.size, 0, none⟩ = some (.bool sx) ∧ V5.cell? ⟨W6.heap.size, 1, none⟩ = some (.slice ay ny cy) ∧ V5.cell? ⟨W8.heap.size, 0, none⟩ = some (.bool sm) ∧ V5.cell? ⟨W8.heap.size, 1, none⟩ = some (.slice au nu cu) ∧ V5.cell? ⟨W10.heap.size, 0, none⟩ = some (.bool sm) ∧ V5.cell? ⟨W10.heap.size, 1, none⟩ = some (.slice az nz cz) ∧ V5.cell? ⟨W12.heap.size, 0, none⟩ = some (.bool sd) ∧ V5.cell? ⟨W12.heap.size, 1, none⟩ = some (.slice ad nd cd) := ⟨D1.out.z0, D1.out.z1, D2.out.z0, D2.out.z1, Dx.out.z0, Dx.out.z1, Dy.out.z0, Dy.out.z1, Du.out.z0, Du.out.z1, Dz.out.z0, Dz.out.z1, Dd.out.z0, Dd.out.z1⟩; clear hb)
      go_wp2_with fail
      refine hK.out _ _ (by exact kS) (fun hHeld => ?_)
      clear hK K hHeld
      try simp only [Act.put, List.setIfInBounds_toArray, List.set_cons_zero, List.set_cons_succ]
      refine wpAnyH_take (i := 40) (oi := { dst := some 94, op := Op.pick (Operand.tmp 92) (Operand.tmp 93) (Operand.const (Value.bool false)), type := 4, pos := "law.go:125", after := #[{ on := 38, ground := Ground.data }, { on := 39, ground := Ground.data }], guard := none }) (v := ?_) rfl (by kernel_rfl) (by kernel_rfl) (by kernel_rfl) (fun _ _ _ h => h) (Or.inl ⟨by rfl, ?_⟩) (by exact kS) ?_
      rotate_left
      · intro w hSw; (try dsimp only at hSw); (go_simp <;> with_reducible rfl)
      try simp only [Act.put, List.setIfInBounds_toArray, List.set_cons_zero, List.set_cons_succ]
      refine wpAnyH_take (i := 41) (oi := { dst := some 4, op := Op.assign (Operand.tmp 94), type := 4, pos := "law.go:125", after := #[{ on := 40, ground := Ground.data }, { on := 39, ground := Ground.chain }, { on := 0, ground := Ground.phase }, { on := 1, ground := Ground.phase }, { on := 2, ground := Ground.phase }, { on := 3, ground := Ground.phase }, { on := 4, ground := Ground.phase }, { on := 5, ground := Ground.phase }, { on := 6, ground := Ground.phase }, { on := 7, ground := Ground.phase }, { on := 8, ground := Ground.phase }, { on := 9, ground := Ground.phase }, { on := 10, ground := Ground.phase }, { on := 11, ground := Ground.phase }, { on := 12, ground := Ground.phase }, { on := 13, ground := Ground.phase }, { on := 14, ground := Ground.phase }, { on := 15, ground := Ground.phase }, { on := 16, ground := Ground.phase }, { on := 17, ground := Ground.phase }, { on := 18, ground := Ground.phase }, { on := 19, ground := Ground.phase }, { on := 20, ground := Ground.phase }, { on := 21, ground := Ground.phase }, { on := 22, ground := Ground.phase }, { on := 23, ground := Ground.phase }, { on := 24, ground := Ground.phase }, { on := 25, ground := Ground.phase }, { on := 26, ground := Ground.phase }, { on := 27, ground := Ground.phase }, { on := 28, ground := Ground.phase }, { on := 29, ground := Ground.phase }, { on := 30, ground := Ground.phase }, { on := 31, ground := Ground.phase }, { on := 32, ground := Ground.phase }, { on := 33, ground := Ground.phase }, { on := 34, ground := Ground.phase }, { on := 35, ground := Ground.phase }, { on := 36, ground := Ground.phase }, { on := 37, ground := Ground.phase }, { on := 38, ground := Ground.phase }, { on := 39, ground := Ground.phase }, { on := 40, ground := Ground.phase }], guard := none }) (v := ?_) rfl (by kernel_rfl) (by kernel_rfl) (by kernel_rfl) (fun _ _ _ h => h) (Or.inl ⟨by rfl, ?_⟩) (by exact kS) ?_
      rotate_left
      · intro w hSw; (try dsimp only at hSw); (go_simp <;> with_reducible rfl)
      try simp only [Act.put, List.setIfInBounds_toArray, List.set_cons_zero, List.set_cons_succ]
      refine wpAnyH_done (by kernel_rfl) ?_ _
      go_wp2_with fail
      go_ret
      exact ⟨rfl, HBD.out⟩
theorem laws_any (s1 s2 : Bool) (a1 a2 : Option Addr) (n1 n2 c1 c2 : Nat) (l1 l2 : List Nat) (w : World) (h1 : Sl w a1 n1 c1 l1) (h2 : Sl w a2 n2 c2 l2) :
    Calls Tryd.prog 3 #[.agg #[.bool s1, .slice a1 n1 c1], .agg #[.bool s2, .slice a2 n2 c2]] w fun e w' => e = .returned (.bool true) ∧ Below w.heap.size w w' := by
  by_cases b1 : 40 < n1
  · exact laws_out1 s1 s2 a1 a2 n1 n2 c1 c2 l1 l2 w h1 h2 b1
  by_cases b2 : 40 < n2
  · exact laws_out2 s1 s2 a1 a2 n1 n2 c1 c2 l1 l2 w h1 h2 (by omega)
  exact laws_in s1 s2 a1 a2 n1 n2 c1 c2 l1 l2 w h1 h2 (by omega) (by omega)
end Go.Proofs.YtimjafgaadafdabDoor
