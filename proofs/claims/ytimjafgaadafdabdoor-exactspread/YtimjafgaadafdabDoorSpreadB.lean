/-
  ExactSpread's law, walked: any three numbers (too long).
-/
import Derived.Test.YtimjafgaadafdabDoorSpreadA
namespace Go.Proofs.YtimjafgaadafdabDoor
open Go.RowKit
attribute [local go_sem ↓] Go.wp_at_zero Go.wp_at_succ
set_option maxHeartbeats 2000000 in
theorem spread_out1 (s1 s2 s3 : Bool) (a1 a2 a3 : Option Addr) (n1 n2 n3 c1 c2 c3 : Nat) (l1 l2 l3 : List Nat) (w : World) (h1 : Sl w a1 n1 c1 l1) (h2 : Sl w a2 n2 c2 l2) (h3 : Sl w a3 n3 c3 l3) (hc : 40 < n1) :
    Calls Tryd.prog 4 #[.agg #[.bool s1, .slice a1 n1 c1], .agg #[.bool s2, .slice a2 n2 c2], .agg #[.bool s3, .slice a3 n3 c3]] w fun e w' => e = .returned (.bool true) ∧ Below w.heap.size w w' := by
  have H1 : Hid (Sl w a1 n1 c1 l1) := h1
  have H2 : Hid (Sl w a2 n2 c2 l2) := h2
  have H3 : Hid (Sl w a3 n3 c3 l3) := h3
  have q1 := h1.mx
  have r1 := h1.lec
  have q2 := h2.mx
  have r2 := h2.lec
  have q3 := h3.mx
  have r3 := h3.lec
  clear h1 h2 h3
  have HB : Hid (Below w.heap.size w w) := Below.refl _ _
  go_enter Tryd.func4, Tryd.ntmps4
  go_wp2_with fail
  generalize hW : (World.alloc _ _) = W1
  obtain ⟨x1, x2, x3, hb, hz⟩ := boxes3 w (.bool s1) (.slice a1 n1 c1) (.bool s2) (.slice a2 n2 c2) (.bool s3) (.slice a3 n3 c3) 24 24 24 0 hW
  have X1 : Hid (Box W1 (w.heap.size) (.bool s1) (.slice a1 n1 c1)) := x1
  have X2 : Hid (Box W1 (w.heap.size + 1) (.bool s2) (.slice a2 n2 c2)) := x2
  have X3 : Hid (Box W1 (w.heap.size + 1 + 1) (.bool s3) (.slice a3 n3 c3)) := x3
  clear hW x1 x2 x3 hz
  have H1 : Hid (Sl W1 a1 n1 c1 l1) := H1.out.below hb (Nat.le_refl _)
  have H2 : Hid (Sl W1 a2 n2 c2 l2) := H2.out.below hb (Nat.le_refl _)
  have H3 : Hid (Sl W1 a3 n3 c3 l3) := H3.out.below hb (Nat.le_refl _)
  have HB : Hid (Below w.heap.size w W1) := HB.out.trans (hb.mono HB.out.size)
  clear hb
  have p10 := X1.out.z0
  have p11 := X1.out.z1
  have t1 := X1.out.lt
  have p20 := X2.out.z0
  have p21 := X2.out.z1
  have t2 := X2.out.lt
  have p30 := X3.out.z0
  have p31 := X3.out.z1
  have t3 := X3.out.lt
  refine (in_any s1 a1 n1 c1 _ (by omega)).mono ?_
  rintro e W2 ⟨rfl, hb⟩
  rw [decide_eq_false (by omega)]
  clear p10 p11 t1 p20 p21 t2 p30 p31 t3
  have X1 : Hid (Box W2 (w.heap.size) (.bool s1) (.slice a1 n1 c1)) := X1.out.below hb X1.out.lt
  have X2 : Hid (Box W2 (w.heap.size + 1) (.bool s2) (.slice a2 n2 c2)) := X2.out.below hb X2.out.lt
  have X3 : Hid (Box W2 (w.heap.size + 1 + 1) (.bool s3) (.slice a3 n3 c3)) := X3.out.below hb X3.out.lt
  have H1 : Hid (Sl W2 a1 n1 c1 l1) := H1.out.below hb (Nat.le_refl _)
  have H2 : Hid (Sl W2 a2 n2 c2 l2) := H2.out.below hb (Nat.le_refl _)
  have H3 : Hid (Sl W2 a3 n3 c3 l3) := H3.out.below hb (Nat.le_refl _)
  have HB : Hid (Below w.heap.size w W2) := HB.out.trans (hb.mono HB.out.size)
  clear hb
  have p10 := X1.out.z0
  have p11 := X1.out.z1
  have t1 := X1.out.lt
  have p20 := X2.out.z0
  have p21 := X2.out.z1
  have t2 := X2.out.lt
  have p30 := X3.out.z0
  have p31 := X3.out.z1
  have t3 := X3.out.lt
  go_wp2_with fail
  refine (awake_any _).mono ?_
  rintro e W3 ⟨rfl, hb⟩
  clear p10 p11 t1 p20 p21 t2 p30 p31 t3
  have X1 : Hid (Box W3 (w.heap.size) (.bool s1) (.slice a1 n1 c1)) := X1.out.below hb X1.out.lt
  have X2 : Hid (Box W3 (w.heap.size + 1) (.bool s2) (.slice a2 n2 c2)) := X2.out.below hb X2.out.lt
  have X3 : Hid (Box W3 (w.heap.size + 1 + 1) (.bool s3) (.slice a3 n3 c3)) := X3.out.below hb X3.out.lt
  have H1 : Hid (Sl W3 a1 n1 c1 l1) := H1.out.below hb (Nat.le_refl _)
  have H2 : Hid (Sl W3 a2 n2 c2 l2) := H2.out.below hb (Nat.le_refl _)
  have H3 : Hid (Sl W3 a3 n3 c3 l3) := H3.out.below hb (Nat.le_refl _)
  have HB : Hid (Below w.heap.size w W3) := HB.out.trans (hb.mono HB.out.size)
  clear hb
  have p10 := X1.out.z0
  have p11 := X1.out.z1
  have t1 := X1.out.lt
  have p20 := X2.out.z0
  have p21 := X2.out.z1
  have t2 := X2.out.lt
  have p30 := X3.out.z0
  have p31 := X3.out.z1
  have t3 := X3.out.lt
  go_wp2_with fail
  go_ret
  exact ⟨rfl, HB.out⟩
set_option maxHeartbeats 2000000 in
theorem spread_out2 (s1 s2 s3 : Bool) (a1 a2 a3 : Option Addr) (n1 n2 n3 c1 c2 c3 : Nat) (l1 l2 l3 : List Nat) (w : World) (h1 : Sl w a1 n1 c1 l1) (h2 : Sl w a2 n2 c2 l2) (h3 : Sl w a3 n3 c3 l3) (hc : n1 ≤ 40 ∧ 40 < n2) :
    Calls Tryd.prog 4 #[.agg #[.bool s1, .slice a1 n1 c1], .agg #[.bool s2, .slice a2 n2 c2], .agg #[.bool s3, .slice a3 n3 c3]] w fun e w' => e = .returned (.bool true) ∧ Below w.heap.size w w' := by
  have H1 : Hid (Sl w a1 n1 c1 l1) := h1
  have H2 : Hid (Sl w a2 n2 c2 l2) := h2
  have H3 : Hid (Sl w a3 n3 c3 l3) := h3
  have q1 := h1.mx
  have r1 := h1.lec
  have q2 := h2.mx
  have r2 := h2.lec
  have q3 := h3.mx
  have r3 := h3.lec
  clear h1 h2 h3
  have HB : Hid (Below w.heap.size w w) := Below.refl _ _
  go_enter Tryd.func4, Tryd.ntmps4
  go_wp2_with fail
  generalize hW : (World.alloc _ _) = W1
  obtain ⟨x1, x2, x3, hb, hz⟩ := boxes3 w (.bool s1) (.slice a1 n1 c1) (.bool s2) (.slice a2 n2 c2) (.bool s3) (.slice a3 n3 c3) 24 24 24 0 hW
  have X1 : Hid (Box W1 (w.heap.size) (.bool s1) (.slice a1 n1 c1)) := x1
  have X2 : Hid (Box W1 (w.heap.size + 1) (.bool s2) (.slice a2 n2 c2)) := x2
  have X3 : Hid (Box W1 (w.heap.size + 1 + 1) (.bool s3) (.slice a3 n3 c3)) := x3
  clear hW x1 x2 x3 hz
  have H1 : Hid (Sl W1 a1 n1 c1 l1) := H1.out.below hb (Nat.le_refl _)
  have H2 : Hid (Sl W1 a2 n2 c2 l2) := H2.out.below hb (Nat.le_refl _)
  have H3 : Hid (Sl W1 a3 n3 c3 l3) := H3.out.below hb (Nat.le_refl _)
  have HB : Hid (Below w.heap.size w W1) := HB.out.trans (hb.mono HB.out.size)
  clear hb
  have p10 := X1.out.z0
  have p11 := X1.out.z1
  have t1 := X1.out.lt
  have p20 := X2.out.z0
  have p21 := X2.out.z1
  have t2 := X2.out.lt
  have p30 := X3.out.z0
  have p31 := X3.out.z1
  have t3 := X3.out.lt
  refine (in_any s1 a1 n1 c1 _ (by omega)).mono ?_
  rintro e W2 ⟨rfl, hb⟩
  rw [decide_eq_true (by omega)]
  clear p10 p11 t1 p20 p21 t2 p30 p31 t3
  have X1 : Hid (Box W2 (w.heap.size) (.bool s1) (.slice a1 n1 c1)) := X1.out.below hb X1.out.lt
  have X2 : Hid (Box W2 (w.heap.size + 1) (.bool s2) (.slice a2 n2 c2)) := X2.out.below hb X2.out.lt
  have X3 : Hid (Box W2 (w.heap.size + 1 + 1) (.bool s3) (.slice a3 n3 c3)) := X3.out.below hb X3.out.lt
  have H1 : Hid (Sl W2 a1 n1 c1 l1) := H1.out.below hb (Nat.le_refl _)
  have H2 : Hid (Sl W2 a2 n2 c2 l2) := H2.out.below hb (Nat.le_refl _)
  have H3 : Hid (Sl W2 a3 n3 c3 l3) := H3.out.below hb (Nat.le_refl _)
  have HB : Hid (Below w.heap.size w W2) := HB.out.trans (hb.mono HB.out.size)
  clear hb
  have p10 := X1.out.z0
  have p11 := X1.out.z1
  have t1 := X1.out.lt
  have p20 := X2.out.z0
  have p21 := X2.out.z1
  have t2 := X2.out.lt
  have p30 := X3.out.z0
  have p31 := X3.out.z1
  have t3 := X3.out.lt
  go_wp2_with fail
  refine (in_any s2 a2 n2 c2 _ (by omega)).mono ?_
  rintro e W3 ⟨rfl, hb⟩
  rw [decide_eq_false (by omega)]
  clear p10 p11 t1 p20 p21 t2 p30 p31 t3
  have X1 : Hid (Box W3 (w.heap.size) (.bool s1) (.slice a1 n1 c1)) := X1.out.below hb X1.out.lt
  have X2 : Hid (Box W3 (w.heap.size + 1) (.bool s2) (.slice a2 n2 c2)) := X2.out.below hb X2.out.lt
  have X3 : Hid (Box W3 (w.heap.size + 1 + 1) (.bool s3) (.slice a3 n3 c3)) := X3.out.below hb X3.out.lt
  have H1 : Hid (Sl W3 a1 n1 c1 l1) := H1.out.below hb (Nat.le_refl _)
  have H2 : Hid (Sl W3 a2 n2 c2 l2) := H2.out.below hb (Nat.le_refl _)
  have H3 : Hid (Sl W3 a3 n3 c3 l3) := H3.out.below hb (Nat.le_refl _)
  have HB : Hid (Below w.heap.size w W3) := HB.out.trans (hb.mono HB.out.size)
  clear hb
  have p10 := X1.out.z0
  have p11 := X1.out.z1
  have t1 := X1.out.lt
  have p20 := X2.out.z0
  have p21 := X2.out.z1
  have t2 := X2.out.lt
  have p30 := X3.out.z0
  have p31 := X3.out.z1
  have t3 := X3.out.lt
  go_wp2_with fail
  refine (awake_any _).mono ?_
  rintro e W4 ⟨rfl, hb⟩
  clear p10 p11 t1 p20 p21 t2 p30 p31 t3
  have X1 : Hid (Box W4 (w.heap.size) (.bool s1) (.slice a1 n1 c1)) := X1.out.below hb X1.out.lt
  have X2 : Hid (Box W4 (w.heap.size + 1) (.bool s2) (.slice a2 n2 c2)) := X2.out.below hb X2.out.lt
  have X3 : Hid (Box W4 (w.heap.size + 1 + 1) (.bool s3) (.slice a3 n3 c3)) := X3.out.below hb X3.out.lt
  have H1 : Hid (Sl W4 a1 n1 c1 l1) := H1.out.below hb (Nat.le_refl _)
  have H2 : Hid (Sl W4 a2 n2 c2 l2) := H2.out.below hb (Nat.le_refl _)
  have H3 : Hid (Sl W4 a3 n3 c3 l3) := H3.out.below hb (Nat.le_refl _)
  have HB : Hid (Below w.heap.size w W4) := HB.out.trans (hb.mono HB.out.size)
  clear hb
  have p10 := X1.out.z0
  have p11 := X1.out.z1
  have t1 := X1.out.lt
  have p20 := X2.out.z0
  have p21 := X2.out.z1
  have t2 := X2.out.lt
  have p30 := X3.out.z0
  have p31 := X3.out.z1
  have t3 := X3.out.lt
  go_wp2_with fail
  go_ret
  exact ⟨rfl, HB.out⟩
set_option maxHeartbeats 2000000 in
theorem spread_out3 (s1 s2 s3 : Bool) (a1 a2 a3 : Option Addr) (n1 n2 n3 c1 c2 c3 : Nat) (l1 l2 l3 : List Nat) (w : World) (h1 : Sl w a1 n1 c1 l1) (h2 : Sl w a2 n2 c2 l2) (h3 : Sl w a3 n3 c3 l3) (hc : n1 ≤ 40 ∧ n2 ≤ 40 ∧ 40 < n3) :
    Calls Tryd.prog 4 #[.agg #[.bool s1, .slice a1 n1 c1], .agg #[.bool s2, .slice a2 n2 c2], .agg #[.bool s3, .slice a3 n3 c3]] w fun e w' => e = .returned (.bool true) ∧ Below w.heap.size w w' := by
  have H1 : Hid (Sl w a1 n1 c1 l1) := h1
  have H2 : Hid (Sl w a2 n2 c2 l2) := h2
  have H3 : Hid (Sl w a3 n3 c3 l3) := h3
  have q1 := h1.mx
  have r1 := h1.lec
  have q2 := h2.mx
  have r2 := h2.lec
  have q3 := h3.mx
  have r3 := h3.lec
  clear h1 h2 h3
  have HB : Hid (Below w.heap.size w w) := Below.refl _ _
  go_enter Tryd.func4, Tryd.ntmps4
  go_wp2_with fail
  generalize hW : (World.alloc _ _) = W1
  obtain ⟨x1, x2, x3, hb, hz⟩ := boxes3 w (.bool s1) (.slice a1 n1 c1) (.bool s2) (.slice a2 n2 c2) (.bool s3) (.slice a3 n3 c3) 24 24 24 0 hW
  have X1 : Hid (Box W1 (w.heap.size) (.bool s1) (.slice a1 n1 c1)) := x1
  have X2 : Hid (Box W1 (w.heap.size + 1) (.bool s2) (.slice a2 n2 c2)) := x2
  have X3 : Hid (Box W1 (w.heap.size + 1 + 1) (.bool s3) (.slice a3 n3 c3)) := x3
  clear hW x1 x2 x3 hz
  have H1 : Hid (Sl W1 a1 n1 c1 l1) := H1.out.below hb (Nat.le_refl _)
  have H2 : Hid (Sl W1 a2 n2 c2 l2) := H2.out.below hb (Nat.le_refl _)
  have H3 : Hid (Sl W1 a3 n3 c3 l3) := H3.out.below hb (Nat.le_refl _)
  have HB : Hid (Below w.heap.size w W1) := HB.out.trans (hb.mono HB.out.size)
  clear hb
  have p10 := X1.out.z0
  have p11 := X1.out.z1
  have t1 := X1.out.lt
  have p20 := X2.out.z0
  have p21 := X2.out.z1
  have t2 := X2.out.lt
  have p30 := X3.out.z0
  have p31 := X3.out.z1
  have t3 := X3.out.lt
  refine (in_any s1 a1 n1 c1 _ (by omega)).mono ?_
  rintro e W2 ⟨rfl, hb⟩
  rw [decide_eq_true (by omega)]
  clear p10 p11 t1 p20 p21 t2 p30 p31 t3
  have X1 : Hid (Box W2 (w.heap.size) (.bool s1) (.slice a1 n1 c1)) := X1.out.below hb X1.out.lt
  have X2 : Hid (Box W2 (w.heap.size + 1) (.bool s2) (.slice a2 n2 c2)) := X2.out.below hb X2.out.lt
  have X3 : Hid (Box W2 (w.heap.size + 1 + 1) (.bool s3) (.slice a3 n3 c3)) := X3.out.below hb X3.out.lt
  have H1 : Hid (Sl W2 a1 n1 c1 l1) := H1.out.below hb (Nat.le_refl _)
  have H2 : Hid (Sl W2 a2 n2 c2 l2) := H2.out.below hb (Nat.le_refl _)
  have H3 : Hid (Sl W2 a3 n3 c3 l3) := H3.out.below hb (Nat.le_refl _)
  have HB : Hid (Below w.heap.size w W2) := HB.out.trans (hb.mono HB.out.size)
  clear hb
  have p10 := X1.out.z0
  have p11 := X1.out.z1
  have t1 := X1.out.lt
  have p20 := X2.out.z0
  have p21 := X2.out.z1
  have t2 := X2.out.lt
  have p30 := X3.out.z0
  have p31 := X3.out.z1
  have t3 := X3.out.lt
  go_wp2_with fail
  refine (in_any s2 a2 n2 c2 _ (by omega)).mono ?_
  rintro e W3 ⟨rfl, hb⟩
  rw [decide_eq_true (by omega)]
  clear p10 p11 t1 p20 p21 t2 p30 p31 t3
  have X1 : Hid (Box W3 (w.heap.size) (.bool s1) (.slice a1 n1 c1)) := X1.out.below hb X1.out.lt
  have X2 : Hid (Box W3 (w.heap.size + 1) (.bool s2) (.slice a2 n2 c2)) := X2.out.below hb X2.out.lt
  have X3 : Hid (Box W3 (w.heap.size + 1 + 1) (.bool s3) (.slice a3 n3 c3)) := X3.out.below hb X3.out.lt
  have H1 : Hid (Sl W3 a1 n1 c1 l1) := H1.out.below hb (Nat.le_refl _)
  have H2 : Hid (Sl W3 a2 n2 c2 l2) := H2.out.below hb (Nat.le_refl _)
  have H3 : Hid (Sl W3 a3 n3 c3 l3) := H3.out.below hb (Nat.le_refl _)
  have HB : Hid (Below w.heap.size w W3) := HB.out.trans (hb.mono HB.out.size)
  clear hb
  have p10 := X1.out.z0
  have p11 := X1.out.z1
  have t1 := X1.out.lt
  have p20 := X2.out.z0
  have p21 := X2.out.z1
  have t2 := X2.out.lt
  have p30 := X3.out.z0
  have p31 := X3.out.z1
  have t3 := X3.out.lt
  go_wp2_with fail
  refine (in_any s3 a3 n3 c3 _ (by omega)).mono ?_
  rintro e W4 ⟨rfl, hb⟩
  rw [decide_eq_false (by omega)]
  clear p10 p11 t1 p20 p21 t2 p30 p31 t3
  have X1 : Hid (Box W4 (w.heap.size) (.bool s1) (.slice a1 n1 c1)) := X1.out.below hb X1.out.lt
  have X2 : Hid (Box W4 (w.heap.size + 1) (.bool s2) (.slice a2 n2 c2)) := X2.out.below hb X2.out.lt
  have X3 : Hid (Box W4 (w.heap.size + 1 + 1) (.bool s3) (.slice a3 n3 c3)) := X3.out.below hb X3.out.lt
  have H1 : Hid (Sl W4 a1 n1 c1 l1) := H1.out.below hb (Nat.le_refl _)
  have H2 : Hid (Sl W4 a2 n2 c2 l2) := H2.out.below hb (Nat.le_refl _)
  have H3 : Hid (Sl W4 a3 n3 c3 l3) := H3.out.below hb (Nat.le_refl _)
  have HB : Hid (Below w.heap.size w W4) := HB.out.trans (hb.mono HB.out.size)
  clear hb
  have p10 := X1.out.z0
  have p11 := X1.out.z1
  have t1 := X1.out.lt
  have p20 := X2.out.z0
  have p21 := X2.out.z1
  have t2 := X2.out.lt
  have p30 := X3.out.z0
  have p31 := X3.out.z1
  have t3 := X3.out.lt
  go_wp2_with fail
  refine (awake_any _).mono ?_
  rintro e W5 ⟨rfl, hb⟩
  clear p10 p11 t1 p20 p21 t2 p30 p31 t3
  have X1 : Hid (Box W5 (w.heap.size) (.bool s1) (.slice a1 n1 c1)) := X1.out.below hb X1.out.lt
  have X2 : Hid (Box W5 (w.heap.size + 1) (.bool s2) (.slice a2 n2 c2)) := X2.out.below hb X2.out.lt
  have X3 : Hid (Box W5 (w.heap.size + 1 + 1) (.bool s3) (.slice a3 n3 c3)) := X3.out.below hb X3.out.lt
  have H1 : Hid (Sl W5 a1 n1 c1 l1) := H1.out.below hb (Nat.le_refl _)
  have H2 : Hid (Sl W5 a2 n2 c2 l2) := H2.out.below hb (Nat.le_refl _)
  have H3 : Hid (Sl W5 a3 n3 c3 l3) := H3.out.below hb (Nat.le_refl _)
  have HB : Hid (Below w.heap.size w W5) := HB.out.trans (hb.mono HB.out.size)
  clear hb
  have p10 := X1.out.z0
  have p11 := X1.out.z1
  have t1 := X1.out.lt
  have p20 := X2.out.z0
  have p21 := X2.out.z1
  have t2 := X2.out.lt
  have p30 := X3.out.z0
  have p31 := X3.out.z1
  have t3 := X3.out.lt
  go_wp2_with fail
  go_ret
  exact ⟨rfl, HB.out⟩
set_option maxHeartbeats 2000000 in
theorem spread_out4 (s1 s2 s3 : Bool) (a1 a2 a3 : Option Addr) (n1 n2 n3 c1 c2 c3 : Nat) (l1 l2 l3 : List Nat) (w : World) (h1 : Sl w a1 n1 c1 l1) (h2 : Sl w a2 n2 c2 l2) (h3 : Sl w a3 n3 c3 l3) (hc : n1 ≤ 40 ∧ n2 ≤ 40 ∧ n3 ≤ 40 ∧ 4 < n1) :
    Calls Tryd.prog 4 #[.agg #[.bool s1, .slice a1 n1 c1], .agg #[.bool s2, .slice a2 n2 c2], .agg #[.bool s3, .slice a3 n3 c3]] w fun e w' => e = .returned (.bool true) ∧ Below w.heap.size w w' := by
  have H1 : Hid (Sl w a1 n1 c1 l1) := h1
  have H2 : Hid (Sl w a2 n2 c2 l2) := h2
  have H3 : Hid (Sl w a3 n3 c3 l3) := h3
  have q1 := h1.mx
  have r1 := h1.lec
  have q2 := h2.mx
  have r2 := h2.lec
  have q3 := h3.mx
  have r3 := h3.lec
  clear h1 h2 h3
  have HB : Hid (Below w.heap.size w w) := Below.refl _ _
  go_enter Tryd.func4, Tryd.ntmps4
  go_wp2_with fail
  generalize hW : (World.alloc _ _) = W1
  obtain ⟨x1, x2, x3, hb, hz⟩ := boxes3 w (.bool s1) (.slice a1 n1 c1) (.bool s2) (.slice a2 n2 c2) (.bool s3) (.slice a3 n3 c3) 24 24 24 0 hW
  have X1 : Hid (Box W1 (w.heap.size) (.bool s1) (.slice a1 n1 c1)) := x1
  have X2 : Hid (Box W1 (w.heap.size + 1) (.bool s2) (.slice a2 n2 c2)) := x2
  have X3 : Hid (Box W1 (w.heap.size + 1 + 1) (.bool s3) (.slice a3 n3 c3)) := x3
  clear hW x1 x2 x3 hz
  have H1 : Hid (Sl W1 a1 n1 c1 l1) := H1.out.below hb (Nat.le_refl _)
  have H2 : Hid (Sl W1 a2 n2 c2 l2) := H2.out.below hb (Nat.le_refl _)
  have H3 : Hid (Sl W1 a3 n3 c3 l3) := H3.out.below hb (Nat.le_refl _)
  have HB : Hid (Below w.heap.size w W1) := HB.out.trans (hb.mono HB.out.size)
  clear hb
  have p10 := X1.out.z0
  have p11 := X1.out.z1
  have t1 := X1.out.lt
  have p20 := X2.out.z0
  have p21 := X2.out.z1
  have t2 := X2.out.lt
  have p30 := X3.out.z0
  have p31 := X3.out.z1
  have t3 := X3.out.lt
  refine (in_any s1 a1 n1 c1 _ (by omega)).mono ?_
  rintro e W2 ⟨rfl, hb⟩
  rw [decide_eq_true (by omega)]
  clear p10 p11 t1 p20 p21 t2 p30 p31 t3
  have X1 : Hid (Box W2 (w.heap.size) (.bool s1) (.slice a1 n1 c1)) := X1.out.below hb X1.out.lt
  have X2 : Hid (Box W2 (w.heap.size + 1) (.bool s2) (.slice a2 n2 c2)) := X2.out.below hb X2.out.lt
  have X3 : Hid (Box W2 (w.heap.size + 1 + 1) (.bool s3) (.slice a3 n3 c3)) := X3.out.below hb X3.out.lt
  have H1 : Hid (Sl W2 a1 n1 c1 l1) := H1.out.below hb (Nat.le_refl _)
  have H2 : Hid (Sl W2 a2 n2 c2 l2) := H2.out.below hb (Nat.le_refl _)
  have H3 : Hid (Sl W2 a3 n3 c3 l3) := H3.out.below hb (Nat.le_refl _)
  have HB : Hid (Below w.heap.size w W2) := HB.out.trans (hb.mono HB.out.size)
  clear hb
  have p10 := X1.out.z0
  have p11 := X1.out.z1
  have t1 := X1.out.lt
  have p20 := X2.out.z0
  have p21 := X2.out.z1
  have t2 := X2.out.lt
  have p30 := X3.out.z0
  have p31 := X3.out.z1
  have t3 := X3.out.lt
  go_wp2_with fail
  refine (in_any s2 a2 n2 c2 _ (by omega)).mono ?_
  rintro e W3 ⟨rfl, hb⟩
  rw [decide_eq_true (by omega)]
  clear p10 p11 t1 p20 p21 t2 p30 p31 t3
  have X1 : Hid (Box W3 (w.heap.size) (.bool s1) (.slice a1 n1 c1)) := X1.out.below hb X1.out.lt
  have X2 : Hid (Box W3 (w.heap.size + 1) (.bool s2) (.slice a2 n2 c2)) := X2.out.below hb X2.out.lt
  have X3 : Hid (Box W3 (w.heap.size + 1 + 1) (.bool s3) (.slice a3 n3 c3)) := X3.out.below hb X3.out.lt
  have H1 : Hid (Sl W3 a1 n1 c1 l1) := H1.out.below hb (Nat.le_refl _)
  have H2 : Hid (Sl W3 a2 n2 c2 l2) := H2.out.below hb (Nat.le_refl _)
  have H3 : Hid (Sl W3 a3 n3 c3 l3) := H3.out.below hb (Nat.le_refl _)
  have HB : Hid (Below w.heap.size w W3) := HB.out.trans (hb.mono HB.out.size)
  clear hb
  have p10 := X1.out.z0
  have p11 := X1.out.z1
  have t1 := X1.out.lt
  have p20 := X2.out.z0
  have p21 := X2.out.z1
  have t2 := X2.out.lt
  have p30 := X3.out.z0
  have p31 := X3.out.z1
  have t3 := X3.out.lt
  go_wp2_with fail
  refine (in_any s3 a3 n3 c3 _ (by omega)).mono ?_
  rintro e W4 ⟨rfl, hb⟩
  rw [decide_eq_true (by omega)]
  clear p10 p11 t1 p20 p21 t2 p30 p31 t3
  have X1 : Hid (Box W4 (w.heap.size) (.bool s1) (.slice a1 n1 c1)) := X1.out.below hb X1.out.lt
  have X2 : Hid (Box W4 (w.heap.size + 1) (.bool s2) (.slice a2 n2 c2)) := X2.out.below hb X2.out.lt
  have X3 : Hid (Box W4 (w.heap.size + 1 + 1) (.bool s3) (.slice a3 n3 c3)) := X3.out.below hb X3.out.lt
  have H1 : Hid (Sl W4 a1 n1 c1 l1) := H1.out.below hb (Nat.le_refl _)
  have H2 : Hid (Sl W4 a2 n2 c2 l2) := H2.out.below hb (Nat.le_refl _)
  have H3 : Hid (Sl W4 a3 n3 c3 l3) := H3.out.below hb (Nat.le_refl _)
  have HB : Hid (Below w.heap.size w W4) := HB.out.trans (hb.mono HB.out.size)
  clear hb
  have p10 := X1.out.z0
  have p11 := X1.out.z1
  have t1 := X1.out.lt
  have p20 := X2.out.z0
  have p21 := X2.out.z1
  have t2 := X2.out.lt
  have p30 := X3.out.z0
  have p31 := X3.out.z1
  have t3 := X3.out.lt
  go_wp2_with fail
  refine (awake_any _).mono ?_
  rintro e W5 ⟨rfl, hb⟩
  clear p10 p11 t1 p20 p21 t2 p30 p31 t3
  have X1 : Hid (Box W5 (w.heap.size) (.bool s1) (.slice a1 n1 c1)) := X1.out.below hb X1.out.lt
  have X2 : Hid (Box W5 (w.heap.size + 1) (.bool s2) (.slice a2 n2 c2)) := X2.out.below hb X2.out.lt
  have X3 : Hid (Box W5 (w.heap.size + 1 + 1) (.bool s3) (.slice a3 n3 c3)) := X3.out.below hb X3.out.lt
  have H1 : Hid (Sl W5 a1 n1 c1 l1) := H1.out.below hb (Nat.le_refl _)
  have H2 : Hid (Sl W5 a2 n2 c2 l2) := H2.out.below hb (Nat.le_refl _)
  have H3 : Hid (Sl W5 a3 n3 c3 l3) := H3.out.below hb (Nat.le_refl _)
  have HB : Hid (Below w.heap.size w W5) := HB.out.trans (hb.mono HB.out.size)
  clear hb
  have p10 := X1.out.z0
  have p11 := X1.out.z1
  have t1 := X1.out.lt
  have p20 := X2.out.z0
  have p21 := X2.out.z1
  have t2 := X2.out.lt
  have p30 := X3.out.z0
  have p31 := X3.out.z1
  have t3 := X3.out.lt
  go_wp2_with fail
  go_ret
  exact ⟨rfl, HB.out⟩
set_option maxHeartbeats 2000000 in
theorem spread_out5 (s1 s2 s3 : Bool) (a1 a2 a3 : Option Addr) (n1 n2 n3 c1 c2 c3 : Nat) (l1 l2 l3 : List Nat) (w : World) (h1 : Sl w a1 n1 c1 l1) (h2 : Sl w a2 n2 c2 l2) (h3 : Sl w a3 n3 c3 l3) (hc : n1 ≤ 4 ∧ n2 ≤ 40 ∧ n3 ≤ 40 ∧ 4 < n2) :
    Calls Tryd.prog 4 #[.agg #[.bool s1, .slice a1 n1 c1], .agg #[.bool s2, .slice a2 n2 c2], .agg #[.bool s3, .slice a3 n3 c3]] w fun e w' => e = .returned (.bool true) ∧ Below w.heap.size w w' := by
  have H1 : Hid (Sl w a1 n1 c1 l1) := h1
  have H2 : Hid (Sl w a2 n2 c2 l2) := h2
  have H3 : Hid (Sl w a3 n3 c3 l3) := h3
  have q1 := h1.mx
  have r1 := h1.lec
  have q2 := h2.mx
  have r2 := h2.lec
  have q3 := h3.mx
  have r3 := h3.lec
  clear h1 h2 h3
  have HB : Hid (Below w.heap.size w w) := Below.refl _ _
  go_enter Tryd.func4, Tryd.ntmps4
  go_wp2_with fail
  generalize hW : (World.alloc _ _) = W1
  obtain ⟨x1, x2, x3, hb, hz⟩ := boxes3 w (.bool s1) (.slice a1 n1 c1) (.bool s2) (.slice a2 n2 c2) (.bool s3) (.slice a3 n3 c3) 24 24 24 0 hW
  have X1 : Hid (Box W1 (w.heap.size) (.bool s1) (.slice a1 n1 c1)) := x1
  have X2 : Hid (Box W1 (w.heap.size + 1) (.bool s2) (.slice a2 n2 c2)) := x2
  have X3 : Hid (Box W1 (w.heap.size + 1 + 1) (.bool s3) (.slice a3 n3 c3)) := x3
  clear hW x1 x2 x3 hz
  have H1 : Hid (Sl W1 a1 n1 c1 l1) := H1.out.below hb (Nat.le_refl _)
  have H2 : Hid (Sl W1 a2 n2 c2 l2) := H2.out.below hb (Nat.le_refl _)
  have H3 : Hid (Sl W1 a3 n3 c3 l3) := H3.out.below hb (Nat.le_refl _)
  have HB : Hid (Below w.heap.size w W1) := HB.out.trans (hb.mono HB.out.size)
  clear hb
  have p10 := X1.out.z0
  have p11 := X1.out.z1
  have t1 := X1.out.lt
  have p20 := X2.out.z0
  have p21 := X2.out.z1
  have t2 := X2.out.lt
  have p30 := X3.out.z0
  have p31 := X3.out.z1
  have t3 := X3.out.lt
  refine (in_any s1 a1 n1 c1 _ (by omega)).mono ?_
  rintro e W2 ⟨rfl, hb⟩
  rw [decide_eq_true (by omega)]
  clear p10 p11 t1 p20 p21 t2 p30 p31 t3
  have X1 : Hid (Box W2 (w.heap.size) (.bool s1) (.slice a1 n1 c1)) := X1.out.below hb X1.out.lt
  have X2 : Hid (Box W2 (w.heap.size + 1) (.bool s2) (.slice a2 n2 c2)) := X2.out.below hb X2.out.lt
  have X3 : Hid (Box W2 (w.heap.size + 1 + 1) (.bool s3) (.slice a3 n3 c3)) := X3.out.below hb X3.out.lt
  have H1 : Hid (Sl W2 a1 n1 c1 l1) := H1.out.below hb (Nat.le_refl _)
  have H2 : Hid (Sl W2 a2 n2 c2 l2) := H2.out.below hb (Nat.le_refl _)
  have H3 : Hid (Sl W2 a3 n3 c3 l3) := H3.out.below hb (Nat.le_refl _)
  have HB : Hid (Below w.heap.size w W2) := HB.out.trans (hb.mono HB.out.size)
  clear hb
  have p10 := X1.out.z0
  have p11 := X1.out.z1
  have t1 := X1.out.lt
  have p20 := X2.out.z0
  have p21 := X2.out.z1
  have t2 := X2.out.lt
  have p30 := X3.out.z0
  have p31 := X3.out.z1
  have t3 := X3.out.lt
  go_wp2_with fail
  refine (in_any s2 a2 n2 c2 _ (by omega)).mono ?_
  rintro e W3 ⟨rfl, hb⟩
  rw [decide_eq_true (by omega)]
  clear p10 p11 t1 p20 p21 t2 p30 p31 t3
  have X1 : Hid (Box W3 (w.heap.size) (.bool s1) (.slice a1 n1 c1)) := X1.out.below hb X1.out.lt
  have X2 : Hid (Box W3 (w.heap.size + 1) (.bool s2) (.slice a2 n2 c2)) := X2.out.below hb X2.out.lt
  have X3 : Hid (Box W3 (w.heap.size + 1 + 1) (.bool s3) (.slice a3 n3 c3)) := X3.out.below hb X3.out.lt
  have H1 : Hid (Sl W3 a1 n1 c1 l1) := H1.out.below hb (Nat.le_refl _)
  have H2 : Hid (Sl W3 a2 n2 c2 l2) := H2.out.below hb (Nat.le_refl _)
  have H3 : Hid (Sl W3 a3 n3 c3 l3) := H3.out.below hb (Nat.le_refl _)
  have HB : Hid (Below w.heap.size w W3) := HB.out.trans (hb.mono HB.out.size)
  clear hb
  have p10 := X1.out.z0
  have p11 := X1.out.z1
  have t1 := X1.out.lt
  have p20 := X2.out.z0
  have p21 := X2.out.z1
  have t2 := X2.out.lt
  have p30 := X3.out.z0
  have p31 := X3.out.z1
  have t3 := X3.out.lt
  go_wp2_with fail
  refine (in_any s3 a3 n3 c3 _ (by omega)).mono ?_
  rintro e W4 ⟨rfl, hb⟩
  rw [decide_eq_true (by omega)]
  clear p10 p11 t1 p20 p21 t2 p30 p31 t3
  have X1 : Hid (Box W4 (w.heap.size) (.bool s1) (.slice a1 n1 c1)) := X1.out.below hb X1.out.lt
  have X2 : Hid (Box W4 (w.heap.size + 1) (.bool s2) (.slice a2 n2 c2)) := X2.out.below hb X2.out.lt
  have X3 : Hid (Box W4 (w.heap.size + 1 + 1) (.bool s3) (.slice a3 n3 c3)) := X3.out.below hb X3.out.lt
  have H1 : Hid (Sl W4 a1 n1 c1 l1) := H1.out.below hb (Nat.le_refl _)
  have H2 : Hid (Sl W4 a2 n2 c2 l2) := H2.out.below hb (Nat.le_refl _)
  have H3 : Hid (Sl W4 a3 n3 c3 l3) := H3.out.below hb (Nat.le_refl _)
  have HB : Hid (Below w.heap.size w W4) := HB.out.trans (hb.mono HB.out.size)
  clear hb
  have p10 := X1.out.z0
  have p11 := X1.out.z1
  have t1 := X1.out.lt
  have p20 := X2.out.z0
  have p21 := X2.out.z1
  have t2 := X2.out.lt
  have p30 := X3.out.z0
  have p31 := X3.out.z1
  have t3 := X3.out.lt
  go_wp2_with fail
  refine (awake_any _).mono ?_
  rintro e W5 ⟨rfl, hb⟩
  clear p10 p11 t1 p20 p21 t2 p30 p31 t3
  have X1 : Hid (Box W5 (w.heap.size) (.bool s1) (.slice a1 n1 c1)) := X1.out.below hb X1.out.lt
  have X2 : Hid (Box W5 (w.heap.size + 1) (.bool s2) (.slice a2 n2 c2)) := X2.out.below hb X2.out.lt
  have X3 : Hid (Box W5 (w.heap.size + 1 + 1) (.bool s3) (.slice a3 n3 c3)) := X3.out.below hb X3.out.lt
  have H1 : Hid (Sl W5 a1 n1 c1 l1) := H1.out.below hb (Nat.le_refl _)
  have H2 : Hid (Sl W5 a2 n2 c2 l2) := H2.out.below hb (Nat.le_refl _)
  have H3 : Hid (Sl W5 a3 n3 c3 l3) := H3.out.below hb (Nat.le_refl _)
  have HB : Hid (Below w.heap.size w W5) := HB.out.trans (hb.mono HB.out.size)
  clear hb
  have p10 := X1.out.z0
  have p11 := X1.out.z1
  have t1 := X1.out.lt
  have p20 := X2.out.z0
  have p21 := X2.out.z1
  have t2 := X2.out.lt
  have p30 := X3.out.z0
  have p31 := X3.out.z1
  have t3 := X3.out.lt
  go_wp2_with fail
  go_ret
  exact ⟨rfl, HB.out⟩
set_option maxHeartbeats 2000000 in
theorem spread_out6 (s1 s2 s3 : Bool) (a1 a2 a3 : Option Addr) (n1 n2 n3 c1 c2 c3 : Nat) (l1 l2 l3 : List Nat) (w : World) (h1 : Sl w a1 n1 c1 l1) (h2 : Sl w a2 n2 c2 l2) (h3 : Sl w a3 n3 c3 l3) (hc : n1 ≤ 4 ∧ n2 ≤ 4 ∧ n3 ≤ 40 ∧ 4 < n3) :
    Calls Tryd.prog 4 #[.agg #[.bool s1, .slice a1 n1 c1], .agg #[.bool s2, .slice a2 n2 c2], .agg #[.bool s3, .slice a3 n3 c3]] w fun e w' => e = .returned (.bool true) ∧ Below w.heap.size w w' := by
  have H1 : Hid (Sl w a1 n1 c1 l1) := h1
  have H2 : Hid (Sl w a2 n2 c2 l2) := h2
  have H3 : Hid (Sl w a3 n3 c3 l3) := h3
  have q1 := h1.mx
  have r1 := h1.lec
  have q2 := h2.mx
  have r2 := h2.lec
  have q3 := h3.mx
  have r3 := h3.lec
  clear h1 h2 h3
  have HB : Hid (Below w.heap.size w w) := Below.refl _ _
  go_enter Tryd.func4, Tryd.ntmps4
  go_wp2_with fail
  generalize hW : (World.alloc _ _) = W1
  obtain ⟨x1, x2, x3, hb, hz⟩ := boxes3 w (.bool s1) (.slice a1 n1 c1) (.bool s2) (.slice a2 n2 c2) (.bool s3) (.slice a3 n3 c3) 24 24 24 0 hW
  have X1 : Hid (Box W1 (w.heap.size) (.bool s1) (.slice a1 n1 c1)) := x1
  have X2 : Hid (Box W1 (w.heap.size + 1) (.bool s2) (.slice a2 n2 c2)) := x2
  have X3 : Hid (Box W1 (w.heap.size + 1 + 1) (.bool s3) (.slice a3 n3 c3)) := x3
  clear hW x1 x2 x3 hz
  have H1 : Hid (Sl W1 a1 n1 c1 l1) := H1.out.below hb (Nat.le_refl _)
  have H2 : Hid (Sl W1 a2 n2 c2 l2) := H2.out.below hb (Nat.le_refl _)
  have H3 : Hid (Sl W1 a3 n3 c3 l3) := H3.out.below hb (Nat.le_refl _)
  have HB : Hid (Below w.heap.size w W1) := HB.out.trans (hb.mono HB.out.size)
  clear hb
  have p10 := X1.out.z0
  have p11 := X1.out.z1
  have t1 := X1.out.lt
  have p20 := X2.out.z0
  have p21 := X2.out.z1
  have t2 := X2.out.lt
  have p30 := X3.out.z0
  have p31 := X3.out.z1
  have t3 := X3.out.lt
  refine (in_any s1 a1 n1 c1 _ (by omega)).mono ?_
  rintro e W2 ⟨rfl, hb⟩
  rw [decide_eq_true (by omega)]
  clear p10 p11 t1 p20 p21 t2 p30 p31 t3
  have X1 : Hid (Box W2 (w.heap.size) (.bool s1) (.slice a1 n1 c1)) := X1.out.below hb X1.out.lt
  have X2 : Hid (Box W2 (w.heap.size + 1) (.bool s2) (.slice a2 n2 c2)) := X2.out.below hb X2.out.lt
  have X3 : Hid (Box W2 (w.heap.size + 1 + 1) (.bool s3) (.slice a3 n3 c3)) := X3.out.below hb X3.out.lt
  have H1 : Hid (Sl W2 a1 n1 c1 l1) := H1.out.below hb (Nat.le_refl _)
  have H2 : Hid (Sl W2 a2 n2 c2 l2) := H2.out.below hb (Nat.le_refl _)
  have H3 : Hid (Sl W2 a3 n3 c3 l3) := H3.out.below hb (Nat.le_refl _)
  have HB : Hid (Below w.heap.size w W2) := HB.out.trans (hb.mono HB.out.size)
  clear hb
  have p10 := X1.out.z0
  have p11 := X1.out.z1
  have t1 := X1.out.lt
  have p20 := X2.out.z0
  have p21 := X2.out.z1
  have t2 := X2.out.lt
  have p30 := X3.out.z0
  have p31 := X3.out.z1
  have t3 := X3.out.lt
  go_wp2_with fail
  refine (in_any s2 a2 n2 c2 _ (by omega)).mono ?_
  rintro e W3 ⟨rfl, hb⟩
  rw [decide_eq_true (by omega)]
  clear p10 p11 t1 p20 p21 t2 p30 p31 t3
  have X1 : Hid (Box W3 (w.heap.size) (.bool s1) (.slice a1 n1 c1)) := X1.out.below hb X1.out.lt
  have X2 : Hid (Box W3 (w.heap.size + 1) (.bool s2) (.slice a2 n2 c2)) := X2.out.below hb X2.out.lt
  have X3 : Hid (Box W3 (w.heap.size + 1 + 1) (.bool s3) (.slice a3 n3 c3)) := X3.out.below hb X3.out.lt
  have H1 : Hid (Sl W3 a1 n1 c1 l1) := H1.out.below hb (Nat.le_refl _)
  have H2 : Hid (Sl W3 a2 n2 c2 l2) := H2.out.below hb (Nat.le_refl _)
  have H3 : Hid (Sl W3 a3 n3 c3 l3) := H3.out.below hb (Nat.le_refl _)
  have HB : Hid (Below w.heap.size w W3) := HB.out.trans (hb.mono HB.out.size)
  clear hb
  have p10 := X1.out.z0
  have p11 := X1.out.z1
  have t1 := X1.out.lt
  have p20 := X2.out.z0
  have p21 := X2.out.z1
  have t2 := X2.out.lt
  have p30 := X3.out.z0
  have p31 := X3.out.z1
  have t3 := X3.out.lt
  go_wp2_with fail
  refine (in_any s3 a3 n3 c3 _ (by omega)).mono ?_
  rintro e W4 ⟨rfl, hb⟩
  rw [decide_eq_true (by omega)]
  clear p10 p11 t1 p20 p21 t2 p30 p31 t3
  have X1 : Hid (Box W4 (w.heap.size) (.bool s1) (.slice a1 n1 c1)) := X1.out.below hb X1.out.lt
  have X2 : Hid (Box W4 (w.heap.size + 1) (.bool s2) (.slice a2 n2 c2)) := X2.out.below hb X2.out.lt
  have X3 : Hid (Box W4 (w.heap.size + 1 + 1) (.bool s3) (.slice a3 n3 c3)) := X3.out.below hb X3.out.lt
  have H1 : Hid (Sl W4 a1 n1 c1 l1) := H1.out.below hb (Nat.le_refl _)
  have H2 : Hid (Sl W4 a2 n2 c2 l2) := H2.out.below hb (Nat.le_refl _)
  have H3 : Hid (Sl W4 a3 n3 c3 l3) := H3.out.below hb (Nat.le_refl _)
  have HB : Hid (Below w.heap.size w W4) := HB.out.trans (hb.mono HB.out.size)
  clear hb
  have p10 := X1.out.z0
  have p11 := X1.out.z1
  have t1 := X1.out.lt
  have p20 := X2.out.z0
  have p21 := X2.out.z1
  have t2 := X2.out.lt
  have p30 := X3.out.z0
  have p31 := X3.out.z1
  have t3 := X3.out.lt
  go_wp2_with fail
  refine (awake_any _).mono ?_
  rintro e W5 ⟨rfl, hb⟩
  clear p10 p11 t1 p20 p21 t2 p30 p31 t3
  have X1 : Hid (Box W5 (w.heap.size) (.bool s1) (.slice a1 n1 c1)) := X1.out.below hb X1.out.lt
  have X2 : Hid (Box W5 (w.heap.size + 1) (.bool s2) (.slice a2 n2 c2)) := X2.out.below hb X2.out.lt
  have X3 : Hid (Box W5 (w.heap.size + 1 + 1) (.bool s3) (.slice a3 n3 c3)) := X3.out.below hb X3.out.lt
  have H1 : Hid (Sl W5 a1 n1 c1 l1) := H1.out.below hb (Nat.le_refl _)
  have H2 : Hid (Sl W5 a2 n2 c2 l2) := H2.out.below hb (Nat.le_refl _)
  have H3 : Hid (Sl W5 a3 n3 c3 l3) := H3.out.below hb (Nat.le_refl _)
  have HB : Hid (Below w.heap.size w W5) := HB.out.trans (hb.mono HB.out.size)
  clear hb
  have p10 := X1.out.z0
  have p11 := X1.out.z1
  have t1 := X1.out.lt
  have p20 := X2.out.z0
  have p21 := X2.out.z1
  have t2 := X2.out.lt
  have p30 := X3.out.z0
  have p31 := X3.out.z1
  have t3 := X3.out.lt
  go_wp2_with fail
  go_ret
  exact ⟨rfl, HB.out⟩
end Go.Proofs.YtimjafgaadafdabDoor
