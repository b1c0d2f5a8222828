/-
  ExactSums' law, walked: any two numbers.
-/
import Derived.Test.YtimjafgaadafdaaDoorRefG
import Derived.Test.YtimjafgaadafdaaDoorLent
import Derived.Test.YtimjafgaadafdaaDoorMath
namespace Go.Proofs.YtimjafgaadafdaaDoor
open Go.RowKit
attribute [local go_sem ↓] Go.wp_at_zero Go.wp_at_succ
theorem lent_sl {w : World} {ao a' : Option Addr} {n cap cap' : Nat} {l : List Nat} (h : Sl w ao n cap l) (ho : Sl w a' (n + 1) cap' (l ++ [77])) : Sl w a' n cap' l := by
  have h2 := ho.take n (by omega)
  rw [List.take_append_of_le_length (by rw [h.len]; exact Nat.le_refl _), List.take_of_length_le (by rw [h.len]; exact Nat.le_refl _)] at h2
  exact h2
set_option maxHeartbeats 2000000 in
theorem sums_out1 (s1 s2 : Bool) (a1 a2 : Option Addr) (n1 n2 c1 c2 : Nat) (l1 l2 : List Nat) (w : World) (h1 : Sl w a1 n1 c1 l1) (h2 : Sl w a2 n2 c2 l2) (g1 : a1 = none → c1 = 0) (g2 : a2 = none → c2 = 0) (hc : 40 < n1) :
    Calls Tryd.prog 3 #[.agg #[.bool s1, .slice a1 n1 c1], .agg #[.bool s2, .slice a2 n2 c2]] w fun e w' => e = .returned (.bool true) ∧ Below w.heap.size w w' := by
  have q1 := h1.mx
  have r1 := h1.lec
  have Z1 : Hid (a1 = none → c1 = 0) := g1
  have q2 := h2.mx
  have r2 := h2.lec
  have Z2 : Hid (a2 = none → c2 = 0) := g2
  have H1 : Hid (Sl w a1 n1 c1 l1) := h1
  have H2 : Hid (Sl w a2 n2 c2 l2) := h2
  clear h1 h2 g1 g2
  have HB : Hid (Below w.heap.size w w) := Below.refl _ _
  go_enter Tryd.func3, Tryd.ntmps3
  go_wp2_with fail
  generalize hW : (World.alloc _ _) = W1
  obtain ⟨x1, x2, hb, hz⟩ := boxes2 w (.bool s1) (.slice a1 n1 c1) (.bool s2) (.slice a2 n2 c2) 24 24 0 hW
  clear hW hz
  have H1 : Hid (Sl W1 a1 n1 c1 l1) := H1.out.below hb (Nat.le_refl _)
  have H2 : Hid (Sl W1 a2 n2 c2 l2) := H2.out.below hb (Nat.le_refl _)
  have HB : Hid (Below w.heap.size w W1) := HB.out.trans (hb.mono HB.out.size)
  clear hb
  have X1 : Hid (Box W1 (w.heap.size) (.bool s1) (.slice a1 n1 c1)) := x1
  have X2 : Hid (Box W1 (w.heap.size + 1) (.bool s2) (.slice a2 n2 c2)) := x2
  clear x1 x2
  have pX10 := X1.out.z0
  have pX11 := X1.out.z1
  have tX1 := X1.out.lt
  have pX20 := X2.out.z0
  have pX21 := X2.out.z1
  have tX2 := X2.out.lt
  refine (in_any s1 a1 n1 c1 _ (by omega)).mono ?_
  rintro e W2 ⟨rfl, hb⟩
  rw [decide_eq_false (by omega)]
  clear pX10 pX11 tX1 pX20 pX21 tX2
  have H1 : Hid (Sl W2 a1 n1 c1 l1) := H1.out.below hb (Nat.le_refl _)
  have H2 : Hid (Sl W2 a2 n2 c2 l2) := H2.out.below hb (Nat.le_refl _)
  have X1 : Hid (Box W2 (w.heap.size) (.bool s1) (.slice a1 n1 c1)) := X1.out.below hb X1.out.lt
  have X2 : Hid (Box W2 (w.heap.size + 1) (.bool s2) (.slice a2 n2 c2)) := X2.out.below hb X2.out.lt
  have HB : Hid (Below w.heap.size w W2) := HB.out.trans (hb.mono HB.out.size)
  clear hb
  have pX10 := X1.out.z0
  have pX11 := X1.out.z1
  have tX1 := X1.out.lt
  have pX20 := X2.out.z0
  have pX21 := X2.out.z1
  have tX2 := X2.out.lt
  go_wp2_with fail
  refine (awake_any _).mono ?_
  rintro e W3 ⟨rfl, hb⟩
  clear pX10 pX11 tX1 pX20 pX21 tX2
  have H1 : Hid (Sl W3 a1 n1 c1 l1) := H1.out.below hb (Nat.le_refl _)
  have H2 : Hid (Sl W3 a2 n2 c2 l2) := H2.out.below hb (Nat.le_refl _)
  have X1 : Hid (Box W3 (w.heap.size) (.bool s1) (.slice a1 n1 c1)) := X1.out.below hb X1.out.lt
  have X2 : Hid (Box W3 (w.heap.size + 1) (.bool s2) (.slice a2 n2 c2)) := X2.out.below hb X2.out.lt
  have HB : Hid (Below w.heap.size w W3) := HB.out.trans (hb.mono HB.out.size)
  clear hb
  have pX10 := X1.out.z0
  have pX11 := X1.out.z1
  have tX1 := X1.out.lt
  have pX20 := X2.out.z0
  have pX21 := X2.out.z1
  have tX2 := X2.out.lt
  go_wp2_with fail
  go_ret
  exact ⟨rfl, HB.out⟩
set_option maxHeartbeats 2000000 in
theorem sums_out2 (s1 s2 : Bool) (a1 a2 : Option Addr) (n1 n2 c1 c2 : Nat) (l1 l2 : List Nat) (w : World) (h1 : Sl w a1 n1 c1 l1) (h2 : Sl w a2 n2 c2 l2) (g1 : a1 = none → c1 = 0) (g2 : a2 = none → c2 = 0) (hc : n1 ≤ 40 ∧ 40 < n2) :
    Calls Tryd.prog 3 #[.agg #[.bool s1, .slice a1 n1 c1], .agg #[.bool s2, .slice a2 n2 c2]] w fun e w' => e = .returned (.bool true) ∧ Below w.heap.size w w' := by
  have q1 := h1.mx
  have r1 := h1.lec
  have Z1 : Hid (a1 = none → c1 = 0) := g1
  have q2 := h2.mx
  have r2 := h2.lec
  have Z2 : Hid (a2 = none → c2 = 0) := g2
  have H1 : Hid (Sl w a1 n1 c1 l1) := h1
  have H2 : Hid (Sl w a2 n2 c2 l2) := h2
  clear h1 h2 g1 g2
  have HB : Hid (Below w.heap.size w w) := Below.refl _ _
  go_enter Tryd.func3, Tryd.ntmps3
  go_wp2_with fail
  generalize hW : (World.alloc _ _) = W1
  obtain ⟨x1, x2, hb, hz⟩ := boxes2 w (.bool s1) (.slice a1 n1 c1) (.bool s2) (.slice a2 n2 c2) 24 24 0 hW
  clear hW hz
  have H1 : Hid (Sl W1 a1 n1 c1 l1) := H1.out.below hb (Nat.le_refl _)
  have H2 : Hid (Sl W1 a2 n2 c2 l2) := H2.out.below hb (Nat.le_refl _)
  have HB : Hid (Below w.heap.size w W1) := HB.out.trans (hb.mono HB.out.size)
  clear hb
  have X1 : Hid (Box W1 (w.heap.size) (.bool s1) (.slice a1 n1 c1)) := x1
  have X2 : Hid (Box W1 (w.heap.size + 1) (.bool s2) (.slice a2 n2 c2)) := x2
  clear x1 x2
  have pX10 := X1.out.z0
  have pX11 := X1.out.z1
  have tX1 := X1.out.lt
  have pX20 := X2.out.z0
  have pX21 := X2.out.z1
  have tX2 := X2.out.lt
  refine (in_any s1 a1 n1 c1 _ (by omega)).mono ?_
  rintro e W2 ⟨rfl, hb⟩
  rw [decide_eq_true (by omega)]
  clear pX10 pX11 tX1 pX20 pX21 tX2
  have H1 : Hid (Sl W2 a1 n1 c1 l1) := H1.out.below hb (Nat.le_refl _)
  have H2 : Hid (Sl W2 a2 n2 c2 l2) := H2.out.below hb (Nat.le_refl _)
  have X1 : Hid (Box W2 (w.heap.size) (.bool s1) (.slice a1 n1 c1)) := X1.out.below hb X1.out.lt
  have X2 : Hid (Box W2 (w.heap.size + 1) (.bool s2) (.slice a2 n2 c2)) := X2.out.below hb X2.out.lt
  have HB : Hid (Below w.heap.size w W2) := HB.out.trans (hb.mono HB.out.size)
  clear hb
  have pX10 := X1.out.z0
  have pX11 := X1.out.z1
  have tX1 := X1.out.lt
  have pX20 := X2.out.z0
  have pX21 := X2.out.z1
  have tX2 := X2.out.lt
  go_wp2_with fail
  refine (in_any s2 a2 n2 c2 _ (by omega)).mono ?_
  rintro e W3 ⟨rfl, hb⟩
  rw [decide_eq_false (by omega)]
  clear pX10 pX11 tX1 pX20 pX21 tX2
  have H1 : Hid (Sl W3 a1 n1 c1 l1) := H1.out.below hb (Nat.le_refl _)
  have H2 : Hid (Sl W3 a2 n2 c2 l2) := H2.out.below hb (Nat.le_refl _)
  have X1 : Hid (Box W3 (w.heap.size) (.bool s1) (.slice a1 n1 c1)) := X1.out.below hb X1.out.lt
  have X2 : Hid (Box W3 (w.heap.size + 1) (.bool s2) (.slice a2 n2 c2)) := X2.out.below hb X2.out.lt
  have HB : Hid (Below w.heap.size w W3) := HB.out.trans (hb.mono HB.out.size)
  clear hb
  have pX10 := X1.out.z0
  have pX11 := X1.out.z1
  have tX1 := X1.out.lt
  have pX20 := X2.out.z0
  have pX21 := X2.out.z1
  have tX2 := X2.out.lt
  go_wp2_with fail
  refine (awake_any _).mono ?_
  rintro e W4 ⟨rfl, hb⟩
  clear pX10 pX11 tX1 pX20 pX21 tX2
  have H1 : Hid (Sl W4 a1 n1 c1 l1) := H1.out.below hb (Nat.le_refl _)
  have H2 : Hid (Sl W4 a2 n2 c2 l2) := H2.out.below hb (Nat.le_refl _)
  have X1 : Hid (Box W4 (w.heap.size) (.bool s1) (.slice a1 n1 c1)) := X1.out.below hb X1.out.lt
  have X2 : Hid (Box W4 (w.heap.size + 1) (.bool s2) (.slice a2 n2 c2)) := X2.out.below hb X2.out.lt
  have HB : Hid (Below w.heap.size w W4) := HB.out.trans (hb.mono HB.out.size)
  clear hb
  have pX10 := X1.out.z0
  have pX11 := X1.out.z1
  have tX1 := X1.out.lt
  have pX20 := X2.out.z0
  have pX21 := X2.out.z1
  have tX2 := X2.out.lt
  go_wp2_with fail
  go_ret
  exact ⟨rfl, HB.out⟩
set_option maxHeartbeats 4000000 in
theorem sums_in (s1 s2 : Bool) (a1 a2 : Option Addr) (n1 n2 c1 c2 : Nat) (l1 l2 : List Nat) (w : World) (h1 : Sl w a1 n1 c1 l1) (h2 : Sl w a2 n2 c2 l2) (g1 : a1 = none → c1 = 0) (g2 : a2 = none → c2 = 0) (m1 : n1 ≤ 40) (m2 : n2 ≤ 40) :
    Calls Tryd.prog 3 #[.agg #[.bool s1, .slice a1 n1 c1], .agg #[.bool s2, .slice a2 n2 c2]] w fun e w' => e = .returned (.bool true) ∧ Below w.heap.size w w' := by
  have q1 := h1.mx
  have r1 := h1.lec
  have Z1 : Hid (a1 = none → c1 = 0) := g1
  have q2 := h2.mx
  have r2 := h2.lec
  have Z2 : Hid (a2 = none → c2 = 0) := g2
  have H1 : Hid (Sl w a1 n1 c1 l1) := h1
  have H2 : Hid (Sl w a2 n2 c2 l2) := h2
  clear h1 h2 g1 g2
  have HB : Hid (Below w.heap.size w w) := Below.refl _ _
  obtain ⟨sga, SGa⟩ : ∃ v, Hid (addS s1 (vl 4294967296 l1) s2 (vl 4294967296 l2) = v) := ⟨_, rfl⟩
  obtain ⟨ega, EGa⟩ : ∃ v, Hid (addE s1 (vl 4294967296 l1) s2 (vl 4294967296 l2) = v) := ⟨_, rfl⟩
  obtain ⟨sgb, SGb⟩ : ∃ v, Hid (addS s1 (vl 4294967296 l1) (!s2) (vl 4294967296 l2) = v) := ⟨_, rfl⟩
  obtain ⟨egb, EGb⟩ : ∃ v, Hid (addE s1 (vl 4294967296 l1) (!s2) (vl 4294967296 l2) = v) := ⟨_, rfl⟩
  obtain ⟨cv, CV⟩ : ∃ v, Hid (cmpV s1 (vl 4294967296 l1) s2 (vl 4294967296 l2) = v) := ⟨_, rfl⟩
  go_enter Tryd.func3, Tryd.ntmps3
  go_wp2_with fail
  generalize hW : (World.alloc _ _) = W1
  obtain ⟨x1, x2, hb, hz⟩ := boxes2 w (.bool s1) (.slice a1 n1 c1) (.bool s2) (.slice a2 n2 c2) 24 24 0 hW
  clear hW hz
  have H1 : Hid (Sl W1 a1 n1 c1 l1) := H1.out.below hb (Nat.le_refl _)
  have H2 : Hid (Sl W1 a2 n2 c2 l2) := H2.out.below hb (Nat.le_refl _)
  have HB : Hid (Below w.heap.size w W1) := HB.out.trans (hb.mono HB.out.size)
  clear hb
  have X1 : Hid (Box W1 (w.heap.size) (.bool s1) (.slice a1 n1 c1)) := x1
  have X2 : Hid (Box W1 (w.heap.size + 1) (.bool s2) (.slice a2 n2 c2)) := x2
  clear x1 x2
  have pX10 := X1.out.z0
  have pX11 := X1.out.z1
  have tX1 := X1.out.lt
  have pX20 := X2.out.z0
  have pX21 := X2.out.z1
  have tX2 := X2.out.lt
  refine (in_any s1 a1 n1 c1 _ (by omega)).mono ?_
  rintro e W2 ⟨rfl, hb⟩
  rw [decide_eq_true (by omega)]
  clear pX10 pX11 tX1 pX20 pX21 tX2
  have H1 : Hid (Sl W2 a1 n1 c1 l1) := H1.out.below hb (Nat.le_refl _)
  have H2 : Hid (Sl W2 a2 n2 c2 l2) := H2.out.below hb (Nat.le_refl _)
  have X1 : Hid (Box W2 (w.heap.size) (.bool s1) (.slice a1 n1 c1)) := X1.out.below hb X1.out.lt
  have X2 : Hid (Box W2 (w.heap.size + 1) (.bool s2) (.slice a2 n2 c2)) := X2.out.below hb X2.out.lt
  have HB : Hid (Below w.heap.size w W2) := HB.out.trans (hb.mono HB.out.size)
  clear hb
  have pX10 := X1.out.z0
  have pX11 := X1.out.z1
  have tX1 := X1.out.lt
  have pX20 := X2.out.z0
  have pX21 := X2.out.z1
  have tX2 := X2.out.lt
  go_wp2_with fail
  refine (in_any s2 a2 n2 c2 _ (by omega)).mono ?_
  rintro e W3 ⟨rfl, hb⟩
  rw [decide_eq_true (by omega)]
  clear pX10 pX11 tX1 pX20 pX21 tX2
  have H1 : Hid (Sl W3 a1 n1 c1 l1) := H1.out.below hb (Nat.le_refl _)
  have H2 : Hid (Sl W3 a2 n2 c2 l2) := H2.out.below hb (Nat.le_refl _)
  have X1 : Hid (Box W3 (w.heap.size) (.bool s1) (.slice a1 n1 c1)) := X1.out.below hb X1.out.lt
  have X2 : Hid (Box W3 (w.heap.size + 1) (.bool s2) (.slice a2 n2 c2)) := X2.out.below hb X2.out.lt
  have HB : Hid (Below w.heap.size w W3) := HB.out.trans (hb.mono HB.out.size)
  clear hb
  have pX10 := X1.out.z0
  have pX11 := X1.out.z1
  have tX1 := X1.out.lt
  have pX20 := X2.out.z0
  have pX21 := X2.out.z1
  have tX2 := X2.out.lt
  go_wp2_with fail
  refine (lent_any s1 a1 n1 c1 l1 _ H1.out Z1.out (by omega)).mono ?_
  rintro e W4 ⟨bp, cp, rfl, ho, hb⟩
  clear pX10 pX11 tX1 pX20 pX21 tX2
  have H1 : Hid (Sl W4 a1 n1 c1 l1) := H1.out.below hb (Nat.le_refl _)
  have H2 : Hid (Sl W4 a2 n2 c2 l2) := H2.out.below hb (Nat.le_refl _)
  have X1 : Hid (Box W4 (w.heap.size) (.bool s1) (.slice a1 n1 c1)) := X1.out.below hb X1.out.lt
  have X2 : Hid (Box W4 (w.heap.size + 1) (.bool s2) (.slice a2 n2 c2)) := X2.out.below hb X2.out.lt
  have HB : Hid (Below w.heap.size w W4) := HB.out.trans (hb.mono HB.out.size)
  clear hb
  have pX10 := X1.out.z0
  have pX11 := X1.out.z1
  have tX1 := X1.out.lt
  have pX20 := X2.out.z0
  have pX21 := X2.out.z1
  have tX2 := X2.out.lt
  have OWp : Hid (Own W4 W3.heap.size (some ⟨bp, 0, none⟩) (n1 + 1) cp (l1 ++ [77])) := ho
  have Hp : Hid (Sl W4 (some ⟨bp, 0, none⟩) n1 cp l1) := lent_sl H1.out OWp.out.sl
  clear ho
  go_wp2_with fail
  generalize hW : (World.alloc W4 _) = W5
  obtain ⟨xn, hb, hz⟩ := boxes1 W4 (.bool s1) (.slice (some ⟨bp, 0, none⟩) n1 cp) 24 hW
  clear hW hz
  have Xp : Hid (Box W5 (W4.heap.size) (.bool s1) (.slice (some ⟨bp, 0, none⟩) n1 cp)) := xn
  clear xn
  clear pX10 pX11 tX1 pX20 pX21 tX2
  have H1 : Hid (Sl W5 a1 n1 c1 l1) := H1.out.below hb (Nat.le_refl _)
  have H2 : Hid (Sl W5 a2 n2 c2 l2) := H2.out.below hb (Nat.le_refl _)
  have X1 : Hid (Box W5 (w.heap.size) (.bool s1) (.slice a1 n1 c1)) := X1.out.below hb X1.out.lt
  have X2 : Hid (Box W5 (w.heap.size + 1) (.bool s2) (.slice a2 n2 c2)) := X2.out.below hb X2.out.lt
  have OWp : Hid (Own W5 W3.heap.size (some ⟨bp, 0, none⟩) (n1 + 1) cp (l1 ++ [77])) := OWp.out.below hb (Nat.le_refl _)
  have Hp : Hid (Sl W5 (some ⟨bp, 0, none⟩) n1 cp l1) := Hp.out.below hb (Nat.le_refl _)
  have HB : Hid (Below w.heap.size w W5) := HB.out.trans (hb.mono HB.out.size)
  clear hb
  have pX10 := X1.out.z0
  have pX11 := X1.out.z1
  have tX1 := X1.out.lt
  have pX20 := X2.out.z0
  have pX21 := X2.out.z1
  have tX2 := X2.out.lt
  have pXp0 := Xp.out.z0
  have pXp1 := Xp.out.z1
  have tXp := Xp.out.lt
  go_wp2_with fail
  refine (lent_any s2 a2 n2 c2 l2 _ H2.out Z2.out (by omega)).mono ?_
  rintro e W6 ⟨bq, cq, rfl, ho, hb⟩
  clear pX10 pX11 tX1 pX20 pX21 tX2 pXp0 pXp1 tXp
  have H1 : Hid (Sl W6 a1 n1 c1 l1) := H1.out.below hb (Nat.le_refl _)
  have H2 : Hid (Sl W6 a2 n2 c2 l2) := H2.out.below hb (Nat.le_refl _)
  have X1 : Hid (Box W6 (w.heap.size) (.bool s1) (.slice a1 n1 c1)) := X1.out.below hb X1.out.lt
  have X2 : Hid (Box W6 (w.heap.size + 1) (.bool s2) (.slice a2 n2 c2)) := X2.out.below hb X2.out.lt
  have OWp : Hid (Own W6 W3.heap.size (some ⟨bp, 0, none⟩) (n1 + 1) cp (l1 ++ [77])) := OWp.out.below hb (Nat.le_refl _)
  have Hp : Hid (Sl W6 (some ⟨bp, 0, none⟩) n1 cp l1) := Hp.out.below hb (Nat.le_refl _)
  have Xp : Hid (Box W6 (W4.heap.size) (.bool s1) (.slice (some ⟨bp, 0, none⟩) n1 cp)) := Xp.out.below hb Xp.out.lt
  have HB : Hid (Below w.heap.size w W6) := HB.out.trans (hb.mono HB.out.size)
  clear hb
  have pX10 := X1.out.z0
  have pX11 := X1.out.z1
  have tX1 := X1.out.lt
  have pX20 := X2.out.z0
  have pX21 := X2.out.z1
  have tX2 := X2.out.lt
  have pXp0 := Xp.out.z0
  have pXp1 := Xp.out.z1
  have tXp := Xp.out.lt
  have OWq : Hid (Own W6 W5.heap.size (some ⟨bq, 0, none⟩) (n2 + 1) cq (l2 ++ [77])) := ho
  have Hq : Hid (Sl W6 (some ⟨bq, 0, none⟩) n2 cq l2) := lent_sl H2.out OWq.out.sl
  clear ho
  go_wp2_with fail
  generalize hW : (World.alloc W6 _) = W7
  obtain ⟨xn, hb, hz⟩ := boxes1 W6 (.bool s2) (.slice (some ⟨bq, 0, none⟩) n2 cq) 24 hW
  clear hW hz
  have Xq : Hid (Box W7 (W6.heap.size) (.bool s2) (.slice (some ⟨bq, 0, none⟩) n2 cq)) := xn
  clear xn
  clear pX10 pX11 tX1 pX20 pX21 tX2 pXp0 pXp1 tXp
  have H1 : Hid (Sl W7 a1 n1 c1 l1) := H1.out.below hb (Nat.le_refl _)
  have H2 : Hid (Sl W7 a2 n2 c2 l2) := H2.out.below hb (Nat.le_refl _)
  have X1 : Hid (Box W7 (w.heap.size) (.bool s1) (.slice a1 n1 c1)) := X1.out.below hb X1.out.lt
  have X2 : Hid (Box W7 (w.heap.size + 1) (.bool s2) (.slice a2 n2 c2)) := X2.out.below hb X2.out.lt
  have OWp : Hid (Own W7 W3.heap.size (some ⟨bp, 0, none⟩) (n1 + 1) cp (l1 ++ [77])) := OWp.out.below hb (Nat.le_refl _)
  have Hp : Hid (Sl W7 (some ⟨bp, 0, none⟩) n1 cp l1) := Hp.out.below hb (Nat.le_refl _)
  have Xp : Hid (Box W7 (W4.heap.size) (.bool s1) (.slice (some ⟨bp, 0, none⟩) n1 cp)) := Xp.out.below hb Xp.out.lt
  have OWq : Hid (Own W7 W5.heap.size (some ⟨bq, 0, none⟩) (n2 + 1) cq (l2 ++ [77])) := OWq.out.below hb (Nat.le_refl _)
  have Hq : Hid (Sl W7 (some ⟨bq, 0, none⟩) n2 cq l2) := Hq.out.below hb (Nat.le_refl _)
  have HB : Hid (Below w.heap.size w W7) := HB.out.trans (hb.mono HB.out.size)
  clear hb
  have pX10 := X1.out.z0
  have pX11 := X1.out.z1
  have tX1 := X1.out.lt
  have pX20 := X2.out.z0
  have pX21 := X2.out.z1
  have tX2 := X2.out.lt
  have pXp0 := Xp.out.z0
  have pXp1 := Xp.out.z1
  have tXp := Xp.out.lt
  have pXq0 := Xq.out.z0
  have pXq1 := Xq.out.z1
  have tXq := Xq.out.lt
  go_wp2_with fail
  refine (add_any s1 s2 (some ⟨bp, 0, none⟩) n1 cp l1 (some ⟨bq, 0, none⟩) n2 cq l2 _ Hp.out Hq.out (by omega) (by omega)).mono ?_
  rintro e W8 ⟨⟨v, rfl, hx⟩, hb⟩
  rw [SGa.out] at hx
  rw [EGa.out]
  clear pX10 pX11 tX1 pX20 pX21 tX2 pXp0 pXp1 tXp pXq0 pXq1 tXq
  have H1 : Hid (Sl W8 a1 n1 c1 l1) := H1.out.below hb (Nat.le_refl _)
  have H2 : Hid (Sl W8 a2 n2 c2 l2) := H2.out.below hb (Nat.le_refl _)
  have X1 : Hid (Box W8 (w.heap.size) (.bool s1) (.slice a1 n1 c1)) := X1.out.below hb X1.out.lt
  have X2 : Hid (Box W8 (w.heap.size + 1) (.bool s2) (.slice a2 n2 c2)) := X2.out.below hb X2.out.lt
  have OWp : Hid (Own W8 W3.heap.size (some ⟨bp, 0, none⟩) (n1 + 1) cp (l1 ++ [77])) := OWp.out.below hb (Nat.le_refl _)
  have Hp : Hid (Sl W8 (some ⟨bp, 0, none⟩) n1 cp l1) := Hp.out.below hb (Nat.le_refl _)
  have Xp : Hid (Box W8 (W4.heap.size) (.bool s1) (.slice (some ⟨bp, 0, none⟩) n1 cp)) := Xp.out.below hb Xp.out.lt
  have OWq : Hid (Own W8 W5.heap.size (some ⟨bq, 0, none⟩) (n2 + 1) cq (l2 ++ [77])) := OWq.out.below hb (Nat.le_refl _)
  have Hq : Hid (Sl W8 (some ⟨bq, 0, none⟩) n2 cq l2) := Hq.out.below hb (Nat.le_refl _)
  have Xq : Hid (Box W8 (W6.heap.size) (.bool s2) (.slice (some ⟨bq, 0, none⟩) n2 cq)) := Xq.out.below hb Xq.out.lt
  have HB : Hid (Below w.heap.size w W8) := HB.out.trans (hb.mono HB.out.size)
  clear hb
  have pX10 := X1.out.z0
  have pX11 := X1.out.z1
  have tX1 := X1.out.lt
  have pX20 := X2.out.z0
  have pX21 := X2.out.z1
  have tX2 := X2.out.lt
  have pXp0 := Xp.out.z0
  have pXp1 := Xp.out.z1
  have tXp := Xp.out.lt
  have pXq0 := Xq.out.z0
  have pXq1 := Xq.out.z1
  have tXq := Xq.out.lt
  have Ix := hx
  obtain ⟨ax, nx, cx, lx, rfl, hs, hv, mx⟩ := hx.open (addV_lt _ _ _ _)
  clear hs hv hx
  have Ix : Hid (IntR W8 W7.heap.size (.agg #[.bool sga, .slice ax nx cx]) sga (addV s1 (vl 4294967296 l1) s2 (vl 4294967296 l2))) := Ix
  go_wp2_with fail
  generalize hW : (World.alloc W8 _) = W9
  obtain ⟨xn, hb, hz⟩ := boxes1 W8 (.bool sga) (.slice ax nx cx) 24 hW
  clear hW hz
  have Xx : Hid (Box W9 (W8.heap.size) (.bool sga) (.slice ax nx cx)) := xn
  clear xn
  clear pX10 pX11 tX1 pX20 pX21 tX2 pXp0 pXp1 tXp pXq0 pXq1 tXq
  have H1 : Hid (Sl W9 a1 n1 c1 l1) := H1.out.below hb (Nat.le_refl _)
  have H2 : Hid (Sl W9 a2 n2 c2 l2) := H2.out.below hb (Nat.le_refl _)
  have X1 : Hid (Box W9 (w.heap.size) (.bool s1) (.slice a1 n1 c1)) := X1.out.below hb X1.out.lt
  have X2 : Hid (Box W9 (w.heap.size + 1) (.bool s2) (.slice a2 n2 c2)) := X2.out.below hb X2.out.lt
  have OWp : Hid (Own W9 W3.heap.size (some ⟨bp, 0, none⟩) (n1 + 1) cp (l1 ++ [77])) := OWp.out.below hb (Nat.le_refl _)
  have Hp : Hid (Sl W9 (some ⟨bp, 0, none⟩) n1 cp l1) := Hp.out.below hb (Nat.le_refl _)
  have Xp : Hid (Box W9 (W4.heap.size) (.bool s1) (.slice (some ⟨bp, 0, none⟩) n1 cp)) := Xp.out.below hb Xp.out.lt
  have OWq : Hid (Own W9 W5.heap.size (some ⟨bq, 0, none⟩) (n2 + 1) cq (l2 ++ [77])) := OWq.out.below hb (Nat.le_refl _)
  have Hq : Hid (Sl W9 (some ⟨bq, 0, none⟩) n2 cq l2) := Hq.out.below hb (Nat.le_refl _)
  have Xq : Hid (Box W9 (W6.heap.size) (.bool s2) (.slice (some ⟨bq, 0, none⟩) n2 cq)) := Xq.out.below hb Xq.out.lt
  have Ix : Hid (IntR W9 W7.heap.size (.agg #[.bool sga, .slice ax nx cx]) sga (addV s1 (vl 4294967296 l1) s2 (vl 4294967296 l2))) := Ix.out.below hb (Nat.le_refl _)
  have HB : Hid (Below w.heap.size w W9) := HB.out.trans (hb.mono HB.out.size)
  clear hb
  have pX10 := X1.out.z0
  have pX11 := X1.out.z1
  have tX1 := X1.out.lt
  have pX20 := X2.out.z0
  have pX21 := X2.out.z1
  have tX2 := X2.out.lt
  have pXp0 := Xp.out.z0
  have pXp1 := Xp.out.z1
  have tXp := Xp.out.lt
  have pXq0 := Xq.out.z0
  have pXq1 := Xq.out.z1
  have tXq := Xq.out.lt
  have pXx0 := Xx.out.z0
  have pXx1 := Xx.out.z1
  have tXx := Xx.out.lt
  go_wp2_with fail
  refine (radd_any s1 s2 a1 n1 c1 l1 a2 n2 c2 l2 _ H1.out H2.out Z1.out Z2.out (by omega) (by omega)).mono ?_
  rintro e W10 ⟨⟨v, rfl, hy⟩, hb⟩
  rw [SGa.out] at hy
  rw [EGa.out]
  clear pX10 pX11 tX1 pX20 pX21 tX2 pXp0 pXp1 tXp pXq0 pXq1 tXq pXx0 pXx1 tXx
  have H1 : Hid (Sl W10 a1 n1 c1 l1) := H1.out.below hb (Nat.le_refl _)
  have H2 : Hid (Sl W10 a2 n2 c2 l2) := H2.out.below hb (Nat.le_refl _)
  have X1 : Hid (Box W10 (w.heap.size) (.bool s1) (.slice a1 n1 c1)) := X1.out.below hb X1.out.lt
  have X2 : Hid (Box W10 (w.heap.size + 1) (.bool s2) (.slice a2 n2 c2)) := X2.out.below hb X2.out.lt
  have OWp : Hid (Own W10 W3.heap.size (some ⟨bp, 0, none⟩) (n1 + 1) cp (l1 ++ [77])) := OWp.out.below hb (Nat.le_refl _)
  have Hp : Hid (Sl W10 (some ⟨bp, 0, none⟩) n1 cp l1) := Hp.out.below hb (Nat.le_refl _)
  have Xp : Hid (Box W10 (W4.heap.size) (.bool s1) (.slice (some ⟨bp, 0, none⟩) n1 cp)) := Xp.out.below hb Xp.out.lt
  have OWq : Hid (Own W10 W5.heap.size (some ⟨bq, 0, none⟩) (n2 + 1) cq (l2 ++ [77])) := OWq.out.below hb (Nat.le_refl _)
  have Hq : Hid (Sl W10 (some ⟨bq, 0, none⟩) n2 cq l2) := Hq.out.below hb (Nat.le_refl _)
  have Xq : Hid (Box W10 (W6.heap.size) (.bool s2) (.slice (some ⟨bq, 0, none⟩) n2 cq)) := Xq.out.below hb Xq.out.lt
  have Ix : Hid (IntR W10 W7.heap.size (.agg #[.bool sga, .slice ax nx cx]) sga (addV s1 (vl 4294967296 l1) s2 (vl 4294967296 l2))) := Ix.out.below hb (Nat.le_refl _)
  have Xx : Hid (Box W10 (W8.heap.size) (.bool sga) (.slice ax nx cx)) := Xx.out.below hb Xx.out.lt
  have HB : Hid (Below w.heap.size w W10) := HB.out.trans (hb.mono HB.out.size)
  clear hb
  have pX10 := X1.out.z0
  have pX11 := X1.out.z1
  have tX1 := X1.out.lt
  have pX20 := X2.out.z0
  have pX21 := X2.out.z1
  have tX2 := X2.out.lt
  have pXp0 := Xp.out.z0
  have pXp1 := Xp.out.z1
  have tXp := Xp.out.lt
  have pXq0 := Xq.out.z0
  have pXq1 := Xq.out.z1
  have tXq := Xq.out.lt
  have pXx0 := Xx.out.z0
  have pXx1 := Xx.out.z1
  have tXx := Xx.out.lt
  have Iy := hy
  obtain ⟨ay, ny, cy, ly, rfl, hs, hv, my⟩ := hy.open (addV_lt _ _ _ _)
  clear hs hv hy
  have Iy : Hid (IntR W10 W9.heap.size (.agg #[.bool sga, .slice ay ny cy]) sga (addV s1 (vl 4294967296 l1) s2 (vl 4294967296 l2))) := Iy
  go_wp2_with fail
  generalize hW : (World.alloc W10 _) = W11
  obtain ⟨xn, hb, hz⟩ := boxes1 W10 (.bool sga) (.slice ay ny cy) 24 hW
  clear hW hz
  have Xy : Hid (Box W11 (W10.heap.size) (.bool sga) (.slice ay ny cy)) := xn
  clear xn
  clear pX10 pX11 tX1 pX20 pX21 tX2 pXp0 pXp1 tXp pXq0 pXq1 tXq pXx0 pXx1 tXx
  have H1 : Hid (Sl W11 a1 n1 c1 l1) := H1.out.below hb (Nat.le_refl _)
  have H2 : Hid (Sl W11 a2 n2 c2 l2) := H2.out.below hb (Nat.le_refl _)
  have X1 : Hid (Box W11 (w.heap.size) (.bool s1) (.slice a1 n1 c1)) := X1.out.below hb X1.out.lt
  have X2 : Hid (Box W11 (w.heap.size + 1) (.bool s2) (.slice a2 n2 c2)) := X2.out.below hb X2.out.lt
  have OWp : Hid (Own W11 W3.heap.size (some ⟨bp, 0, none⟩) (n1 + 1) cp (l1 ++ [77])) := OWp.out.below hb (Nat.le_refl _)
  have Hp : Hid (Sl W11 (some ⟨bp, 0, none⟩) n1 cp l1) := Hp.out.below hb (Nat.le_refl _)
  have Xp : Hid (Box W11 (W4.heap.size) (.bool s1) (.slice (some ⟨bp, 0, none⟩) n1 cp)) := Xp.out.below hb Xp.out.lt
  have OWq : Hid (Own W11 W5.heap.size (some ⟨bq, 0, none⟩) (n2 + 1) cq (l2 ++ [77])) := OWq.out.below hb (Nat.le_refl _)
  have Hq : Hid (Sl W11 (some ⟨bq, 0, none⟩) n2 cq l2) := Hq.out.below hb (Nat.le_refl _)
  have Xq : Hid (Box W11 (W6.heap.size) (.bool s2) (.slice (some ⟨bq, 0, none⟩) n2 cq)) := Xq.out.below hb Xq.out.lt
  have Ix : Hid (IntR W11 W7.heap.size (.agg #[.bool sga, .slice ax nx cx]) sga (addV s1 (vl 4294967296 l1) s2 (vl 4294967296 l2))) := Ix.out.below hb (Nat.le_refl _)
  have Xx : Hid (Box W11 (W8.heap.size) (.bool sga) (.slice ax nx cx)) := Xx.out.below hb Xx.out.lt
  have Iy : Hid (IntR W11 W9.heap.size (.agg #[.bool sga, .slice ay ny cy]) sga (addV s1 (vl 4294967296 l1) s2 (vl 4294967296 l2))) := Iy.out.below hb (Nat.le_refl _)
  have HB : Hid (Below w.heap.size w W11) := HB.out.trans (hb.mono HB.out.size)
  clear hb
  have pX10 := X1.out.z0
  have pX11 := X1.out.z1
  have tX1 := X1.out.lt
  have pX20 := X2.out.z0
  have pX21 := X2.out.z1
  have tX2 := X2.out.lt
  have pXp0 := Xp.out.z0
  have pXp1 := Xp.out.z1
  have tXp := Xp.out.lt
  have pXq0 := Xq.out.z0
  have pXq1 := Xq.out.z1
  have tXq := Xq.out.lt
  have pXx0 := Xx.out.z0
  have pXx1 := Xx.out.z1
  have tXx := Xx.out.lt
  have pXy0 := Xy.out.z0
  have pXy1 := Xy.out.z1
  have tXy := Xy.out.lt
  go_wp2_with fail
  refine (sub_any s1 s2 (some ⟨bp, 0, none⟩) n1 cp l1 (some ⟨bq, 0, none⟩) n2 cq l2 _ Hp.out Hq.out (by omega) (by omega)).mono ?_
  rintro e W12 ⟨⟨v, rfl, hu⟩, hb⟩
  rw [SGb.out] at hu
  rw [EGb.out]
  clear pX10 pX11 tX1 pX20 pX21 tX2 pXp0 pXp1 tXp pXq0 pXq1 tXq pXx0 pXx1 tXx pXy0 pXy1 tXy
  have H1 : Hid (Sl W12 a1 n1 c1 l1) := H1.out.below hb (Nat.le_refl _)
  have H2 : Hid (Sl W12 a2 n2 c2 l2) := H2.out.below hb (Nat.le_refl _)
  have X1 : Hid (Box W12 (w.heap.size) (.bool s1) (.slice a1 n1 c1)) := X1.out.below hb X1.out.lt
  have X2 : Hid (Box W12 (w.heap.size + 1) (.bool s2) (.slice a2 n2 c2)) := X2.out.below hb X2.out.lt
  have OWp : Hid (Own W12 W3.heap.size (some ⟨bp, 0, none⟩) (n1 + 1) cp (l1 ++ [77])) := OWp.out.below hb (Nat.le_refl _)
  have Hp : Hid (Sl W12 (some ⟨bp, 0, none⟩) n1 cp l1) := Hp.out.below hb (Nat.le_refl _)
  have Xp : Hid (Box W12 (W4.heap.size) (.bool s1) (.slice (some ⟨bp, 0, none⟩) n1 cp)) := Xp.out.below hb Xp.out.lt
  have OWq : Hid (Own W12 W5.heap.size (some ⟨bq, 0, none⟩) (n2 + 1) cq (l2 ++ [77])) := OWq.out.below hb (Nat.le_refl _)
  have Hq : Hid (Sl W12 (some ⟨bq, 0, none⟩) n2 cq l2) := Hq.out.below hb (Nat.le_refl _)
  have Xq : Hid (Box W12 (W6.heap.size) (.bool s2) (.slice (some ⟨bq, 0, none⟩) n2 cq)) := Xq.out.below hb Xq.out.lt
  have Ix : Hid (IntR W12 W7.heap.size (.agg #[.bool sga, .slice ax nx cx]) sga (addV s1 (vl 4294967296 l1) s2 (vl 4294967296 l2))) := Ix.out.below hb (Nat.le_refl _)
  have Xx : Hid (Box W12 (W8.heap.size) (.bool sga) (.slice ax nx cx)) := Xx.out.below hb Xx.out.lt
  have Iy : Hid (IntR W12 W9.heap.size (.agg #[.bool sga, .slice ay ny cy]) sga (addV s1 (vl 4294967296 l1) s2 (vl 4294967296 l2))) := Iy.out.below hb (Nat.le_refl _)
  have Xy : Hid (Box W12 (W10.heap.size) (.bool sga) (.slice ay ny cy)) := Xy.out.below hb Xy.out.lt
  have HB : Hid (Below w.heap.size w W12) := HB.out.trans (hb.mono HB.out.size)
  clear hb
  have pX10 := X1.out.z0
  have pX11 := X1.out.z1
  have tX1 := X1.out.lt
  have pX20 := X2.out.z0
  have pX21 := X2.out.z1
  have tX2 := X2.out.lt
  have pXp0 := Xp.out.z0
  have pXp1 := Xp.out.z1
  have tXp := Xp.out.lt
  have pXq0 := Xq.out.z0
  have pXq1 := Xq.out.z1
  have tXq := Xq.out.lt
  have pXx0 := Xx.out.z0
  have pXx1 := Xx.out.z1
  have tXx := Xx.out.lt
  have pXy0 := Xy.out.z0
  have pXy1 := Xy.out.z1
  have tXy := Xy.out.lt
  have Iu := hu
  obtain ⟨au, nu, cu, lu, rfl, hs, hv, mu⟩ := hu.open (addV_lt _ _ _ _)
  clear hs hv hu
  have Iu : Hid (IntR W12 W11.heap.size (.agg #[.bool sgb, .slice au nu cu]) sgb (addV s1 (vl 4294967296 l1) (!s2) (vl 4294967296 l2))) := Iu
  go_wp2_with fail
  generalize hW : (World.alloc W12 _) = W13
  obtain ⟨xn, hb, hz⟩ := boxes1 W12 (.bool sgb) (.slice au nu cu) 24 hW
  clear hW hz
  have Xu : Hid (Box W13 (W12.heap.size) (.bool sgb) (.slice au nu cu)) := xn
  clear xn
  clear pX10 pX11 tX1 pX20 pX21 tX2 pXp0 pXp1 tXp pXq0 pXq1 tXq pXx0 pXx1 tXx pXy0 pXy1 tXy
  have H1 : Hid (Sl W13 a1 n1 c1 l1) := H1.out.below hb (Nat.le_refl _)
  have H2 : Hid (Sl W13 a2 n2 c2 l2) := H2.out.below hb (Nat.le_refl _)
  have X1 : Hid (Box W13 (w.heap.size) (.bool s1) (.slice a1 n1 c1)) := X1.out.below hb X1.out.lt
  have X2 : Hid (Box W13 (w.heap.size + 1) (.bool s2) (.slice a2 n2 c2)) := X2.out.below hb X2.out.lt
  have OWp : Hid (Own W13 W3.heap.size (some ⟨bp, 0, none⟩) (n1 + 1) cp (l1 ++ [77])) := OWp.out.below hb (Nat.le_refl _)
  have Hp : Hid (Sl W13 (some ⟨bp, 0, none⟩) n1 cp l1) := Hp.out.below hb (Nat.le_refl _)
  have Xp : Hid (Box W13 (W4.heap.size) (.bool s1) (.slice (some ⟨bp, 0, none⟩) n1 cp)) := Xp.out.below hb Xp.out.lt
  have OWq : Hid (Own W13 W5.heap.size (some ⟨bq, 0, none⟩) (n2 + 1) cq (l2 ++ [77])) := OWq.out.below hb (Nat.le_refl _)
  have Hq : Hid (Sl W13 (some ⟨bq, 0, none⟩) n2 cq l2) := Hq.out.below hb (Nat.le_refl _)
  have Xq : Hid (Box W13 (W6.heap.size) (.bool s2) (.slice (some ⟨bq, 0, none⟩) n2 cq)) := Xq.out.below hb Xq.out.lt
  have Ix : Hid (IntR W13 W7.heap.size (.agg #[.bool sga, .slice ax nx cx]) sga (addV s1 (vl 4294967296 l1) s2 (vl 4294967296 l2))) := Ix.out.below hb (Nat.le_refl _)
  have Xx : Hid (Box W13 (W8.heap.size) (.bool sga) (.slice ax nx cx)) := Xx.out.below hb Xx.out.lt
  have Iy : Hid (IntR W13 W9.heap.size (.agg #[.bool sga, .slice ay ny cy]) sga (addV s1 (vl 4294967296 l1) s2 (vl 4294967296 l2))) := Iy.out.below hb (Nat.le_refl _)
  have Xy : Hid (Box W13 (W10.heap.size) (.bool sga) (.slice ay ny cy)) := Xy.out.below hb Xy.out.lt
  have Iu : Hid (IntR W13 W11.heap.size (.agg #[.bool sgb, .slice au nu cu]) sgb (addV s1 (vl 4294967296 l1) (!s2) (vl 4294967296 l2))) := Iu.out.below hb (Nat.le_refl _)
  have HB : Hid (Below w.heap.size w W13) := HB.out.trans (hb.mono HB.out.size)
  clear hb
  have pX10 := X1.out.z0
  have pX11 := X1.out.z1
  have tX1 := X1.out.lt
  have pX20 := X2.out.z0
  have pX21 := X2.out.z1
  have tX2 := X2.out.lt
  have pXp0 := Xp.out.z0
  have pXp1 := Xp.out.z1
  have tXp := Xp.out.lt
  have pXq0 := Xq.out.z0
  have pXq1 := Xq.out.z1
  have tXq := Xq.out.lt
  have pXx0 := Xx.out.z0
  have pXx1 := Xx.out.z1
  have tXx := Xx.out.lt
  have pXy0 := Xy.out.z0
  have pXy1 := Xy.out.z1
  have tXy := Xy.out.lt
  have pXu0 := Xu.out.z0
  have pXu1 := Xu.out.z1
  have tXu := Xu.out.lt
  go_wp2_with fail
  refine (rsub_any s1 s2 a1 n1 c1 l1 a2 n2 c2 l2 _ H1.out H2.out Z1.out Z2.out (by omega) (by omega)).mono ?_
  rintro e W14 ⟨⟨v, rfl, hz⟩, hb⟩
  rw [SGb.out] at hz
  rw [EGb.out]
  clear pX10 pX11 tX1 pX20 pX21 tX2 pXp0 pXp1 tXp pXq0 pXq1 tXq pXx0 pXx1 tXx pXy0 pXy1 tXy pXu0 pXu1 tXu
  have H1 : Hid (Sl W14 a1 n1 c1 l1) := H1.out.below hb (Nat.le_refl _)
  have H2 : Hid (Sl W14 a2 n2 c2 l2) := H2.out.below hb (Nat.le_refl _)
  have X1 : Hid (Box W14 (w.heap.size) (.bool s1) (.slice a1 n1 c1)) := X1.out.below hb X1.out.lt
  have X2 : Hid (Box W14 (w.heap.size + 1) (.bool s2) (.slice a2 n2 c2)) := X2.out.below hb X2.out.lt
  have OWp : Hid (Own W14 W3.heap.size (some ⟨bp, 0, none⟩) (n1 + 1) cp (l1 ++ [77])) := OWp.out.below hb (Nat.le_refl _)
  have Hp : Hid (Sl W14 (some ⟨bp, 0, none⟩) n1 cp l1) := Hp.out.below hb (Nat.le_refl _)
  have Xp : Hid (Box W14 (W4.heap.size) (.bool s1) (.slice (some ⟨bp, 0, none⟩) n1 cp)) := Xp.out.below hb Xp.out.lt
  have OWq : Hid (Own W14 W5.heap.size (some ⟨bq, 0, none⟩) (n2 + 1) cq (l2 ++ [77])) := OWq.out.below hb (Nat.le_refl _)
  have Hq : Hid (Sl W14 (some ⟨bq, 0, none⟩) n2 cq l2) := Hq.out.below hb (Nat.le_refl _)
  have Xq : Hid (Box W14 (W6.heap.size) (.bool s2) (.slice (some ⟨bq, 0, none⟩) n2 cq)) := Xq.out.below hb Xq.out.lt
  have Ix : Hid (IntR W14 W7.heap.size (.agg #[.bool sga, .slice ax nx cx]) sga (addV s1 (vl 4294967296 l1) s2 (vl 4294967296 l2))) := Ix.out.below hb (Nat.le_refl _)
  have Xx : Hid (Box W14 (W8.heap.size) (.bool sga) (.slice ax nx cx)) := Xx.out.below hb Xx.out.lt
  have Iy : Hid (IntR W14 W9.heap.size (.agg #[.bool sga, .slice ay ny cy]) sga (addV s1 (vl 4294967296 l1) s2 (vl 4294967296 l2))) := Iy.out.below hb (Nat.le_refl _)
  have Xy : Hid (Box W14 (W10.heap.size) (.bool sga) (.slice ay ny cy)) := Xy.out.below hb Xy.out.lt
  have Iu : Hid (IntR W14 W11.heap.size (.agg #[.bool sgb, .slice au nu cu]) sgb (addV s1 (vl 4294967296 l1) (!s2) (vl 4294967296 l2))) := Iu.out.below hb (Nat.le_refl _)
  have Xu : Hid (Box W14 (W12.heap.size) (.bool sgb) (.slice au nu cu)) := Xu.out.below hb Xu.out.lt
  have HB : Hid (Below w.heap.size w W14) := HB.out.trans (hb.mono HB.out.size)
  clear hb
  have pX10 := X1.out.z0
  have pX11 := X1.out.z1
  have tX1 := X1.out.lt
  have pX20 := X2.out.z0
  have pX21 := X2.out.z1
  have tX2 := X2.out.lt
  have pXp0 := Xp.out.z0
  have pXp1 := Xp.out.z1
  have tXp := Xp.out.lt
  have pXq0 := Xq.out.z0
  have pXq1 := Xq.out.z1
  have tXq := Xq.out.lt
  have pXx0 := Xx.out.z0
  have pXx1 := Xx.out.z1
  have tXx := Xx.out.lt
  have pXy0 := Xy.out.z0
  have pXy1 := Xy.out.z1
  have tXy := Xy.out.lt
  have pXu0 := Xu.out.z0
  have pXu1 := Xu.out.z1
  have tXu := Xu.out.lt
  have Iz := hz
  obtain ⟨az, nz, cz, lz, rfl, hs, hv, mz⟩ := hz.open (addV_lt _ _ _ _)
  clear hs hv hz
  have Iz : Hid (IntR W14 W13.heap.size (.agg #[.bool sgb, .slice az nz cz]) sgb (addV s1 (vl 4294967296 l1) (!s2) (vl 4294967296 l2))) := Iz
  go_wp2_with fail
  generalize hW : (World.alloc W14 _) = W15
  obtain ⟨xn, hb, hz⟩ := boxes1 W14 (.bool sgb) (.slice az nz cz) 24 hW
  clear hW hz
  have Xz : Hid (Box W15 (W14.heap.size) (.bool sgb) (.slice az nz cz)) := xn
  clear xn
  clear pX10 pX11 tX1 pX20 pX21 tX2 pXp0 pXp1 tXp pXq0 pXq1 tXq pXx0 pXx1 tXx pXy0 pXy1 tXy pXu0 pXu1 tXu
  have H1 : Hid (Sl W15 a1 n1 c1 l1) := H1.out.below hb (Nat.le_refl _)
  have H2 : Hid (Sl W15 a2 n2 c2 l2) := H2.out.below hb (Nat.le_refl _)
  have X1 : Hid (Box W15 (w.heap.size) (.bool s1) (.slice a1 n1 c1)) := X1.out.below hb X1.out.lt
  have X2 : Hid (Box W15 (w.heap.size + 1) (.bool s2) (.slice a2 n2 c2)) := X2.out.below hb X2.out.lt
  have OWp : Hid (Own W15 W3.heap.size (some ⟨bp, 0, none⟩) (n1 + 1) cp (l1 ++ [77])) := OWp.out.below hb (Nat.le_refl _)
  have Hp : Hid (Sl W15 (some ⟨bp, 0, none⟩) n1 cp l1) := Hp.out.below hb (Nat.le_refl _)
  have Xp : Hid (Box W15 (W4.heap.size) (.bool s1) (.slice (some ⟨bp, 0, none⟩) n1 cp)) := Xp.out.below hb Xp.out.lt
  have OWq : Hid (Own W15 W5.heap.size (some ⟨bq, 0, none⟩) (n2 + 1) cq (l2 ++ [77])) := OWq.out.below hb (Nat.le_refl _)
  have Hq : Hid (Sl W15 (some ⟨bq, 0, none⟩) n2 cq l2) := Hq.out.below hb (Nat.le_refl _)
  have Xq : Hid (Box W15 (W6.heap.size) (.bool s2) (.slice (some ⟨bq, 0, none⟩) n2 cq)) := Xq.out.below hb Xq.out.lt
  have Ix : Hid (IntR W15 W7.heap.size (.agg #[.bool sga, .slice ax nx cx]) sga (addV s1 (vl 4294967296 l1) s2 (vl 4294967296 l2))) := Ix.out.below hb (Nat.le_refl _)
  have Xx : Hid (Box W15 (W8.heap.size) (.bool sga) (.slice ax nx cx)) := Xx.out.below hb Xx.out.lt
  have Iy : Hid (IntR W15 W9.heap.size (.agg #[.bool sga, .slice ay ny cy]) sga (addV s1 (vl 4294967296 l1) s2 (vl 4294967296 l2))) := Iy.out.below hb (Nat.le_refl _)
  have Xy : Hid (Box W15 (W10.heap.size) (.bool sga) (.slice ay ny cy)) := Xy.out.below hb Xy.out.lt
  have Iu : Hid (IntR W15 W11.heap.size (.agg #[.bool sgb, .slice au nu cu]) sgb (addV s1 (vl 4294967296 l1) (!s2) (vl 4294967296 l2))) := Iu.out.below hb (Nat.le_refl _)
  have Xu : Hid (Box W15 (W12.heap.size) (.bool sgb) (.slice au nu cu)) := Xu.out.below hb Xu.out.lt
  have Iz : Hid (IntR W15 W13.heap.size (.agg #[.bool sgb, .slice az nz cz]) sgb (addV s1 (vl 4294967296 l1) (!s2) (vl 4294967296 l2))) := Iz.out.below hb (Nat.le_refl _)
  have HB : Hid (Below w.heap.size w W15) := HB.out.trans (hb.mono HB.out.size)
  clear hb
  have pX10 := X1.out.z0
  have pX11 := X1.out.z1
  have tX1 := X1.out.lt
  have pX20 := X2.out.z0
  have pX21 := X2.out.z1
  have tX2 := X2.out.lt
  have pXp0 := Xp.out.z0
  have pXp1 := Xp.out.z1
  have tXp := Xp.out.lt
  have pXq0 := Xq.out.z0
  have pXq1 := Xq.out.z1
  have tXq := Xq.out.lt
  have pXx0 := Xx.out.z0
  have pXx1 := Xx.out.z1
  have tXx := Xx.out.lt
  have pXy0 := Xy.out.z0
  have pXy1 := Xy.out.z1
  have tXy := Xy.out.lt
  have pXu0 := Xu.out.z0
  have pXu1 := Xu.out.z1
  have tXu := Xu.out.lt
  have pXz0 := Xz.out.z0
  have pXz1 := Xz.out.z1
  have tXz := Xz.out.lt
  go_wp2_with fail
  have hb : Below W15.heap.size W15 W15.drew := (Below.refl _ _).drew
  clear pX10 pX11 tX1 pX20 pX21 tX2 pXp0 pXp1 tXp pXq0 pXq1 tXq pXx0 pXx1 tXx pXy0 pXy1 tXy pXu0 pXu1 tXu pXz0 pXz1 tXz
  have H1 : Hid (Sl W15.drew a1 n1 c1 l1) := H1.out.below hb (Nat.le_refl _)
  have H2 : Hid (Sl W15.drew a2 n2 c2 l2) := H2.out.below hb (Nat.le_refl _)
  have X1 : Hid (Box W15.drew (w.heap.size) (.bool s1) (.slice a1 n1 c1)) := X1.out.below hb X1.out.lt
  have X2 : Hid (Box W15.drew (w.heap.size + 1) (.bool s2) (.slice a2 n2 c2)) := X2.out.below hb X2.out.lt
  have OWp : Hid (Own W15.drew W3.heap.size (some ⟨bp, 0, none⟩) (n1 + 1) cp (l1 ++ [77])) := OWp.out.below hb (Nat.le_refl _)
  have Hp : Hid (Sl W15.drew (some ⟨bp, 0, none⟩) n1 cp l1) := Hp.out.below hb (Nat.le_refl _)
  have Xp : Hid (Box W15.drew (W4.heap.size) (.bool s1) (.slice (some ⟨bp, 0, none⟩) n1 cp)) := Xp.out.below hb Xp.out.lt
  have OWq : Hid (Own W15.drew W5.heap.size (some ⟨bq, 0, none⟩) (n2 + 1) cq (l2 ++ [77])) := OWq.out.below hb (Nat.le_refl _)
  have Hq : Hid (Sl W15.drew (some ⟨bq, 0, none⟩) n2 cq l2) := Hq.out.below hb (Nat.le_refl _)
  have Xq : Hid (Box W15.drew (W6.heap.size) (.bool s2) (.slice (some ⟨bq, 0, none⟩) n2 cq)) := Xq.out.below hb Xq.out.lt
  have Ix : Hid (IntR W15.drew W7.heap.size (.agg #[.bool sga, .slice ax nx cx]) sga (addV s1 (vl 4294967296 l1) s2 (vl 4294967296 l2))) := Ix.out.below hb (Nat.le_refl _)
  have Xx : Hid (Box W15.drew (W8.heap.size) (.bool sga) (.slice ax nx cx)) := Xx.out.below hb Xx.out.lt
  have Iy : Hid (IntR W15.drew W9.heap.size (.agg #[.bool sga, .slice ay ny cy]) sga (addV s1 (vl 4294967296 l1) s2 (vl 4294967296 l2))) := Iy.out.below hb (Nat.le_refl _)
  have Xy : Hid (Box W15.drew (W10.heap.size) (.bool sga) (.slice ay ny cy)) := Xy.out.below hb Xy.out.lt
  have Iu : Hid (IntR W15.drew W11.heap.size (.agg #[.bool sgb, .slice au nu cu]) sgb (addV s1 (vl 4294967296 l1) (!s2) (vl 4294967296 l2))) := Iu.out.below hb (Nat.le_refl _)
  have Xu : Hid (Box W15.drew (W12.heap.size) (.bool sgb) (.slice au nu cu)) := Xu.out.below hb Xu.out.lt
  have Iz : Hid (IntR W15.drew W13.heap.size (.agg #[.bool sgb, .slice az nz cz]) sgb (addV s1 (vl 4294967296 l1) (!s2) (vl 4294967296 l2))) := Iz.out.below hb (Nat.le_refl _)
  have Xz : Hid (Box W15.drew (W14.heap.size) (.bool sgb) (.slice az nz cz)) := Xz.out.below hb Xz.out.lt
  have HB : Hid (Below w.heap.size w W15.drew) := HB.out.trans (hb.mono HB.out.size)
  clear hb
  have kS : W15.drew.cell? ⟨w.heap.size, 0, none⟩ = some (.bool s1) ∧ W15.drew.cell? ⟨w.heap.size, 1, none⟩ = some (.slice a1 n1 c1) ∧ W15.drew.cell? ⟨w.heap.size + 1, 0, none⟩ = some (.bool s2) ∧ W15.drew.cell? ⟨w.heap.size + 1, 1, none⟩ = some (.slice a2 n2 c2) ∧ W15.drew.cell? ⟨W4.heap.size, 0, none⟩ = some (.bool s1) ∧ W15.drew.cell? ⟨W4.heap.size, 1, none⟩ = some (.slice (some ⟨bp, 0, none⟩) n1 cp) ∧ W15.drew.cell? ⟨W6.heap.size, 0, none⟩ = some (.bool s2) ∧ W15.drew.cell? ⟨W6.heap.size, 1, none⟩ = some (.slice (some ⟨bq, 0, none⟩) n2 cq) ∧ W15.drew.cell? ⟨W8.heap.size, 0, none⟩ = some (.bool sga) ∧ W15.drew.cell? ⟨W8.heap.size, 1, none⟩ = some (.slice ax nx cx) ∧ W15.drew.cell? ⟨W10.heap.size, 0, none⟩ = some (.bool sga) ∧ W15.drew.cell? ⟨W10.heap.size, 1, none⟩ = some (.slice ay ny cy) ∧ W15.drew.cell? ⟨W12.heap.size, 0, none⟩ = some (.bool sgb) ∧ W15.drew.cell? ⟨W12.heap.size, 1, none⟩ = some (.slice au nu cu) ∧ W15.drew.cell? ⟨W14.heap.size, 0, none⟩ = some (.bool sgb) ∧ W15.drew.cell? ⟨W14.heap.size, 1, none⟩ = some (.slice az nz cz) := ⟨X1.out.z0, X1.out.z1, X2.out.z0, X2.out.z1, Xp.out.z0, Xp.out.z1, Xq.out.z0, Xq.out.z1, Xx.out.z0, Xx.out.z1, Xy.out.z0, Xy.out.z1, Xu.out.z0, Xu.out.z1, Xz.out.z0, Xz.out.z1⟩
  refine wp_region_held_drew (S := fun w' => w'.cell? ⟨w.heap.size, 0, none⟩ = some (.bool s1) ∧ w'.cell? ⟨w.heap.size, 1, none⟩ = some (.slice a1 n1 c1) ∧ w'.cell? ⟨w.heap.size + 1, 0, none⟩ = some (.bool s2) ∧ w'.cell? ⟨w.heap.size + 1, 1, none⟩ = some (.slice a2 n2 c2) ∧ w'.cell? ⟨W4.heap.size, 0, none⟩ = some (.bool s1) ∧ w'.cell? ⟨W4.heap.size, 1, none⟩ = some (.slice (some ⟨bp, 0, none⟩) n1 cp) ∧ w'.cell? ⟨W6.heap.size, 0, none⟩ = some (.bool s2) ∧ w'.cell? ⟨W6.heap.size, 1, none⟩ = some (.slice (some ⟨bq, 0, none⟩) n2 cq) ∧ w'.cell? ⟨W8.heap.size, 0, none⟩ = some (.bool sga) ∧ w'.cell? ⟨W8.heap.size, 1, none⟩ = some (.slice ax nx cx) ∧ w'.cell? ⟨W10.heap.size, 0, none⟩ = some (.bool sga) ∧ w'.cell? ⟨W10.heap.size, 1, none⟩ = some (.slice ay ny cy) ∧ w'.cell? ⟨W12.heap.size, 0, none⟩ = some (.bool sgb) ∧ w'.cell? ⟨W12.heap.size, 1, none⟩ = some (.slice au nu cu) ∧ w'.cell? ⟨W14.heap.size, 0, none⟩ = some (.bool sgb) ∧ w'.cell? ⟨W14.heap.size, 1, none⟩ = some (.slice az nz cz)) (by kernel_rfl) (by exact kS) (fun hHeld => ?_)
  clear hHeld
  refine wpAnyH_take (i := 0) (oi := { dst := some 52, op := Op.load 24 (Operand.tmp 7), type := 24, pos := "law.go:46", after := #[], guard := none }) (v := ?_) rfl (by kernel_rfl) (by kernel_rfl) (by kernel_rfl) (fun _ _ _ h => h) (Or.inl ⟨by rfl, ?_⟩) (by exact kS) ?_
  rotate_left
  · intro w hSw; (try dsimp only at hSw); (go_simp <;> with_reducible rfl)
  try simp only [Act.put, List.setIfInBounds_toArray, List.set_cons_zero, List.set_cons_succ]
  refine wpAnyH_take (i := 1) (oi := { dst := some 53, op := Op.load 24 (Operand.tmp 9), type := 24, pos := "law.go:46", after := #[], guard := none }) (v := ?_) rfl (by kernel_rfl) (by kernel_rfl) (by kernel_rfl) (fun _ _ _ h => h) (Or.inl ⟨by rfl, ?_⟩) (by exact kS) ?_
  rotate_left
  · intro w hSw; (try dsimp only at hSw); (go_simp <;> with_reducible rfl)
  try simp only [Act.put, List.setIfInBounds_toArray, List.set_cons_zero, List.set_cons_succ]
  refine wpAnyH_ready (rs := [2]) (by kernel_rfl) (by simp) ?_
  refine AllReadyH.cons (o := { dst := some 54, op := Op.call { callee := Callee.value (Operand.func 16), args := #[Operand.tmp 52, Operand.tmp 53], argTypes := #[24, 24] }, type := 4, pos := "law.go:46", after := #[{ on := 0, ground := Ground.data }, { on := 1, ground := Ground.data }], guard := none }) rfl (fun K hK => ?_) AllReadyH.nil
  go_simp
  refine (whole_any Ix.out Iy.out).mono ?_
  rintro e W16 ⟨rfl, hb⟩
  have H1 : Hid (Sl W16 a1 n1 c1 l1) := H1.out.below hb (Nat.le_refl _)
  have H2 : Hid (Sl W16 a2 n2 c2 l2) := H2.out.below hb (Nat.le_refl _)
  have X1 : Hid (Box W16 (w.heap.size) (.bool s1) (.slice a1 n1 c1)) := X1.out.below hb X1.out.lt
  have X2 : Hid (Box W16 (w.heap.size + 1) (.bool s2) (.slice a2 n2 c2)) := X2.out.below hb X2.out.lt
  have OWp : Hid (Own W16 W3.heap.size (some ⟨bp, 0, none⟩) (n1 + 1) cp (l1 ++ [77])) := OWp.out.below hb (Nat.le_refl _)
  have Hp : Hid (Sl W16 (some ⟨bp, 0, none⟩) n1 cp l1) := Hp.out.below hb (Nat.le_refl _)
  have Xp : Hid (Box W16 (W4.heap.size) (.bool s1) (.slice (some ⟨bp, 0, none⟩) n1 cp)) := Xp.out.below hb Xp.out.lt
  have OWq : Hid (Own W16 W5.heap.size (some ⟨bq, 0, none⟩) (n2 + 1) cq (l2 ++ [77])) := OWq.out.below hb (Nat.le_refl _)
  have Hq : Hid (Sl W16 (some ⟨bq, 0, none⟩) n2 cq l2) := Hq.out.below hb (Nat.le_refl _)
  have Xq : Hid (Box W16 (W6.heap.size) (.bool s2) (.slice (some ⟨bq, 0, none⟩) n2 cq)) := Xq.out.below hb Xq.out.lt
  have Ix : Hid (IntR W16 W7.heap.size (.agg #[.bool sga, .slice ax nx cx]) sga (addV s1 (vl 4294967296 l1) s2 (vl 4294967296 l2))) := Ix.out.below hb (Nat.le_refl _)
  have Xx : Hid (Box W16 (W8.heap.size) (.bool sga) (.slice ax nx cx)) := Xx.out.below hb Xx.out.lt
  have Iy : Hid (IntR W16 W9.heap.size (.agg #[.bool sga, .slice ay ny cy]) sga (addV s1 (vl 4294967296 l1) s2 (vl 4294967296 l2))) := Iy.out.below hb (Nat.le_refl _)
  have Xy : Hid (Box W16 (W10.heap.size) (.bool sga) (.slice ay ny cy)) := Xy.out.below hb Xy.out.lt
  have Iu : Hid (IntR W16 W11.heap.size (.agg #[.bool sgb, .slice au nu cu]) sgb (addV s1 (vl 4294967296 l1) (!s2) (vl 4294967296 l2))) := Iu.out.below hb (Nat.le_refl _)
  have Xu : Hid (Box W16 (W12.heap.size) (.bool sgb) (.slice au nu cu)) := Xu.out.below hb Xu.out.lt
  have Iz : Hid (IntR W16 W13.heap.size (.agg #[.bool sgb, .slice az nz cz]) sgb (addV s1 (vl 4294967296 l1) (!s2) (vl 4294967296 l2))) := Iz.out.below hb (Nat.le_refl _)
  have Xz : Hid (Box W16 (W14.heap.size) (.bool sgb) (.slice az nz cz)) := Xz.out.below hb Xz.out.lt
  have HB : Hid (Below w.heap.size w W16) := HB.out.trans (hb.mono HB.out.size)
  clear hb
  clear kS
  have kS : W16.cell? ⟨w.heap.size, 0, none⟩ = some (.bool s1) ∧ W16.cell? ⟨w.heap.size, 1, none⟩ = some (.slice a1 n1 c1) ∧ W16.cell? ⟨w.heap.size + 1, 0, none⟩ = some (.bool s2) ∧ W16.cell? ⟨w.heap.size + 1, 1, none⟩ = some (.slice a2 n2 c2) ∧ W16.cell? ⟨W4.heap.size, 0, none⟩ = some (.bool s1) ∧ W16.cell? ⟨W4.heap.size, 1, none⟩ = some (.slice (some ⟨bp, 0, none⟩) n1 cp) ∧ W16.cell? ⟨W6.heap.size, 0, none⟩ = some (.bool s2) ∧ W16.cell? ⟨W6.heap.size, 1, none⟩ = some (.slice (some ⟨bq, 0, none⟩) n2 cq) ∧ W16.cell? ⟨W8.heap.size, 0, none⟩ = some (.bool sga) ∧ W16.cell? ⟨W8.heap.size, 1, none⟩ = some (.slice ax nx cx) ∧ W16.cell? ⟨W10.heap.size, 0, none⟩ = some (.bool sga) ∧ W16.cell? ⟨W10.heap.size, 1, none⟩ = some (.slice ay ny cy) ∧ W16.cell? ⟨W12.heap.size, 0, none⟩ = some (.bool sgb) ∧ W16.cell? ⟨W12.heap.size, 1, none⟩ = some (.slice au nu cu) ∧ W16.cell? ⟨W14.heap.size, 0, none⟩ = some (.bool sgb) ∧ W16.cell? ⟨W14.heap.size, 1, none⟩ = some (.slice az nz cz) := ⟨X1.out.z0, X1.out.z1, X2.out.z0, X2.out.z1, Xp.out.z0, Xp.out.z1, Xq.out.z0, Xq.out.z1, Xx.out.z0, Xx.out.z1, Xy.out.z0, Xy.out.z1, Xu.out.z0, Xu.out.z1, Xz.out.z0, Xz.out.z1⟩
  go_wp2_with fail
  refine hK.out _ _ (by exact kS) (fun hHeld => ?_)
  clear hK K hHeld
  try simp only [Act.put, List.setIfInBounds_toArray, List.set_cons_zero, List.set_cons_succ]
  refine wpAnyH_take (i := 3) (oi := { dst := some 55, op := Op.move (Operand.tmp 54), type := 4, pos := "law.go:46", after := #[{ on := 2, ground := Ground.data }, { on := 2, ground := Ground.chain }], guard := none }) (v := ?_) rfl (by kernel_rfl) (by kernel_rfl) (by kernel_rfl) (fun _ _ _ h => h) (Or.inl ⟨by rfl, ?_⟩) (by exact kS) ?_
  rotate_left
  · intro w hSw; (try dsimp only at hSw); (go_simp <;> with_reducible rfl)
  try simp only [Act.put, List.setIfInBounds_toArray, List.set_cons_zero, List.set_cons_succ]
  refine wpAnyH_take (i := 4) (oi := { dst := some 56, op := Op.move (Operand.tmp 8), type := 28, pos := "law.go:46", after := #[{ on := 3, ground := Ground.guard }], guard := some (3, true) }) (v := ?_) rfl (by kernel_rfl) (by kernel_rfl) (by kernel_rfl) (fun _ _ _ h => h) (Or.inl ⟨by rfl, ?_⟩) (by exact kS) ?_
  rotate_left
  · intro w hSw; (try dsimp only at hSw); (go_simp <;> with_reducible rfl)
  try simp only [Act.put, List.setIfInBounds_toArray, List.set_cons_zero, List.set_cons_succ]
  refine wpAnyH_take (i := 5) (oi := { dst := some 57, op := Op.move (Operand.tmp 10), type := 3, pos := "law.go:46", after := #[{ on := 3, ground := Ground.guard }], guard := some (3, true) }) (v := ?_) rfl (by kernel_rfl) (by kernel_rfl) (by kernel_rfl) (fun _ _ _ h => h) (Or.inl ⟨by rfl, ?_⟩) (by exact kS) ?_
  rotate_left
  · intro w hSw; (try dsimp only at hSw); (go_simp <;> with_reducible rfl)
  try simp only [Act.put, List.setIfInBounds_toArray, List.set_cons_zero, List.set_cons_succ]
  refine wpAnyH_take (i := 6) (oi := { dst := some 58, op := Op.binOp BinOp.eql 3 (Operand.tmp 56) (Operand.tmp 57) 3, type := 4, pos := "law.go:46", after := #[{ on := 4, ground := Ground.data }, { on := 5, ground := Ground.data }, { on := 3, ground := Ground.guard }], guard := some (3, true) }) (v := ?_) rfl (by kernel_rfl) (by kernel_rfl) (by kernel_rfl) (fun _ _ _ h => h) (Or.inl ⟨by rfl, ?_⟩) (by exact kS) ?_
  rotate_left
  · intro w hSw; (try dsimp only at hSw); (go_simp <;> with_reducible rfl)
  try simp only [Act.put, List.setIfInBounds_toArray, List.set_cons_zero, List.set_cons_succ]
  refine wpAnyH_take (i := 7) (oi := { dst := some 59, op := Op.pick (Operand.tmp 55) (Operand.tmp 58) (Operand.const (Value.bool false)), type := 4, pos := "law.go:46", after := #[{ on := 3, ground := Ground.data }, { on := 6, ground := Ground.data }], guard := none }) (v := ?_) rfl (by kernel_rfl) (by kernel_rfl) (by kernel_rfl) (fun _ _ _ h => h) (Or.inl ⟨by rfl, ?_⟩) (by exact kS) ?_
  rotate_left
  · intro w hSw; (try dsimp only at hSw); (go_simp <;> with_reducible rfl)
  try simp only [Act.put, List.setIfInBounds_toArray, List.set_cons_zero, List.set_cons_succ]
  refine wpAnyH_take (i := 8) (oi := { dst := some 60, op := Op.move (Operand.tmp 59), type := 4, pos := "law.go:46", after := #[{ on := 7, ground := Ground.data }, { on := 3, ground := Ground.chain }], guard := none }) (v := ?_) rfl (by kernel_rfl) (by kernel_rfl) (by kernel_rfl) (fun _ _ _ h => h) (Or.inl ⟨by rfl, ?_⟩) (by exact kS) ?_
  rotate_left
  · intro w hSw; (try dsimp only at hSw); (go_simp <;> with_reducible rfl)
  try simp only [Act.put, List.setIfInBounds_toArray, List.set_cons_zero, List.set_cons_succ]
  refine wpAnyH_take (i := 9) (oi := { dst := some 61, op := Op.load 24 (Operand.tmp 11), type := 24, pos := "law.go:46", after := #[{ on := 8, ground := Ground.guard }], guard := some (8, true) }) (v := ?_) rfl (by kernel_rfl) (by kernel_rfl) (by kernel_rfl) (fun _ _ _ h => h) (Or.inl ⟨by rfl, ?_⟩) (by exact kS) ?_
  rotate_left
  · intro w hSw; (try dsimp only at hSw); (go_simp <;> with_reducible rfl)
  try simp only [Act.put, List.setIfInBounds_toArray, List.set_cons_zero, List.set_cons_succ]
  refine wpAnyH_take (i := 10) (oi := { dst := some 62, op := Op.load 24 (Operand.tmp 13), type := 24, pos := "law.go:46", after := #[{ on := 8, ground := Ground.guard }], guard := some (8, true) }) (v := ?_) rfl (by kernel_rfl) (by kernel_rfl) (by kernel_rfl) (fun _ _ _ h => h) (Or.inl ⟨by rfl, ?_⟩) (by exact kS) ?_
  rotate_left
  · intro w hSw; (try dsimp only at hSw); (go_simp <;> with_reducible rfl)
  try simp only [Act.put, List.setIfInBounds_toArray, List.set_cons_zero, List.set_cons_succ]
  refine wpAnyH_ready (rs := [11]) (by kernel_rfl) (by simp) ?_
  refine AllReadyH.cons (o := { dst := some 63, op := Op.call { callee := Callee.value (Operand.func 16), args := #[Operand.tmp 61, Operand.tmp 62], argTypes := #[24, 24] }, type := 4, pos := "law.go:46", after := #[{ on := 9, ground := Ground.data }, { on := 10, ground := Ground.data }, { on := 8, ground := Ground.chain }, { on := 8, ground := Ground.guard }], guard := some (8, true) }) rfl (fun K hK => ?_) AllReadyH.nil
  go_simp
  refine (whole_any Iu.out Iz.out).mono ?_
  rintro e W17 ⟨rfl, hb⟩
  have H1 : Hid (Sl W17 a1 n1 c1 l1) := H1.out.below hb (Nat.le_refl _)
  have H2 : Hid (Sl W17 a2 n2 c2 l2) := H2.out.below hb (Nat.le_refl _)
  have X1 : Hid (Box W17 (w.heap.size) (.bool s1) (.slice a1 n1 c1)) := X1.out.below hb X1.out.lt
  have X2 : Hid (Box W17 (w.heap.size + 1) (.bool s2) (.slice a2 n2 c2)) := X2.out.below hb X2.out.lt
  have OWp : Hid (Own W17 W3.heap.size (some ⟨bp, 0, none⟩) (n1 + 1) cp (l1 ++ [77])) := OWp.out.below hb (Nat.le_refl _)
  have Hp : Hid (Sl W17 (some ⟨bp, 0, none⟩) n1 cp l1) := Hp.out.below hb (Nat.le_refl _)
  have Xp : Hid (Box W17 (W4.heap.size) (.bool s1) (.slice (some ⟨bp, 0, none⟩) n1 cp)) := Xp.out.below hb Xp.out.lt
  have OWq : Hid (Own W17 W5.heap.size (some ⟨bq, 0, none⟩) (n2 + 1) cq (l2 ++ [77])) := OWq.out.below hb (Nat.le_refl _)
  have Hq : Hid (Sl W17 (some ⟨bq, 0, none⟩) n2 cq l2) := Hq.out.below hb (Nat.le_refl _)
  have Xq : Hid (Box W17 (W6.heap.size) (.bool s2) (.slice (some ⟨bq, 0, none⟩) n2 cq)) := Xq.out.below hb Xq.out.lt
  have Ix : Hid (IntR W17 W7.heap.size (.agg #[.bool sga, .slice ax nx cx]) sga (addV s1 (vl 4294967296 l1) s2 (vl 4294967296 l2))) := Ix.out.below hb (Nat.le_refl _)
  have Xx : Hid (Box W17 (W8.heap.size) (.bool sga) (.slice ax nx cx)) := Xx.out.below hb Xx.out.lt
  have Iy : Hid (IntR W17 W9.heap.size (.agg #[.bool sga, .slice ay ny cy]) sga (addV s1 (vl 4294967296 l1) s2 (vl 4294967296 l2))) := Iy.out.below hb (Nat.le_refl _)
  have Xy : Hid (Box W17 (W10.heap.size) (.bool sga) (.slice ay ny cy)) := Xy.out.below hb Xy.out.lt
  have Iu : Hid (IntR W17 W11.heap.size (.agg #[.bool sgb, .slice au nu cu]) sgb (addV s1 (vl 4294967296 l1) (!s2) (vl 4294967296 l2))) := Iu.out.below hb (Nat.le_refl _)
  have Xu : Hid (Box W17 (W12.heap.size) (.bool sgb) (.slice au nu cu)) := Xu.out.below hb Xu.out.lt
  have Iz : Hid (IntR W17 W13.heap.size (.agg #[.bool sgb, .slice az nz cz]) sgb (addV s1 (vl 4294967296 l1) (!s2) (vl 4294967296 l2))) := Iz.out.below hb (Nat.le_refl _)
  have Xz : Hid (Box W17 (W14.heap.size) (.bool sgb) (.slice az nz cz)) := Xz.out.below hb Xz.out.lt
  have HB : Hid (Below w.heap.size w W17) := HB.out.trans (hb.mono HB.out.size)
  clear hb
  clear kS
  have kS : W17.cell? ⟨w.heap.size, 0, none⟩ = some (.bool s1) ∧ W17.cell? ⟨w.heap.size, 1, none⟩ = some (.slice a1 n1 c1) ∧ W17.cell? ⟨w.heap.size + 1, 0, none⟩ = some (.bool s2) ∧ W17.cell? ⟨w.heap.size + 1, 1, none⟩ = some (.slice a2 n2 c2) ∧ W17.cell? ⟨W4.heap.size, 0, none⟩ = some (.bool s1) ∧ W17.cell? ⟨W4.heap.size, 1, none⟩ = some (.slice (some ⟨bp, 0, none⟩) n1 cp) ∧ W17.cell? ⟨W6.heap.size, 0, none⟩ = some (.bool s2) ∧ W17.cell? ⟨W6.heap.size, 1, none⟩ = some (.slice (some ⟨bq, 0, none⟩) n2 cq) ∧ W17.cell? ⟨W8.heap.size, 0, none⟩ = some (.bool sga) ∧ W17.cell? ⟨W8.heap.size, 1, none⟩ = some (.slice ax nx cx) ∧ W17.cell? ⟨W10.heap.size, 0, none⟩ = some (.bool sga) ∧ W17.cell? ⟨W10.heap.size, 1, none⟩ = some (.slice ay ny cy) ∧ W17.cell? ⟨W12.heap.size, 0, none⟩ = some (.bool sgb) ∧ W17.cell? ⟨W12.heap.size, 1, none⟩ = some (.slice au nu cu) ∧ W17.cell? ⟨W14.heap.size, 0, none⟩ = some (.bool sgb) ∧ W17.cell? ⟨W14.heap.size, 1, none⟩ = some (.slice az nz cz) := ⟨X1.out.z0, X1.out.z1, X2.out.z0, X2.out.z1, Xp.out.z0, Xp.out.z1, Xq.out.z0, Xq.out.z1, Xx.out.z0, Xx.out.z1, Xy.out.z0, Xy.out.z1, Xu.out.z0, Xu.out.z1, Xz.out.z0, Xz.out.z1⟩
  go_wp2_with fail
  refine hK.out _ _ (by exact kS) (fun hHeld => ?_)
  clear hK K hHeld
  try simp only [Act.put, List.setIfInBounds_toArray, List.set_cons_zero, List.set_cons_succ]
  refine wpAnyH_take (i := 12) (oi := { dst := some 64, op := Op.pick (Operand.tmp 60) (Operand.tmp 63) (Operand.const (Value.bool false)), type := 4, pos := "law.go:46", after := #[{ on := 8, ground := Ground.data }, { on := 11, ground := Ground.data }], guard := none }) (v := ?_) rfl (by kernel_rfl) (by kernel_rfl) (by kernel_rfl) (fun _ _ _ h => h) (Or.inl ⟨by rfl, ?_⟩) (by exact kS) ?_
  rotate_left
  · intro w hSw; (try dsimp only at hSw); (go_simp <;> with_reducible rfl)
  try simp only [Act.put, List.setIfInBounds_toArray, List.set_cons_zero, List.set_cons_succ]
  refine wpAnyH_take (i := 13) (oi := { dst := some 65, op := Op.move (Operand.tmp 64), type := 4, pos := "law.go:46", after := #[{ on := 12, ground := Ground.data }, { on := 11, ground := Ground.chain }], guard := none }) (v := ?_) rfl (by kernel_rfl) (by kernel_rfl) (by kernel_rfl) (fun _ _ _ h => h) (Or.inl ⟨by rfl, ?_⟩) (by exact kS) ?_
  rotate_left
  · intro w hSw; (try dsimp only at hSw); (go_simp <;> with_reducible rfl)
  try simp only [Act.put, List.setIfInBounds_toArray, List.set_cons_zero, List.set_cons_succ]
  refine wpAnyH_take (i := 14) (oi := { dst := some 66, op := Op.move (Operand.tmp 12), type := 28, pos := "law.go:46", after := #[{ on := 13, ground := Ground.guard }], guard := some (13, true) }) (v := ?_) rfl (by kernel_rfl) (by kernel_rfl) (by kernel_rfl) (fun _ _ _ h => h) (Or.inl ⟨by rfl, ?_⟩) (by exact kS) ?_
  rotate_left
  · intro w hSw; (try dsimp only at hSw); (go_simp <;> with_reducible rfl)
  try simp only [Act.put, List.setIfInBounds_toArray, List.set_cons_zero, List.set_cons_succ]
  refine wpAnyH_take (i := 15) (oi := { dst := some 67, op := Op.move (Operand.tmp 14), type := 3, pos := "law.go:46", after := #[{ on := 13, ground := Ground.guard }], guard := some (13, true) }) (v := ?_) rfl (by kernel_rfl) (by kernel_rfl) (by kernel_rfl) (fun _ _ _ h => h) (Or.inl ⟨by rfl, ?_⟩) (by exact kS) ?_
  rotate_left
  · intro w hSw; (try dsimp only at hSw); (go_simp <;> with_reducible rfl)
  try simp only [Act.put, List.setIfInBounds_toArray, List.set_cons_zero, List.set_cons_succ]
  refine wpAnyH_take (i := 16) (oi := { dst := some 68, op := Op.binOp BinOp.eql 3 (Operand.tmp 66) (Operand.tmp 67) 3, type := 4, pos := "law.go:46", after := #[{ on := 14, ground := Ground.data }, { on := 15, ground := Ground.data }, { on := 13, ground := Ground.guard }], guard := some (13, true) }) (v := ?_) rfl (by kernel_rfl) (by kernel_rfl) (by kernel_rfl) (fun _ _ _ h => h) (Or.inl ⟨by rfl, ?_⟩) (by exact kS) ?_
  rotate_left
  · intro w hSw; (try dsimp only at hSw); (go_simp <;> with_reducible rfl)
  try simp only [Act.put, List.setIfInBounds_toArray, List.set_cons_zero, List.set_cons_succ]
  refine wpAnyH_take (i := 17) (oi := { dst := some 69, op := Op.pick (Operand.tmp 65) (Operand.tmp 68) (Operand.const (Value.bool false)), type := 4, pos := "law.go:46", after := #[{ on := 13, ground := Ground.data }, { on := 16, ground := Ground.data }], guard := none }) (v := ?_) rfl (by kernel_rfl) (by kernel_rfl) (by kernel_rfl) (fun _ _ _ h => h) (Or.inl ⟨by rfl, ?_⟩) (by exact kS) ?_
  rotate_left
  · intro w hSw; (try dsimp only at hSw); (go_simp <;> with_reducible rfl)
  try simp only [Act.put, List.setIfInBounds_toArray, List.set_cons_zero, List.set_cons_succ]
  refine wpAnyH_take (i := 18) (oi := { dst := some 70, op := Op.move (Operand.tmp 69), type := 4, pos := "law.go:46", after := #[{ on := 17, ground := Ground.data }, { on := 13, ground := Ground.chain }], guard := none }) (v := ?_) rfl (by kernel_rfl) (by kernel_rfl) (by kernel_rfl) (fun _ _ _ h => h) (Or.inl ⟨by rfl, ?_⟩) (by exact kS) ?_
  rotate_left
  · intro w hSw; (try dsimp only at hSw); (go_simp <;> with_reducible rfl)
  try simp only [Act.put, List.setIfInBounds_toArray, List.set_cons_zero, List.set_cons_succ]
  refine wpAnyH_take (i := 19) (oi := { dst := some 71, op := Op.load 24 (Operand.tmp 5), type := 24, pos := "law.go:46", after := #[{ on := 18, ground := Ground.guard }], guard := some (18, true) }) (v := ?_) rfl (by kernel_rfl) (by kernel_rfl) (by kernel_rfl) (fun _ _ _ h => h) (Or.inl ⟨by rfl, ?_⟩) (by exact kS) ?_
  rotate_left
  · intro w hSw; (try dsimp only at hSw); (go_simp <;> with_reducible rfl)
  try simp only [Act.put, List.setIfInBounds_toArray, List.set_cons_zero, List.set_cons_succ]
  refine wpAnyH_take (i := 20) (oi := { dst := some 72, op := Op.load 24 (Operand.tmp 6), type := 24, pos := "law.go:46", after := #[{ on := 18, ground := Ground.guard }], guard := some (18, true) }) (v := ?_) rfl (by kernel_rfl) (by kernel_rfl) (by kernel_rfl) (fun _ _ _ h => h) (Or.inl ⟨by rfl, ?_⟩) (by exact kS) ?_
  rotate_left
  · intro w hSw; (try dsimp only at hSw); (go_simp <;> with_reducible rfl)
  try simp only [Act.put, List.setIfInBounds_toArray, List.set_cons_zero, List.set_cons_succ]
  refine wpAnyH_take (i := 22) (oi := { dst := some 74, op := Op.load 24 (Operand.tmp 2), type := 24, pos := "law.go:46", after := #[{ on := 18, ground := Ground.guard }], guard := some (18, true) }) (v := ?_) rfl (by kernel_rfl) (by kernel_rfl) (by kernel_rfl) (fun _ _ _ h => h) (Or.inl ⟨by rfl, ?_⟩) (by exact kS) ?_
  rotate_left
  · intro w hSw; (try dsimp only at hSw); (go_simp <;> with_reducible rfl)
  try simp only [Act.put, List.setIfInBounds_toArray, List.set_cons_zero, List.set_cons_succ]
  refine wpAnyH_take (i := 23) (oi := { dst := some 75, op := Op.load 24 (Operand.tmp 3), type := 24, pos := "law.go:46", after := #[{ on := 18, ground := Ground.guard }], guard := some (18, true) }) (v := ?_) rfl (by kernel_rfl) (by kernel_rfl) (by kernel_rfl) (fun _ _ _ h => h) (Or.inl ⟨by rfl, ?_⟩) (by exact kS) ?_
  rotate_left
  · intro w hSw; (try dsimp only at hSw); (go_simp <;> with_reducible rfl)
  try simp only [Act.put, List.setIfInBounds_toArray, List.set_cons_zero, List.set_cons_succ]
  refine wpAnyH_ready (rs := [21]) (by kernel_rfl) (by simp) ?_
  refine AllReadyH.cons (o := { dst := some 73, op := Op.call { callee := Callee.value (Operand.func 17), args := #[Operand.tmp 71, Operand.tmp 72], argTypes := #[24, 24] }, type := 3, pos := "law.go:46", after := #[{ on := 19, ground := Ground.data }, { on := 20, ground := Ground.data }, { on := 18, ground := Ground.chain }, { on := 18, ground := Ground.guard }], guard := some (18, true) }) rfl (fun K hK => ?_) AllReadyH.nil
  go_simp
  refine (compare_any s1 s2 (some ⟨bp, 0, none⟩) n1 cp l1 (some ⟨bq, 0, none⟩) n2 cq l2 _ Hp.out Hq.out (by omega) (by omega)).mono ?_
  rintro e W18 ⟨rfl, hb⟩
  rw [CV.out]
  have H1 : Hid (Sl W18 a1 n1 c1 l1) := H1.out.below hb (Nat.le_refl _)
  have H2 : Hid (Sl W18 a2 n2 c2 l2) := H2.out.below hb (Nat.le_refl _)
  have X1 : Hid (Box W18 (w.heap.size) (.bool s1) (.slice a1 n1 c1)) := X1.out.below hb X1.out.lt
  have X2 : Hid (Box W18 (w.heap.size + 1) (.bool s2) (.slice a2 n2 c2)) := X2.out.below hb X2.out.lt
  have OWp : Hid (Own W18 W3.heap.size (some ⟨bp, 0, none⟩) (n1 + 1) cp (l1 ++ [77])) := OWp.out.below hb (Nat.le_refl _)
  have Hp : Hid (Sl W18 (some ⟨bp, 0, none⟩) n1 cp l1) := Hp.out.below hb (Nat.le_refl _)
  have Xp : Hid (Box W18 (W4.heap.size) (.bool s1) (.slice (some ⟨bp, 0, none⟩) n1 cp)) := Xp.out.below hb Xp.out.lt
  have OWq : Hid (Own W18 W5.heap.size (some ⟨bq, 0, none⟩) (n2 + 1) cq (l2 ++ [77])) := OWq.out.below hb (Nat.le_refl _)
  have Hq : Hid (Sl W18 (some ⟨bq, 0, none⟩) n2 cq l2) := Hq.out.below hb (Nat.le_refl _)
  have Xq : Hid (Box W18 (W6.heap.size) (.bool s2) (.slice (some ⟨bq, 0, none⟩) n2 cq)) := Xq.out.below hb Xq.out.lt
  have Ix : Hid (IntR W18 W7.heap.size (.agg #[.bool sga, .slice ax nx cx]) sga (addV s1 (vl 4294967296 l1) s2 (vl 4294967296 l2))) := Ix.out.below hb (Nat.le_refl _)
  have Xx : Hid (Box W18 (W8.heap.size) (.bool sga) (.slice ax nx cx)) := Xx.out.below hb Xx.out.lt
  have Iy : Hid (IntR W18 W9.heap.size (.agg #[.bool sga, .slice ay ny cy]) sga (addV s1 (vl 4294967296 l1) s2 (vl 4294967296 l2))) := Iy.out.below hb (Nat.le_refl _)
  have Xy : Hid (Box W18 (W10.heap.size) (.bool sga) (.slice ay ny cy)) := Xy.out.below hb Xy.out.lt
  have Iu : Hid (IntR W18 W11.heap.size (.agg #[.bool sgb, .slice au nu cu]) sgb (addV s1 (vl 4294967296 l1) (!s2) (vl 4294967296 l2))) := Iu.out.below hb (Nat.le_refl _)
  have Xu : Hid (Box W18 (W12.heap.size) (.bool sgb) (.slice au nu cu)) := Xu.out.below hb Xu.out.lt
  have Iz : Hid (IntR W18 W13.heap.size (.agg #[.bool sgb, .slice az nz cz]) sgb (addV s1 (vl 4294967296 l1) (!s2) (vl 4294967296 l2))) := Iz.out.below hb (Nat.le_refl _)
  have Xz : Hid (Box W18 (W14.heap.size) (.bool sgb) (.slice az nz cz)) := Xz.out.below hb Xz.out.lt
  have HB : Hid (Below w.heap.size w W18) := HB.out.trans (hb.mono HB.out.size)
  clear hb
  clear kS
  have kS : W18.cell? ⟨w.heap.size, 0, none⟩ = some (.bool s1) ∧ W18.cell? ⟨w.heap.size, 1, none⟩ = some (.slice a1 n1 c1) ∧ W18.cell? ⟨w.heap.size + 1, 0, none⟩ = some (.bool s2) ∧ W18.cell? ⟨w.heap.size + 1, 1, none⟩ = some (.slice a2 n2 c2) ∧ W18.cell? ⟨W4.heap.size, 0, none⟩ = some (.bool s1) ∧ W18.cell? ⟨W4.heap.size, 1, none⟩ = some (.slice (some ⟨bp, 0, none⟩) n1 cp) ∧ W18.cell? ⟨W6.heap.size, 0, none⟩ = some (.bool s2) ∧ W18.cell? ⟨W6.heap.size, 1, none⟩ = some (.slice (some ⟨bq, 0, none⟩) n2 cq) ∧ W18.cell? ⟨W8.heap.size, 0, none⟩ = some (.bool sga) ∧ W18.cell? ⟨W8.heap.size, 1, none⟩ = some (.slice ax nx cx) ∧ W18.cell? ⟨W10.heap.size, 0, none⟩ = some (.bool sga) ∧ W18.cell? ⟨W10.heap.size, 1, none⟩ = some (.slice ay ny cy) ∧ W18.cell? ⟨W12.heap.size, 0, none⟩ = some (.bool sgb) ∧ W18.cell? ⟨W12.heap.size, 1, none⟩ = some (.slice au nu cu) ∧ W18.cell? ⟨W14.heap.size, 0, none⟩ = some (.bool sgb) ∧ W18.cell? ⟨W14.heap.size, 1, none⟩ = some (.slice az nz cz) := ⟨X1.out.z0, X1.out.z1, X2.out.z0, X2.out.z1, Xp.out.z0, Xp.out.z1, Xq.out.z0, Xq.out.z1, Xx.out.z0, Xx.out.z1, Xy.out.z0, Xy.out.z1, Xu.out.z0, Xu.out.z1, Xz.out.z0, Xz.out.z1⟩
  go_wp2_with fail
  refine hK.out _ _ (by exact kS) (fun hHeld => ?_)
  clear hK K hHeld
  try simp only [Act.put, List.setIfInBounds_toArray, List.set_cons_zero, List.set_cons_succ]
  refine wpAnyH_ready (rs := [24]) (by kernel_rfl) (by simp) ?_
  refine AllReadyH.cons (o := { dst := some 76, op := Op.call { callee := Callee.value (Operand.func 18), args := #[Operand.tmp 74, Operand.tmp 75], argTypes := #[24, 24] }, type := 3, pos := "law.go:46", after := #[{ on := 22, ground := Ground.data }, { on := 23, ground := Ground.data }, { on := 21, ground := Ground.chain }, { on := 18, ground := Ground.guard }], guard := some (18, true) }) rfl (fun K hK => ?_) AllReadyH.nil
  go_simp
  refine (rcompare_any s1 s2 a1 n1 c1 l1 a2 n2 c2 l2 _ H1.out H2.out Z1.out Z2.out (by omega) (by omega)).mono ?_
  rintro e W19 ⟨rfl, hb⟩
  rw [CV.out]
  have H1 : Hid (Sl W19 a1 n1 c1 l1) := H1.out.below hb (Nat.le_refl _)
  have H2 : Hid (Sl W19 a2 n2 c2 l2) := H2.out.below hb (Nat.le_refl _)
  have X1 : Hid (Box W19 (w.heap.size) (.bool s1) (.slice a1 n1 c1)) := X1.out.below hb X1.out.lt
  have X2 : Hid (Box W19 (w.heap.size + 1) (.bool s2) (.slice a2 n2 c2)) := X2.out.below hb X2.out.lt
  have OWp : Hid (Own W19 W3.heap.size (some ⟨bp, 0, none⟩) (n1 + 1) cp (l1 ++ [77])) := OWp.out.below hb (Nat.le_refl _)
  have Hp : Hid (Sl W19 (some ⟨bp, 0, none⟩) n1 cp l1) := Hp.out.below hb (Nat.le_refl _)
  have Xp : Hid (Box W19 (W4.heap.size) (.bool s1) (.slice (some ⟨bp, 0, none⟩) n1 cp)) := Xp.out.below hb Xp.out.lt
  have OWq : Hid (Own W19 W5.heap.size (some ⟨bq, 0, none⟩) (n2 + 1) cq (l2 ++ [77])) := OWq.out.below hb (Nat.le_refl _)
  have Hq : Hid (Sl W19 (some ⟨bq, 0, none⟩) n2 cq l2) := Hq.out.below hb (Nat.le_refl _)
  have Xq : Hid (Box W19 (W6.heap.size) (.bool s2) (.slice (some ⟨bq, 0, none⟩) n2 cq)) := Xq.out.below hb Xq.out.lt
  have Ix : Hid (IntR W19 W7.heap.size (.agg #[.bool sga, .slice ax nx cx]) sga (addV s1 (vl 4294967296 l1) s2 (vl 4294967296 l2))) := Ix.out.below hb (Nat.le_refl _)
  have Xx : Hid (Box W19 (W8.heap.size) (.bool sga) (.slice ax nx cx)) := Xx.out.below hb Xx.out.lt
  have Iy : Hid (IntR W19 W9.heap.size (.agg #[.bool sga, .slice ay ny cy]) sga (addV s1 (vl 4294967296 l1) s2 (vl 4294967296 l2))) := Iy.out.below hb (Nat.le_refl _)
  have Xy : Hid (Box W19 (W10.heap.size) (.bool sga) (.slice ay ny cy)) := Xy.out.below hb Xy.out.lt
  have Iu : Hid (IntR W19 W11.heap.size (.agg #[.bool sgb, .slice au nu cu]) sgb (addV s1 (vl 4294967296 l1) (!s2) (vl 4294967296 l2))) := Iu.out.below hb (Nat.le_refl _)
  have Xu : Hid (Box W19 (W12.heap.size) (.bool sgb) (.slice au nu cu)) := Xu.out.below hb Xu.out.lt
  have Iz : Hid (IntR W19 W13.heap.size (.agg #[.bool sgb, .slice az nz cz]) sgb (addV s1 (vl 4294967296 l1) (!s2) (vl 4294967296 l2))) := Iz.out.below hb (Nat.le_refl _)
  have Xz : Hid (Box W19 (W14.heap.size) (.bool sgb) (.slice az nz cz)) := Xz.out.below hb Xz.out.lt
  have HB : Hid (Below w.heap.size w W19) := HB.out.trans (hb.mono HB.out.size)
  clear hb
  clear kS
  have kS : W19.cell? ⟨w.heap.size, 0, none⟩ = some (.bool s1) ∧ W19.cell? ⟨w.heap.size, 1, none⟩ = some (.slice a1 n1 c1) ∧ W19.cell? ⟨w.heap.size + 1, 0, none⟩ = some (.bool s2) ∧ W19.cell? ⟨w.heap.size + 1, 1, none⟩ = some (.slice a2 n2 c2) ∧ W19.cell? ⟨W4.heap.size, 0, none⟩ = some (.bool s1) ∧ W19.cell? ⟨W4.heap.size, 1, none⟩ = some (.slice (some ⟨bp, 0, none⟩) n1 cp) ∧ W19.cell? ⟨W6.heap.size, 0, none⟩ = some (.bool s2) ∧ W19.cell? ⟨W6.heap.size, 1, none⟩ = some (.slice (some ⟨bq, 0, none⟩) n2 cq) ∧ W19.cell? ⟨W8.heap.size, 0, none⟩ = some (.bool sga) ∧ W19.cell? ⟨W8.heap.size, 1, none⟩ = some (.slice ax nx cx) ∧ W19.cell? ⟨W10.heap.size, 0, none⟩ = some (.bool sga) ∧ W19.cell? ⟨W10.heap.size, 1, none⟩ = some (.slice ay ny cy) ∧ W19.cell? ⟨W12.heap.size, 0, none⟩ = some (.bool sgb) ∧ W19.cell? ⟨W12.heap.size, 1, none⟩ = some (.slice au nu cu) ∧ W19.cell? ⟨W14.heap.size, 0, none⟩ = some (.bool sgb) ∧ W19.cell? ⟨W14.heap.size, 1, none⟩ = some (.slice az nz cz) := ⟨X1.out.z0, X1.out.z1, X2.out.z0, X2.out.z1, Xp.out.z0, Xp.out.z1, Xq.out.z0, Xq.out.z1, Xx.out.z0, Xx.out.z1, Xy.out.z0, Xy.out.z1, Xu.out.z0, Xu.out.z1, Xz.out.z0, Xz.out.z1⟩
  go_wp2_with fail
  refine hK.out _ _ (by exact kS) (fun hHeld => ?_)
  clear hK K hHeld
  try simp only [Act.put, List.setIfInBounds_toArray, List.set_cons_zero, List.set_cons_succ]
  refine wpAnyH_take (i := 25) (oi := { dst := some 77, op := Op.binOp BinOp.eql 3 (Operand.tmp 73) (Operand.tmp 76) 3, type := 4, pos := "law.go:46", after := #[{ on := 21, ground := Ground.data }, { on := 24, ground := Ground.data }, { on := 18, ground := Ground.guard }], guard := some (18, true) }) (v := ?_) rfl (by kernel_rfl) (by kernel_rfl) (by kernel_rfl) (fun _ _ _ h => h) (Or.inl ⟨by rfl, ?_⟩) (by exact kS) ?_
  rotate_left
  · intro w hSw; (try dsimp only at hSw); (go_simp <;> with_reducible rfl)
  try simp only [Act.put, List.setIfInBounds_toArray, List.set_cons_zero, List.set_cons_succ]
  refine wpAnyH_take (i := 26) (oi := { dst := some 78, op := Op.pick (Operand.tmp 70) (Operand.tmp 77) (Operand.const (Value.bool false)), type := 4, pos := "law.go:46", after := #[{ on := 18, ground := Ground.data }, { on := 25, ground := Ground.data }], guard := none }) (v := ?_) rfl (by kernel_rfl) (by kernel_rfl) (by kernel_rfl) (fun _ _ _ h => h) (Or.inl ⟨by rfl, ?_⟩) (by exact kS) ?_
  rotate_left
  · intro w hSw; (try dsimp only at hSw); (go_simp <;> with_reducible rfl)
  try simp only [Act.put, List.setIfInBounds_toArray, List.set_cons_zero, List.set_cons_succ]
  refine wpAnyH_take (i := 27) (oi := { dst := some 79, op := Op.move (Operand.tmp 78), type := 4, pos := "law.go:46", after := #[{ on := 26, ground := Ground.data }, { on := 24, ground := Ground.chain }], guard := none }) (v := ?_) rfl (by kernel_rfl) (by kernel_rfl) (by kernel_rfl) (fun _ _ _ h => h) (Or.inl ⟨by rfl, ?_⟩) (by exact kS) ?_
  rotate_left
  · intro w hSw; (try dsimp only at hSw); (go_simp <;> with_reducible rfl)
  try simp only [Act.put, List.setIfInBounds_toArray, List.set_cons_zero, List.set_cons_succ]
  refine wpAnyH_take (i := 28) (oi := { dst := some 80, op := Op.load 24 (Operand.tmp 5), type := 24, pos := "law.go:46", after := #[{ on := 27, ground := Ground.guard }], guard := some (27, true) }) (v := ?_) rfl (by kernel_rfl) (by kernel_rfl) (by kernel_rfl) (fun _ _ _ h => h) (Or.inl ⟨by rfl, ?_⟩) (by exact kS) ?_
  rotate_left
  · intro w hSw; (try dsimp only at hSw); (go_simp <;> with_reducible rfl)
  try simp only [Act.put, List.setIfInBounds_toArray, List.set_cons_zero, List.set_cons_succ]
  refine wpAnyH_take (i := 30) (oi := { dst := some 82, op := Op.load 24 (Operand.tmp 2), type := 24, pos := "law.go:46", after := #[{ on := 27, ground := Ground.guard }], guard := some (27, true) }) (v := ?_) rfl (by kernel_rfl) (by kernel_rfl) (by kernel_rfl) (fun _ _ _ h => h) (Or.inl ⟨by rfl, ?_⟩) (by exact kS) ?_
  rotate_left
  · intro w hSw; (try dsimp only at hSw); (go_simp <;> with_reducible rfl)
  try simp only [Act.put, List.setIfInBounds_toArray, List.set_cons_zero, List.set_cons_succ]
  refine wpAnyH_ready (rs := [29]) (by kernel_rfl) (by simp) ?_
  refine AllReadyH.cons (o := { dst := some 81, op := Op.call { callee := Callee.value (Operand.func 19), args := #[Operand.tmp 80], argTypes := #[24] }, type := 24, pos := "law.go:46", after := #[{ on := 28, ground := Ground.data }, { on := 27, ground := Ground.chain }, { on := 27, ground := Ground.guard }], guard := some (27, true) }) rfl (fun K hK => ?_) AllReadyH.nil
  go_simp
  refine (neg_any s1 (some ⟨bp, 0, none⟩) n1 cp l1 _ Hp.out (by omega)).mono ?_
  rintro e W20 ⟨vn, rfl, hi, hb⟩
  have H1 : Hid (Sl W20 a1 n1 c1 l1) := H1.out.below hb (Nat.le_refl _)
  have H2 : Hid (Sl W20 a2 n2 c2 l2) := H2.out.below hb (Nat.le_refl _)
  have X1 : Hid (Box W20 (w.heap.size) (.bool s1) (.slice a1 n1 c1)) := X1.out.below hb X1.out.lt
  have X2 : Hid (Box W20 (w.heap.size + 1) (.bool s2) (.slice a2 n2 c2)) := X2.out.below hb X2.out.lt
  have OWp : Hid (Own W20 W3.heap.size (some ⟨bp, 0, none⟩) (n1 + 1) cp (l1 ++ [77])) := OWp.out.below hb (Nat.le_refl _)
  have Hp : Hid (Sl W20 (some ⟨bp, 0, none⟩) n1 cp l1) := Hp.out.below hb (Nat.le_refl _)
  have Xp : Hid (Box W20 (W4.heap.size) (.bool s1) (.slice (some ⟨bp, 0, none⟩) n1 cp)) := Xp.out.below hb Xp.out.lt
  have OWq : Hid (Own W20 W5.heap.size (some ⟨bq, 0, none⟩) (n2 + 1) cq (l2 ++ [77])) := OWq.out.below hb (Nat.le_refl _)
  have Hq : Hid (Sl W20 (some ⟨bq, 0, none⟩) n2 cq l2) := Hq.out.below hb (Nat.le_refl _)
  have Xq : Hid (Box W20 (W6.heap.size) (.bool s2) (.slice (some ⟨bq, 0, none⟩) n2 cq)) := Xq.out.below hb Xq.out.lt
  have Ix : Hid (IntR W20 W7.heap.size (.agg #[.bool sga, .slice ax nx cx]) sga (addV s1 (vl 4294967296 l1) s2 (vl 4294967296 l2))) := Ix.out.below hb (Nat.le_refl _)
  have Xx : Hid (Box W20 (W8.heap.size) (.bool sga) (.slice ax nx cx)) := Xx.out.below hb Xx.out.lt
  have Iy : Hid (IntR W20 W9.heap.size (.agg #[.bool sga, .slice ay ny cy]) sga (addV s1 (vl 4294967296 l1) s2 (vl 4294967296 l2))) := Iy.out.below hb (Nat.le_refl _)
  have Xy : Hid (Box W20 (W10.heap.size) (.bool sga) (.slice ay ny cy)) := Xy.out.below hb Xy.out.lt
  have Iu : Hid (IntR W20 W11.heap.size (.agg #[.bool sgb, .slice au nu cu]) sgb (addV s1 (vl 4294967296 l1) (!s2) (vl 4294967296 l2))) := Iu.out.below hb (Nat.le_refl _)
  have Xu : Hid (Box W20 (W12.heap.size) (.bool sgb) (.slice au nu cu)) := Xu.out.below hb Xu.out.lt
  have Iz : Hid (IntR W20 W13.heap.size (.agg #[.bool sgb, .slice az nz cz]) sgb (addV s1 (vl 4294967296 l1) (!s2) (vl 4294967296 l2))) := Iz.out.below hb (Nat.le_refl _)
  have Xz : Hid (Box W20 (W14.heap.size) (.bool sgb) (.slice az nz cz)) := Xz.out.below hb Xz.out.lt
  have HB : Hid (Below w.heap.size w W20) := HB.out.trans (hb.mono HB.out.size)
  clear hb
  have IN : Hid (IntR W20 _ vn (sgB (!s1) (vl 4294967296 l1)) (vl 4294967296 l1)) := hi
  clear hi
  clear kS
  have kS : W20.cell? ⟨w.heap.size, 0, none⟩ = some (.bool s1) ∧ W20.cell? ⟨w.heap.size, 1, none⟩ = some (.slice a1 n1 c1) ∧ W20.cell? ⟨w.heap.size + 1, 0, none⟩ = some (.bool s2) ∧ W20.cell? ⟨w.heap.size + 1, 1, none⟩ = some (.slice a2 n2 c2) ∧ W20.cell? ⟨W4.heap.size, 0, none⟩ = some (.bool s1) ∧ W20.cell? ⟨W4.heap.size, 1, none⟩ = some (.slice (some ⟨bp, 0, none⟩) n1 cp) ∧ W20.cell? ⟨W6.heap.size, 0, none⟩ = some (.bool s2) ∧ W20.cell? ⟨W6.heap.size, 1, none⟩ = some (.slice (some ⟨bq, 0, none⟩) n2 cq) ∧ W20.cell? ⟨W8.heap.size, 0, none⟩ = some (.bool sga) ∧ W20.cell? ⟨W8.heap.size, 1, none⟩ = some (.slice ax nx cx) ∧ W20.cell? ⟨W10.heap.size, 0, none⟩ = some (.bool sga) ∧ W20.cell? ⟨W10.heap.size, 1, none⟩ = some (.slice ay ny cy) ∧ W20.cell? ⟨W12.heap.size, 0, none⟩ = some (.bool sgb) ∧ W20.cell? ⟨W12.heap.size, 1, none⟩ = some (.slice au nu cu) ∧ W20.cell? ⟨W14.heap.size, 0, none⟩ = some (.bool sgb) ∧ W20.cell? ⟨W14.heap.size, 1, none⟩ = some (.slice az nz cz) := ⟨X1.out.z0, X1.out.z1, X2.out.z0, X2.out.z1, Xp.out.z0, Xp.out.z1, Xq.out.z0, Xq.out.z1, Xx.out.z0, Xx.out.z1, Xy.out.z0, Xy.out.z1, Xu.out.z0, Xu.out.z1, Xz.out.z0, Xz.out.z1⟩
  go_wp2_with fail
  refine hK.out _ _ (by exact kS) (fun hHeld => ?_)
  clear hK K hHeld
  try simp only [Act.put, List.setIfInBounds_toArray, List.set_cons_zero, List.set_cons_succ]
  refine wpAnyH_ready (rs := [31]) (by kernel_rfl) (by simp) ?_
  refine AllReadyH.cons (o := { dst := some 83, op := Op.call { callee := Callee.value (Operand.func 20), args := #[Operand.tmp 82], argTypes := #[24] }, type := 24, pos := "law.go:46", after := #[{ on := 30, ground := Ground.data }, { on := 29, ground := Ground.chain }, { on := 27, ground := Ground.guard }], guard := some (27, true) }) rfl (fun K hK => ?_) AllReadyH.nil
  go_simp
  refine (rneg_any s1 a1 n1 c1 l1 _ H1.out Z1.out (by omega)).mono ?_
  rintro e W21 ⟨vm, rfl, hi, hb⟩
  have H1 : Hid (Sl W21 a1 n1 c1 l1) := H1.out.below hb (Nat.le_refl _)
  have H2 : Hid (Sl W21 a2 n2 c2 l2) := H2.out.below hb (Nat.le_refl _)
  have X1 : Hid (Box W21 (w.heap.size) (.bool s1) (.slice a1 n1 c1)) := X1.out.below hb X1.out.lt
  have X2 : Hid (Box W21 (w.heap.size + 1) (.bool s2) (.slice a2 n2 c2)) := X2.out.below hb X2.out.lt
  have OWp : Hid (Own W21 W3.heap.size (some ⟨bp, 0, none⟩) (n1 + 1) cp (l1 ++ [77])) := OWp.out.below hb (Nat.le_refl _)
  have Hp : Hid (Sl W21 (some ⟨bp, 0, none⟩) n1 cp l1) := Hp.out.below hb (Nat.le_refl _)
  have Xp : Hid (Box W21 (W4.heap.size) (.bool s1) (.slice (some ⟨bp, 0, none⟩) n1 cp)) := Xp.out.below hb Xp.out.lt
  have OWq : Hid (Own W21 W5.heap.size (some ⟨bq, 0, none⟩) (n2 + 1) cq (l2 ++ [77])) := OWq.out.below hb (Nat.le_refl _)
  have Hq : Hid (Sl W21 (some ⟨bq, 0, none⟩) n2 cq l2) := Hq.out.below hb (Nat.le_refl _)
  have Xq : Hid (Box W21 (W6.heap.size) (.bool s2) (.slice (some ⟨bq, 0, none⟩) n2 cq)) := Xq.out.below hb Xq.out.lt
  have Ix : Hid (IntR W21 W7.heap.size (.agg #[.bool sga, .slice ax nx cx]) sga (addV s1 (vl 4294967296 l1) s2 (vl 4294967296 l2))) := Ix.out.below hb (Nat.le_refl _)
  have Xx : Hid (Box W21 (W8.heap.size) (.bool sga) (.slice ax nx cx)) := Xx.out.below hb Xx.out.lt
  have Iy : Hid (IntR W21 W9.heap.size (.agg #[.bool sga, .slice ay ny cy]) sga (addV s1 (vl 4294967296 l1) s2 (vl 4294967296 l2))) := Iy.out.below hb (Nat.le_refl _)
  have Xy : Hid (Box W21 (W10.heap.size) (.bool sga) (.slice ay ny cy)) := Xy.out.below hb Xy.out.lt
  have Iu : Hid (IntR W21 W11.heap.size (.agg #[.bool sgb, .slice au nu cu]) sgb (addV s1 (vl 4294967296 l1) (!s2) (vl 4294967296 l2))) := Iu.out.below hb (Nat.le_refl _)
  have Xu : Hid (Box W21 (W12.heap.size) (.bool sgb) (.slice au nu cu)) := Xu.out.below hb Xu.out.lt
  have Iz : Hid (IntR W21 W13.heap.size (.agg #[.bool sgb, .slice az nz cz]) sgb (addV s1 (vl 4294967296 l1) (!s2) (vl 4294967296 l2))) := Iz.out.below hb (Nat.le_refl _)
  have Xz : Hid (Box W21 (W14.heap.size) (.bool sgb) (.slice az nz cz)) := Xz.out.below hb Xz.out.lt
  have IN : Hid (IntR W21 _ vn (sgB (!s1) (vl 4294967296 l1)) (vl 4294967296 l1)) := IN.out.below hb (Nat.le_refl _)
  have HB : Hid (Below w.heap.size w W21) := HB.out.trans (hb.mono HB.out.size)
  clear hb
  have IM : Hid (IntR W21 _ vm (sgB (!s1) (vl 4294967296 l1)) (vl 4294967296 l1)) := hi
  clear hi
  clear kS
  have kS : W21.cell? ⟨w.heap.size, 0, none⟩ = some (.bool s1) ∧ W21.cell? ⟨w.heap.size, 1, none⟩ = some (.slice a1 n1 c1) ∧ W21.cell? ⟨w.heap.size + 1, 0, none⟩ = some (.bool s2) ∧ W21.cell? ⟨w.heap.size + 1, 1, none⟩ = some (.slice a2 n2 c2) ∧ W21.cell? ⟨W4.heap.size, 0, none⟩ = some (.bool s1) ∧ W21.cell? ⟨W4.heap.size, 1, none⟩ = some (.slice (some ⟨bp, 0, none⟩) n1 cp) ∧ W21.cell? ⟨W6.heap.size, 0, none⟩ = some (.bool s2) ∧ W21.cell? ⟨W6.heap.size, 1, none⟩ = some (.slice (some ⟨bq, 0, none⟩) n2 cq) ∧ W21.cell? ⟨W8.heap.size, 0, none⟩ = some (.bool sga) ∧ W21.cell? ⟨W8.heap.size, 1, none⟩ = some (.slice ax nx cx) ∧ W21.cell? ⟨W10.heap.size, 0, none⟩ = some (.bool sga) ∧ W21.cell? ⟨W10.heap.size, 1, none⟩ = some (.slice ay ny cy) ∧ W21.cell? ⟨W12.heap.size, 0, none⟩ = some (.bool sgb) ∧ W21.cell? ⟨W12.heap.size, 1, none⟩ = some (.slice au nu cu) ∧ W21.cell? ⟨W14.heap.size, 0, none⟩ = some (.bool sgb) ∧ W21.cell? ⟨W14.heap.size, 1, none⟩ = some (.slice az nz cz) := ⟨X1.out.z0, X1.out.z1, X2.out.z0, X2.out.z1, Xp.out.z0, Xp.out.z1, Xq.out.z0, Xq.out.z1, Xx.out.z0, Xx.out.z1, Xy.out.z0, Xy.out.z1, Xu.out.z0, Xu.out.z1, Xz.out.z0, Xz.out.z1⟩
  go_wp2_with fail
  refine hK.out _ _ (by exact kS) (fun hHeld => ?_)
  clear hK K hHeld
  try simp only [Act.put, List.setIfInBounds_toArray, List.set_cons_zero, List.set_cons_succ]
  refine wpAnyH_ready (rs := [32]) (by kernel_rfl) (by simp) ?_
  refine AllReadyH.cons (o := { dst := some 84, op := Op.call { callee := Callee.value (Operand.func 16), args := #[Operand.tmp 81, Operand.tmp 83], argTypes := #[24, 24] }, type := 4, pos := "law.go:46", after := #[{ on := 29, ground := Ground.data }, { on := 31, ground := Ground.data }, { on := 31, ground := Ground.chain }, { on := 27, ground := Ground.guard }], guard := some (27, true) }) rfl (fun K hK => ?_) AllReadyH.nil
  go_simp
  refine (whole_any IN.out IM.out).mono ?_
  rintro e W22 ⟨rfl, hb⟩
  have H1 : Hid (Sl W22 a1 n1 c1 l1) := H1.out.below hb (Nat.le_refl _)
  have H2 : Hid (Sl W22 a2 n2 c2 l2) := H2.out.below hb (Nat.le_refl _)
  have X1 : Hid (Box W22 (w.heap.size) (.bool s1) (.slice a1 n1 c1)) := X1.out.below hb X1.out.lt
  have X2 : Hid (Box W22 (w.heap.size + 1) (.bool s2) (.slice a2 n2 c2)) := X2.out.below hb X2.out.lt
  have OWp : Hid (Own W22 W3.heap.size (some ⟨bp, 0, none⟩) (n1 + 1) cp (l1 ++ [77])) := OWp.out.below hb (Nat.le_refl _)
  have Hp : Hid (Sl W22 (some ⟨bp, 0, none⟩) n1 cp l1) := Hp.out.below hb (Nat.le_refl _)
  have Xp : Hid (Box W22 (W4.heap.size) (.bool s1) (.slice (some ⟨bp, 0, none⟩) n1 cp)) := Xp.out.below hb Xp.out.lt
  have OWq : Hid (Own W22 W5.heap.size (some ⟨bq, 0, none⟩) (n2 + 1) cq (l2 ++ [77])) := OWq.out.below hb (Nat.le_refl _)
  have Hq : Hid (Sl W22 (some ⟨bq, 0, none⟩) n2 cq l2) := Hq.out.below hb (Nat.le_refl _)
  have Xq : Hid (Box W22 (W6.heap.size) (.bool s2) (.slice (some ⟨bq, 0, none⟩) n2 cq)) := Xq.out.below hb Xq.out.lt
  have Ix : Hid (IntR W22 W7.heap.size (.agg #[.bool sga, .slice ax nx cx]) sga (addV s1 (vl 4294967296 l1) s2 (vl 4294967296 l2))) := Ix.out.below hb (Nat.le_refl _)
  have Xx : Hid (Box W22 (W8.heap.size) (.bool sga) (.slice ax nx cx)) := Xx.out.below hb Xx.out.lt
  have Iy : Hid (IntR W22 W9.heap.size (.agg #[.bool sga, .slice ay ny cy]) sga (addV s1 (vl 4294967296 l1) s2 (vl 4294967296 l2))) := Iy.out.below hb (Nat.le_refl _)
  have Xy : Hid (Box W22 (W10.heap.size) (.bool sga) (.slice ay ny cy)) := Xy.out.below hb Xy.out.lt
  have Iu : Hid (IntR W22 W11.heap.size (.agg #[.bool sgb, .slice au nu cu]) sgb (addV s1 (vl 4294967296 l1) (!s2) (vl 4294967296 l2))) := Iu.out.below hb (Nat.le_refl _)
  have Xu : Hid (Box W22 (W12.heap.size) (.bool sgb) (.slice au nu cu)) := Xu.out.below hb Xu.out.lt
  have Iz : Hid (IntR W22 W13.heap.size (.agg #[.bool sgb, .slice az nz cz]) sgb (addV s1 (vl 4294967296 l1) (!s2) (vl 4294967296 l2))) := Iz.out.below hb (Nat.le_refl _)
  have Xz : Hid (Box W22 (W14.heap.size) (.bool sgb) (.slice az nz cz)) := Xz.out.below hb Xz.out.lt
  have IN : Hid (IntR W22 _ vn (sgB (!s1) (vl 4294967296 l1)) (vl 4294967296 l1)) := IN.out.below hb (Nat.le_refl _)
  have IM : Hid (IntR W22 _ vm (sgB (!s1) (vl 4294967296 l1)) (vl 4294967296 l1)) := IM.out.below hb (Nat.le_refl _)
  have HB : Hid (Below w.heap.size w W22) := HB.out.trans (hb.mono HB.out.size)
  clear hb
  clear kS
  have kS : W22.cell? ⟨w.heap.size, 0, none⟩ = some (.bool s1) ∧ W22.cell? ⟨w.heap.size, 1, none⟩ = some (.slice a1 n1 c1) ∧ W22.cell? ⟨w.heap.size + 1, 0, none⟩ = some (.bool s2) ∧ W22.cell? ⟨w.heap.size + 1, 1, none⟩ = some (.slice a2 n2 c2) ∧ W22.cell? ⟨W4.heap.size, 0, none⟩ = some (.bool s1) ∧ W22.cell? ⟨W4.heap.size, 1, none⟩ = some (.slice (some ⟨bp, 0, none⟩) n1 cp) ∧ W22.cell? ⟨W6.heap.size, 0, none⟩ = some (.bool s2) ∧ W22.cell? ⟨W6.heap.size, 1, none⟩ = some (.slice (some ⟨bq, 0, none⟩) n2 cq) ∧ W22.cell? ⟨W8.heap.size, 0, none⟩ = some (.bool sga) ∧ W22.cell? ⟨W8.heap.size, 1, none⟩ = some (.slice ax nx cx) ∧ W22.cell? ⟨W10.heap.size, 0, none⟩ = some (.bool sga) ∧ W22.cell? ⟨W10.heap.size, 1, none⟩ = some (.slice ay ny cy) ∧ W22.cell? ⟨W12.heap.size, 0, none⟩ = some (.bool sgb) ∧ W22.cell? ⟨W12.heap.size, 1, none⟩ = some (.slice au nu cu) ∧ W22.cell? ⟨W14.heap.size, 0, none⟩ = some (.bool sgb) ∧ W22.cell? ⟨W14.heap.size, 1, none⟩ = some (.slice az nz cz) := ⟨X1.out.z0, X1.out.z1, X2.out.z0, X2.out.z1, Xp.out.z0, Xp.out.z1, Xq.out.z0, Xq.out.z1, Xx.out.z0, Xx.out.z1, Xy.out.z0, Xy.out.z1, Xu.out.z0, Xu.out.z1, Xz.out.z0, Xz.out.z1⟩
  go_wp2_with fail
  refine hK.out _ _ (by exact kS) (fun hHeld => ?_)
  clear hK K hHeld
  try simp only [Act.put, List.setIfInBounds_toArray, List.set_cons_zero, List.set_cons_succ]
  refine wpAnyH_take (i := 33) (oi := { dst := some 85, op := Op.pick (Operand.tmp 79) (Operand.tmp 84) (Operand.const (Value.bool false)), type := 4, pos := "law.go:46", after := #[{ on := 27, ground := Ground.data }, { on := 32, ground := Ground.data }], guard := none }) (v := ?_) rfl (by kernel_rfl) (by kernel_rfl) (by kernel_rfl) (fun _ _ _ h => h) (Or.inl ⟨by rfl, ?_⟩) (by exact kS) ?_
  rotate_left
  · intro w hSw; (try dsimp only at hSw); (go_simp <;> with_reducible rfl)
  try simp only [Act.put, List.setIfInBounds_toArray, List.set_cons_zero, List.set_cons_succ]
  refine wpAnyH_take (i := 34) (oi := { dst := some 86, op := Op.move (Operand.tmp 85), type := 4, pos := "law.go:46", after := #[{ on := 33, ground := Ground.data }, { on := 32, ground := Ground.chain }], guard := none }) (v := ?_) rfl (by kernel_rfl) (by kernel_rfl) (by kernel_rfl) (fun _ _ _ h => h) (Or.inl ⟨by rfl, ?_⟩) (by exact kS) ?_
  rotate_left
  · intro w hSw; (try dsimp only at hSw); (go_simp <;> with_reducible rfl)
  try simp only [Act.put, List.setIfInBounds_toArray, List.set_cons_zero, List.set_cons_succ]
  refine wpAnyH_take (i := 35) (oi := { dst := some 87, op := Op.load 24 (Operand.tmp 5), type := 24, pos := "law.go:46", after := #[{ on := 34, ground := Ground.guard }], guard := some (34, true) }) (v := ?_) rfl (by kernel_rfl) (by kernel_rfl) (by kernel_rfl) (fun _ _ _ h => h) (Or.inl ⟨by rfl, ?_⟩) (by exact kS) ?_
  rotate_left
  · intro w hSw; (try dsimp only at hSw); (go_simp <;> with_reducible rfl)
  try simp only [Act.put, List.setIfInBounds_toArray, List.set_cons_zero, List.set_cons_succ]
  refine wpAnyH_take (i := 36) (oi := { dst := some 88, op := Op.load 24 (Operand.tmp 2), type := 24, pos := "law.go:46", after := #[{ on := 34, ground := Ground.guard }], guard := some (34, true) }) (v := ?_) rfl (by kernel_rfl) (by kernel_rfl) (by kernel_rfl) (fun _ _ _ h => h) (Or.inl ⟨by rfl, ?_⟩) (by exact kS) ?_
  rotate_left
  · intro w hSw; (try dsimp only at hSw); (go_simp <;> with_reducible rfl)
  try simp only [Act.put, List.setIfInBounds_toArray, List.set_cons_zero, List.set_cons_succ]
  refine wpAnyH_ready (rs := [37]) (by kernel_rfl) (by simp) ?_
  refine AllReadyH.cons (o := { dst := some 89, op := Op.call { callee := Callee.value (Operand.func 21), args := #[Operand.tmp 87, Operand.tmp 88], argTypes := #[24, 24] }, type := 4, pos := "law.go:46", after := #[{ on := 35, ground := Ground.data }, { on := 36, ground := Ground.data }, { on := 34, ground := Ground.chain }, { on := 34, ground := Ground.guard }], guard := some (34, true) }) rfl (fun K hK => ?_) AllReadyH.nil
  go_simp
  refine (back_any s1 bp cp a1 n1 c1 l1 _ _ OWp.out H1.out (by omega)).mono ?_
  rintro e W23 ⟨rfl, hb⟩
  have H1 : Hid (Sl W23 a1 n1 c1 l1) := H1.out.below hb (Nat.le_refl _)
  have H2 : Hid (Sl W23 a2 n2 c2 l2) := H2.out.below hb (Nat.le_refl _)
  have X1 : Hid (Box W23 (w.heap.size) (.bool s1) (.slice a1 n1 c1)) := X1.out.below hb X1.out.lt
  have X2 : Hid (Box W23 (w.heap.size + 1) (.bool s2) (.slice a2 n2 c2)) := X2.out.below hb X2.out.lt
  have OWp : Hid (Own W23 W3.heap.size (some ⟨bp, 0, none⟩) (n1 + 1) cp (l1 ++ [77])) := OWp.out.below hb (Nat.le_refl _)
  have Hp : Hid (Sl W23 (some ⟨bp, 0, none⟩) n1 cp l1) := Hp.out.below hb (Nat.le_refl _)
  have Xp : Hid (Box W23 (W4.heap.size) (.bool s1) (.slice (some ⟨bp, 0, none⟩) n1 cp)) := Xp.out.below hb Xp.out.lt
  have OWq : Hid (Own W23 W5.heap.size (some ⟨bq, 0, none⟩) (n2 + 1) cq (l2 ++ [77])) := OWq.out.below hb (Nat.le_refl _)
  have Hq : Hid (Sl W23 (some ⟨bq, 0, none⟩) n2 cq l2) := Hq.out.below hb (Nat.le_refl _)
  have Xq : Hid (Box W23 (W6.heap.size) (.bool s2) (.slice (some ⟨bq, 0, none⟩) n2 cq)) := Xq.out.below hb Xq.out.lt
  have Ix : Hid (IntR W23 W7.heap.size (.agg #[.bool sga, .slice ax nx cx]) sga (addV s1 (vl 4294967296 l1) s2 (vl 4294967296 l2))) := Ix.out.below hb (Nat.le_refl _)
  have Xx : Hid (Box W23 (W8.heap.size) (.bool sga) (.slice ax nx cx)) := Xx.out.below hb Xx.out.lt
  have Iy : Hid (IntR W23 W9.heap.size (.agg #[.bool sga, .slice ay ny cy]) sga (addV s1 (vl 4294967296 l1) s2 (vl 4294967296 l2))) := Iy.out.below hb (Nat.le_refl _)
  have Xy : Hid (Box W23 (W10.heap.size) (.bool sga) (.slice ay ny cy)) := Xy.out.below hb Xy.out.lt
  have Iu : Hid (IntR W23 W11.heap.size (.agg #[.bool sgb, .slice au nu cu]) sgb (addV s1 (vl 4294967296 l1) (!s2) (vl 4294967296 l2))) := Iu.out.below hb (Nat.le_refl _)
  have Xu : Hid (Box W23 (W12.heap.size) (.bool sgb) (.slice au nu cu)) := Xu.out.below hb Xu.out.lt
  have Iz : Hid (IntR W23 W13.heap.size (.agg #[.bool sgb, .slice az nz cz]) sgb (addV s1 (vl 4294967296 l1) (!s2) (vl 4294967296 l2))) := Iz.out.below hb (Nat.le_refl _)
  have Xz : Hid (Box W23 (W14.heap.size) (.bool sgb) (.slice az nz cz)) := Xz.out.below hb Xz.out.lt
  have IN : Hid (IntR W23 _ vn (sgB (!s1) (vl 4294967296 l1)) (vl 4294967296 l1)) := IN.out.below hb (Nat.le_refl _)
  have IM : Hid (IntR W23 _ vm (sgB (!s1) (vl 4294967296 l1)) (vl 4294967296 l1)) := IM.out.below hb (Nat.le_refl _)
  have HB : Hid (Below w.heap.size w W23) := HB.out.trans (hb.mono HB.out.size)
  clear hb
  clear kS
  have kS : W23.cell? ⟨w.heap.size, 0, none⟩ = some (.bool s1) ∧ W23.cell? ⟨w.heap.size, 1, none⟩ = some (.slice a1 n1 c1) ∧ W23.cell? ⟨w.heap.size + 1, 0, none⟩ = some (.bool s2) ∧ W23.cell? ⟨w.heap.size + 1, 1, none⟩ = some (.slice a2 n2 c2) ∧ W23.cell? ⟨W4.heap.size, 0, none⟩ = some (.bool s1) ∧ W23.cell? ⟨W4.heap.size, 1, none⟩ = some (.slice (some ⟨bp, 0, none⟩) n1 cp) ∧ W23.cell? ⟨W6.heap.size, 0, none⟩ = some (.bool s2) ∧ W23.cell? ⟨W6.heap.size, 1, none⟩ = some (.slice (some ⟨bq, 0, none⟩) n2 cq) ∧ W23.cell? ⟨W8.heap.size, 0, none⟩ = some (.bool sga) ∧ W23.cell? ⟨W8.heap.size, 1, none⟩ = some (.slice ax nx cx) ∧ W23.cell? ⟨W10.heap.size, 0, none⟩ = some (.bool sga) ∧ W23.cell? ⟨W10.heap.size, 1, none⟩ = some (.slice ay ny cy) ∧ W23.cell? ⟨W12.heap.size, 0, none⟩ = some (.bool sgb) ∧ W23.cell? ⟨W12.heap.size, 1, none⟩ = some (.slice au nu cu) ∧ W23.cell? ⟨W14.heap.size, 0, none⟩ = some (.bool sgb) ∧ W23.cell? ⟨W14.heap.size, 1, none⟩ = some (.slice az nz cz) := ⟨X1.out.z0, X1.out.z1, X2.out.z0, X2.out.z1, Xp.out.z0, Xp.out.z1, Xq.out.z0, Xq.out.z1, Xx.out.z0, Xx.out.z1, Xy.out.z0, Xy.out.z1, Xu.out.z0, Xu.out.z1, Xz.out.z0, Xz.out.z1⟩
  go_wp2_with fail
  refine hK.out _ _ (by exact kS) (fun hHeld => ?_)
  clear hK K hHeld
  try simp only [Act.put, List.setIfInBounds_toArray, List.set_cons_zero, List.set_cons_succ]
  refine wpAnyH_take (i := 38) (oi := { dst := some 90, op := Op.pick (Operand.tmp 86) (Operand.tmp 89) (Operand.const (Value.bool false)), type := 4, pos := "law.go:46", after := #[{ on := 34, ground := Ground.data }, { on := 37, ground := Ground.data }], guard := none }) (v := ?_) rfl (by kernel_rfl) (by kernel_rfl) (by kernel_rfl) (fun _ _ _ h => h) (Or.inl ⟨by rfl, ?_⟩) (by exact kS) ?_
  rotate_left
  · intro w hSw; (try dsimp only at hSw); (go_simp <;> with_reducible rfl)
  try simp only [Act.put, List.setIfInBounds_toArray, List.set_cons_zero, List.set_cons_succ]
  refine wpAnyH_take (i := 39) (oi := { dst := some 91, op := Op.move (Operand.tmp 90), type := 4, pos := "law.go:46", after := #[{ on := 38, ground := Ground.data }, { on := 37, ground := Ground.chain }], guard := none }) (v := ?_) rfl (by kernel_rfl) (by kernel_rfl) (by kernel_rfl) (fun _ _ _ h => h) (Or.inl ⟨by rfl, ?_⟩) (by exact kS) ?_
  rotate_left
  · intro w hSw; (try dsimp only at hSw); (go_simp <;> with_reducible rfl)
  try simp only [Act.put, List.setIfInBounds_toArray, List.set_cons_zero, List.set_cons_succ]
  refine wpAnyH_take (i := 40) (oi := { dst := some 92, op := Op.load 24 (Operand.tmp 6), type := 24, pos := "law.go:46", after := #[{ on := 39, ground := Ground.guard }], guard := some (39, true) }) (v := ?_) rfl (by kernel_rfl) (by kernel_rfl) (by kernel_rfl) (fun _ _ _ h => h) (Or.inl ⟨by rfl, ?_⟩) (by exact kS) ?_
  rotate_left
  · intro w hSw; (try dsimp only at hSw); (go_simp <;> with_reducible rfl)
  try simp only [Act.put, List.setIfInBounds_toArray, List.set_cons_zero, List.set_cons_succ]
  refine wpAnyH_take (i := 41) (oi := { dst := some 93, op := Op.load 24 (Operand.tmp 3), type := 24, pos := "law.go:46", after := #[{ on := 39, ground := Ground.guard }], guard := some (39, true) }) (v := ?_) rfl (by kernel_rfl) (by kernel_rfl) (by kernel_rfl) (fun _ _ _ h => h) (Or.inl ⟨by rfl, ?_⟩) (by exact kS) ?_
  rotate_left
  · intro w hSw; (try dsimp only at hSw); (go_simp <;> with_reducible rfl)
  try simp only [Act.put, List.setIfInBounds_toArray, List.set_cons_zero, List.set_cons_succ]
  refine wpAnyH_ready (rs := [42]) (by kernel_rfl) (by simp) ?_
  refine AllReadyH.cons (o := { dst := some 94, op := Op.call { callee := Callee.value (Operand.func 21), args := #[Operand.tmp 92, Operand.tmp 93], argTypes := #[24, 24] }, type := 4, pos := "law.go:46", after := #[{ on := 40, ground := Ground.data }, { on := 41, ground := Ground.data }, { on := 39, ground := Ground.chain }, { on := 39, ground := Ground.guard }], guard := some (39, true) }) rfl (fun K hK => ?_) AllReadyH.nil
  go_simp
  refine (back_any s2 bq cq a2 n2 c2 l2 _ _ OWq.out H2.out (by omega)).mono ?_
  rintro e W24 ⟨rfl, hb⟩
  have H1 : Hid (Sl W24 a1 n1 c1 l1) := H1.out.below hb (Nat.le_refl _)
  have H2 : Hid (Sl W24 a2 n2 c2 l2) := H2.out.below hb (Nat.le_refl _)
  have X1 : Hid (Box W24 (w.heap.size) (.bool s1) (.slice a1 n1 c1)) := X1.out.below hb X1.out.lt
  have X2 : Hid (Box W24 (w.heap.size + 1) (.bool s2) (.slice a2 n2 c2)) := X2.out.below hb X2.out.lt
  have OWp : Hid (Own W24 W3.heap.size (some ⟨bp, 0, none⟩) (n1 + 1) cp (l1 ++ [77])) := OWp.out.below hb (Nat.le_refl _)
  have Hp : Hid (Sl W24 (some ⟨bp, 0, none⟩) n1 cp l1) := Hp.out.below hb (Nat.le_refl _)
  have Xp : Hid (Box W24 (W4.heap.size) (.bool s1) (.slice (some ⟨bp, 0, none⟩) n1 cp)) := Xp.out.below hb Xp.out.lt
  have OWq : Hid (Own W24 W5.heap.size (some ⟨bq, 0, none⟩) (n2 + 1) cq (l2 ++ [77])) := OWq.out.below hb (Nat.le_refl _)
  have Hq : Hid (Sl W24 (some ⟨bq, 0, none⟩) n2 cq l2) := Hq.out.below hb (Nat.le_refl _)
  have Xq : Hid (Box W24 (W6.heap.size) (.bool s2) (.slice (some ⟨bq, 0, none⟩) n2 cq)) := Xq.out.below hb Xq.out.lt
  have Ix : Hid (IntR W24 W7.heap.size (.agg #[.bool sga, .slice ax nx cx]) sga (addV s1 (vl 4294967296 l1) s2 (vl 4294967296 l2))) := Ix.out.below hb (Nat.le_refl _)
  have Xx : Hid (Box W24 (W8.heap.size) (.bool sga) (.slice ax nx cx)) := Xx.out.below hb Xx.out.lt
  have Iy : Hid (IntR W24 W9.heap.size (.agg #[.bool sga, .slice ay ny cy]) sga (addV s1 (vl 4294967296 l1) s2 (vl 4294967296 l2))) := Iy.out.below hb (Nat.le_refl _)
  have Xy : Hid (Box W24 (W10.heap.size) (.bool sga) (.slice ay ny cy)) := Xy.out.below hb Xy.out.lt
  have Iu : Hid (IntR W24 W11.heap.size (.agg #[.bool sgb, .slice au nu cu]) sgb (addV s1 (vl 4294967296 l1) (!s2) (vl 4294967296 l2))) := Iu.out.below hb (Nat.le_refl _)
  have Xu : Hid (Box W24 (W12.heap.size) (.bool sgb) (.slice au nu cu)) := Xu.out.below hb Xu.out.lt
  have Iz : Hid (IntR W24 W13.heap.size (.agg #[.bool sgb, .slice az nz cz]) sgb (addV s1 (vl 4294967296 l1) (!s2) (vl 4294967296 l2))) := Iz.out.below hb (Nat.le_refl _)
  have Xz : Hid (Box W24 (W14.heap.size) (.bool sgb) (.slice az nz cz)) := Xz.out.below hb Xz.out.lt
  have IN : Hid (IntR W24 _ vn (sgB (!s1) (vl 4294967296 l1)) (vl 4294967296 l1)) := IN.out.below hb (Nat.le_refl _)
  have IM : Hid (IntR W24 _ vm (sgB (!s1) (vl 4294967296 l1)) (vl 4294967296 l1)) := IM.out.below hb (Nat.le_refl _)
  have HB : Hid (Below w.heap.size w W24) := HB.out.trans (hb.mono HB.out.size)
  clear hb
  clear kS
  have kS : W24.cell? ⟨w.heap.size, 0, none⟩ = some (.bool s1) ∧ W24.cell? ⟨w.heap.size, 1, none⟩ = some (.slice a1 n1 c1) ∧ W24.cell? ⟨w.heap.size + 1, 0, none⟩ = some (.bool s2) ∧ W24.cell? ⟨w.heap.size + 1, 1, none⟩ = some (.slice a2 n2 c2) ∧ W24.cell? ⟨W4.heap.size, 0, none⟩ = some (.bool s1) ∧ W24.cell? ⟨W4.heap.size, 1, none⟩ = some (.slice (some ⟨bp, 0, none⟩) n1 cp) ∧ W24.cell? ⟨W6.heap.size, 0, none⟩ = some (.bool s2) ∧ W24.cell? ⟨W6.heap.size, 1, none⟩ = some (.slice (some ⟨bq, 0, none⟩) n2 cq) ∧ W24.cell? ⟨W8.heap.size, 0, none⟩ = some (.bool sga) ∧ W24.cell? ⟨W8.heap.size, 1, none⟩ = some (.slice ax nx cx) ∧ W24.cell? ⟨W10.heap.size, 0, none⟩ = some (.bool sga) ∧ W24.cell? ⟨W10.heap.size, 1, none⟩ = some (.slice ay ny cy) ∧ W24.cell? ⟨W12.heap.size, 0, none⟩ = some (.bool sgb) ∧ W24.cell? ⟨W12.heap.size, 1, none⟩ = some (.slice au nu cu) ∧ W24.cell? ⟨W14.heap.size, 0, none⟩ = some (.bool sgb) ∧ W24.cell? ⟨W14.heap.size, 1, none⟩ = some (.slice az nz cz) := ⟨X1.out.z0, X1.out.z1, X2.out.z0, X2.out.z1, Xp.out.z0, Xp.out.z1, Xq.out.z0, Xq.out.z1, Xx.out.z0, Xx.out.z1, Xy.out.z0, Xy.out.z1, Xu.out.z0, Xu.out.z1, Xz.out.z0, Xz.out.z1⟩
  go_wp2_with fail
  refine hK.out _ _ (by exact kS) (fun hHeld => ?_)
  clear hK K hHeld
  try simp only [Act.put, List.setIfInBounds_toArray, List.set_cons_zero, List.set_cons_succ]
  refine wpAnyH_take (i := 43) (oi := { dst := some 95, op := Op.pick (Operand.tmp 91) (Operand.tmp 94) (Operand.const (Value.bool false)), type := 4, pos := "law.go:46", after := #[{ on := 39, ground := Ground.data }, { on := 42, ground := Ground.data }], guard := none }) (v := ?_) rfl (by kernel_rfl) (by kernel_rfl) (by kernel_rfl) (fun _ _ _ h => h) (Or.inl ⟨by rfl, ?_⟩) (by exact kS) ?_
  rotate_left
  · intro w hSw; (try dsimp only at hSw); (go_simp <;> with_reducible rfl)
  try simp only [Act.put, List.setIfInBounds_toArray, List.set_cons_zero, List.set_cons_succ]
  refine wpAnyH_take (i := 44) (oi := { dst := some 96, op := Op.move (Operand.tmp 95), type := 4, pos := "law.go:46", after := #[{ on := 43, ground := Ground.data }, { on := 42, ground := Ground.chain }], guard := none }) (v := ?_) rfl (by kernel_rfl) (by kernel_rfl) (by kernel_rfl) (fun _ _ _ h => h) (Or.inl ⟨by rfl, ?_⟩) (by exact kS) ?_
  rotate_left
  · intro w hSw; (try dsimp only at hSw); (go_simp <;> with_reducible rfl)
  try simp only [Act.put, List.setIfInBounds_toArray, List.set_cons_zero, List.set_cons_succ]
  refine wpAnyH_ready (rs := [45]) (by kernel_rfl) (by simp) ?_
  refine AllReadyH.cons (o := { dst := some 97, op := Op.call { callee := Callee.value (Operand.func 10), args := #[], argTypes := #[] }, type := 4, pos := "law.go:46", after := #[{ on := 44, ground := Ground.chain }, { on := 44, ground := Ground.guard }], guard := some (44, true) }) rfl (fun K hK => ?_) AllReadyH.nil
  go_simp
  refine (awake_any _).mono ?_
  rintro e W25 ⟨rfl, hb⟩
  have H1 : Hid (Sl W25 a1 n1 c1 l1) := H1.out.below hb (Nat.le_refl _)
  have H2 : Hid (Sl W25 a2 n2 c2 l2) := H2.out.below hb (Nat.le_refl _)
  have X1 : Hid (Box W25 (w.heap.size) (.bool s1) (.slice a1 n1 c1)) := X1.out.below hb X1.out.lt
  have X2 : Hid (Box W25 (w.heap.size + 1) (.bool s2) (.slice a2 n2 c2)) := X2.out.below hb X2.out.lt
  have OWp : Hid (Own W25 W3.heap.size (some ⟨bp, 0, none⟩) (n1 + 1) cp (l1 ++ [77])) := OWp.out.below hb (Nat.le_refl _)
  have Hp : Hid (Sl W25 (some ⟨bp, 0, none⟩) n1 cp l1) := Hp.out.below hb (Nat.le_refl _)
  have Xp : Hid (Box W25 (W4.heap.size) (.bool s1) (.slice (some ⟨bp, 0, none⟩) n1 cp)) := Xp.out.below hb Xp.out.lt
  have OWq : Hid (Own W25 W5.heap.size (some ⟨bq, 0, none⟩) (n2 + 1) cq (l2 ++ [77])) := OWq.out.below hb (Nat.le_refl _)
  have Hq : Hid (Sl W25 (some ⟨bq, 0, none⟩) n2 cq l2) := Hq.out.below hb (Nat.le_refl _)
  have Xq : Hid (Box W25 (W6.heap.size) (.bool s2) (.slice (some ⟨bq, 0, none⟩) n2 cq)) := Xq.out.below hb Xq.out.lt
  have Ix : Hid (IntR W25 W7.heap.size (.agg #[.bool sga, .slice ax nx cx]) sga (addV s1 (vl 4294967296 l1) s2 (vl 4294967296 l2))) := Ix.out.below hb (Nat.le_refl _)
  have Xx : Hid (Box W25 (W8.heap.size) (.bool sga) (.slice ax nx cx)) := Xx.out.below hb Xx.out.lt
  have Iy : Hid (IntR W25 W9.heap.size (.agg #[.bool sga, .slice ay ny cy]) sga (addV s1 (vl 4294967296 l1) s2 (vl 4294967296 l2))) := Iy.out.below hb (Nat.le_refl _)
  have Xy : Hid (Box W25 (W10.heap.size) (.bool sga) (.slice ay ny cy)) := Xy.out.below hb Xy.out.lt
  have Iu : Hid (IntR W25 W11.heap.size (.agg #[.bool sgb, .slice au nu cu]) sgb (addV s1 (vl 4294967296 l1) (!s2) (vl 4294967296 l2))) := Iu.out.below hb (Nat.le_refl _)
  have Xu : Hid (Box W25 (W12.heap.size) (.bool sgb) (.slice au nu cu)) := Xu.out.below hb Xu.out.lt
  have Iz : Hid (IntR W25 W13.heap.size (.agg #[.bool sgb, .slice az nz cz]) sgb (addV s1 (vl 4294967296 l1) (!s2) (vl 4294967296 l2))) := Iz.out.below hb (Nat.le_refl _)
  have Xz : Hid (Box W25 (W14.heap.size) (.bool sgb) (.slice az nz cz)) := Xz.out.below hb Xz.out.lt
  have IN : Hid (IntR W25 _ vn (sgB (!s1) (vl 4294967296 l1)) (vl 4294967296 l1)) := IN.out.below hb (Nat.le_refl _)
  have IM : Hid (IntR W25 _ vm (sgB (!s1) (vl 4294967296 l1)) (vl 4294967296 l1)) := IM.out.below hb (Nat.le_refl _)
  have HB : Hid (Below w.heap.size w W25) := HB.out.trans (hb.mono HB.out.size)
  clear hb
  clear kS
  have kS : W25.cell? ⟨w.heap.size, 0, none⟩ = some (.bool s1) ∧ W25.cell? ⟨w.heap.size, 1, none⟩ = some (.slice a1 n1 c1) ∧ W25.cell? ⟨w.heap.size + 1, 0, none⟩ = some (.bool s2) ∧ W25.cell? ⟨w.heap.size + 1, 1, none⟩ = some (.slice a2 n2 c2) ∧ W25.cell? ⟨W4.heap.size, 0, none⟩ = some (.bool s1) ∧ W25.cell? ⟨W4.heap.size, 1, none⟩ = some (.slice (some ⟨bp, 0, none⟩) n1 cp) ∧ W25.cell? ⟨W6.heap.size, 0, none⟩ = some (.bool s2) ∧ W25.cell? ⟨W6.heap.size, 1, none⟩ = some (.slice (some ⟨bq, 0, none⟩) n2 cq) ∧ W25.cell? ⟨W8.heap.size, 0, none⟩ = some (.bool sga) ∧ W25.cell? ⟨W8.heap.size, 1, none⟩ = some (.slice ax nx cx) ∧ W25.cell? ⟨W10.heap.size, 0, none⟩ = some (.bool sga) ∧ W25.cell? ⟨W10.heap.size, 1, none⟩ = some (.slice ay ny cy) ∧ W25.cell? ⟨W12.heap.size, 0, none⟩ = some (.bool sgb) ∧ W25.cell? ⟨W12.heap.size, 1, none⟩ = some (.slice au nu cu) ∧ W25.cell? ⟨W14.heap.size, 0, none⟩ = some (.bool sgb) ∧ W25.cell? ⟨W14.heap.size, 1, none⟩ = some (.slice az nz cz) := ⟨X1.out.z0, X1.out.z1, X2.out.z0, X2.out.z1, Xp.out.z0, Xp.out.z1, Xq.out.z0, Xq.out.z1, Xx.out.z0, Xx.out.z1, Xy.out.z0, Xy.out.z1, Xu.out.z0, Xu.out.z1, Xz.out.z0, Xz.out.z1⟩
  go_wp2_with fail
  refine hK.out _ _ (by exact kS) (fun hHeld => ?_)
  clear hK K hHeld
  try simp only [Act.put, List.setIfInBounds_toArray, List.set_cons_zero, List.set_cons_succ]
  refine wpAnyH_take (i := 46) (oi := { dst := some 98, op := Op.pick (Operand.tmp 96) (Operand.tmp 97) (Operand.const (Value.bool false)), type := 4, pos := "law.go:46", after := #[{ on := 44, ground := Ground.data }, { on := 45, ground := Ground.data }], guard := none }) (v := ?_) rfl (by kernel_rfl) (by kernel_rfl) (by kernel_rfl) (fun _ _ _ h => h) (Or.inl ⟨by rfl, ?_⟩) (by exact kS) ?_
  rotate_left
  · intro w hSw; (try dsimp only at hSw); (go_simp <;> with_reducible rfl)
  try simp only [Act.put, List.setIfInBounds_toArray, List.set_cons_zero, List.set_cons_succ]
  refine wpAnyH_take (i := 47) (oi := { dst := some 4, op := Op.assign (Operand.tmp 98), type := 4, pos := "law.go:46", after := #[{ on := 46, ground := Ground.data }, { on := 45, ground := Ground.chain }, { on := 0, ground := Ground.phase }, { on := 1, ground := Ground.phase }, { on := 2, ground := Ground.phase }, { on := 3, ground := Ground.phase }, { on := 4, ground := Ground.phase }, { on := 5, ground := Ground.phase }, { on := 6, ground := Ground.phase }, { on := 7, ground := Ground.phase }, { on := 8, ground := Ground.phase }, { on := 9, ground := Ground.phase }, { on := 10, ground := Ground.phase }, { on := 11, ground := Ground.phase }, { on := 12, ground := Ground.phase }, { on := 13, ground := Ground.phase }, { on := 14, ground := Ground.phase }, { on := 15, ground := Ground.phase }, { on := 16, ground := Ground.phase }, { on := 17, ground := Ground.phase }, { on := 18, ground := Ground.phase }, { on := 19, ground := Ground.phase }, { on := 20, ground := Ground.phase }, { on := 21, ground := Ground.phase }, { on := 22, ground := Ground.phase }, { on := 23, ground := Ground.phase }, { on := 24, ground := Ground.phase }, { on := 25, ground := Ground.phase }, { on := 26, ground := Ground.phase }, { on := 27, ground := Ground.phase }, { on := 28, ground := Ground.phase }, { on := 29, ground := Ground.phase }, { on := 30, ground := Ground.phase }, { on := 31, ground := Ground.phase }, { on := 32, ground := Ground.phase }, { on := 33, ground := Ground.phase }, { on := 34, ground := Ground.phase }, { on := 35, ground := Ground.phase }, { on := 36, ground := Ground.phase }, { on := 37, ground := Ground.phase }, { on := 38, ground := Ground.phase }, { on := 39, ground := Ground.phase }, { on := 40, ground := Ground.phase }, { on := 41, ground := Ground.phase }, { on := 42, ground := Ground.phase }, { on := 43, ground := Ground.phase }, { on := 44, ground := Ground.phase }, { on := 45, ground := Ground.phase }, { on := 46, ground := Ground.phase }], guard := none }) (v := ?_) rfl (by kernel_rfl) (by kernel_rfl) (by kernel_rfl) (fun _ _ _ h => h) (Or.inl ⟨by rfl, ?_⟩) (by exact kS) ?_
  rotate_left
  · intro w hSw; (try dsimp only at hSw); (go_simp <;> with_reducible rfl)
  try simp only [Act.put, List.setIfInBounds_toArray, List.set_cons_zero, List.set_cons_succ]
  refine wpAnyH_done (by kernel_rfl) ?_ _
  go_wp2_with fail
  go_ret
  exact ⟨rfl, HB.out⟩
theorem sums_any (s1 s2 : Bool) (a1 a2 : Option Addr) (n1 n2 c1 c2 : Nat) (l1 l2 : List Nat) (w : World) (h1 : Sl w a1 n1 c1 l1) (h2 : Sl w a2 n2 c2 l2) (g1 : a1 = none → c1 = 0) (g2 : a2 = none → c2 = 0) :
    Calls Tryd.prog 3 #[.agg #[.bool s1, .slice a1 n1 c1], .agg #[.bool s2, .slice a2 n2 c2]] w fun e w' => e = .returned (.bool true) ∧ Below w.heap.size w w' := by
  by_cases b1 : 40 < n1
  · exact sums_out1 s1 s2 a1 a2 n1 n2 c1 c2 l1 l2 w h1 h2 g1 g2 b1
  by_cases b2 : 40 < n2
  · exact sums_out2 s1 s2 a1 a2 n1 n2 c1 c2 l1 l2 w h1 h2 g1 g2 (by omega)
  exact sums_in s1 s2 a1 a2 n1 n2 c1 c2 l1 l2 w h1 h2 g1 g2 (by omega) (by omega)
end Go.Proofs.YtimjafgaadafdaaDoor
