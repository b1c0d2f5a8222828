/-
  ExactDivides' law, walked: any two numbers.
-/
import Derived.Test.YtimjafgaadafdaaDoorRefQ
import Derived.Test.YtimjafgaadafdaaDoorLent
import Derived.Test.YtimjafgaadafdaaDoorMath
namespace Go.Proofs.YtimjafgaadafdaaDoor
open Go.RowKit
attribute [local go_sem ↓] Go.wp_at_zero Go.wp_at_succ
theorem lent_slD {w : World} {ao a' : Option Addr} {n cap cap' : Nat} {l : List Nat} (h : Sl w ao n cap l) (ho : Sl w a' (n + 1) cap' (l ++ [77])) : Sl w a' n cap' l := by
  have h2 := ho.take n (by omega)
  rw [List.take_append_of_le_length (by rw [h.len]; exact Nat.le_refl _), List.take_of_length_le (by rw [h.len]; exact Nat.le_refl _)] at h2
  exact h2
theorem quoQ_ltD (N M : Nat) : quoQ N M < 4294967296 ^ 40 := by
  unfold quoQ
  split
  · exact Nat.pow_pos (by omega)
  split
  · exact Nat.pow_pos (by omega)
  rename_i h _
  have : bigN N = false := by cases h1 : bigN N <;> simp_all
  have h2 : N < 4294967296 ^ 16 := by simpa [bigN] using this
  exact lim40 (Nat.lt_of_le_of_lt (Nat.div_le_self _ _) h2)
theorem quoR_ltD (N M : Nat) : quoR N M < 4294967296 ^ 40 := by
  unfold quoR
  split
  · exact Nat.pow_pos (by omega)
  split
  · exact Nat.pow_pos (by omega)
  rename_i h _
  have : bigN N = false := by cases h1 : bigN N <;> simp_all
  have h2 : N < 4294967296 ^ 16 := by simpa [bigN] using this
  exact lim40 (Nat.lt_of_le_of_lt (Nat.mod_le _ _) h2)
set_option maxHeartbeats 2000000 in
theorem divides_out1 (s1 s2 : Bool) (a1 a2 : Option Addr) (n1 n2 c1 c2 : Nat) (l1 l2 : List Nat) (w : World) (h1 : Sl w a1 n1 c1 l1) (h2 : Sl w a2 n2 c2 l2) (g1 : a1 = none → c1 = 0) (g2 : a2 = none → c2 = 0) (hc : 40 < n1) :
    Calls Tryd.prog 5 #[.agg #[.bool s1, .slice a1 n1 c1], .agg #[.bool s2, .slice a2 n2 c2]] w fun e w' => e = .returned (.bool true) ∧ Below w.heap.size w w' := by
  have q1 := h1.mx
  have r1 := h1.lec
  have Z1 : Hid (a1 = none → c1 = 0) := g1
  have q2 := h2.mx
  have r2 := h2.lec
  have Z2 : Hid (a2 = none → c2 = 0) := g2
  have H1 : Hid (Sl w a1 n1 c1 l1) := h1
  have H2 : Hid (Sl w a2 n2 c2 l2) := h2
  clear h1 h2 g1 g2
  have HB : Hid (Below w.heap.size w w) := Below.refl _ _
  go_enter Tryd.func5, Tryd.ntmps5
  go_wp2_with fail
  generalize hW : (World.alloc _ _) = W1
  obtain ⟨x1, x2, hb, hz⟩ := boxes2 w (.bool s1) (.slice a1 n1 c1) (.bool s2) (.slice a2 n2 c2) 24 24 0 hW
  clear hW hz
  have H1 : Hid (Sl W1 a1 n1 c1 l1) := H1.out.below hb (Nat.le_refl _)
  have H2 : Hid (Sl W1 a2 n2 c2 l2) := H2.out.below hb (Nat.le_refl _)
  have HB : Hid (Below w.heap.size w W1) := HB.out.trans (hb.mono HB.out.size)
  clear hb
  have X1 : Hid (Box W1 (w.heap.size) (.bool s1) (.slice a1 n1 c1)) := x1
  have X2 : Hid (Box W1 (w.heap.size + 1) (.bool s2) (.slice a2 n2 c2)) := x2
  clear x1 x2
  have pX10 := X1.out.z0
  have pX11 := X1.out.z1
  have tX1 := X1.out.lt
  have pX20 := X2.out.z0
  have pX21 := X2.out.z1
  have tX2 := X2.out.lt
  refine (in_any s1 a1 n1 c1 _ (by omega)).mono ?_
  rintro e W2 ⟨rfl, hb⟩
  rw [decide_eq_false (by omega)]
  clear pX10 pX11 tX1 pX20 pX21 tX2
  have H1 : Hid (Sl W2 a1 n1 c1 l1) := H1.out.below hb (Nat.le_refl _)
  have H2 : Hid (Sl W2 a2 n2 c2 l2) := H2.out.below hb (Nat.le_refl _)
  have X1 : Hid (Box W2 (w.heap.size) (.bool s1) (.slice a1 n1 c1)) := X1.out.below hb X1.out.lt
  have X2 : Hid (Box W2 (w.heap.size + 1) (.bool s2) (.slice a2 n2 c2)) := X2.out.below hb X2.out.lt
  have HB : Hid (Below w.heap.size w W2) := HB.out.trans (hb.mono HB.out.size)
  clear hb
  have pX10 := X1.out.z0
  have pX11 := X1.out.z1
  have tX1 := X1.out.lt
  have pX20 := X2.out.z0
  have pX21 := X2.out.z1
  have tX2 := X2.out.lt
  go_wp2_with fail
  refine (awake_any _).mono ?_
  rintro e W3 ⟨rfl, hb⟩
  clear pX10 pX11 tX1 pX20 pX21 tX2
  have H1 : Hid (Sl W3 a1 n1 c1 l1) := H1.out.below hb (Nat.le_refl _)
  have H2 : Hid (Sl W3 a2 n2 c2 l2) := H2.out.below hb (Nat.le_refl _)
  have X1 : Hid (Box W3 (w.heap.size) (.bool s1) (.slice a1 n1 c1)) := X1.out.below hb X1.out.lt
  have X2 : Hid (Box W3 (w.heap.size + 1) (.bool s2) (.slice a2 n2 c2)) := X2.out.below hb X2.out.lt
  have HB : Hid (Below w.heap.size w W3) := HB.out.trans (hb.mono HB.out.size)
  clear hb
  have pX10 := X1.out.z0
  have pX11 := X1.out.z1
  have tX1 := X1.out.lt
  have pX20 := X2.out.z0
  have pX21 := X2.out.z1
  have tX2 := X2.out.lt
  go_wp2_with fail
  go_ret
  exact ⟨rfl, HB.out⟩
set_option maxHeartbeats 2000000 in
theorem divides_out2 (s1 s2 : Bool) (a1 a2 : Option Addr) (n1 n2 c1 c2 : Nat) (l1 l2 : List Nat) (w : World) (h1 : Sl w a1 n1 c1 l1) (h2 : Sl w a2 n2 c2 l2) (g1 : a1 = none → c1 = 0) (g2 : a2 = none → c2 = 0) (hc : n1 ≤ 40 ∧ 40 < n2) :
    Calls Tryd.prog 5 #[.agg #[.bool s1, .slice a1 n1 c1], .agg #[.bool s2, .slice a2 n2 c2]] w fun e w' => e = .returned (.bool true) ∧ Below w.heap.size w w' := by
  have q1 := h1.mx
  have r1 := h1.lec
  have Z1 : Hid (a1 = none → c1 = 0) := g1
  have q2 := h2.mx
  have r2 := h2.lec
  have Z2 : Hid (a2 = none → c2 = 0) := g2
  have H1 : Hid (Sl w a1 n1 c1 l1) := h1
  have H2 : Hid (Sl w a2 n2 c2 l2) := h2
  clear h1 h2 g1 g2
  have HB : Hid (Below w.heap.size w w) := Below.refl _ _
  go_enter Tryd.func5, Tryd.ntmps5
  go_wp2_with fail
  generalize hW : (World.alloc _ _) = W1
  obtain ⟨x1, x2, hb, hz⟩ := boxes2 w (.bool s1) (.slice a1 n1 c1) (.bool s2) (.slice a2 n2 c2) 24 24 0 hW
  clear hW hz
  have H1 : Hid (Sl W1 a1 n1 c1 l1) := H1.out.below hb (Nat.le_refl _)
  have H2 : Hid (Sl W1 a2 n2 c2 l2) := H2.out.below hb (Nat.le_refl _)
  have HB : Hid (Below w.heap.size w W1) := HB.out.trans (hb.mono HB.out.size)
  clear hb
  have X1 : Hid (Box W1 (w.heap.size) (.bool s1) (.slice a1 n1 c1)) := x1
  have X2 : Hid (Box W1 (w.heap.size + 1) (.bool s2) (.slice a2 n2 c2)) := x2
  clear x1 x2
  have pX10 := X1.out.z0
  have pX11 := X1.out.z1
  have tX1 := X1.out.lt
  have pX20 := X2.out.z0
  have pX21 := X2.out.z1
  have tX2 := X2.out.lt
  refine (in_any s1 a1 n1 c1 _ (by omega)).mono ?_
  rintro e W2 ⟨rfl, hb⟩
  rw [decide_eq_true (by omega)]
  clear pX10 pX11 tX1 pX20 pX21 tX2
  have H1 : Hid (Sl W2 a1 n1 c1 l1) := H1.out.below hb (Nat.le_refl _)
  have H2 : Hid (Sl W2 a2 n2 c2 l2) := H2.out.below hb (Nat.le_refl _)
  have X1 : Hid (Box W2 (w.heap.size) (.bool s1) (.slice a1 n1 c1)) := X1.out.below hb X1.out.lt
  have X2 : Hid (Box W2 (w.heap.size + 1) (.bool s2) (.slice a2 n2 c2)) := X2.out.below hb X2.out.lt
  have HB : Hid (Below w.heap.size w W2) := HB.out.trans (hb.mono HB.out.size)
  clear hb
  have pX10 := X1.out.z0
  have pX11 := X1.out.z1
  have tX1 := X1.out.lt
  have pX20 := X2.out.z0
  have pX21 := X2.out.z1
  have tX2 := X2.out.lt
  go_wp2_with fail
  refine (in_any s2 a2 n2 c2 _ (by omega)).mono ?_
  rintro e W3 ⟨rfl, hb⟩
  rw [decide_eq_false (by omega)]
  clear pX10 pX11 tX1 pX20 pX21 tX2
  have H1 : Hid (Sl W3 a1 n1 c1 l1) := H1.out.below hb (Nat.le_refl _)
  have H2 : Hid (Sl W3 a2 n2 c2 l2) := H2.out.below hb (Nat.le_refl _)
  have X1 : Hid (Box W3 (w.heap.size) (.bool s1) (.slice a1 n1 c1)) := X1.out.below hb X1.out.lt
  have X2 : Hid (Box W3 (w.heap.size + 1) (.bool s2) (.slice a2 n2 c2)) := X2.out.below hb X2.out.lt
  have HB : Hid (Below w.heap.size w W3) := HB.out.trans (hb.mono HB.out.size)
  clear hb
  have pX10 := X1.out.z0
  have pX11 := X1.out.z1
  have tX1 := X1.out.lt
  have pX20 := X2.out.z0
  have pX21 := X2.out.z1
  have tX2 := X2.out.lt
  go_wp2_with fail
  refine (awake_any _).mono ?_
  rintro e W4 ⟨rfl, hb⟩
  clear pX10 pX11 tX1 pX20 pX21 tX2
  have H1 : Hid (Sl W4 a1 n1 c1 l1) := H1.out.below hb (Nat.le_refl _)
  have H2 : Hid (Sl W4 a2 n2 c2 l2) := H2.out.below hb (Nat.le_refl _)
  have X1 : Hid (Box W4 (w.heap.size) (.bool s1) (.slice a1 n1 c1)) := X1.out.below hb X1.out.lt
  have X2 : Hid (Box W4 (w.heap.size + 1) (.bool s2) (.slice a2 n2 c2)) := X2.out.below hb X2.out.lt
  have HB : Hid (Below w.heap.size w W4) := HB.out.trans (hb.mono HB.out.size)
  clear hb
  have pX10 := X1.out.z0
  have pX11 := X1.out.z1
  have tX1 := X1.out.lt
  have pX20 := X2.out.z0
  have pX21 := X2.out.z1
  have tX2 := X2.out.lt
  go_wp2_with fail
  go_ret
  exact ⟨rfl, HB.out⟩
set_option maxHeartbeats 4000000 in
theorem divides_in (s1 s2 : Bool) (a1 a2 : Option Addr) (n1 n2 c1 c2 : Nat) (l1 l2 : List Nat) (w : World) (h1 : Sl w a1 n1 c1 l1) (h2 : Sl w a2 n2 c2 l2) (g1 : a1 = none → c1 = 0) (g2 : a2 = none → c2 = 0) (m1 : n1 ≤ 40) (m2 : n2 ≤ 40) :
    Calls Tryd.prog 5 #[.agg #[.bool s1, .slice a1 n1 c1], .agg #[.bool s2, .slice a2 n2 c2]] w fun e w' => e = .returned (.bool true) ∧ Below w.heap.size w w' := by
  have q1 := h1.mx
  have r1 := h1.lec
  have Z1 : Hid (a1 = none → c1 = 0) := g1
  have q2 := h2.mx
  have r2 := h2.lec
  have Z2 : Hid (a2 = none → c2 = 0) := g2
  have H1 : Hid (Sl w a1 n1 c1 l1) := h1
  have H2 : Hid (Sl w a2 n2 c2 l2) := h2
  clear h1 h2 g1 g2
  have HB : Hid (Below w.heap.size w w) := Below.refl _ _
  obtain ⟨sga, SGa⟩ : ∃ v, Hid (sgB (s1 != s2) (quoQ (vl 4294967296 l1) (vl 4294967296 l2)) = v) := ⟨_, rfl⟩
  obtain ⟨sgb, SGb⟩ : ∃ v, Hid (sgB s1 (quoR (vl 4294967296 l1) (vl 4294967296 l2)) = v) := ⟨_, rfl⟩
  obtain ⟨eg, EG⟩ : ∃ v, Hid (quoE (vl 4294967296 l1) (vl 4294967296 l2) = v) := ⟨_, rfl⟩
  go_enter Tryd.func5, Tryd.ntmps5
  go_wp2_with fail
  generalize hW : (World.alloc _ _) = W1
  obtain ⟨x1, x2, hb, hz⟩ := boxes2 w (.bool s1) (.slice a1 n1 c1) (.bool s2) (.slice a2 n2 c2) 24 24 0 hW
  clear hW hz
  have H1 : Hid (Sl W1 a1 n1 c1 l1) := H1.out.below hb (Nat.le_refl _)
  have H2 : Hid (Sl W1 a2 n2 c2 l2) := H2.out.below hb (Nat.le_refl _)
  have HB : Hid (Below w.heap.size w W1) := HB.out.trans (hb.mono HB.out.size)
  clear hb
  have X1 : Hid (Box W1 (w.heap.size) (.bool s1) (.slice a1 n1 c1)) := x1
  have X2 : Hid (Box W1 (w.heap.size + 1) (.bool s2) (.slice a2 n2 c2)) := x2
  clear x1 x2
  have pX10 := X1.out.z0
  have pX11 := X1.out.z1
  have tX1 := X1.out.lt
  have pX20 := X2.out.z0
  have pX21 := X2.out.z1
  have tX2 := X2.out.lt
  refine (in_any s1 a1 n1 c1 _ (by omega)).mono ?_
  rintro e W2 ⟨rfl, hb⟩
  rw [decide_eq_true (by omega)]
  clear pX10 pX11 tX1 pX20 pX21 tX2
  have H1 : Hid (Sl W2 a1 n1 c1 l1) := H1.out.below hb (Nat.le_refl _)
  have H2 : Hid (Sl W2 a2 n2 c2 l2) := H2.out.below hb (Nat.le_refl _)
  have X1 : Hid (Box W2 (w.heap.size) (.bool s1) (.slice a1 n1 c1)) := X1.out.below hb X1.out.lt
  have X2 : Hid (Box W2 (w.heap.size + 1) (.bool s2) (.slice a2 n2 c2)) := X2.out.below hb X2.out.lt
  have HB : Hid (Below w.heap.size w W2) := HB.out.trans (hb.mono HB.out.size)
  clear hb
  have pX10 := X1.out.z0
  have pX11 := X1.out.z1
  have tX1 := X1.out.lt
  have pX20 := X2.out.z0
  have pX21 := X2.out.z1
  have tX2 := X2.out.lt
  go_wp2_with fail
  refine (in_any s2 a2 n2 c2 _ (by omega)).mono ?_
  rintro e W3 ⟨rfl, hb⟩
  rw [decide_eq_true (by omega)]
  clear pX10 pX11 tX1 pX20 pX21 tX2
  have H1 : Hid (Sl W3 a1 n1 c1 l1) := H1.out.below hb (Nat.le_refl _)
  have H2 : Hid (Sl W3 a2 n2 c2 l2) := H2.out.below hb (Nat.le_refl _)
  have X1 : Hid (Box W3 (w.heap.size) (.bool s1) (.slice a1 n1 c1)) := X1.out.below hb X1.out.lt
  have X2 : Hid (Box W3 (w.heap.size + 1) (.bool s2) (.slice a2 n2 c2)) := X2.out.below hb X2.out.lt
  have HB : Hid (Below w.heap.size w W3) := HB.out.trans (hb.mono HB.out.size)
  clear hb
  have pX10 := X1.out.z0
  have pX11 := X1.out.z1
  have tX1 := X1.out.lt
  have pX20 := X2.out.z0
  have pX21 := X2.out.z1
  have tX2 := X2.out.lt
  go_wp2_with fail
  refine (lent_any s1 a1 n1 c1 l1 _ H1.out Z1.out (by omega)).mono ?_
  rintro e W4 ⟨bp, cp, rfl, ho, hb⟩
  clear pX10 pX11 tX1 pX20 pX21 tX2
  have H1 : Hid (Sl W4 a1 n1 c1 l1) := H1.out.below hb (Nat.le_refl _)
  have H2 : Hid (Sl W4 a2 n2 c2 l2) := H2.out.below hb (Nat.le_refl _)
  have X1 : Hid (Box W4 (w.heap.size) (.bool s1) (.slice a1 n1 c1)) := X1.out.below hb X1.out.lt
  have X2 : Hid (Box W4 (w.heap.size + 1) (.bool s2) (.slice a2 n2 c2)) := X2.out.below hb X2.out.lt
  have HB : Hid (Below w.heap.size w W4) := HB.out.trans (hb.mono HB.out.size)
  clear hb
  have pX10 := X1.out.z0
  have pX11 := X1.out.z1
  have tX1 := X1.out.lt
  have pX20 := X2.out.z0
  have pX21 := X2.out.z1
  have tX2 := X2.out.lt
  have OWp : Hid (Own W4 W3.heap.size (some ⟨bp, 0, none⟩) (n1 + 1) cp (l1 ++ [77])) := ho
  have Hp : Hid (Sl W4 (some ⟨bp, 0, none⟩) n1 cp l1) := lent_slD H1.out OWp.out.sl
  clear ho
  go_wp2_with fail
  generalize hW : (World.alloc W4 _) = W5
  obtain ⟨xn, hb, hz⟩ := boxes1 W4 (.bool s1) (.slice (some ⟨bp, 0, none⟩) n1 cp) 24 hW
  clear hW hz
  have Xp : Hid (Box W5 (W4.heap.size) (.bool s1) (.slice (some ⟨bp, 0, none⟩) n1 cp)) := xn
  clear xn
  clear pX10 pX11 tX1 pX20 pX21 tX2
  have H1 : Hid (Sl W5 a1 n1 c1 l1) := H1.out.below hb (Nat.le_refl _)
  have H2 : Hid (Sl W5 a2 n2 c2 l2) := H2.out.below hb (Nat.le_refl _)
  have X1 : Hid (Box W5 (w.heap.size) (.bool s1) (.slice a1 n1 c1)) := X1.out.below hb X1.out.lt
  have X2 : Hid (Box W5 (w.heap.size + 1) (.bool s2) (.slice a2 n2 c2)) := X2.out.below hb X2.out.lt
  have OWp : Hid (Own W5 W3.heap.size (some ⟨bp, 0, none⟩) (n1 + 1) cp (l1 ++ [77])) := OWp.out.below hb (Nat.le_refl _)
  have Hp : Hid (Sl W5 (some ⟨bp, 0, none⟩) n1 cp l1) := Hp.out.below hb (Nat.le_refl _)
  have HB : Hid (Below w.heap.size w W5) := HB.out.trans (hb.mono HB.out.size)
  clear hb
  have pX10 := X1.out.z0
  have pX11 := X1.out.z1
  have tX1 := X1.out.lt
  have pX20 := X2.out.z0
  have pX21 := X2.out.z1
  have tX2 := X2.out.lt
  have pXp0 := Xp.out.z0
  have pXp1 := Xp.out.z1
  have tXp := Xp.out.lt
  go_wp2_with fail
  refine (lent_any s2 a2 n2 c2 l2 _ H2.out Z2.out (by omega)).mono ?_
  rintro e W6 ⟨bq, cq, rfl, ho, hb⟩
  clear pX10 pX11 tX1 pX20 pX21 tX2 pXp0 pXp1 tXp
  have H1 : Hid (Sl W6 a1 n1 c1 l1) := H1.out.below hb (Nat.le_refl _)
  have H2 : Hid (Sl W6 a2 n2 c2 l2) := H2.out.below hb (Nat.le_refl _)
  have X1 : Hid (Box W6 (w.heap.size) (.bool s1) (.slice a1 n1 c1)) := X1.out.below hb X1.out.lt
  have X2 : Hid (Box W6 (w.heap.size + 1) (.bool s2) (.slice a2 n2 c2)) := X2.out.below hb X2.out.lt
  have OWp : Hid (Own W6 W3.heap.size (some ⟨bp, 0, none⟩) (n1 + 1) cp (l1 ++ [77])) := OWp.out.below hb (Nat.le_refl _)
  have Hp : Hid (Sl W6 (some ⟨bp, 0, none⟩) n1 cp l1) := Hp.out.below hb (Nat.le_refl _)
  have Xp : Hid (Box W6 (W4.heap.size) (.bool s1) (.slice (some ⟨bp, 0, none⟩) n1 cp)) := Xp.out.below hb Xp.out.lt
  have HB : Hid (Below w.heap.size w W6) := HB.out.trans (hb.mono HB.out.size)
  clear hb
  have pX10 := X1.out.z0
  have pX11 := X1.out.z1
  have tX1 := X1.out.lt
  have pX20 := X2.out.z0
  have pX21 := X2.out.z1
  have tX2 := X2.out.lt
  have pXp0 := Xp.out.z0
  have pXp1 := Xp.out.z1
  have tXp := Xp.out.lt
  have OWq : Hid (Own W6 W5.heap.size (some ⟨bq, 0, none⟩) (n2 + 1) cq (l2 ++ [77])) := ho
  have Hq : Hid (Sl W6 (some ⟨bq, 0, none⟩) n2 cq l2) := lent_slD H2.out OWq.out.sl
  clear ho
  go_wp2_with fail
  generalize hW : (World.alloc W6 _) = W7
  obtain ⟨xn, hb, hz⟩ := boxes1 W6 (.bool s2) (.slice (some ⟨bq, 0, none⟩) n2 cq) 24 hW
  clear hW hz
  have Xq : Hid (Box W7 (W6.heap.size) (.bool s2) (.slice (some ⟨bq, 0, none⟩) n2 cq)) := xn
  clear xn
  clear pX10 pX11 tX1 pX20 pX21 tX2 pXp0 pXp1 tXp
  have H1 : Hid (Sl W7 a1 n1 c1 l1) := H1.out.below hb (Nat.le_refl _)
  have H2 : Hid (Sl W7 a2 n2 c2 l2) := H2.out.below hb (Nat.le_refl _)
  have X1 : Hid (Box W7 (w.heap.size) (.bool s1) (.slice a1 n1 c1)) := X1.out.below hb X1.out.lt
  have X2 : Hid (Box W7 (w.heap.size + 1) (.bool s2) (.slice a2 n2 c2)) := X2.out.below hb X2.out.lt
  have OWp : Hid (Own W7 W3.heap.size (some ⟨bp, 0, none⟩) (n1 + 1) cp (l1 ++ [77])) := OWp.out.below hb (Nat.le_refl _)
  have Hp : Hid (Sl W7 (some ⟨bp, 0, none⟩) n1 cp l1) := Hp.out.below hb (Nat.le_refl _)
  have Xp : Hid (Box W7 (W4.heap.size) (.bool s1) (.slice (some ⟨bp, 0, none⟩) n1 cp)) := Xp.out.below hb Xp.out.lt
  have OWq : Hid (Own W7 W5.heap.size (some ⟨bq, 0, none⟩) (n2 + 1) cq (l2 ++ [77])) := OWq.out.below hb (Nat.le_refl _)
  have Hq : Hid (Sl W7 (some ⟨bq, 0, none⟩) n2 cq l2) := Hq.out.below hb (Nat.le_refl _)
  have HB : Hid (Below w.heap.size w W7) := HB.out.trans (hb.mono HB.out.size)
  clear hb
  have pX10 := X1.out.z0
  have pX11 := X1.out.z1
  have tX1 := X1.out.lt
  have pX20 := X2.out.z0
  have pX21 := X2.out.z1
  have tX2 := X2.out.lt
  have pXp0 := Xp.out.z0
  have pXp1 := Xp.out.z1
  have tXp := Xp.out.lt
  have pXq0 := Xq.out.z0
  have pXq1 := Xq.out.z1
  have tXq := Xq.out.lt
  go_wp2_with fail
  refine (quo_any s1 s2 (some ⟨bp, 0, none⟩) n1 cp l1 (some ⟨bq, 0, none⟩) n2 cq l2 _ Hp.out Hq.out (by omega) (by omega)).mono ?_
  rintro e W8 ⟨⟨v, u, rfl, hx, hu⟩, hb⟩
  rw [SGa.out] at hx
  rw [SGb.out] at hu
  rw [EG.out]
  clear pX10 pX11 tX1 pX20 pX21 tX2 pXp0 pXp1 tXp pXq0 pXq1 tXq
  have H1 : Hid (Sl W8 a1 n1 c1 l1) := H1.out.below hb (Nat.le_refl _)
  have H2 : Hid (Sl W8 a2 n2 c2 l2) := H2.out.below hb (Nat.le_refl _)
  have X1 : Hid (Box W8 (w.heap.size) (.bool s1) (.slice a1 n1 c1)) := X1.out.below hb X1.out.lt
  have X2 : Hid (Box W8 (w.heap.size + 1) (.bool s2) (.slice a2 n2 c2)) := X2.out.below hb X2.out.lt
  have OWp : Hid (Own W8 W3.heap.size (some ⟨bp, 0, none⟩) (n1 + 1) cp (l1 ++ [77])) := OWp.out.below hb (Nat.le_refl _)
  have Hp : Hid (Sl W8 (some ⟨bp, 0, none⟩) n1 cp l1) := Hp.out.below hb (Nat.le_refl _)
  have Xp : Hid (Box W8 (W4.heap.size) (.bool s1) (.slice (some ⟨bp, 0, none⟩) n1 cp)) := Xp.out.below hb Xp.out.lt
  have OWq : Hid (Own W8 W5.heap.size (some ⟨bq, 0, none⟩) (n2 + 1) cq (l2 ++ [77])) := OWq.out.below hb (Nat.le_refl _)
  have Hq : Hid (Sl W8 (some ⟨bq, 0, none⟩) n2 cq l2) := Hq.out.below hb (Nat.le_refl _)
  have Xq : Hid (Box W8 (W6.heap.size) (.bool s2) (.slice (some ⟨bq, 0, none⟩) n2 cq)) := Xq.out.below hb Xq.out.lt
  have HB : Hid (Below w.heap.size w W8) := HB.out.trans (hb.mono HB.out.size)
  clear hb
  have pX10 := X1.out.z0
  have pX11 := X1.out.z1
  have tX1 := X1.out.lt
  have pX20 := X2.out.z0
  have pX21 := X2.out.z1
  have tX2 := X2.out.lt
  have pXp0 := Xp.out.z0
  have pXp1 := Xp.out.z1
  have tXp := Xp.out.lt
  have pXq0 := Xq.out.z0
  have pXq1 := Xq.out.z1
  have tXq := Xq.out.lt
  have Ix := hx
  obtain ⟨ax, nx, cx, lx, rfl, hs, hv, mx⟩ := hx.open (quoQ_ltD _ _)
  clear hs hv hx
  have Iu := hu
  obtain ⟨au, nu, cu, lu, rfl, hs, hv, mu⟩ := hu.open (quoR_ltD _ _)
  clear hs hv hu
  have Ix : Hid (IntR W8 W7.heap.size (.agg #[.bool sga, .slice ax nx cx]) sga (quoQ (vl 4294967296 l1) (vl 4294967296 l2))) := Ix
  have Iu : Hid (IntR W8 W7.heap.size (.agg #[.bool sgb, .slice au nu cu]) sgb (quoR (vl 4294967296 l1) (vl 4294967296 l2))) := Iu
  go_wp2_with fail
  generalize hW : (World.alloc _ _) = W9
  obtain ⟨x1, x2, hb, hz⟩ := boxes2 W8 (.bool sga) (.slice ax nx cx) (.bool sgb) (.slice au nu cu) 24 24 0 hW
  clear hW hz
  have Xx : Hid (Box W9 (W8.heap.size) (.bool sga) (.slice ax nx cx)) := x1
  have Xu : Hid (Box W9 (W8.heap.size + 1) (.bool sgb) (.slice au nu cu)) := x2
  clear x1 x2
  clear pX10 pX11 tX1 pX20 pX21 tX2 pXp0 pXp1 tXp pXq0 pXq1 tXq
  have H1 : Hid (Sl W9 a1 n1 c1 l1) := H1.out.below hb (Nat.le_refl _)
  have H2 : Hid (Sl W9 a2 n2 c2 l2) := H2.out.below hb (Nat.le_refl _)
  have X1 : Hid (Box W9 (w.heap.size) (.bool s1) (.slice a1 n1 c1)) := X1.out.below hb X1.out.lt
  have X2 : Hid (Box W9 (w.heap.size + 1) (.bool s2) (.slice a2 n2 c2)) := X2.out.below hb X2.out.lt
  have OWp : Hid (Own W9 W3.heap.size (some ⟨bp, 0, none⟩) (n1 + 1) cp (l1 ++ [77])) := OWp.out.below hb (Nat.le_refl _)
  have Hp : Hid (Sl W9 (some ⟨bp, 0, none⟩) n1 cp l1) := Hp.out.below hb (Nat.le_refl _)
  have Xp : Hid (Box W9 (W4.heap.size) (.bool s1) (.slice (some ⟨bp, 0, none⟩) n1 cp)) := Xp.out.below hb Xp.out.lt
  have OWq : Hid (Own W9 W5.heap.size (some ⟨bq, 0, none⟩) (n2 + 1) cq (l2 ++ [77])) := OWq.out.below hb (Nat.le_refl _)
  have Hq : Hid (Sl W9 (some ⟨bq, 0, none⟩) n2 cq l2) := Hq.out.below hb (Nat.le_refl _)
  have Xq : Hid (Box W9 (W6.heap.size) (.bool s2) (.slice (some ⟨bq, 0, none⟩) n2 cq)) := Xq.out.below hb Xq.out.lt
  have Ix : Hid (IntR W9 W7.heap.size (.agg #[.bool sga, .slice ax nx cx]) sga (quoQ (vl 4294967296 l1) (vl 4294967296 l2))) := Ix.out.below hb (Nat.le_refl _)
  have Iu : Hid (IntR W9 W7.heap.size (.agg #[.bool sgb, .slice au nu cu]) sgb (quoR (vl 4294967296 l1) (vl 4294967296 l2))) := Iu.out.below hb (Nat.le_refl _)
  have HB : Hid (Below w.heap.size w W9) := HB.out.trans (hb.mono HB.out.size)
  clear hb
  have pX10 := X1.out.z0
  have pX11 := X1.out.z1
  have tX1 := X1.out.lt
  have pX20 := X2.out.z0
  have pX21 := X2.out.z1
  have tX2 := X2.out.lt
  have pXp0 := Xp.out.z0
  have pXp1 := Xp.out.z1
  have tXp := Xp.out.lt
  have pXq0 := Xq.out.z0
  have pXq1 := Xq.out.z1
  have tXq := Xq.out.lt
  have pXx0 := Xx.out.z0
  have pXx1 := Xx.out.z1
  have tXx := Xx.out.lt
  have pXu0 := Xu.out.z0
  have pXu1 := Xu.out.z1
  have tXu := Xu.out.lt
  go_wp2_with fail
  refine (rquo_any s1 s2 a1 n1 c1 l1 a2 n2 c2 l2 _ H1.out H2.out Z1.out Z2.out (by omega) (by omega)).mono ?_
  rintro e W10 ⟨⟨v, u, rfl, hy, hz⟩, hb⟩
  rw [SGa.out] at hy
  rw [SGb.out] at hz
  rw [EG.out]
  clear pX10 pX11 tX1 pX20 pX21 tX2 pXp0 pXp1 tXp pXq0 pXq1 tXq pXx0 pXx1 tXx pXu0 pXu1 tXu
  have H1 : Hid (Sl W10 a1 n1 c1 l1) := H1.out.below hb (Nat.le_refl _)
  have H2 : Hid (Sl W10 a2 n2 c2 l2) := H2.out.below hb (Nat.le_refl _)
  have X1 : Hid (Box W10 (w.heap.size) (.bool s1) (.slice a1 n1 c1)) := X1.out.below hb X1.out.lt
  have X2 : Hid (Box W10 (w.heap.size + 1) (.bool s2) (.slice a2 n2 c2)) := X2.out.below hb X2.out.lt
  have OWp : Hid (Own W10 W3.heap.size (some ⟨bp, 0, none⟩) (n1 + 1) cp (l1 ++ [77])) := OWp.out.below hb (Nat.le_refl _)
  have Hp : Hid (Sl W10 (some ⟨bp, 0, none⟩) n1 cp l1) := Hp.out.below hb (Nat.le_refl _)
  have Xp : Hid (Box W10 (W4.heap.size) (.bool s1) (.slice (some ⟨bp, 0, none⟩) n1 cp)) := Xp.out.below hb Xp.out.lt
  have OWq : Hid (Own W10 W5.heap.size (some ⟨bq, 0, none⟩) (n2 + 1) cq (l2 ++ [77])) := OWq.out.below hb (Nat.le_refl _)
  have Hq : Hid (Sl W10 (some ⟨bq, 0, none⟩) n2 cq l2) := Hq.out.below hb (Nat.le_refl _)
  have Xq : Hid (Box W10 (W6.heap.size) (.bool s2) (.slice (some ⟨bq, 0, none⟩) n2 cq)) := Xq.out.below hb Xq.out.lt
  have Ix : Hid (IntR W10 W7.heap.size (.agg #[.bool sga, .slice ax nx cx]) sga (quoQ (vl 4294967296 l1) (vl 4294967296 l2))) := Ix.out.below hb (Nat.le_refl _)
  have Iu : Hid (IntR W10 W7.heap.size (.agg #[.bool sgb, .slice au nu cu]) sgb (quoR (vl 4294967296 l1) (vl 4294967296 l2))) := Iu.out.below hb (Nat.le_refl _)
  have Xx : Hid (Box W10 (W8.heap.size) (.bool sga) (.slice ax nx cx)) := Xx.out.below hb Xx.out.lt
  have Xu : Hid (Box W10 (W8.heap.size + 1) (.bool sgb) (.slice au nu cu)) := Xu.out.below hb Xu.out.lt
  have HB : Hid (Below w.heap.size w W10) := HB.out.trans (hb.mono HB.out.size)
  clear hb
  have pX10 := X1.out.z0
  have pX11 := X1.out.z1
  have tX1 := X1.out.lt
  have pX20 := X2.out.z0
  have pX21 := X2.out.z1
  have tX2 := X2.out.lt
  have pXp0 := Xp.out.z0
  have pXp1 := Xp.out.z1
  have tXp := Xp.out.lt
  have pXq0 := Xq.out.z0
  have pXq1 := Xq.out.z1
  have tXq := Xq.out.lt
  have pXx0 := Xx.out.z0
  have pXx1 := Xx.out.z1
  have tXx := Xx.out.lt
  have pXu0 := Xu.out.z0
  have pXu1 := Xu.out.z1
  have tXu := Xu.out.lt
  have Iy := hy
  obtain ⟨ay, ny, cy, ly, rfl, hs, hv, my⟩ := hy.open (quoQ_ltD _ _)
  clear hs hv hy
  have Iz := hz
  obtain ⟨az, nz, cz, lz, rfl, hs, hv, mz⟩ := hz.open (quoR_ltD _ _)
  clear hs hv hz
  have Iy : Hid (IntR W10 W9.heap.size (.agg #[.bool sga, .slice ay ny cy]) sga (quoQ (vl 4294967296 l1) (vl 4294967296 l2))) := Iy
  have Iz : Hid (IntR W10 W9.heap.size (.agg #[.bool sgb, .slice az nz cz]) sgb (quoR (vl 4294967296 l1) (vl 4294967296 l2))) := Iz
  go_wp2_with fail
  generalize hW : (World.alloc _ _) = W11
  obtain ⟨x1, x2, hb, hz⟩ := boxes2 W10 (.bool sga) (.slice ay ny cy) (.bool sgb) (.slice az nz cz) 24 24 0 hW
  clear hW hz
  have Xy : Hid (Box W11 (W10.heap.size) (.bool sga) (.slice ay ny cy)) := x1
  have Xz : Hid (Box W11 (W10.heap.size + 1) (.bool sgb) (.slice az nz cz)) := x2
  clear x1 x2
  clear pX10 pX11 tX1 pX20 pX21 tX2 pXp0 pXp1 tXp pXq0 pXq1 tXq pXx0 pXx1 tXx pXu0 pXu1 tXu
  have H1 : Hid (Sl W11 a1 n1 c1 l1) := H1.out.below hb (Nat.le_refl _)
  have H2 : Hid (Sl W11 a2 n2 c2 l2) := H2.out.below hb (Nat.le_refl _)
  have X1 : Hid (Box W11 (w.heap.size) (.bool s1) (.slice a1 n1 c1)) := X1.out.below hb X1.out.lt
  have X2 : Hid (Box W11 (w.heap.size + 1) (.bool s2) (.slice a2 n2 c2)) := X2.out.below hb X2.out.lt
  have OWp : Hid (Own W11 W3.heap.size (some ⟨bp, 0, none⟩) (n1 + 1) cp (l1 ++ [77])) := OWp.out.below hb (Nat.le_refl _)
  have Hp : Hid (Sl W11 (some ⟨bp, 0, none⟩) n1 cp l1) := Hp.out.below hb (Nat.le_refl _)
  have Xp : Hid (Box W11 (W4.heap.size) (.bool s1) (.slice (some ⟨bp, 0, none⟩) n1 cp)) := Xp.out.below hb Xp.out.lt
  have OWq : Hid (Own W11 W5.heap.size (some ⟨bq, 0, none⟩) (n2 + 1) cq (l2 ++ [77])) := OWq.out.below hb (Nat.le_refl _)
  have Hq : Hid (Sl W11 (some ⟨bq, 0, none⟩) n2 cq l2) := Hq.out.below hb (Nat.le_refl _)
  have Xq : Hid (Box W11 (W6.heap.size) (.bool s2) (.slice (some ⟨bq, 0, none⟩) n2 cq)) := Xq.out.below hb Xq.out.lt
  have Ix : Hid (IntR W11 W7.heap.size (.agg #[.bool sga, .slice ax nx cx]) sga (quoQ (vl 4294967296 l1) (vl 4294967296 l2))) := Ix.out.below hb (Nat.le_refl _)
  have Iu : Hid (IntR W11 W7.heap.size (.agg #[.bool sgb, .slice au nu cu]) sgb (quoR (vl 4294967296 l1) (vl 4294967296 l2))) := Iu.out.below hb (Nat.le_refl _)
  have Xx : Hid (Box W11 (W8.heap.size) (.bool sga) (.slice ax nx cx)) := Xx.out.below hb Xx.out.lt
  have Xu : Hid (Box W11 (W8.heap.size + 1) (.bool sgb) (.slice au nu cu)) := Xu.out.below hb Xu.out.lt
  have Iy : Hid (IntR W11 W9.heap.size (.agg #[.bool sga, .slice ay ny cy]) sga (quoQ (vl 4294967296 l1) (vl 4294967296 l2))) := Iy.out.below hb (Nat.le_refl _)
  have Iz : Hid (IntR W11 W9.heap.size (.agg #[.bool sgb, .slice az nz cz]) sgb (quoR (vl 4294967296 l1) (vl 4294967296 l2))) := Iz.out.below hb (Nat.le_refl _)
  have HB : Hid (Below w.heap.size w W11) := HB.out.trans (hb.mono HB.out.size)
  clear hb
  have pX10 := X1.out.z0
  have pX11 := X1.out.z1
  have tX1 := X1.out.lt
  have pX20 := X2.out.z0
  have pX21 := X2.out.z1
  have tX2 := X2.out.lt
  have pXp0 := Xp.out.z0
  have pXp1 := Xp.out.z1
  have tXp := Xp.out.lt
  have pXq0 := Xq.out.z0
  have pXq1 := Xq.out.z1
  have tXq := Xq.out.lt
  have pXx0 := Xx.out.z0
  have pXx1 := Xx.out.z1
  have tXx := Xx.out.lt
  have pXu0 := Xu.out.z0
  have pXu1 := Xu.out.z1
  have tXu := Xu.out.lt
  have pXy0 := Xy.out.z0
  have pXy1 := Xy.out.z1
  have tXy := Xy.out.lt
  have pXz0 := Xz.out.z0
  have pXz1 := Xz.out.z1
  have tXz := Xz.out.lt
  go_wp2_with fail
  refine (whole_any Ix.out Iy.out).mono ?_
  rintro e W12 ⟨rfl, hb⟩
  clear pX10 pX11 tX1 pX20 pX21 tX2 pXp0 pXp1 tXp pXq0 pXq1 tXq pXx0 pXx1 tXx pXu0 pXu1 tXu pXy0 pXy1 tXy pXz0 pXz1 tXz
  have H1 : Hid (Sl W12 a1 n1 c1 l1) := H1.out.below hb (Nat.le_refl _)
  have H2 : Hid (Sl W12 a2 n2 c2 l2) := H2.out.below hb (Nat.le_refl _)
  have X1 : Hid (Box W12 (w.heap.size) (.bool s1) (.slice a1 n1 c1)) := X1.out.below hb X1.out.lt
  have X2 : Hid (Box W12 (w.heap.size + 1) (.bool s2) (.slice a2 n2 c2)) := X2.out.below hb X2.out.lt
  have OWp : Hid (Own W12 W3.heap.size (some ⟨bp, 0, none⟩) (n1 + 1) cp (l1 ++ [77])) := OWp.out.below hb (Nat.le_refl _)
  have Hp : Hid (Sl W12 (some ⟨bp, 0, none⟩) n1 cp l1) := Hp.out.below hb (Nat.le_refl _)
  have Xp : Hid (Box W12 (W4.heap.size) (.bool s1) (.slice (some ⟨bp, 0, none⟩) n1 cp)) := Xp.out.below hb Xp.out.lt
  have OWq : Hid (Own W12 W5.heap.size (some ⟨bq, 0, none⟩) (n2 + 1) cq (l2 ++ [77])) := OWq.out.below hb (Nat.le_refl _)
  have Hq : Hid (Sl W12 (some ⟨bq, 0, none⟩) n2 cq l2) := Hq.out.below hb (Nat.le_refl _)
  have Xq : Hid (Box W12 (W6.heap.size) (.bool s2) (.slice (some ⟨bq, 0, none⟩) n2 cq)) := Xq.out.below hb Xq.out.lt
  have Ix : Hid (IntR W12 W7.heap.size (.agg #[.bool sga, .slice ax nx cx]) sga (quoQ (vl 4294967296 l1) (vl 4294967296 l2))) := Ix.out.below hb (Nat.le_refl _)
  have Iu : Hid (IntR W12 W7.heap.size (.agg #[.bool sgb, .slice au nu cu]) sgb (quoR (vl 4294967296 l1) (vl 4294967296 l2))) := Iu.out.below hb (Nat.le_refl _)
  have Xx : Hid (Box W12 (W8.heap.size) (.bool sga) (.slice ax nx cx)) := Xx.out.below hb Xx.out.lt
  have Xu : Hid (Box W12 (W8.heap.size + 1) (.bool sgb) (.slice au nu cu)) := Xu.out.below hb Xu.out.lt
  have Iy : Hid (IntR W12 W9.heap.size (.agg #[.bool sga, .slice ay ny cy]) sga (quoQ (vl 4294967296 l1) (vl 4294967296 l2))) := Iy.out.below hb (Nat.le_refl _)
  have Iz : Hid (IntR W12 W9.heap.size (.agg #[.bool sgb, .slice az nz cz]) sgb (quoR (vl 4294967296 l1) (vl 4294967296 l2))) := Iz.out.below hb (Nat.le_refl _)
  have Xy : Hid (Box W12 (W10.heap.size) (.bool sga) (.slice ay ny cy)) := Xy.out.below hb Xy.out.lt
  have Xz : Hid (Box W12 (W10.heap.size + 1) (.bool sgb) (.slice az nz cz)) := Xz.out.below hb Xz.out.lt
  have HB : Hid (Below w.heap.size w W12) := HB.out.trans (hb.mono HB.out.size)
  clear hb
  have pX10 := X1.out.z0
  have pX11 := X1.out.z1
  have tX1 := X1.out.lt
  have pX20 := X2.out.z0
  have pX21 := X2.out.z1
  have tX2 := X2.out.lt
  have pXp0 := Xp.out.z0
  have pXp1 := Xp.out.z1
  have tXp := Xp.out.lt
  have pXq0 := Xq.out.z0
  have pXq1 := Xq.out.z1
  have tXq := Xq.out.lt
  have pXx0 := Xx.out.z0
  have pXx1 := Xx.out.z1
  have tXx := Xx.out.lt
  have pXu0 := Xu.out.z0
  have pXu1 := Xu.out.z1
  have tXu := Xu.out.lt
  have pXy0 := Xy.out.z0
  have pXy1 := Xy.out.z1
  have tXy := Xy.out.lt
  have pXz0 := Xz.out.z0
  have pXz1 := Xz.out.z1
  have tXz := Xz.out.lt
  go_wp2_with fail
  refine (whole_any Iu.out Iz.out).mono ?_
  rintro e W13 ⟨rfl, hb⟩
  clear pX10 pX11 tX1 pX20 pX21 tX2 pXp0 pXp1 tXp pXq0 pXq1 tXq pXx0 pXx1 tXx pXu0 pXu1 tXu pXy0 pXy1 tXy pXz0 pXz1 tXz
  have H1 : Hid (Sl W13 a1 n1 c1 l1) := H1.out.below hb (Nat.le_refl _)
  have H2 : Hid (Sl W13 a2 n2 c2 l2) := H2.out.below hb (Nat.le_refl _)
  have X1 : Hid (Box W13 (w.heap.size) (.bool s1) (.slice a1 n1 c1)) := X1.out.below hb X1.out.lt
  have X2 : Hid (Box W13 (w.heap.size + 1) (.bool s2) (.slice a2 n2 c2)) := X2.out.below hb X2.out.lt
  have OWp : Hid (Own W13 W3.heap.size (some ⟨bp, 0, none⟩) (n1 + 1) cp (l1 ++ [77])) := OWp.out.below hb (Nat.le_refl _)
  have Hp : Hid (Sl W13 (some ⟨bp, 0, none⟩) n1 cp l1) := Hp.out.below hb (Nat.le_refl _)
  have Xp : Hid (Box W13 (W4.heap.size) (.bool s1) (.slice (some ⟨bp, 0, none⟩) n1 cp)) := Xp.out.below hb Xp.out.lt
  have OWq : Hid (Own W13 W5.heap.size (some ⟨bq, 0, none⟩) (n2 + 1) cq (l2 ++ [77])) := OWq.out.below hb (Nat.le_refl _)
  have Hq : Hid (Sl W13 (some ⟨bq, 0, none⟩) n2 cq l2) := Hq.out.below hb (Nat.le_refl _)
  have Xq : Hid (Box W13 (W6.heap.size) (.bool s2) (.slice (some ⟨bq, 0, none⟩) n2 cq)) := Xq.out.below hb Xq.out.lt
  have Ix : Hid (IntR W13 W7.heap.size (.agg #[.bool sga, .slice ax nx cx]) sga (quoQ (vl 4294967296 l1) (vl 4294967296 l2))) := Ix.out.below hb (Nat.le_refl _)
  have Iu : Hid (IntR W13 W7.heap.size (.agg #[.bool sgb, .slice au nu cu]) sgb (quoR (vl 4294967296 l1) (vl 4294967296 l2))) := Iu.out.below hb (Nat.le_refl _)
  have Xx : Hid (Box W13 (W8.heap.size) (.bool sga) (.slice ax nx cx)) := Xx.out.below hb Xx.out.lt
  have Xu : Hid (Box W13 (W8.heap.size + 1) (.bool sgb) (.slice au nu cu)) := Xu.out.below hb Xu.out.lt
  have Iy : Hid (IntR W13 W9.heap.size (.agg #[.bool sga, .slice ay ny cy]) sga (quoQ (vl 4294967296 l1) (vl 4294967296 l2))) := Iy.out.below hb (Nat.le_refl _)
  have Iz : Hid (IntR W13 W9.heap.size (.agg #[.bool sgb, .slice az nz cz]) sgb (quoR (vl 4294967296 l1) (vl 4294967296 l2))) := Iz.out.below hb (Nat.le_refl _)
  have Xy : Hid (Box W13 (W10.heap.size) (.bool sga) (.slice ay ny cy)) := Xy.out.below hb Xy.out.lt
  have Xz : Hid (Box W13 (W10.heap.size + 1) (.bool sgb) (.slice az nz cz)) := Xz.out.below hb Xz.out.lt
  have HB : Hid (Below w.heap.size w W13) := HB.out.trans (hb.mono HB.out.size)
  clear hb
  have pX10 := X1.out.z0
  have pX11 := X1.out.z1
  have tX1 := X1.out.lt
  have pX20 := X2.out.z0
  have pX21 := X2.out.z1
  have tX2 := X2.out.lt
  have pXp0 := Xp.out.z0
  have pXp1 := Xp.out.z1
  have tXp := Xp.out.lt
  have pXq0 := Xq.out.z0
  have pXq1 := Xq.out.z1
  have tXq := Xq.out.lt
  have pXx0 := Xx.out.z0
  have pXx1 := Xx.out.z1
  have tXx := Xx.out.lt
  have pXu0 := Xu.out.z0
  have pXu1 := Xu.out.z1
  have tXu := Xu.out.lt
  have pXy0 := Xy.out.z0
  have pXy1 := Xy.out.z1
  have tXy := Xy.out.lt
  have pXz0 := Xz.out.z0
  have pXz1 := Xz.out.z1
  have tXz := Xz.out.lt
  go_wp2_with fail
  refine (back_any s1 bp cp a1 n1 c1 l1 _ _ OWp.out H1.out (by omega)).mono ?_
  rintro e W14 ⟨rfl, hb⟩
  clear pX10 pX11 tX1 pX20 pX21 tX2 pXp0 pXp1 tXp pXq0 pXq1 tXq pXx0 pXx1 tXx pXu0 pXu1 tXu pXy0 pXy1 tXy pXz0 pXz1 tXz
  have H1 : Hid (Sl W14 a1 n1 c1 l1) := H1.out.below hb (Nat.le_refl _)
  have H2 : Hid (Sl W14 a2 n2 c2 l2) := H2.out.below hb (Nat.le_refl _)
  have X1 : Hid (Box W14 (w.heap.size) (.bool s1) (.slice a1 n1 c1)) := X1.out.below hb X1.out.lt
  have X2 : Hid (Box W14 (w.heap.size + 1) (.bool s2) (.slice a2 n2 c2)) := X2.out.below hb X2.out.lt
  have OWp : Hid (Own W14 W3.heap.size (some ⟨bp, 0, none⟩) (n1 + 1) cp (l1 ++ [77])) := OWp.out.below hb (Nat.le_refl _)
  have Hp : Hid (Sl W14 (some ⟨bp, 0, none⟩) n1 cp l1) := Hp.out.below hb (Nat.le_refl _)
  have Xp : Hid (Box W14 (W4.heap.size) (.bool s1) (.slice (some ⟨bp, 0, none⟩) n1 cp)) := Xp.out.below hb Xp.out.lt
  have OWq : Hid (Own W14 W5.heap.size (some ⟨bq, 0, none⟩) (n2 + 1) cq (l2 ++ [77])) := OWq.out.below hb (Nat.le_refl _)
  have Hq : Hid (Sl W14 (some ⟨bq, 0, none⟩) n2 cq l2) := Hq.out.below hb (Nat.le_refl _)
  have Xq : Hid (Box W14 (W6.heap.size) (.bool s2) (.slice (some ⟨bq, 0, none⟩) n2 cq)) := Xq.out.below hb Xq.out.lt
  have Ix : Hid (IntR W14 W7.heap.size (.agg #[.bool sga, .slice ax nx cx]) sga (quoQ (vl 4294967296 l1) (vl 4294967296 l2))) := Ix.out.below hb (Nat.le_refl _)
  have Iu : Hid (IntR W14 W7.heap.size (.agg #[.bool sgb, .slice au nu cu]) sgb (quoR (vl 4294967296 l1) (vl 4294967296 l2))) := Iu.out.below hb (Nat.le_refl _)
  have Xx : Hid (Box W14 (W8.heap.size) (.bool sga) (.slice ax nx cx)) := Xx.out.below hb Xx.out.lt
  have Xu : Hid (Box W14 (W8.heap.size + 1) (.bool sgb) (.slice au nu cu)) := Xu.out.below hb Xu.out.lt
  have Iy : Hid (IntR W14 W9.heap.size (.agg #[.bool sga, .slice ay ny cy]) sga (quoQ (vl 4294967296 l1) (vl 4294967296 l2))) := Iy.out.below hb (Nat.le_refl _)
  have Iz : Hid (IntR W14 W9.heap.size (.agg #[.bool sgb, .slice az nz cz]) sgb (quoR (vl 4294967296 l1) (vl 4294967296 l2))) := Iz.out.below hb (Nat.le_refl _)
  have Xy : Hid (Box W14 (W10.heap.size) (.bool sga) (.slice ay ny cy)) := Xy.out.below hb Xy.out.lt
  have Xz : Hid (Box W14 (W10.heap.size + 1) (.bool sgb) (.slice az nz cz)) := Xz.out.below hb Xz.out.lt
  have HB : Hid (Below w.heap.size w W14) := HB.out.trans (hb.mono HB.out.size)
  clear hb
  have pX10 := X1.out.z0
  have pX11 := X1.out.z1
  have tX1 := X1.out.lt
  have pX20 := X2.out.z0
  have pX21 := X2.out.z1
  have tX2 := X2.out.lt
  have pXp0 := Xp.out.z0
  have pXp1 := Xp.out.z1
  have tXp := Xp.out.lt
  have pXq0 := Xq.out.z0
  have pXq1 := Xq.out.z1
  have tXq := Xq.out.lt
  have pXx0 := Xx.out.z0
  have pXx1 := Xx.out.z1
  have tXx := Xx.out.lt
  have pXu0 := Xu.out.z0
  have pXu1 := Xu.out.z1
  have tXu := Xu.out.lt
  have pXy0 := Xy.out.z0
  have pXy1 := Xy.out.z1
  have tXy := Xy.out.lt
  have pXz0 := Xz.out.z0
  have pXz1 := Xz.out.z1
  have tXz := Xz.out.lt
  go_wp2_with fail
  refine (back_any s2 bq cq a2 n2 c2 l2 _ _ OWq.out H2.out (by omega)).mono ?_
  rintro e W15 ⟨rfl, hb⟩
  clear pX10 pX11 tX1 pX20 pX21 tX2 pXp0 pXp1 tXp pXq0 pXq1 tXq pXx0 pXx1 tXx pXu0 pXu1 tXu pXy0 pXy1 tXy pXz0 pXz1 tXz
  have H1 : Hid (Sl W15 a1 n1 c1 l1) := H1.out.below hb (Nat.le_refl _)
  have H2 : Hid (Sl W15 a2 n2 c2 l2) := H2.out.below hb (Nat.le_refl _)
  have X1 : Hid (Box W15 (w.heap.size) (.bool s1) (.slice a1 n1 c1)) := X1.out.below hb X1.out.lt
  have X2 : Hid (Box W15 (w.heap.size + 1) (.bool s2) (.slice a2 n2 c2)) := X2.out.below hb X2.out.lt
  have OWp : Hid (Own W15 W3.heap.size (some ⟨bp, 0, none⟩) (n1 + 1) cp (l1 ++ [77])) := OWp.out.below hb (Nat.le_refl _)
  have Hp : Hid (Sl W15 (some ⟨bp, 0, none⟩) n1 cp l1) := Hp.out.below hb (Nat.le_refl _)
  have Xp : Hid (Box W15 (W4.heap.size) (.bool s1) (.slice (some ⟨bp, 0, none⟩) n1 cp)) := Xp.out.below hb Xp.out.lt
  have OWq : Hid (Own W15 W5.heap.size (some ⟨bq, 0, none⟩) (n2 + 1) cq (l2 ++ [77])) := OWq.out.below hb (Nat.le_refl _)
  have Hq : Hid (Sl W15 (some ⟨bq, 0, none⟩) n2 cq l2) := Hq.out.below hb (Nat.le_refl _)
  have Xq : Hid (Box W15 (W6.heap.size) (.bool s2) (.slice (some ⟨bq, 0, none⟩) n2 cq)) := Xq.out.below hb Xq.out.lt
  have Ix : Hid (IntR W15 W7.heap.size (.agg #[.bool sga, .slice ax nx cx]) sga (quoQ (vl 4294967296 l1) (vl 4294967296 l2))) := Ix.out.below hb (Nat.le_refl _)
  have Iu : Hid (IntR W15 W7.heap.size (.agg #[.bool sgb, .slice au nu cu]) sgb (quoR (vl 4294967296 l1) (vl 4294967296 l2))) := Iu.out.below hb (Nat.le_refl _)
  have Xx : Hid (Box W15 (W8.heap.size) (.bool sga) (.slice ax nx cx)) := Xx.out.below hb Xx.out.lt
  have Xu : Hid (Box W15 (W8.heap.size + 1) (.bool sgb) (.slice au nu cu)) := Xu.out.below hb Xu.out.lt
  have Iy : Hid (IntR W15 W9.heap.size (.agg #[.bool sga, .slice ay ny cy]) sga (quoQ (vl 4294967296 l1) (vl 4294967296 l2))) := Iy.out.below hb (Nat.le_refl _)
  have Iz : Hid (IntR W15 W9.heap.size (.agg #[.bool sgb, .slice az nz cz]) sgb (quoR (vl 4294967296 l1) (vl 4294967296 l2))) := Iz.out.below hb (Nat.le_refl _)
  have Xy : Hid (Box W15 (W10.heap.size) (.bool sga) (.slice ay ny cy)) := Xy.out.below hb Xy.out.lt
  have Xz : Hid (Box W15 (W10.heap.size + 1) (.bool sgb) (.slice az nz cz)) := Xz.out.below hb Xz.out.lt
  have HB : Hid (Below w.heap.size w W15) := HB.out.trans (hb.mono HB.out.size)
  clear hb
  have pX10 := X1.out.z0
  have pX11 := X1.out.z1
  have tX1 := X1.out.lt
  have pX20 := X2.out.z0
  have pX21 := X2.out.z1
  have tX2 := X2.out.lt
  have pXp0 := Xp.out.z0
  have pXp1 := Xp.out.z1
  have tXp := Xp.out.lt
  have pXq0 := Xq.out.z0
  have pXq1 := Xq.out.z1
  have tXq := Xq.out.lt
  have pXx0 := Xx.out.z0
  have pXx1 := Xx.out.z1
  have tXx := Xx.out.lt
  have pXu0 := Xu.out.z0
  have pXu1 := Xu.out.z1
  have tXu := Xu.out.lt
  have pXy0 := Xy.out.z0
  have pXy1 := Xy.out.z1
  have tXy := Xy.out.lt
  have pXz0 := Xz.out.z0
  have pXz1 := Xz.out.z1
  have tXz := Xz.out.lt
  go_wp2_with fail
  refine (awake_any _).mono ?_
  rintro e W16 ⟨rfl, hb⟩
  clear pX10 pX11 tX1 pX20 pX21 tX2 pXp0 pXp1 tXp pXq0 pXq1 tXq pXx0 pXx1 tXx pXu0 pXu1 tXu pXy0 pXy1 tXy pXz0 pXz1 tXz
  have H1 : Hid (Sl W16 a1 n1 c1 l1) := H1.out.below hb (Nat.le_refl _)
  have H2 : Hid (Sl W16 a2 n2 c2 l2) := H2.out.below hb (Nat.le_refl _)
  have X1 : Hid (Box W16 (w.heap.size) (.bool s1) (.slice a1 n1 c1)) := X1.out.below hb X1.out.lt
  have X2 : Hid (Box W16 (w.heap.size + 1) (.bool s2) (.slice a2 n2 c2)) := X2.out.below hb X2.out.lt
  have OWp : Hid (Own W16 W3.heap.size (some ⟨bp, 0, none⟩) (n1 + 1) cp (l1 ++ [77])) := OWp.out.below hb (Nat.le_refl _)
  have Hp : Hid (Sl W16 (some ⟨bp, 0, none⟩) n1 cp l1) := Hp.out.below hb (Nat.le_refl _)
  have Xp : Hid (Box W16 (W4.heap.size) (.bool s1) (.slice (some ⟨bp, 0, none⟩) n1 cp)) := Xp.out.below hb Xp.out.lt
  have OWq : Hid (Own W16 W5.heap.size (some ⟨bq, 0, none⟩) (n2 + 1) cq (l2 ++ [77])) := OWq.out.below hb (Nat.le_refl _)
  have Hq : Hid (Sl W16 (some ⟨bq, 0, none⟩) n2 cq l2) := Hq.out.below hb (Nat.le_refl _)
  have Xq : Hid (Box W16 (W6.heap.size) (.bool s2) (.slice (some ⟨bq, 0, none⟩) n2 cq)) := Xq.out.below hb Xq.out.lt
  have Ix : Hid (IntR W16 W7.heap.size (.agg #[.bool sga, .slice ax nx cx]) sga (quoQ (vl 4294967296 l1) (vl 4294967296 l2))) := Ix.out.below hb (Nat.le_refl _)
  have Iu : Hid (IntR W16 W7.heap.size (.agg #[.bool sgb, .slice au nu cu]) sgb (quoR (vl 4294967296 l1) (vl 4294967296 l2))) := Iu.out.below hb (Nat.le_refl _)
  have Xx : Hid (Box W16 (W8.heap.size) (.bool sga) (.slice ax nx cx)) := Xx.out.below hb Xx.out.lt
  have Xu : Hid (Box W16 (W8.heap.size + 1) (.bool sgb) (.slice au nu cu)) := Xu.out.below hb Xu.out.lt
  have Iy : Hid (IntR W16 W9.heap.size (.agg #[.bool sga, .slice ay ny cy]) sga (quoQ (vl 4294967296 l1) (vl 4294967296 l2))) := Iy.out.below hb (Nat.le_refl _)
  have Iz : Hid (IntR W16 W9.heap.size (.agg #[.bool sgb, .slice az nz cz]) sgb (quoR (vl 4294967296 l1) (vl 4294967296 l2))) := Iz.out.below hb (Nat.le_refl _)
  have Xy : Hid (Box W16 (W10.heap.size) (.bool sga) (.slice ay ny cy)) := Xy.out.below hb Xy.out.lt
  have Xz : Hid (Box W16 (W10.heap.size + 1) (.bool sgb) (.slice az nz cz)) := Xz.out.below hb Xz.out.lt
  have HB : Hid (Below w.heap.size w W16) := HB.out.trans (hb.mono HB.out.size)
  clear hb
  have pX10 := X1.out.z0
  have pX11 := X1.out.z1
  have tX1 := X1.out.lt
  have pX20 := X2.out.z0
  have pX21 := X2.out.z1
  have tX2 := X2.out.lt
  have pXp0 := Xp.out.z0
  have pXp1 := Xp.out.z1
  have tXp := Xp.out.lt
  have pXq0 := Xq.out.z0
  have pXq1 := Xq.out.z1
  have tXq := Xq.out.lt
  have pXx0 := Xx.out.z0
  have pXx1 := Xx.out.z1
  have tXx := Xx.out.lt
  have pXu0 := Xu.out.z0
  have pXu1 := Xu.out.z1
  have tXu := Xu.out.lt
  have pXy0 := Xy.out.z0
  have pXy1 := Xy.out.z1
  have tXy := Xy.out.lt
  have pXz0 := Xz.out.z0
  have pXz1 := Xz.out.z1
  have tXz := Xz.out.lt
  go_wp2_with fail
  go_ret
  exact ⟨rfl, HB.out⟩
theorem divides_any (s1 s2 : Bool) (a1 a2 : Option Addr) (n1 n2 c1 c2 : Nat) (l1 l2 : List Nat) (w : World) (h1 : Sl w a1 n1 c1 l1) (h2 : Sl w a2 n2 c2 l2) (g1 : a1 = none → c1 = 0) (g2 : a2 = none → c2 = 0) :
    Calls Tryd.prog 5 #[.agg #[.bool s1, .slice a1 n1 c1], .agg #[.bool s2, .slice a2 n2 c2]] w fun e w' => e = .returned (.bool true) ∧ Below w.heap.size w w' := by
  by_cases b1 : 40 < n1
  · exact divides_out1 s1 s2 a1 a2 n1 n2 c1 c2 l1 l2 w h1 h2 g1 g2 b1
  by_cases b2 : 40 < n2
  · exact divides_out2 s1 s2 a1 a2 n1 n2 c1 c2 l1 l2 w h1 h2 g1 g2 (by omega)
  exact divides_in s1 s2 a1 a2 n1 n2 c1 c2 l1 l2 w h1 h2 g1 g2 (by omega) (by omega)
end Go.Proofs.YtimjafgaadafdaaDoor
