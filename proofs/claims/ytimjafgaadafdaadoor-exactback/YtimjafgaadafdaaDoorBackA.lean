/-
  ExactBack's law where a number has more than 40 words, and what its walk needs of boxes.
-/
import Derived.Test.YtimjafgaadafdaaDoorRefD
import Derived.Test.YtimjafgaadafdaaDoorBackP
namespace Go.Proofs.YtimjafgaadafdaaDoor
open Go.RowKit
attribute [local go_sem ↓] Go.wp_at_zero Go.wp_at_succ
set_option maxHeartbeats 2000000 in
theorem back_out1 (s1 s2 : Bool) (a1 a2 : Option Addr) (n1 n2 c1 c2 : Nat) (l1 l2 : List Nat) (w : World) (h1 : Sl w a1 n1 c1 l1) (h2 : Sl w a2 n2 c2 l2) (hc : 40 < n1) :
    Calls Tryd.prog 8 #[.agg #[.bool s1, .slice a1 n1 c1], .agg #[.bool s2, .slice a2 n2 c2]] w fun e w' => e = .returned (.bool true) ∧ Below w.heap.size w w' := by
  have H1 : Hid (Sl w a1 n1 c1 l1) := h1
  have H2 : Hid (Sl w a2 n2 c2 l2) := h2
  have q1 := h1.mx
  have r1 := h1.lec
  have q2 := h2.mx
  have r2 := h2.lec
  clear h1 h2
  have HB : Hid (Below w.heap.size w w) := Below.refl _ _
  go_enter Tryd.func8, Tryd.ntmps8
  go_wp2_with fail
  generalize hW : (World.alloc _ _) = W1
  obtain ⟨x1, x2, hb, hz⟩ := boxes2 w (.bool s1) (.slice a1 n1 c1) (.bool s2) (.slice a2 n2 c2) 24 24 0 hW
  have X1 : Hid (Box W1 (w.heap.size) (.bool s1) (.slice a1 n1 c1)) := x1
  have X2 : Hid (Box W1 (w.heap.size + 1) (.bool s2) (.slice a2 n2 c2)) := x2
  clear hW x1 x2 hz
  have H1 : Hid (Sl W1 a1 n1 c1 l1) := H1.out.below hb (Nat.le_refl _)
  have H2 : Hid (Sl W1 a2 n2 c2 l2) := H2.out.below hb (Nat.le_refl _)
  have HB : Hid (Below w.heap.size w W1) := HB.out.trans (hb.mono HB.out.size)
  clear hb
  have p10 := X1.out.z0
  have p11 := X1.out.z1
  have t1 := X1.out.lt
  have p20 := X2.out.z0
  have p21 := X2.out.z1
  have t2 := X2.out.lt
  refine (in_any s1 a1 n1 c1 _ (by omega)).mono ?_
  rintro e W2 ⟨rfl, hb⟩
  rw [decide_eq_false (by omega)]
  clear p10 p11 t1 p20 p21 t2
  have X1 : Hid (Box W2 (w.heap.size) (.bool s1) (.slice a1 n1 c1)) := X1.out.below hb X1.out.lt
  have X2 : Hid (Box W2 (w.heap.size + 1) (.bool s2) (.slice a2 n2 c2)) := X2.out.below hb X2.out.lt
  have H1 : Hid (Sl W2 a1 n1 c1 l1) := H1.out.below hb (Nat.le_refl _)
  have H2 : Hid (Sl W2 a2 n2 c2 l2) := H2.out.below hb (Nat.le_refl _)
  have HB : Hid (Below w.heap.size w W2) := HB.out.trans (hb.mono HB.out.size)
  clear hb
  have p10 := X1.out.z0
  have p11 := X1.out.z1
  have t1 := X1.out.lt
  have p20 := X2.out.z0
  have p21 := X2.out.z1
  have t2 := X2.out.lt
  go_wp2_with fail
  refine (awake_any _).mono ?_
  rintro e W3 ⟨rfl, hb⟩
  clear p10 p11 t1 p20 p21 t2
  have X1 : Hid (Box W3 (w.heap.size) (.bool s1) (.slice a1 n1 c1)) := X1.out.below hb X1.out.lt
  have X2 : Hid (Box W3 (w.heap.size + 1) (.bool s2) (.slice a2 n2 c2)) := X2.out.below hb X2.out.lt
  have H1 : Hid (Sl W3 a1 n1 c1 l1) := H1.out.below hb (Nat.le_refl _)
  have H2 : Hid (Sl W3 a2 n2 c2 l2) := H2.out.below hb (Nat.le_refl _)
  have HB : Hid (Below w.heap.size w W3) := HB.out.trans (hb.mono HB.out.size)
  clear hb
  have p10 := X1.out.z0
  have p11 := X1.out.z1
  have t1 := X1.out.lt
  have p20 := X2.out.z0
  have p21 := X2.out.z1
  have t2 := X2.out.lt
  go_wp2_with fail
  go_ret
  exact ⟨rfl, HB.out⟩
set_option maxHeartbeats 2000000 in
theorem back_out2 (s1 s2 : Bool) (a1 a2 : Option Addr) (n1 n2 c1 c2 : Nat) (l1 l2 : List Nat) (w : World) (h1 : Sl w a1 n1 c1 l1) (h2 : Sl w a2 n2 c2 l2) (hc : n1 ≤ 40 ∧ 40 < n2) :
    Calls Tryd.prog 8 #[.agg #[.bool s1, .slice a1 n1 c1], .agg #[.bool s2, .slice a2 n2 c2]] w fun e w' => e = .returned (.bool true) ∧ Below w.heap.size w w' := by
  have H1 : Hid (Sl w a1 n1 c1 l1) := h1
  have H2 : Hid (Sl w a2 n2 c2 l2) := h2
  have q1 := h1.mx
  have r1 := h1.lec
  have q2 := h2.mx
  have r2 := h2.lec
  clear h1 h2
  have HB : Hid (Below w.heap.size w w) := Below.refl _ _
  go_enter Tryd.func8, Tryd.ntmps8
  go_wp2_with fail
  generalize hW : (World.alloc _ _) = W1
  obtain ⟨x1, x2, hb, hz⟩ := boxes2 w (.bool s1) (.slice a1 n1 c1) (.bool s2) (.slice a2 n2 c2) 24 24 0 hW
  have X1 : Hid (Box W1 (w.heap.size) (.bool s1) (.slice a1 n1 c1)) := x1
  have X2 : Hid (Box W1 (w.heap.size + 1) (.bool s2) (.slice a2 n2 c2)) := x2
  clear hW x1 x2 hz
  have H1 : Hid (Sl W1 a1 n1 c1 l1) := H1.out.below hb (Nat.le_refl _)
  have H2 : Hid (Sl W1 a2 n2 c2 l2) := H2.out.below hb (Nat.le_refl _)
  have HB : Hid (Below w.heap.size w W1) := HB.out.trans (hb.mono HB.out.size)
  clear hb
  have p10 := X1.out.z0
  have p11 := X1.out.z1
  have t1 := X1.out.lt
  have p20 := X2.out.z0
  have p21 := X2.out.z1
  have t2 := X2.out.lt
  refine (in_any s1 a1 n1 c1 _ (by omega)).mono ?_
  rintro e W2 ⟨rfl, hb⟩
  rw [decide_eq_true (by omega)]
  clear p10 p11 t1 p20 p21 t2
  have X1 : Hid (Box W2 (w.heap.size) (.bool s1) (.slice a1 n1 c1)) := X1.out.below hb X1.out.lt
  have X2 : Hid (Box W2 (w.heap.size + 1) (.bool s2) (.slice a2 n2 c2)) := X2.out.below hb X2.out.lt
  have H1 : Hid (Sl W2 a1 n1 c1 l1) := H1.out.below hb (Nat.le_refl _)
  have H2 : Hid (Sl W2 a2 n2 c2 l2) := H2.out.below hb (Nat.le_refl _)
  have HB : Hid (Below w.heap.size w W2) := HB.out.trans (hb.mono HB.out.size)
  clear hb
  have p10 := X1.out.z0
  have p11 := X1.out.z1
  have t1 := X1.out.lt
  have p20 := X2.out.z0
  have p21 := X2.out.z1
  have t2 := X2.out.lt
  go_wp2_with fail
  refine (in_any s2 a2 n2 c2 _ (by omega)).mono ?_
  rintro e W3 ⟨rfl, hb⟩
  rw [decide_eq_false (by omega)]
  clear p10 p11 t1 p20 p21 t2
  have X1 : Hid (Box W3 (w.heap.size) (.bool s1) (.slice a1 n1 c1)) := X1.out.below hb X1.out.lt
  have X2 : Hid (Box W3 (w.heap.size + 1) (.bool s2) (.slice a2 n2 c2)) := X2.out.below hb X2.out.lt
  have H1 : Hid (Sl W3 a1 n1 c1 l1) := H1.out.below hb (Nat.le_refl _)
  have H2 : Hid (Sl W3 a2 n2 c2 l2) := H2.out.below hb (Nat.le_refl _)
  have HB : Hid (Below w.heap.size w W3) := HB.out.trans (hb.mono HB.out.size)
  clear hb
  have p10 := X1.out.z0
  have p11 := X1.out.z1
  have t1 := X1.out.lt
  have p20 := X2.out.z0
  have p21 := X2.out.z1
  have t2 := X2.out.lt
  go_wp2_with fail
  refine (awake_any _).mono ?_
  rintro e W4 ⟨rfl, hb⟩
  clear p10 p11 t1 p20 p21 t2
  have X1 : Hid (Box W4 (w.heap.size) (.bool s1) (.slice a1 n1 c1)) := X1.out.below hb X1.out.lt
  have X2 : Hid (Box W4 (w.heap.size + 1) (.bool s2) (.slice a2 n2 c2)) := X2.out.below hb X2.out.lt
  have H1 : Hid (Sl W4 a1 n1 c1 l1) := H1.out.below hb (Nat.le_refl _)
  have H2 : Hid (Sl W4 a2 n2 c2 l2) := H2.out.below hb (Nat.le_refl _)
  have HB : Hid (Below w.heap.size w W4) := HB.out.trans (hb.mono HB.out.size)
  clear hb
  have p10 := X1.out.z0
  have p11 := X1.out.z1
  have t1 := X1.out.lt
  have p20 := X2.out.z0
  have p21 := X2.out.z1
  have t2 := X2.out.lt
  go_wp2_with fail
  go_ret
  exact ⟨rfl, HB.out⟩
theorem set_alloc {V W : World} {bt : Nat} {u v c0 c1 x y : Value} {t : TypeId} (hW : ((V.setCell ⟨bt, 0, none⟩ u).setCell ⟨bt, 1, none⟩ v).alloc (.cells #[c0, c1] t) = W) (ht : Box V bt x y) :
    Box W bt u v ∧ Box W V.heap.size c0 c1 ∧ (∀ b c d, b ≠ bt → Box V b c d → Box W b c d) ∧ (∀ B W0, Below B W0 V → B ≤ bt → Below B W0 W) ∧ (∀ base z s N, IntR V base z s N → bt < base → IntR W base z s N) := by
  have e1 : ((V.setCell ⟨bt, 0, none⟩ u).setCell ⟨bt, 1, none⟩ v).heap.size = V.heap.size := by simp
  have hlt := ht.lt
  have ha := (Below.refl V.heap.size ((V.setCell ⟨bt, 0, none⟩ u).setCell ⟨bt, 1, none⟩ v)).alloc (by omega) (.cells #[c0, c1] t)
  have hn := Box.new ((V.setCell ⟨bt, 0, none⟩ u).setCell ⟨bt, 1, none⟩ v) c0 c1 t
  rw [e1] at hn
  subst hW
  refine ⟨(set2_new ht).below ha hlt, hn, fun b c d hne hb => ?_, fun B W0 hb hB => ?_, fun base z s N hi hlt2 => ?_⟩
  · have hb2 : Box ((V.setCell ⟨bt, 0, none⟩ u).setCell ⟨bt, 1, none⟩ v) b c d := ⟨by simpa using hb.lt, (set2_other (Ne.symm hne)).trans hb.z0, (set2_other (Ne.symm hne)).trans hb.z1, by simpa using hb.f0, by simpa using hb.f1⟩
    exact hb2.below ha hb.lt
  · exact ((hb.setCell (p := ⟨bt, 0, none⟩) hB u).setCell (p := ⟨bt, 1, none⟩) hB v).alloc (by have := hb.size; omega) _
  · exact ((hi.setCell (a := ⟨bt, 0, none⟩) hlt2 u).setCell (a := ⟨bt, 1, none⟩) hlt2 v).below ha (by omega)
theorem set_only {V W : World} {bt : Nat} {u v x y : Value} (hW : (V.setCell ⟨bt, 0, none⟩ u).setCell ⟨bt, 1, none⟩ v = W) (ht : Box V bt x y) :
    Box W bt u v ∧ (∀ b c d, b ≠ bt → Box V b c d → Box W b c d) ∧ (∀ B W0, Below B W0 V → B ≤ bt → Below B W0 W) ∧ (∀ base z s N, IntR V base z s N → bt < base → IntR W base z s N) ∧ W.heap.size = V.heap.size := by
  subst hW
  refine ⟨set2_new ht, fun b c d hne hb => ?_, fun B W0 hb hB => ?_, fun base z s N hi hlt2 => ?_, by simp⟩
  · exact ⟨by simpa using hb.lt, (set2_other (Ne.symm hne)).trans hb.z0, (set2_other (Ne.symm hne)).trans hb.z1, by simpa using hb.f0, by simpa using hb.f1⟩
  · exact (hb.setCell (p := ⟨bt, 0, none⟩) hB u).setCell (p := ⟨bt, 1, none⟩) hB v
  · exact (hi.setCell (a := ⟨bt, 0, none⟩) hlt2 u).setCell (a := ⟨bt, 1, none⟩) hlt2 v
theorem IntR.sl {w : World} {base : Nat} {s s2 : Bool} {N k cap : Nat} {ao : Option Addr} (h : IntR w base (.agg #[.bool s, .slice ao k cap]) s2 N) : ∃ r, Sl w ao k cap r ∧ vl 4294967296 r = N := by
  obtain ⟨ao2, k2, cap2, r, e, h1, h2, h3, _⟩ := h.ex
  simp only [Value.agg.injEq, Array.mk.injEq, List.cons.injEq, Value.slice.injEq, and_true] at e
  obtain ⟨_, rfl, rfl, rfl⟩ := e
  exact ⟨r, h1, h3⟩
theorem quoQ_lt (N M : Nat) : quoQ N M < 4294967296 ^ 40 := by
  unfold quoQ
  split
  · exact Nat.pow_pos (by omega)
  split
  · exact Nat.pow_pos (by omega)
  rename_i h _
  have : bigN N = false := by cases h1 : bigN N <;> simp_all
  have h2 : N < 4294967296 ^ 16 := by simpa [bigN] using this
  exact lim40 (Nat.lt_of_le_of_lt (Nat.div_le_self _ _) h2)
theorem quoR_lt (N M : Nat) : quoR N M < 4294967296 ^ 40 := by
  unfold quoR
  split
  · exact Nat.pow_pos (by omega)
  split
  · exact Nat.pow_pos (by omega)
  rename_i h _
  have : bigN N = false := by cases h1 : bigN N <;> simp_all
  have h2 : N < 4294967296 ^ 16 := by simpa [bigN] using this
  exact lim40 (Nat.lt_of_le_of_lt (Nat.mod_le _ _) h2)
end Go.Proofs.YtimjafgaadafdaaDoor
