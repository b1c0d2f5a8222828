/-
  ExactOrder's law, walked: any three numbers.
-/
import Derived.Test.YtimjafgaadafdabDoorWalkP
import Derived.Test.YtimjafgaadafdabDoorMath
import Derived.StillTailTactics
namespace Go.Proofs.YtimjafgaadafdabDoor
open Go.RowKit
attribute [local go_sem ↓] Go.wp_at_zero Go.wp_at_succ
theorem boxes1 (w : World) (c0 c1 : Value) (t : TypeId) {W : World} (hW : w.alloc (.cells #[c0, c1] t) = W) : Box W w.heap.size c0 c1 ∧ Below w.heap.size w W ∧ W.heap.size = w.heap.size + 1 := by
  subst hW
  exact ⟨Box.new w c0 c1 t, (Below.refl _ _).alloc (Nat.le_refl _) _, by simp⟩
/-- a still head of a region, shut -/
structure StW (P : Program) (ops : Array Oper) (w : World) (Q : Act → Prop) (l : List Oper) (a : Act) : Prop where
  out : wpStill P ops w Q l a
theorem stW_go {P : Program} {ops : Array Oper} {w : World} {Q : Act → Prop} {a : Act} {o : Oper} {rest : List Oper} (h : ∀ K : Act → Prop, Hid (∀ a, StW P ops w Q rest a → K a) → if Region.wanted o (yielded ops a.tmps) then o.still P a w K else K (a.put o.dst undef)) : StW P ops w Q (o :: rest) a :=
  ⟨wpStill_step fun K hK => h K (fun a ha => hK a ha.out)⟩
theorem stW_skip {P : Program} {ops : Array Oper} {w : World} {Q : Act → Prop} {a : Act} {o : Oper} {rest : List Oper} (hw : Region.wanted o (yielded ops a.tmps) = false) (h : StW P ops w Q rest (a.put o.dst undef)) : StW P ops w Q (o :: rest) a :=
  stW_go fun K hK => by
    rw [if_neg (by rw [hw]; exact Bool.false_ne_true)]
    exact hK _ h
theorem stW_nil {P : Program} {ops : Array Oper} {w : World} {Q : Act → Prop} {a : Act} (h : Q a) : StW P ops w Q [] a := ⟨h⟩
theorem region_stW {P : Program} {id : Nat} {Q : Exit → Act → World → Prop} {a : Act} {w : World} {l : List Oper} (n : Nat) (hm : P.follows .mixedOrders = true) (hB : Region.lexTailB .any l.toArray n = true)
    (h : StW P l.toArray { w with drawn := w.drawn + 1 } (fun a' => wpList P l.toArray Q (l.drop n) a' { w with drawn := w.drawn + 1 }) (l.take n) a) : (Code.region id l.toArray true).wp P Q a w :=
  wp_region_still_tail n hm hB h.out
set_option maxHeartbeats 2000000 in
theorem order_out1 (s1 s2 s3 : Bool) (a1 a2 a3 : Option Addr) (n1 n2 n3 c1 c2 c3 : Nat) (l1 l2 l3 : List Nat) (w : World) (h1 : Sl w a1 n1 c1 l1) (h2 : Sl w a2 n2 c2 l2) (h3 : Sl w a3 n3 c3 l3) (hc : 40 < n1) :
    Calls Tryd.prog 5 #[.agg #[.bool s1, .slice a1 n1 c1], .agg #[.bool s2, .slice a2 n2 c2], .agg #[.bool s3, .slice a3 n3 c3]] w fun e w' => e = .returned (.bool true) ∧ Below w.heap.size w w' := by
  have H1 : Hid (Sl w a1 n1 c1 l1) := h1
  have H2 : Hid (Sl w a2 n2 c2 l2) := h2
  have H3 : Hid (Sl w a3 n3 c3 l3) := h3
  have q1 := h1.mx
  have r1 := h1.lec
  have q2 := h2.mx
  have r2 := h2.lec
  have q3 := h3.mx
  have r3 := h3.lec
  clear h1 h2 h3
  have HB : Hid (Below w.heap.size w w) := Below.refl _ _
  go_enter Tryd.func5, Tryd.ntmps5
  go_wp2_with fail
  generalize hW : (World.alloc _ _) = W1
  obtain ⟨x1, x2, x3, hb, hz⟩ := boxes3 w (.bool s1) (.slice a1 n1 c1) (.bool s2) (.slice a2 n2 c2) (.bool s3) (.slice a3 n3 c3) 24 24 24 0 hW
  have X1 : Hid (Box W1 (w.heap.size) (.bool s1) (.slice a1 n1 c1)) := x1
  have X2 : Hid (Box W1 (w.heap.size + 1) (.bool s2) (.slice a2 n2 c2)) := x2
  have X3 : Hid (Box W1 (w.heap.size + 1 + 1) (.bool s3) (.slice a3 n3 c3)) := x3
  clear hW x1 x2 x3 hz
  have H1 : Hid (Sl W1 a1 n1 c1 l1) := H1.out.below hb (Nat.le_refl _)
  have H2 : Hid (Sl W1 a2 n2 c2 l2) := H2.out.below hb (Nat.le_refl _)
  have H3 : Hid (Sl W1 a3 n3 c3 l3) := H3.out.below hb (Nat.le_refl _)
  have HB : Hid (Below w.heap.size w W1) := HB.out.trans (hb.mono HB.out.size)
  clear hb
  have p10 := X1.out.z0
  have p11 := X1.out.z1
  have t1 := X1.out.lt
  have p20 := X2.out.z0
  have p21 := X2.out.z1
  have t2 := X2.out.lt
  have p30 := X3.out.z0
  have p31 := X3.out.z1
  have t3 := X3.out.lt
  refine (in_any s1 a1 n1 c1 _ (by omega)).mono ?_
  rintro e W2 ⟨rfl, hb⟩
  rw [decide_eq_false (by omega)]
  clear p10 p11 t1 p20 p21 t2 p30 p31 t3
  have X1 : Hid (Box W2 (w.heap.size) (.bool s1) (.slice a1 n1 c1)) := X1.out.below hb X1.out.lt
  have X2 : Hid (Box W2 (w.heap.size + 1) (.bool s2) (.slice a2 n2 c2)) := X2.out.below hb X2.out.lt
  have X3 : Hid (Box W2 (w.heap.size + 1 + 1) (.bool s3) (.slice a3 n3 c3)) := X3.out.below hb X3.out.lt
  have H1 : Hid (Sl W2 a1 n1 c1 l1) := H1.out.below hb (Nat.le_refl _)
  have H2 : Hid (Sl W2 a2 n2 c2 l2) := H2.out.below hb (Nat.le_refl _)
  have H3 : Hid (Sl W2 a3 n3 c3 l3) := H3.out.below hb (Nat.le_refl _)
  have HB : Hid (Below w.heap.size w W2) := HB.out.trans (hb.mono HB.out.size)
  clear hb
  have p10 := X1.out.z0
  have p11 := X1.out.z1
  have t1 := X1.out.lt
  have p20 := X2.out.z0
  have p21 := X2.out.z1
  have t2 := X2.out.lt
  have p30 := X3.out.z0
  have p31 := X3.out.z1
  have t3 := X3.out.lt
  go_wp2_with fail
  refine (awake_any _).mono ?_
  rintro e W3 ⟨rfl, hb⟩
  clear p10 p11 t1 p20 p21 t2 p30 p31 t3
  have X1 : Hid (Box W3 (w.heap.size) (.bool s1) (.slice a1 n1 c1)) := X1.out.below hb X1.out.lt
  have X2 : Hid (Box W3 (w.heap.size + 1) (.bool s2) (.slice a2 n2 c2)) := X2.out.below hb X2.out.lt
  have X3 : Hid (Box W3 (w.heap.size + 1 + 1) (.bool s3) (.slice a3 n3 c3)) := X3.out.below hb X3.out.lt
  have H1 : Hid (Sl W3 a1 n1 c1 l1) := H1.out.below hb (Nat.le_refl _)
  have H2 : Hid (Sl W3 a2 n2 c2 l2) := H2.out.below hb (Nat.le_refl _)
  have H3 : Hid (Sl W3 a3 n3 c3 l3) := H3.out.below hb (Nat.le_refl _)
  have HB : Hid (Below w.heap.size w W3) := HB.out.trans (hb.mono HB.out.size)
  clear hb
  have p10 := X1.out.z0
  have p11 := X1.out.z1
  have t1 := X1.out.lt
  have p20 := X2.out.z0
  have p21 := X2.out.z1
  have t2 := X2.out.lt
  have p30 := X3.out.z0
  have p31 := X3.out.z1
  have t3 := X3.out.lt
  go_wp2_with fail
  go_ret
  exact ⟨rfl, HB.out⟩
set_option maxHeartbeats 2000000 in
theorem order_out2 (s1 s2 s3 : Bool) (a1 a2 a3 : Option Addr) (n1 n2 n3 c1 c2 c3 : Nat) (l1 l2 l3 : List Nat) (w : World) (h1 : Sl w a1 n1 c1 l1) (h2 : Sl w a2 n2 c2 l2) (h3 : Sl w a3 n3 c3 l3) (hc : n1 ≤ 40 ∧ 40 < n2) :
    Calls Tryd.prog 5 #[.agg #[.bool s1, .slice a1 n1 c1], .agg #[.bool s2, .slice a2 n2 c2], .agg #[.bool s3, .slice a3 n3 c3]] w fun e w' => e = .returned (.bool true) ∧ Below w.heap.size w w' := by
  have H1 : Hid (Sl w a1 n1 c1 l1) := h1
  have H2 : Hid (Sl w a2 n2 c2 l2) := h2
  have H3 : Hid (Sl w a3 n3 c3 l3) := h3
  have q1 := h1.mx
  have r1 := h1.lec
  have q2 := h2.mx
  have r2 := h2.lec
  have q3 := h3.mx
  have r3 := h3.lec
  clear h1 h2 h3
  have HB : Hid (Below w.heap.size w w) := Below.refl _ _
  go_enter Tryd.func5, Tryd.ntmps5
  go_wp2_with fail
  generalize hW : (World.alloc _ _) = W1
  obtain ⟨x1, x2, x3, hb, hz⟩ := boxes3 w (.bool s1) (.slice a1 n1 c1) (.bool s2) (.slice a2 n2 c2) (.bool s3) (.slice a3 n3 c3) 24 24 24 0 hW
  have X1 : Hid (Box W1 (w.heap.size) (.bool s1) (.slice a1 n1 c1)) := x1
  have X2 : Hid (Box W1 (w.heap.size + 1) (.bool s2) (.slice a2 n2 c2)) := x2
  have X3 : Hid (Box W1 (w.heap.size + 1 + 1) (.bool s3) (.slice a3 n3 c3)) := x3
  clear hW x1 x2 x3 hz
  have H1 : Hid (Sl W1 a1 n1 c1 l1) := H1.out.below hb (Nat.le_refl _)
  have H2 : Hid (Sl W1 a2 n2 c2 l2) := H2.out.below hb (Nat.le_refl _)
  have H3 : Hid (Sl W1 a3 n3 c3 l3) := H3.out.below hb (Nat.le_refl _)
  have HB : Hid (Below w.heap.size w W1) := HB.out.trans (hb.mono HB.out.size)
  clear hb
  have p10 := X1.out.z0
  have p11 := X1.out.z1
  have t1 := X1.out.lt
  have p20 := X2.out.z0
  have p21 := X2.out.z1
  have t2 := X2.out.lt
  have p30 := X3.out.z0
  have p31 := X3.out.z1
  have t3 := X3.out.lt
  refine (in_any s1 a1 n1 c1 _ (by omega)).mono ?_
  rintro e W2 ⟨rfl, hb⟩
  rw [decide_eq_true (by omega)]
  clear p10 p11 t1 p20 p21 t2 p30 p31 t3
  have X1 : Hid (Box W2 (w.heap.size) (.bool s1) (.slice a1 n1 c1)) := X1.out.below hb X1.out.lt
  have X2 : Hid (Box W2 (w.heap.size + 1) (.bool s2) (.slice a2 n2 c2)) := X2.out.below hb X2.out.lt
  have X3 : Hid (Box W2 (w.heap.size + 1 + 1) (.bool s3) (.slice a3 n3 c3)) := X3.out.below hb X3.out.lt
  have H1 : Hid (Sl W2 a1 n1 c1 l1) := H1.out.below hb (Nat.le_refl _)
  have H2 : Hid (Sl W2 a2 n2 c2 l2) := H2.out.below hb (Nat.le_refl _)
  have H3 : Hid (Sl W2 a3 n3 c3 l3) := H3.out.below hb (Nat.le_refl _)
  have HB : Hid (Below w.heap.size w W2) := HB.out.trans (hb.mono HB.out.size)
  clear hb
  have p10 := X1.out.z0
  have p11 := X1.out.z1
  have t1 := X1.out.lt
  have p20 := X2.out.z0
  have p21 := X2.out.z1
  have t2 := X2.out.lt
  have p30 := X3.out.z0
  have p31 := X3.out.z1
  have t3 := X3.out.lt
  go_wp2_with fail
  refine (in_any s2 a2 n2 c2 _ (by omega)).mono ?_
  rintro e W3 ⟨rfl, hb⟩
  rw [decide_eq_false (by omega)]
  clear p10 p11 t1 p20 p21 t2 p30 p31 t3
  have X1 : Hid (Box W3 (w.heap.size) (.bool s1) (.slice a1 n1 c1)) := X1.out.below hb X1.out.lt
  have X2 : Hid (Box W3 (w.heap.size + 1) (.bool s2) (.slice a2 n2 c2)) := X2.out.below hb X2.out.lt
  have X3 : Hid (Box W3 (w.heap.size + 1 + 1) (.bool s3) (.slice a3 n3 c3)) := X3.out.below hb X3.out.lt
  have H1 : Hid (Sl W3 a1 n1 c1 l1) := H1.out.below hb (Nat.le_refl _)
  have H2 : Hid (Sl W3 a2 n2 c2 l2) := H2.out.below hb (Nat.le_refl _)
  have H3 : Hid (Sl W3 a3 n3 c3 l3) := H3.out.below hb (Nat.le_refl _)
  have HB : Hid (Below w.heap.size w W3) := HB.out.trans (hb.mono HB.out.size)
  clear hb
  have p10 := X1.out.z0
  have p11 := X1.out.z1
  have t1 := X1.out.lt
  have p20 := X2.out.z0
  have p21 := X2.out.z1
  have t2 := X2.out.lt
  have p30 := X3.out.z0
  have p31 := X3.out.z1
  have t3 := X3.out.lt
  go_wp2_with fail
  refine (awake_any _).mono ?_
  rintro e W4 ⟨rfl, hb⟩
  clear p10 p11 t1 p20 p21 t2 p30 p31 t3
  have X1 : Hid (Box W4 (w.heap.size) (.bool s1) (.slice a1 n1 c1)) := X1.out.below hb X1.out.lt
  have X2 : Hid (Box W4 (w.heap.size + 1) (.bool s2) (.slice a2 n2 c2)) := X2.out.below hb X2.out.lt
  have X3 : Hid (Box W4 (w.heap.size + 1 + 1) (.bool s3) (.slice a3 n3 c3)) := X3.out.below hb X3.out.lt
  have H1 : Hid (Sl W4 a1 n1 c1 l1) := H1.out.below hb (Nat.le_refl _)
  have H2 : Hid (Sl W4 a2 n2 c2 l2) := H2.out.below hb (Nat.le_refl _)
  have H3 : Hid (Sl W4 a3 n3 c3 l3) := H3.out.below hb (Nat.le_refl _)
  have HB : Hid (Below w.heap.size w W4) := HB.out.trans (hb.mono HB.out.size)
  clear hb
  have p10 := X1.out.z0
  have p11 := X1.out.z1
  have t1 := X1.out.lt
  have p20 := X2.out.z0
  have p21 := X2.out.z1
  have t2 := X2.out.lt
  have p30 := X3.out.z0
  have p31 := X3.out.z1
  have t3 := X3.out.lt
  go_wp2_with fail
  go_ret
  exact ⟨rfl, HB.out⟩
set_option maxHeartbeats 2000000 in
theorem order_out3 (s1 s2 s3 : Bool) (a1 a2 a3 : Option Addr) (n1 n2 n3 c1 c2 c3 : Nat) (l1 l2 l3 : List Nat) (w : World) (h1 : Sl w a1 n1 c1 l1) (h2 : Sl w a2 n2 c2 l2) (h3 : Sl w a3 n3 c3 l3) (hc : n1 ≤ 40 ∧ n2 ≤ 40 ∧ 40 < n3) :
    Calls Tryd.prog 5 #[.agg #[.bool s1, .slice a1 n1 c1], .agg #[.bool s2, .slice a2 n2 c2], .agg #[.bool s3, .slice a3 n3 c3]] w fun e w' => e = .returned (.bool true) ∧ Below w.heap.size w w' := by
  have H1 : Hid (Sl w a1 n1 c1 l1) := h1
  have H2 : Hid (Sl w a2 n2 c2 l2) := h2
  have H3 : Hid (Sl w a3 n3 c3 l3) := h3
  have q1 := h1.mx
  have r1 := h1.lec
  have q2 := h2.mx
  have r2 := h2.lec
  have q3 := h3.mx
  have r3 := h3.lec
  clear h1 h2 h3
  have HB : Hid (Below w.heap.size w w) := Below.refl _ _
  go_enter Tryd.func5, Tryd.ntmps5
  go_wp2_with fail
  generalize hW : (World.alloc _ _) = W1
  obtain ⟨x1, x2, x3, hb, hz⟩ := boxes3 w (.bool s1) (.slice a1 n1 c1) (.bool s2) (.slice a2 n2 c2) (.bool s3) (.slice a3 n3 c3) 24 24 24 0 hW
  have X1 : Hid (Box W1 (w.heap.size) (.bool s1) (.slice a1 n1 c1)) := x1
  have X2 : Hid (Box W1 (w.heap.size + 1) (.bool s2) (.slice a2 n2 c2)) := x2
  have X3 : Hid (Box W1 (w.heap.size + 1 + 1) (.bool s3) (.slice a3 n3 c3)) := x3
  clear hW x1 x2 x3 hz
  have H1 : Hid (Sl W1 a1 n1 c1 l1) := H1.out.below hb (Nat.le_refl _)
  have H2 : Hid (Sl W1 a2 n2 c2 l2) := H2.out.below hb (Nat.le_refl _)
  have H3 : Hid (Sl W1 a3 n3 c3 l3) := H3.out.below hb (Nat.le_refl _)
  have HB : Hid (Below w.heap.size w W1) := HB.out.trans (hb.mono HB.out.size)
  clear hb
  have p10 := X1.out.z0
  have p11 := X1.out.z1
  have t1 := X1.out.lt
  have p20 := X2.out.z0
  have p21 := X2.out.z1
  have t2 := X2.out.lt
  have p30 := X3.out.z0
  have p31 := X3.out.z1
  have t3 := X3.out.lt
  refine (in_any s1 a1 n1 c1 _ (by omega)).mono ?_
  rintro e W2 ⟨rfl, hb⟩
  rw [decide_eq_true (by omega)]
  clear p10 p11 t1 p20 p21 t2 p30 p31 t3
  have X1 : Hid (Box W2 (w.heap.size) (.bool s1) (.slice a1 n1 c1)) := X1.out.below hb X1.out.lt
  have X2 : Hid (Box W2 (w.heap.size + 1) (.bool s2) (.slice a2 n2 c2)) := X2.out.below hb X2.out.lt
  have X3 : Hid (Box W2 (w.heap.size + 1 + 1) (.bool s3) (.slice a3 n3 c3)) := X3.out.below hb X3.out.lt
  have H1 : Hid (Sl W2 a1 n1 c1 l1) := H1.out.below hb (Nat.le_refl _)
  have H2 : Hid (Sl W2 a2 n2 c2 l2) := H2.out.below hb (Nat.le_refl _)
  have H3 : Hid (Sl W2 a3 n3 c3 l3) := H3.out.below hb (Nat.le_refl _)
  have HB : Hid (Below w.heap.size w W2) := HB.out.trans (hb.mono HB.out.size)
  clear hb
  have p10 := X1.out.z0
  have p11 := X1.out.z1
  have t1 := X1.out.lt
  have p20 := X2.out.z0
  have p21 := X2.out.z1
  have t2 := X2.out.lt
  have p30 := X3.out.z0
  have p31 := X3.out.z1
  have t3 := X3.out.lt
  go_wp2_with fail
  refine (in_any s2 a2 n2 c2 _ (by omega)).mono ?_
  rintro e W3 ⟨rfl, hb⟩
  rw [decide_eq_true (by omega)]
  clear p10 p11 t1 p20 p21 t2 p30 p31 t3
  have X1 : Hid (Box W3 (w.heap.size) (.bool s1) (.slice a1 n1 c1)) := X1.out.below hb X1.out.lt
  have X2 : Hid (Box W3 (w.heap.size + 1) (.bool s2) (.slice a2 n2 c2)) := X2.out.below hb X2.out.lt
  have X3 : Hid (Box W3 (w.heap.size + 1 + 1) (.bool s3) (.slice a3 n3 c3)) := X3.out.below hb X3.out.lt
  have H1 : Hid (Sl W3 a1 n1 c1 l1) := H1.out.below hb (Nat.le_refl _)
  have H2 : Hid (Sl W3 a2 n2 c2 l2) := H2.out.below hb (Nat.le_refl _)
  have H3 : Hid (Sl W3 a3 n3 c3 l3) := H3.out.below hb (Nat.le_refl _)
  have HB : Hid (Below w.heap.size w W3) := HB.out.trans (hb.mono HB.out.size)
  clear hb
  have p10 := X1.out.z0
  have p11 := X1.out.z1
  have t1 := X1.out.lt
  have p20 := X2.out.z0
  have p21 := X2.out.z1
  have t2 := X2.out.lt
  have p30 := X3.out.z0
  have p31 := X3.out.z1
  have t3 := X3.out.lt
  go_wp2_with fail
  refine (in_any s3 a3 n3 c3 _ (by omega)).mono ?_
  rintro e W4 ⟨rfl, hb⟩
  rw [decide_eq_false (by omega)]
  clear p10 p11 t1 p20 p21 t2 p30 p31 t3
  have X1 : Hid (Box W4 (w.heap.size) (.bool s1) (.slice a1 n1 c1)) := X1.out.below hb X1.out.lt
  have X2 : Hid (Box W4 (w.heap.size + 1) (.bool s2) (.slice a2 n2 c2)) := X2.out.below hb X2.out.lt
  have X3 : Hid (Box W4 (w.heap.size + 1 + 1) (.bool s3) (.slice a3 n3 c3)) := X3.out.below hb X3.out.lt
  have H1 : Hid (Sl W4 a1 n1 c1 l1) := H1.out.below hb (Nat.le_refl _)
  have H2 : Hid (Sl W4 a2 n2 c2 l2) := H2.out.below hb (Nat.le_refl _)
  have H3 : Hid (Sl W4 a3 n3 c3 l3) := H3.out.below hb (Nat.le_refl _)
  have HB : Hid (Below w.heap.size w W4) := HB.out.trans (hb.mono HB.out.size)
  clear hb
  have p10 := X1.out.z0
  have p11 := X1.out.z1
  have t1 := X1.out.lt
  have p20 := X2.out.z0
  have p21 := X2.out.z1
  have t2 := X2.out.lt
  have p30 := X3.out.z0
  have p31 := X3.out.z1
  have t3 := X3.out.lt
  go_wp2_with fail
  refine (awake_any _).mono ?_
  rintro e W5 ⟨rfl, hb⟩
  clear p10 p11 t1 p20 p21 t2 p30 p31 t3
  have X1 : Hid (Box W5 (w.heap.size) (.bool s1) (.slice a1 n1 c1)) := X1.out.below hb X1.out.lt
  have X2 : Hid (Box W5 (w.heap.size + 1) (.bool s2) (.slice a2 n2 c2)) := X2.out.below hb X2.out.lt
  have X3 : Hid (Box W5 (w.heap.size + 1 + 1) (.bool s3) (.slice a3 n3 c3)) := X3.out.below hb X3.out.lt
  have H1 : Hid (Sl W5 a1 n1 c1 l1) := H1.out.below hb (Nat.le_refl _)
  have H2 : Hid (Sl W5 a2 n2 c2 l2) := H2.out.below hb (Nat.le_refl _)
  have H3 : Hid (Sl W5 a3 n3 c3 l3) := H3.out.below hb (Nat.le_refl _)
  have HB : Hid (Below w.heap.size w W5) := HB.out.trans (hb.mono HB.out.size)
  clear hb
  have p10 := X1.out.z0
  have p11 := X1.out.z1
  have t1 := X1.out.lt
  have p20 := X2.out.z0
  have p21 := X2.out.z1
  have t2 := X2.out.lt
  have p30 := X3.out.z0
  have p31 := X3.out.z1
  have t3 := X3.out.lt
  go_wp2_with fail
  go_ret
  exact ⟨rfl, HB.out⟩
theorem cmpI_add (a b c : Int) : cmpI (a + c) (b + c) = cmpI a b := by
  unfold cmpI
  (repeat' split) <;> omega
theorem cmpI_trans {a b c : Int} (h1 : cmpI a b ≤ 0) (h2 : cmpI b c ≤ 0) : cmpI a c ≤ 0 := by
  unfold cmpI at *
  (repeat' split at h1) <;> (repeat' split at h2) <;> (repeat' split) <;> omega
set_option maxHeartbeats 4000000 in
theorem order_in (s1 s2 s3 : Bool) (a1 a2 a3 : Option Addr) (n1 n2 n3 c1 c2 c3 : Nat) (l1 l2 l3 : List Nat) (w : World) (h1 : Sl w a1 n1 c1 l1) (h2 : Sl w a2 n2 c2 l2) (h3 : Sl w a3 n3 c3 l3) (m1 : n1 ≤ 40) (m2 : n2 ≤ 40) (m3 : n3 ≤ 40) :
    Calls Tryd.prog 5 #[.agg #[.bool s1, .slice a1 n1 c1], .agg #[.bool s2, .slice a2 n2 c2], .agg #[.bool s3, .slice a3 n3 c3]] w fun e w' => e = .returned (.bool true) ∧ Below w.heap.size w w' := by
  have H1 : Hid (Sl w a1 n1 c1 l1) := h1
  have H2 : Hid (Sl w a2 n2 c2 l2) := h2
  have H3 : Hid (Sl w a3 n3 c3 l3) := h3
  have q1 := h1.mx
  have r1 := h1.lec
  have q2 := h2.mx
  have r2 := h2.lec
  have q3 := h3.mx
  have r3 := h3.lec
  clear h1 h2 h3
  have HB : Hid (Below w.heap.size w w) := Below.refl _ _
  go_enter Tryd.func5, Tryd.ntmps5
  go_wp2_with fail
  generalize hW : (World.alloc _ _) = W1
  obtain ⟨x1, x2, x3, hb, hz⟩ := boxes3 w (.bool s1) (.slice a1 n1 c1) (.bool s2) (.slice a2 n2 c2) (.bool s3) (.slice a3 n3 c3) 24 24 24 0 hW
  have X1 : Hid (Box W1 (w.heap.size) (.bool s1) (.slice a1 n1 c1)) := x1
  have X2 : Hid (Box W1 (w.heap.size + 1) (.bool s2) (.slice a2 n2 c2)) := x2
  have X3 : Hid (Box W1 (w.heap.size + 1 + 1) (.bool s3) (.slice a3 n3 c3)) := x3
  clear hW x1 x2 x3 hz
  have H1 : Hid (Sl W1 a1 n1 c1 l1) := H1.out.below hb (Nat.le_refl _)
  have H2 : Hid (Sl W1 a2 n2 c2 l2) := H2.out.below hb (Nat.le_refl _)
  have H3 : Hid (Sl W1 a3 n3 c3 l3) := H3.out.below hb (Nat.le_refl _)
  have HB : Hid (Below w.heap.size w W1) := HB.out.trans (hb.mono HB.out.size)
  clear hb
  have p10 := X1.out.z0
  have p11 := X1.out.z1
  have t1 := X1.out.lt
  have p20 := X2.out.z0
  have p21 := X2.out.z1
  have t2 := X2.out.lt
  have p30 := X3.out.z0
  have p31 := X3.out.z1
  have t3 := X3.out.lt
  refine (in_any s1 a1 n1 c1 _ (by omega)).mono ?_
  rintro e W2 ⟨rfl, hb⟩
  rw [decide_eq_true (by omega)]
  clear p10 p11 t1 p20 p21 t2 p30 p31 t3
  have X1 : Hid (Box W2 (w.heap.size) (.bool s1) (.slice a1 n1 c1)) := X1.out.below hb X1.out.lt
  have X2 : Hid (Box W2 (w.heap.size + 1) (.bool s2) (.slice a2 n2 c2)) := X2.out.below hb X2.out.lt
  have X3 : Hid (Box W2 (w.heap.size + 1 + 1) (.bool s3) (.slice a3 n3 c3)) := X3.out.below hb X3.out.lt
  have H1 : Hid (Sl W2 a1 n1 c1 l1) := H1.out.below hb (Nat.le_refl _)
  have H2 : Hid (Sl W2 a2 n2 c2 l2) := H2.out.below hb (Nat.le_refl _)
  have H3 : Hid (Sl W2 a3 n3 c3 l3) := H3.out.below hb (Nat.le_refl _)
  have HB : Hid (Below w.heap.size w W2) := HB.out.trans (hb.mono HB.out.size)
  clear hb
  have p10 := X1.out.z0
  have p11 := X1.out.z1
  have t1 := X1.out.lt
  have p20 := X2.out.z0
  have p21 := X2.out.z1
  have t2 := X2.out.lt
  have p30 := X3.out.z0
  have p31 := X3.out.z1
  have t3 := X3.out.lt
  go_wp2_with fail
  refine (in_any s2 a2 n2 c2 _ (by omega)).mono ?_
  rintro e W3 ⟨rfl, hb⟩
  rw [decide_eq_true (by omega)]
  clear p10 p11 t1 p20 p21 t2 p30 p31 t3
  have X1 : Hid (Box W3 (w.heap.size) (.bool s1) (.slice a1 n1 c1)) := X1.out.below hb X1.out.lt
  have X2 : Hid (Box W3 (w.heap.size + 1) (.bool s2) (.slice a2 n2 c2)) := X2.out.below hb X2.out.lt
  have X3 : Hid (Box W3 (w.heap.size + 1 + 1) (.bool s3) (.slice a3 n3 c3)) := X3.out.below hb X3.out.lt
  have H1 : Hid (Sl W3 a1 n1 c1 l1) := H1.out.below hb (Nat.le_refl _)
  have H2 : Hid (Sl W3 a2 n2 c2 l2) := H2.out.below hb (Nat.le_refl _)
  have H3 : Hid (Sl W3 a3 n3 c3 l3) := H3.out.below hb (Nat.le_refl _)
  have HB : Hid (Below w.heap.size w W3) := HB.out.trans (hb.mono HB.out.size)
  clear hb
  have p10 := X1.out.z0
  have p11 := X1.out.z1
  have t1 := X1.out.lt
  have p20 := X2.out.z0
  have p21 := X2.out.z1
  have t2 := X2.out.lt
  have p30 := X3.out.z0
  have p31 := X3.out.z1
  have t3 := X3.out.lt
  go_wp2_with fail
  refine (in_any s3 a3 n3 c3 _ (by omega)).mono ?_
  rintro e W4 ⟨rfl, hb⟩
  rw [decide_eq_true (by omega)]
  clear p10 p11 t1 p20 p21 t2 p30 p31 t3
  have X1 : Hid (Box W4 (w.heap.size) (.bool s1) (.slice a1 n1 c1)) := X1.out.below hb X1.out.lt
  have X2 : Hid (Box W4 (w.heap.size + 1) (.bool s2) (.slice a2 n2 c2)) := X2.out.below hb X2.out.lt
  have X3 : Hid (Box W4 (w.heap.size + 1 + 1) (.bool s3) (.slice a3 n3 c3)) := X3.out.below hb X3.out.lt
  have H1 : Hid (Sl W4 a1 n1 c1 l1) := H1.out.below hb (Nat.le_refl _)
  have H2 : Hid (Sl W4 a2 n2 c2 l2) := H2.out.below hb (Nat.le_refl _)
  have H3 : Hid (Sl W4 a3 n3 c3 l3) := H3.out.below hb (Nat.le_refl _)
  have HB : Hid (Below w.heap.size w W4) := HB.out.trans (hb.mono HB.out.size)
  clear hb
  have p10 := X1.out.z0
  have p11 := X1.out.z1
  have t1 := X1.out.lt
  have p20 := X2.out.z0
  have p21 := X2.out.z1
  have t2 := X2.out.lt
  have p30 := X3.out.z0
  have p31 := X3.out.z1
  have t3 := X3.out.lt
  go_wp2_with fail
  refine (compare_any s1 s2 a1 n1 c1 l1 a2 n2 c2 l2 _ H1.out H2.out (by omega) (by omega)).mono ?_
  rintro e W5 ⟨rfl, hb⟩
  rw [cmpV_eq]
  generalize hcc : cmpI (zi s1 (vl 4294967296 l1)) (zi s2 (vl 4294967296 l2)) = c12
  have Cc12 : Hid (cmpI (zi s1 (vl 4294967296 l1)) (zi s2 (vl 4294967296 l2)) = c12) := hcc
  clear hcc
  clear p10 p11 t1 p20 p21 t2 p30 p31 t3
  have X1 : Hid (Box W5 (w.heap.size) (.bool s1) (.slice a1 n1 c1)) := X1.out.below hb X1.out.lt
  have X2 : Hid (Box W5 (w.heap.size + 1) (.bool s2) (.slice a2 n2 c2)) := X2.out.below hb X2.out.lt
  have X3 : Hid (Box W5 (w.heap.size + 1 + 1) (.bool s3) (.slice a3 n3 c3)) := X3.out.below hb X3.out.lt
  have H1 : Hid (Sl W5 a1 n1 c1 l1) := H1.out.below hb (Nat.le_refl _)
  have H2 : Hid (Sl W5 a2 n2 c2 l2) := H2.out.below hb (Nat.le_refl _)
  have H3 : Hid (Sl W5 a3 n3 c3 l3) := H3.out.below hb (Nat.le_refl _)
  have HB : Hid (Below w.heap.size w W5) := HB.out.trans (hb.mono HB.out.size)
  clear hb
  have p10 := X1.out.z0
  have p11 := X1.out.z1
  have t1 := X1.out.lt
  have p20 := X2.out.z0
  have p21 := X2.out.z1
  have t2 := X2.out.lt
  have p30 := X3.out.z0
  have p31 := X3.out.z1
  have t3 := X3.out.lt
  by_cases d12 : c12 ≤ 0
  · go_wp2_with fail
    refine (compare_any s2 s3 a2 n2 c2 l2 a3 n3 c3 l3 _ H2.out H3.out (by omega) (by omega)).mono ?_
    rintro e W6 ⟨rfl, hb⟩
    rw [cmpV_eq]
    generalize hcc : cmpI (zi s2 (vl 4294967296 l2)) (zi s3 (vl 4294967296 l3)) = c23
    have Cc23 : Hid (cmpI (zi s2 (vl 4294967296 l2)) (zi s3 (vl 4294967296 l3)) = c23) := hcc
    clear hcc
    clear p10 p11 t1 p20 p21 t2 p30 p31 t3
    have X1 : Hid (Box W6 (w.heap.size) (.bool s1) (.slice a1 n1 c1)) := X1.out.below hb X1.out.lt
    have X2 : Hid (Box W6 (w.heap.size + 1) (.bool s2) (.slice a2 n2 c2)) := X2.out.below hb X2.out.lt
    have X3 : Hid (Box W6 (w.heap.size + 1 + 1) (.bool s3) (.slice a3 n3 c3)) := X3.out.below hb X3.out.lt
    have H1 : Hid (Sl W6 a1 n1 c1 l1) := H1.out.below hb (Nat.le_refl _)
    have H2 : Hid (Sl W6 a2 n2 c2 l2) := H2.out.below hb (Nat.le_refl _)
    have H3 : Hid (Sl W6 a3 n3 c3 l3) := H3.out.below hb (Nat.le_refl _)
    have HB : Hid (Below w.heap.size w W6) := HB.out.trans (hb.mono HB.out.size)
    clear hb
    have p10 := X1.out.z0
    have p11 := X1.out.z1
    have t1 := X1.out.lt
    have p20 := X2.out.z0
    have p21 := X2.out.z1
    have t2 := X2.out.lt
    have p30 := X3.out.z0
    have p31 := X3.out.z1
    have t3 := X3.out.lt
    by_cases d23 : c23 ≤ 0
    · go_wp2_with fail
      refine (compare_any s1 s3 a1 n1 c1 l1 a3 n3 c3 l3 _ H1.out H3.out (by omega) (by omega)).mono ?_
      rintro e W7 ⟨rfl, hb⟩
      rw [cmpV_eq]
      generalize hcc : cmpI (zi s1 (vl 4294967296 l1)) (zi s3 (vl 4294967296 l3)) = c13
      have Cc13 : Hid (cmpI (zi s1 (vl 4294967296 l1)) (zi s3 (vl 4294967296 l3)) = c13) := hcc
      clear hcc
      clear p10 p11 t1 p20 p21 t2 p30 p31 t3
      have X1 : Hid (Box W7 (w.heap.size) (.bool s1) (.slice a1 n1 c1)) := X1.out.below hb X1.out.lt
      have X2 : Hid (Box W7 (w.heap.size + 1) (.bool s2) (.slice a2 n2 c2)) := X2.out.below hb X2.out.lt
      have X3 : Hid (Box W7 (w.heap.size + 1 + 1) (.bool s3) (.slice a3 n3 c3)) := X3.out.below hb X3.out.lt
      have H1 : Hid (Sl W7 a1 n1 c1 l1) := H1.out.below hb (Nat.le_refl _)
      have H2 : Hid (Sl W7 a2 n2 c2 l2) := H2.out.below hb (Nat.le_refl _)
      have H3 : Hid (Sl W7 a3 n3 c3 l3) := H3.out.below hb (Nat.le_refl _)
      have HB : Hid (Below w.heap.size w W7) := HB.out.trans (hb.mono HB.out.size)
      clear hb
      have p10 := X1.out.z0
      have p11 := X1.out.z1
      have t1 := X1.out.lt
      have p20 := X2.out.z0
      have p21 := X2.out.z1
      have t2 := X2.out.lt
      have p30 := X3.out.z0
      have p31 := X3.out.z1
      have t3 := X3.out.lt
      have d13 : c13 ≤ 0 := by rw [← Cc13.out]; exact cmpI_trans (by rw [Cc12.out]; exact d12) (by rw [Cc23.out]; exact d23)
      go_wp2_with fail
      refine (add_any s1 s3 a1 n1 c1 l1 a3 n3 c3 l3 _ H1.out H3.out (by omega) (by omega)).mono ?_
      rintro e W8 ⟨⟨v, rfl, hx⟩, hb⟩
      clear p10 p11 t1 p20 p21 t2 p30 p31 t3
      have X1 : Hid (Box W8 (w.heap.size) (.bool s1) (.slice a1 n1 c1)) := X1.out.below hb X1.out.lt
      have X2 : Hid (Box W8 (w.heap.size + 1) (.bool s2) (.slice a2 n2 c2)) := X2.out.below hb X2.out.lt
      have X3 : Hid (Box W8 (w.heap.size + 1 + 1) (.bool s3) (.slice a3 n3 c3)) := X3.out.below hb X3.out.lt
      have H1 : Hid (Sl W8 a1 n1 c1 l1) := H1.out.below hb (Nat.le_refl _)
      have H2 : Hid (Sl W8 a2 n2 c2 l2) := H2.out.below hb (Nat.le_refl _)
      have H3 : Hid (Sl W8 a3 n3 c3 l3) := H3.out.below hb (Nat.le_refl _)
      have HB : Hid (Below w.heap.size w W8) := HB.out.trans (hb.mono HB.out.size)
      clear hb
      have p10 := X1.out.z0
      have p11 := X1.out.z1
      have t1 := X1.out.lt
      have p20 := X2.out.z0
      have p21 := X2.out.z1
      have t2 := X2.out.lt
      have p30 := X3.out.z0
      have p31 := X3.out.z1
      have t3 := X3.out.lt
      obtain ⟨ax, nx, cx, lx, rfl, hs, hv, mx⟩ := hx.open (addV_lt _ _ _ _)
      have Hx : Hid (Sl W8 ax nx cx lx) := hs
      have Ex : Hid (vl 4294967296 lx = addV s1 (vl 4294967296 l1) s3 (vl 4294967296 l3)) := hv
      clear hs hv hx
      generalize hsx : addS s1 (vl 4294967296 l1) s3 (vl 4294967296 l3) = sx at *
      have Fx : Hid (addS s1 (vl 4294967296 l1) s3 (vl 4294967296 l3) = sx) := hsx
      clear hsx
      generalize hex : addE s1 (vl 4294967296 l1) s3 (vl 4294967296 l3) = ex at *
      have Gx : Hid (addE s1 (vl 4294967296 l1) s3 (vl 4294967296 l3) = ex) := hex
      clear hex
      go_wp2_with fail
      generalize hW : (World.alloc W8 _) = W9
      obtain ⟨xn, hb, hz⟩ := boxes1 W8 (.bool sx) (.slice ax nx cx) 24 hW
      have Xx : Hid (Box W9 (W8.heap.size) (.bool sx) (.slice ax nx cx)) := xn
      clear hW xn hz
      clear p10 p11 t1 p20 p21 t2 p30 p31 t3
      have X1 : Hid (Box W9 (w.heap.size) (.bool s1) (.slice a1 n1 c1)) := X1.out.below hb X1.out.lt
      have X2 : Hid (Box W9 (w.heap.size + 1) (.bool s2) (.slice a2 n2 c2)) := X2.out.below hb X2.out.lt
      have X3 : Hid (Box W9 (w.heap.size + 1 + 1) (.bool s3) (.slice a3 n3 c3)) := X3.out.below hb X3.out.lt
      have H1 : Hid (Sl W9 a1 n1 c1 l1) := H1.out.below hb (Nat.le_refl _)
      have H2 : Hid (Sl W9 a2 n2 c2 l2) := H2.out.below hb (Nat.le_refl _)
      have H3 : Hid (Sl W9 a3 n3 c3 l3) := H3.out.below hb (Nat.le_refl _)
      have Hx : Hid (Sl W9 ax nx cx lx) := Hx.out.below hb (Nat.le_refl _)
      have HB : Hid (Below w.heap.size w W9) := HB.out.trans (hb.mono HB.out.size)
      clear hb
      have p10 := X1.out.z0
      have p11 := X1.out.z1
      have t1 := X1.out.lt
      have p20 := X2.out.z0
      have p21 := X2.out.z1
      have t2 := X2.out.lt
      have p30 := X3.out.z0
      have p31 := X3.out.z1
      have t3 := X3.out.lt
      have px0 := Xx.out.z0
      have px1 := Xx.out.z1
      have tx := Xx.out.lt
      go_wp2_with fail
      refine (add_any s2 s3 a2 n2 c2 l2 a3 n3 c3 l3 _ H2.out H3.out (by omega) (by omega)).mono ?_
      rintro e W10 ⟨⟨v, rfl, hy⟩, hb⟩
      clear p10 p11 t1 p20 p21 t2 p30 p31 t3 px0 px1 tx
      have X1 : Hid (Box W10 (w.heap.size) (.bool s1) (.slice a1 n1 c1)) := X1.out.below hb X1.out.lt
      have X2 : Hid (Box W10 (w.heap.size + 1) (.bool s2) (.slice a2 n2 c2)) := X2.out.below hb X2.out.lt
      have X3 : Hid (Box W10 (w.heap.size + 1 + 1) (.bool s3) (.slice a3 n3 c3)) := X3.out.below hb X3.out.lt
      have Xx : Hid (Box W10 (W8.heap.size) (.bool sx) (.slice ax nx cx)) := Xx.out.below hb Xx.out.lt
      have H1 : Hid (Sl W10 a1 n1 c1 l1) := H1.out.below hb (Nat.le_refl _)
      have H2 : Hid (Sl W10 a2 n2 c2 l2) := H2.out.below hb (Nat.le_refl _)
      have H3 : Hid (Sl W10 a3 n3 c3 l3) := H3.out.below hb (Nat.le_refl _)
      have Hx : Hid (Sl W10 ax nx cx lx) := Hx.out.below hb (Nat.le_refl _)
      have HB : Hid (Below w.heap.size w W10) := HB.out.trans (hb.mono HB.out.size)
      clear hb
      have p10 := X1.out.z0
      have p11 := X1.out.z1
      have t1 := X1.out.lt
      have p20 := X2.out.z0
      have p21 := X2.out.z1
      have t2 := X2.out.lt
      have p30 := X3.out.z0
      have p31 := X3.out.z1
      have t3 := X3.out.lt
      have px0 := Xx.out.z0
      have px1 := Xx.out.z1
      have tx := Xx.out.lt
      obtain ⟨ay, ny, cy, ly, rfl, hs, hv, my⟩ := hy.open (addV_lt _ _ _ _)
      have Hy : Hid (Sl W10 ay ny cy ly) := hs
      have Ey : Hid (vl 4294967296 ly = addV s2 (vl 4294967296 l2) s3 (vl 4294967296 l3)) := hv
      clear hs hv hy
      generalize hsy : addS s2 (vl 4294967296 l2) s3 (vl 4294967296 l3) = sy at *
      have Fy : Hid (addS s2 (vl 4294967296 l2) s3 (vl 4294967296 l3) = sy) := hsy
      clear hsy
      generalize hey : addE s2 (vl 4294967296 l2) s3 (vl 4294967296 l3) = ey at *
      have Gy : Hid (addE s2 (vl 4294967296 l2) s3 (vl 4294967296 l3) = ey) := hey
      clear hey
      go_wp2_with fail
      generalize hW : (World.alloc W10 _) = W11
      obtain ⟨xn, hb, hz⟩ := boxes1 W10 (.bool sy) (.slice ay ny cy) 24 hW
      have Xy : Hid (Box W11 (W10.heap.size) (.bool sy) (.slice ay ny cy)) := xn
      clear hW xn hz
      clear p10 p11 t1 p20 p21 t2 p30 p31 t3 px0 px1 tx
      have X1 : Hid (Box W11 (w.heap.size) (.bool s1) (.slice a1 n1 c1)) := X1.out.below hb X1.out.lt
      have X2 : Hid (Box W11 (w.heap.size + 1) (.bool s2) (.slice a2 n2 c2)) := X2.out.below hb X2.out.lt
      have X3 : Hid (Box W11 (w.heap.size + 1 + 1) (.bool s3) (.slice a3 n3 c3)) := X3.out.below hb X3.out.lt
      have Xx : Hid (Box W11 (W8.heap.size) (.bool sx) (.slice ax nx cx)) := Xx.out.below hb Xx.out.lt
      have H1 : Hid (Sl W11 a1 n1 c1 l1) := H1.out.below hb (Nat.le_refl _)
      have H2 : Hid (Sl W11 a2 n2 c2 l2) := H2.out.below hb (Nat.le_refl _)
      have H3 : Hid (Sl W11 a3 n3 c3 l3) := H3.out.below hb (Nat.le_refl _)
      have Hx : Hid (Sl W11 ax nx cx lx) := Hx.out.below hb (Nat.le_refl _)
      have Hy : Hid (Sl W11 ay ny cy ly) := Hy.out.below hb (Nat.le_refl _)
      have HB : Hid (Below w.heap.size w W11) := HB.out.trans (hb.mono HB.out.size)
      clear hb
      have p10 := X1.out.z0
      have p11 := X1.out.z1
      have t1 := X1.out.lt
      have p20 := X2.out.z0
      have p21 := X2.out.z1
      have t2 := X2.out.lt
      have p30 := X3.out.z0
      have p31 := X3.out.z1
      have t3 := X3.out.lt
      have px0 := Xx.out.z0
      have px1 := Xx.out.z1
      have tx := Xx.out.lt
      have py0 := Xy.out.z0
      have py1 := Xy.out.z1
      have ty := Xy.out.lt
      go_wp2_with fail
      have oex : ex = 0 ∨ ex = 2 := by rw [← Gx.out]; exact addE_or _ _ _ _
      have oey : ey = 0 ∨ ey = 2 := by rw [← Gy.out]; exact addE_or _ _ _ _
      rcases oex with rfl | rfl
      · rcases oey with rfl | rfl
        · have HXY : Hid (cmpV sx (vl 4294967296 lx) sy (vl 4294967296 ly) = c12) := by
            show _ = _
            rw [cmpV_eq, Ex.out, Ey.out, ← Fx.out, ← Fy.out, addE_zero Gx.out, addE_zero Gy.out, cmpI_add, Cc12.out]
          have HAB : Hid (cmpV s1 (vl 4294967296 l1) s2 (vl 4294967296 l2) = c12) := by rw [cmpV_eq]; exact Cc12
          clear p10 p11 t1 p20 p21 t2 p30 p31 t3 px0 px1 tx py0 py1 ty
          have D1 : Hid (Box W11.drew (w.heap.size) (.bool s1) (.slice a1 n1 c1)) := X1.out.below (Below.refl _ _).drew X1.out.lt
          have D2 : Hid (Box W11.drew (w.heap.size + 1) (.bool s2) (.slice a2 n2 c2)) := X2.out.below (Below.refl _ _).drew X2.out.lt
          have Dx : Hid (Box W11.drew (W8.heap.size) (.bool sx) (.slice ax nx cx)) := Xx.out.below (Below.refl _ _).drew Xx.out.lt
          have Dy : Hid (Box W11.drew (W10.heap.size) (.bool sy) (.slice ay ny cy)) := Xy.out.below (Below.refl _ _).drew Xy.out.lt
          have J1 : Hid (Sl W11.drew a1 n1 c1 l1) := H1.out.below (Below.refl _ _).drew (Nat.le_refl _)
          have J2 : Hid (Sl W11.drew a2 n2 c2 l2) := H2.out.below (Below.refl _ _).drew (Nat.le_refl _)
          have Jx : Hid (Sl W11.drew ax nx cx lx) := Hx.out.below (Below.refl _ _).drew (Nat.le_refl _)
          have Jy : Hid (Sl W11.drew ay ny cy ly) := Hy.out.below (Below.refl _ _).drew (Nat.le_refl _)
          have HBD : Hid (Below w.heap.size w W11.drew) := HB.out.drew
          have kS : W11.drew.cell? ⟨w.heap.size, 0, none⟩ = some (.bool s1) ∧ W11.drew.cell? ⟨w.heap.size, 1, none⟩ = some (.slice a1 n1 c1) ∧ W11.drew.cell? ⟨w.heap.size + 1, 0, none⟩ = some (.bool s2) ∧ W11.drew.cell? ⟨w.heap.size + 1, 1, none⟩ = some (.slice a2 n2 c2) ∧ W11.drew.cell? ⟨W8.heap.size, 0, none⟩ = some (.bool sx) ∧ W11.drew.cell? ⟨W8.heap.size, 1, none⟩ = some (.slice ax nx cx) ∧ W11.drew.cell? ⟨W10.heap.size, 0, none⟩ = some (.bool sy) ∧ W11.drew.cell? ⟨W10.heap.size, 1, none⟩ = some (.slice ay ny cy) := ⟨D1.out.z0, D1.out.z1, D2.out.z0, D2.out.z1, Dx.out.z0, Dx.out.z1, Dy.out.z0, Dy.out.z1⟩
          go_region_held3 (fun w' => w'.cell? ⟨w.heap.size, 0, none⟩ = some (.bool s1) ∧ w'.cell? ⟨w.heap.size, 1, none⟩ = some (.slice a1 n1 c1) ∧ w'.cell? ⟨w.heap.size + 1, 0, none⟩ = some (.bool s2) ∧ w'.cell? ⟨w.heap.size + 1, 1, none⟩ = some (.slice a2 n2 c2) ∧ w'.cell? ⟨W8.heap.size, 0, none⟩ = some (.bool sx) ∧ w'.cell? ⟨W8.heap.size, 1, none⟩ = some (.slice ax nx cx) ∧ w'.cell? ⟨W10.heap.size, 0, none⟩ = some (.bool sy) ∧ w'.cell? ⟨W10.heap.size, 1, none⟩ = some (.slice ay ny cy))
            (exact kS)
            (first | (go_at_call_of 12 (Value.agg #[Value.bool sx, Value.slice ax nx cx]); refine (compare_any sx sy ax nx cx lx ay ny cy ly _ (by exact Jx.out) (by exact Jy.out) (by omega) (by omega)).mono ?_; rintro e V1 ⟨rfl, hb⟩; rw [HXY.out]; have D1 : Hid (Box V1 (w.heap.size) (.bool s1) (.slice a1 n1 c1)) := D1.out.below hb D1.out.lt; have D2 : Hid (Box V1 (w.heap.size + 1) (.bool s2) (.slice a2 n2 c2)) := D2.out.below hb D2.out.lt; have Dx : Hid (Box V1 (W8.heap.size) (.bool sx) (.slice ax nx cx)) := Dx.out.below hb Dx.out.lt; have Dy : Hid (Box V1 (W10.heap.size) (.bool sy) (.slice ay ny cy)) := Dy.out.below hb Dy.out.lt; have J1 : Hid (Sl V1 a1 n1 c1 l1) := J1.out.below hb (Nat.le_refl _); have J2 : Hid (Sl V1 a2 n2 c2 l2) := J2.out.below hb (Nat.le_refl _); have Jx : Hid (Sl V1 ax nx cx lx) := Jx.out.below hb (Nat.le_refl _); have Jy : Hid (Sl V1 ay ny cy ly) := Jy.out.below hb (Nat.le_refl _); have HBD : Hid (Below w.heap.size w V1) := HBD.out.trans (hb.mono HBD.out.size); clear kS; have kS : V1.cell? ⟨w.heap.size, 0, none⟩ = some (.bool s1) ∧ V1.cell? ⟨w.heap.size, 1, none⟩ = some (.slice a1 n1 c1) ∧ V1.cell? ⟨w.heap.size + 1, 0, none⟩ = some (.bool s2) ∧ V1.cell? ⟨w.heap.size + 1, 1, none⟩ = some (.slice a2 n2 c2) ∧ V1.cell? ⟨W8.heap.size, 0, none⟩ = some (.bool sx) ∧ V1.cell? ⟨W8.heap.size, 1, none⟩ = some (.slice ax nx cx) ∧ V1.cell? ⟨W10.heap.size, 0, none⟩ = some (.bool sy) ∧ V1.cell? ⟨W10.heap.size, 1, none⟩ = some (.slice ay ny cy) := ⟨D1.out.z0, D1.out.z1, D2.out.z0, D2.out.z1, Dx.out.z0, Dx.out.z1, Dy.out.z0, Dy.out.z1⟩; clear hb) | (go_at_call_of 12 (Value.agg #[Value.bool s1, Value.slice a1 n1 c1]); refine (compare_any s1 s2 a1 n1 c1 l1 a2 n2 c2 l2 _ (by exact J1.out) (by exact J2.out) (by omega) (by omega)).mono ?_; rintro e V2 ⟨rfl, hb⟩; rw [HAB.out]; have D1 : Hid (Box V2 (w.heap.size) (.bool s1) (.slice a1 n1 c1)) := D1.out.below hb D1.out.lt; have D2 : Hid (Box V2 (w.heap.size + 1) (.bool s2) (.slice a2 n2 c2)) := D2.out.below hb D2.out.lt; have Dx : Hid (Box V2 (W8.heap.size) (.bool sx) (.slice ax nx cx)) := Dx.out.below hb Dx.out.lt; have Dy : Hid (Box V2 (W10.heap.size) (.bool sy) (.slice ay ny cy)) := Dy.out.below hb Dy.out.lt; have J1 : Hid (Sl V2 a1 n1 c1 l1) := J1.out.below hb (Nat.le_refl _); have J2 : Hid (Sl V2 a2 n2 c2 l2) := J2.out.below hb (Nat.le_refl _); have Jx : Hid (Sl V2 ax nx cx lx) := Jx.out.below hb (Nat.le_refl _); have Jy : Hid (Sl V2 ay ny cy ly) := Jy.out.below hb (Nat.le_refl _); have HBD : Hid (Below w.heap.size w V2) := HBD.out.trans (hb.mono HBD.out.size); clear kS; have kS : V2.cell? ⟨w.heap.size, 0, none⟩ = some (.bool s1) ∧ V2.cell? ⟨w.heap.size, 1, none⟩ = some (.slice a1 n1 c1) ∧ V2.cell? ⟨w.heap.size + 1, 0, none⟩ = some (.bool s2) ∧ V2.cell? ⟨w.heap.size + 1, 1, none⟩ = some (.slice a2 n2 c2) ∧ V2.cell? ⟨W8.heap.size, 0, none⟩ = some (.bool sx) ∧ V2.cell? ⟨W8.heap.size, 1, none⟩ = some (.slice ax nx cx) ∧ V2.cell? ⟨W10.heap.size, 0, none⟩ = some (.bool sy) ∧ V2.cell? ⟨W10.heap.size, 1, none⟩ = some (.slice ay ny cy) := ⟨D1.out.z0, D1.out.z1, D2.out.z0, D2.out.z1, Dx.out.z0, Dx.out.z1, Dy.out.z0, Dy.out.z1⟩; clear hb) | (go_at_call 7; refine (awake_any _).mono ?_; rintro e V3 ⟨rfl, hb⟩; have D1 : Hid (Box V3 (w.heap.size) (.bool s1) (.slice a1 n1 c1)) := D1.out.below hb D1.out.lt; have D2 : Hid (Box V3 (w.heap.size + 1) (.bool s2) (.slice a2 n2 c2)) := D2.out.below hb D2.out.lt; have Dx : Hid (Box V3 (W8.heap.size) (.bool sx) (.slice ax nx cx)) := Dx.out.below hb Dx.out.lt; have Dy : Hid (Box V3 (W10.heap.size) (.bool sy) (.slice ay ny cy)) := Dy.out.below hb Dy.out.lt; have HBD : Hid (Below w.heap.size w V3) := HBD.out.trans (hb.mono HBD.out.size); clear kS; have kS : V3.cell? ⟨w.heap.size, 0, none⟩ = some (.bool s1) ∧ V3.cell? ⟨w.heap.size, 1, none⟩ = some (.slice a1 n1 c1) ∧ V3.cell? ⟨w.heap.size + 1, 0, none⟩ = some (.bool s2) ∧ V3.cell? ⟨w.heap.size + 1, 1, none⟩ = some (.slice a2 n2 c2) ∧ V3.cell? ⟨W8.heap.size, 0, none⟩ = some (.bool sx) ∧ V3.cell? ⟨W8.heap.size, 1, none⟩ = some (.slice ax nx cx) ∧ V3.cell? ⟨W10.heap.size, 0, none⟩ = some (.bool sy) ∧ V3.cell? ⟨W10.heap.size, 1, none⟩ = some (.slice ay ny cy) := ⟨D1.out.z0, D1.out.z1, D2.out.z0, D2.out.z1, Dx.out.z0, Dx.out.z1, Dy.out.z0, Dy.out.z1⟩; clear hb))
          all_goals
            go_wp2_with fail
            go_ret
            exact ⟨rfl, HBD.out⟩
        · clear p10 p11 t1 p20 p21 t2 p30 p31 t3 px0 px1 tx py0 py1 ty
          clear X1 X2 X3 Xx Xy H1 H2 H3 Hx Hy Ex Ey Fx Fy Gx Gy Cc12 mx my m1 m2 m3 q1 q2 q3 r1 r2 r3
          refine region_stW 16 (by kernel_rfl) (by kernel_rfl) ?_
          simp only [List.take_succ_cons, List.take_zero, List.drop_succ_cons, List.drop_zero]
          iterate 16 (refine stW_go (fun K hK => ?_); go_simp; refine hK.out _ ?_; clear hK K)
          refine stW_nil ?_
          go_wp2_with fail
          refine (awake_any _).mono ?_
          rintro e W12 ⟨rfl, hb⟩
          have HBV : Hid (Below w.heap.size w W12) := HB.out.drew.trans (hb.mono HB.out.size)
          clear hb
          go_wp2_with fail
          go_ret
          exact ⟨rfl, HBV.out⟩
      · clear p10 p11 t1 p20 p21 t2 p30 p31 t3 px0 px1 tx py0 py1 ty
        clear X1 X2 X3 Xx Xy H1 H2 H3 Hx Hy Ex Ey Fx Fy Gx Gy Cc12 mx my m1 m2 m3 q1 q2 q3 r1 r2 r3
        refine region_stW 16 (by kernel_rfl) (by kernel_rfl) ?_
        simp only [List.take_succ_cons, List.take_zero, List.drop_succ_cons, List.drop_zero]
        iterate 16 (refine stW_go (fun K hK => ?_); go_simp; refine hK.out _ ?_; clear hK K)
        refine stW_nil ?_
        go_wp2_with fail
        refine (awake_any _).mono ?_
        rintro e W12 ⟨rfl, hb⟩
        have HBV : Hid (Below w.heap.size w W12) := HB.out.drew.trans (hb.mono HB.out.size)
        clear hb
        go_wp2_with fail
        go_ret
        exact ⟨rfl, HBV.out⟩
    · go_wp2_with fail
      refine (add_any s1 s3 a1 n1 c1 l1 a3 n3 c3 l3 _ H1.out H3.out (by omega) (by omega)).mono ?_
      rintro e W7 ⟨⟨v, rfl, hx⟩, hb⟩
      clear p10 p11 t1 p20 p21 t2 p30 p31 t3
      have X1 : Hid (Box W7 (w.heap.size) (.bool s1) (.slice a1 n1 c1)) := X1.out.below hb X1.out.lt
      have X2 : Hid (Box W7 (w.heap.size + 1) (.bool s2) (.slice a2 n2 c2)) := X2.out.below hb X2.out.lt
      have X3 : Hid (Box W7 (w.heap.size + 1 + 1) (.bool s3) (.slice a3 n3 c3)) := X3.out.below hb X3.out.lt
      have H1 : Hid (Sl W7 a1 n1 c1 l1) := H1.out.below hb (Nat.le_refl _)
      have H2 : Hid (Sl W7 a2 n2 c2 l2) := H2.out.below hb (Nat.le_refl _)
      have H3 : Hid (Sl W7 a3 n3 c3 l3) := H3.out.below hb (Nat.le_refl _)
      have HB : Hid (Below w.heap.size w W7) := HB.out.trans (hb.mono HB.out.size)
      clear hb
      have p10 := X1.out.z0
      have p11 := X1.out.z1
      have t1 := X1.out.lt
      have p20 := X2.out.z0
      have p21 := X2.out.z1
      have t2 := X2.out.lt
      have p30 := X3.out.z0
      have p31 := X3.out.z1
      have t3 := X3.out.lt
      obtain ⟨ax, nx, cx, lx, rfl, hs, hv, mx⟩ := hx.open (addV_lt _ _ _ _)
      have Hx : Hid (Sl W7 ax nx cx lx) := hs
      have Ex : Hid (vl 4294967296 lx = addV s1 (vl 4294967296 l1) s3 (vl 4294967296 l3)) := hv
      clear hs hv hx
      generalize hsx : addS s1 (vl 4294967296 l1) s3 (vl 4294967296 l3) = sx at *
      have Fx : Hid (addS s1 (vl 4294967296 l1) s3 (vl 4294967296 l3) = sx) := hsx
      clear hsx
      generalize hex : addE s1 (vl 4294967296 l1) s3 (vl 4294967296 l3) = ex at *
      have Gx : Hid (addE s1 (vl 4294967296 l1) s3 (vl 4294967296 l3) = ex) := hex
      clear hex
      go_wp2_with fail
      generalize hW : (World.alloc W7 _) = W8
      obtain ⟨xn, hb, hz⟩ := boxes1 W7 (.bool sx) (.slice ax nx cx) 24 hW
      have Xx : Hid (Box W8 (W7.heap.size) (.bool sx) (.slice ax nx cx)) := xn
      clear hW xn hz
      clear p10 p11 t1 p20 p21 t2 p30 p31 t3
      have X1 : Hid (Box W8 (w.heap.size) (.bool s1) (.slice a1 n1 c1)) := X1.out.below hb X1.out.lt
      have X2 : Hid (Box W8 (w.heap.size + 1) (.bool s2) (.slice a2 n2 c2)) := X2.out.below hb X2.out.lt
      have X3 : Hid (Box W8 (w.heap.size + 1 + 1) (.bool s3) (.slice a3 n3 c3)) := X3.out.below hb X3.out.lt
      have H1 : Hid (Sl W8 a1 n1 c1 l1) := H1.out.below hb (Nat.le_refl _)
      have H2 : Hid (Sl W8 a2 n2 c2 l2) := H2.out.below hb (Nat.le_refl _)
      have H3 : Hid (Sl W8 a3 n3 c3 l3) := H3.out.below hb (Nat.le_refl _)
      have Hx : Hid (Sl W8 ax nx cx lx) := Hx.out.below hb (Nat.le_refl _)
      have HB : Hid (Below w.heap.size w W8) := HB.out.trans (hb.mono HB.out.size)
      clear hb
      have p10 := X1.out.z0
      have p11 := X1.out.z1
      have t1 := X1.out.lt
      have p20 := X2.out.z0
      have p21 := X2.out.z1
      have t2 := X2.out.lt
      have p30 := X3.out.z0
      have p31 := X3.out.z1
      have t3 := X3.out.lt
      have px0 := Xx.out.z0
      have px1 := Xx.out.z1
      have tx := Xx.out.lt
      go_wp2_with fail
      refine (add_any s2 s3 a2 n2 c2 l2 a3 n3 c3 l3 _ H2.out H3.out (by omega) (by omega)).mono ?_
      rintro e W9 ⟨⟨v, rfl, hy⟩, hb⟩
      clear p10 p11 t1 p20 p21 t2 p30 p31 t3 px0 px1 tx
      have X1 : Hid (Box W9 (w.heap.size) (.bool s1) (.slice a1 n1 c1)) := X1.out.below hb X1.out.lt
      have X2 : Hid (Box W9 (w.heap.size + 1) (.bool s2) (.slice a2 n2 c2)) := X2.out.below hb X2.out.lt
      have X3 : Hid (Box W9 (w.heap.size + 1 + 1) (.bool s3) (.slice a3 n3 c3)) := X3.out.below hb X3.out.lt
      have Xx : Hid (Box W9 (W7.heap.size) (.bool sx) (.slice ax nx cx)) := Xx.out.below hb Xx.out.lt
      have H1 : Hid (Sl W9 a1 n1 c1 l1) := H1.out.below hb (Nat.le_refl _)
      have H2 : Hid (Sl W9 a2 n2 c2 l2) := H2.out.below hb (Nat.le_refl _)
      have H3 : Hid (Sl W9 a3 n3 c3 l3) := H3.out.below hb (Nat.le_refl _)
      have Hx : Hid (Sl W9 ax nx cx lx) := Hx.out.below hb (Nat.le_refl _)
      have HB : Hid (Below w.heap.size w W9) := HB.out.trans (hb.mono HB.out.size)
      clear hb
      have p10 := X1.out.z0
      have p11 := X1.out.z1
      have t1 := X1.out.lt
      have p20 := X2.out.z0
      have p21 := X2.out.z1
      have t2 := X2.out.lt
      have p30 := X3.out.z0
      have p31 := X3.out.z1
      have t3 := X3.out.lt
      have px0 := Xx.out.z0
      have px1 := Xx.out.z1
      have tx := Xx.out.lt
      obtain ⟨ay, ny, cy, ly, rfl, hs, hv, my⟩ := hy.open (addV_lt _ _ _ _)
      have Hy : Hid (Sl W9 ay ny cy ly) := hs
      have Ey : Hid (vl 4294967296 ly = addV s2 (vl 4294967296 l2) s3 (vl 4294967296 l3)) := hv
      clear hs hv hy
      generalize hsy : addS s2 (vl 4294967296 l2) s3 (vl 4294967296 l3) = sy at *
      have Fy : Hid (addS s2 (vl 4294967296 l2) s3 (vl 4294967296 l3) = sy) := hsy
      clear hsy
      generalize hey : addE s2 (vl 4294967296 l2) s3 (vl 4294967296 l3) = ey at *
      have Gy : Hid (addE s2 (vl 4294967296 l2) s3 (vl 4294967296 l3) = ey) := hey
      clear hey
      go_wp2_with fail
      generalize hW : (World.alloc W9 _) = W10
      obtain ⟨xn, hb, hz⟩ := boxes1 W9 (.bool sy) (.slice ay ny cy) 24 hW
      have Xy : Hid (Box W10 (W9.heap.size) (.bool sy) (.slice ay ny cy)) := xn
      clear hW xn hz
      clear p10 p11 t1 p20 p21 t2 p30 p31 t3 px0 px1 tx
      have X1 : Hid (Box W10 (w.heap.size) (.bool s1) (.slice a1 n1 c1)) := X1.out.below hb X1.out.lt
      have X2 : Hid (Box W10 (w.heap.size + 1) (.bool s2) (.slice a2 n2 c2)) := X2.out.below hb X2.out.lt
      have X3 : Hid (Box W10 (w.heap.size + 1 + 1) (.bool s3) (.slice a3 n3 c3)) := X3.out.below hb X3.out.lt
      have Xx : Hid (Box W10 (W7.heap.size) (.bool sx) (.slice ax nx cx)) := Xx.out.below hb Xx.out.lt
      have H1 : Hid (Sl W10 a1 n1 c1 l1) := H1.out.below hb (Nat.le_refl _)
      have H2 : Hid (Sl W10 a2 n2 c2 l2) := H2.out.below hb (Nat.le_refl _)
      have H3 : Hid (Sl W10 a3 n3 c3 l3) := H3.out.below hb (Nat.le_refl _)
      have Hx : Hid (Sl W10 ax nx cx lx) := Hx.out.below hb (Nat.le_refl _)
      have Hy : Hid (Sl W10 ay ny cy ly) := Hy.out.below hb (Nat.le_refl _)
      have HB : Hid (Below w.heap.size w W10) := HB.out.trans (hb.mono HB.out.size)
      clear hb
      have p10 := X1.out.z0
      have p11 := X1.out.z1
      have t1 := X1.out.lt
      have p20 := X2.out.z0
      have p21 := X2.out.z1
      have t2 := X2.out.lt
      have p30 := X3.out.z0
      have p31 := X3.out.z1
      have t3 := X3.out.lt
      have px0 := Xx.out.z0
      have px1 := Xx.out.z1
      have tx := Xx.out.lt
      have py0 := Xy.out.z0
      have py1 := Xy.out.z1
      have ty := Xy.out.lt
      go_wp2_with fail
      have oex : ex = 0 ∨ ex = 2 := by rw [← Gx.out]; exact addE_or _ _ _ _
      have oey : ey = 0 ∨ ey = 2 := by rw [← Gy.out]; exact addE_or _ _ _ _
      rcases oex with rfl | rfl
      · rcases oey with rfl | rfl
        · have HXY : Hid (cmpV sx (vl 4294967296 lx) sy (vl 4294967296 ly) = c12) := by
            show _ = _
            rw [cmpV_eq, Ex.out, Ey.out, ← Fx.out, ← Fy.out, addE_zero Gx.out, addE_zero Gy.out, cmpI_add, Cc12.out]
          have HAB : Hid (cmpV s1 (vl 4294967296 l1) s2 (vl 4294967296 l2) = c12) := by rw [cmpV_eq]; exact Cc12
          clear p10 p11 t1 p20 p21 t2 p30 p31 t3 px0 px1 tx py0 py1 ty
          have D1 : Hid (Box W10.drew (w.heap.size) (.bool s1) (.slice a1 n1 c1)) := X1.out.below (Below.refl _ _).drew X1.out.lt
          have D2 : Hid (Box W10.drew (w.heap.size + 1) (.bool s2) (.slice a2 n2 c2)) := X2.out.below (Below.refl _ _).drew X2.out.lt
          have Dx : Hid (Box W10.drew (W7.heap.size) (.bool sx) (.slice ax nx cx)) := Xx.out.below (Below.refl _ _).drew Xx.out.lt
          have Dy : Hid (Box W10.drew (W9.heap.size) (.bool sy) (.slice ay ny cy)) := Xy.out.below (Below.refl _ _).drew Xy.out.lt
          have J1 : Hid (Sl W10.drew a1 n1 c1 l1) := H1.out.below (Below.refl _ _).drew (Nat.le_refl _)
          have J2 : Hid (Sl W10.drew a2 n2 c2 l2) := H2.out.below (Below.refl _ _).drew (Nat.le_refl _)
          have Jx : Hid (Sl W10.drew ax nx cx lx) := Hx.out.below (Below.refl _ _).drew (Nat.le_refl _)
          have Jy : Hid (Sl W10.drew ay ny cy ly) := Hy.out.below (Below.refl _ _).drew (Nat.le_refl _)
          have HBD : Hid (Below w.heap.size w W10.drew) := HB.out.drew
          have kS : W10.drew.cell? ⟨w.heap.size, 0, none⟩ = some (.bool s1) ∧ W10.drew.cell? ⟨w.heap.size, 1, none⟩ = some (.slice a1 n1 c1) ∧ W10.drew.cell? ⟨w.heap.size + 1, 0, none⟩ = some (.bool s2) ∧ W10.drew.cell? ⟨w.heap.size + 1, 1, none⟩ = some (.slice a2 n2 c2) ∧ W10.drew.cell? ⟨W7.heap.size, 0, none⟩ = some (.bool sx) ∧ W10.drew.cell? ⟨W7.heap.size, 1, none⟩ = some (.slice ax nx cx) ∧ W10.drew.cell? ⟨W9.heap.size, 0, none⟩ = some (.bool sy) ∧ W10.drew.cell? ⟨W9.heap.size, 1, none⟩ = some (.slice ay ny cy) := ⟨D1.out.z0, D1.out.z1, D2.out.z0, D2.out.z1, Dx.out.z0, Dx.out.z1, Dy.out.z0, Dy.out.z1⟩
          go_region_held3 (fun w' => w'.cell? ⟨w.heap.size, 0, none⟩ = some (.bool s1) ∧ w'.cell? ⟨w.heap.size, 1, none⟩ = some (.slice a1 n1 c1) ∧ w'.cell? ⟨w.heap.size + 1, 0, none⟩ = some (.bool s2) ∧ w'.cell? ⟨w.heap.size + 1, 1, none⟩ = some (.slice a2 n2 c2) ∧ w'.cell? ⟨W7.heap.size, 0, none⟩ = some (.bool sx) ∧ w'.cell? ⟨W7.heap.size, 1, none⟩ = some (.slice ax nx cx) ∧ w'.cell? ⟨W9.heap.size, 0, none⟩ = some (.bool sy) ∧ w'.cell? ⟨W9.heap.size, 1, none⟩ = some (.slice ay ny cy))
            (exact kS)
            (first | (go_at_call_of 12 (Value.agg #[Value.bool sx, Value.slice ax nx cx]); refine (compare_any sx sy ax nx cx lx ay ny cy ly _ (by exact Jx.out) (by exact Jy.out) (by omega) (by omega)).mono ?_; rintro e V1 ⟨rfl, hb⟩; rw [HXY.out]; have D1 : Hid (Box V1 (w.heap.size) (.bool s1) (.slice a1 n1 c1)) := D1.out.below hb D1.out.lt; have D2 : Hid (Box V1 (w.heap.size + 1) (.bool s2) (.slice a2 n2 c2)) := D2.out.below hb D2.out.lt; have Dx : Hid (Box V1 (W7.heap.size) (.bool sx) (.slice ax nx cx)) := Dx.out.below hb Dx.out.lt; have Dy : Hid (Box V1 (W9.heap.size) (.bool sy) (.slice ay ny cy)) := Dy.out.below hb Dy.out.lt; have J1 : Hid (Sl V1 a1 n1 c1 l1) := J1.out.below hb (Nat.le_refl _); have J2 : Hid (Sl V1 a2 n2 c2 l2) := J2.out.below hb (Nat.le_refl _); have Jx : Hid (Sl V1 ax nx cx lx) := Jx.out.below hb (Nat.le_refl _); have Jy : Hid (Sl V1 ay ny cy ly) := Jy.out.below hb (Nat.le_refl _); have HBD : Hid (Below w.heap.size w V1) := HBD.out.trans (hb.mono HBD.out.size); clear kS; have kS : V1.cell? ⟨w.heap.size, 0, none⟩ = some (.bool s1) ∧ V1.cell? ⟨w.heap.size, 1, none⟩ = some (.slice a1 n1 c1) ∧ V1.cell? ⟨w.heap.size + 1, 0, none⟩ = some (.bool s2) ∧ V1.cell? ⟨w.heap.size + 1, 1, none⟩ = some (.slice a2 n2 c2) ∧ V1.cell? ⟨W7.heap.size, 0, none⟩ = some (.bool sx) ∧ V1.cell? ⟨W7.heap.size, 1, none⟩ = some (.slice ax nx cx) ∧ V1.cell? ⟨W9.heap.size, 0, none⟩ = some (.bool sy) ∧ V1.cell? ⟨W9.heap.size, 1, none⟩ = some (.slice ay ny cy) := ⟨D1.out.z0, D1.out.z1, D2.out.z0, D2.out.z1, Dx.out.z0, Dx.out.z1, Dy.out.z0, Dy.out.z1⟩; clear hb) | (go_at_call_of 12 (Value.agg #[Value.bool s1, Value.slice a1 n1 c1]); refine (compare_any s1 s2 a1 n1 c1 l1 a2 n2 c2 l2 _ (by exact J1.out) (by exact J2.out) (by omega) (by omega)).mono ?_; rintro e V2 ⟨rfl, hb⟩; rw [HAB.out]; have D1 : Hid (Box V2 (w.heap.size) (.bool s1) (.slice a1 n1 c1)) := D1.out.below hb D1.out.lt; have D2 : Hid (Box V2 (w.heap.size + 1) (.bool s2) (.slice a2 n2 c2)) := D2.out.below hb D2.out.lt; have Dx : Hid (Box V2 (W7.heap.size) (.bool sx) (.slice ax nx cx)) := Dx.out.below hb Dx.out.lt; have Dy : Hid (Box V2 (W9.heap.size) (.bool sy) (.slice ay ny cy)) := Dy.out.below hb Dy.out.lt; have J1 : Hid (Sl V2 a1 n1 c1 l1) := J1.out.below hb (Nat.le_refl _); have J2 : Hid (Sl V2 a2 n2 c2 l2) := J2.out.below hb (Nat.le_refl _); have Jx : Hid (Sl V2 ax nx cx lx) := Jx.out.below hb (Nat.le_refl _); have Jy : Hid (Sl V2 ay ny cy ly) := Jy.out.below hb (Nat.le_refl _); have HBD : Hid (Below w.heap.size w V2) := HBD.out.trans (hb.mono HBD.out.size); clear kS; have kS : V2.cell? ⟨w.heap.size, 0, none⟩ = some (.bool s1) ∧ V2.cell? ⟨w.heap.size, 1, none⟩ = some (.slice a1 n1 c1) ∧ V2.cell? ⟨w.heap.size + 1, 0, none⟩ = some (.bool s2) ∧ V2.cell? ⟨w.heap.size + 1, 1, none⟩ = some (.slice a2 n2 c2) ∧ V2.cell? ⟨W7.heap.size, 0, none⟩ = some (.bool sx) ∧ V2.cell? ⟨W7.heap.size, 1, none⟩ = some (.slice ax nx cx) ∧ V2.cell? ⟨W9.heap.size, 0, none⟩ = some (.bool sy) ∧ V2.cell? ⟨W9.heap.size, 1, none⟩ = some (.slice ay ny cy) := ⟨D1.out.z0, D1.out.z1, D2.out.z0, D2.out.z1, Dx.out.z0, Dx.out.z1, Dy.out.z0, Dy.out.z1⟩; clear hb) | (go_at_call 7; refine (awake_any _).mono ?_; rintro e V3 ⟨rfl, hb⟩; have D1 : Hid (Box V3 (w.heap.size) (.bool s1) (.slice a1 n1 c1)) := D1.out.below hb D1.out.lt; have D2 : Hid (Box V3 (w.heap.size + 1) (.bool s2) (.slice a2 n2 c2)) := D2.out.below hb D2.out.lt; have Dx : Hid (Box V3 (W7.heap.size) (.bool sx) (.slice ax nx cx)) := Dx.out.below hb Dx.out.lt; have Dy : Hid (Box V3 (W9.heap.size) (.bool sy) (.slice ay ny cy)) := Dy.out.below hb Dy.out.lt; have HBD : Hid (Below w.heap.size w V3) := HBD.out.trans (hb.mono HBD.out.size); clear kS; have kS : V3.cell? ⟨w.heap.size, 0, none⟩ = some (.bool s1) ∧ V3.cell? ⟨w.heap.size, 1, none⟩ = some (.slice a1 n1 c1) ∧ V3.cell? ⟨w.heap.size + 1, 0, none⟩ = some (.bool s2) ∧ V3.cell? ⟨w.heap.size + 1, 1, none⟩ = some (.slice a2 n2 c2) ∧ V3.cell? ⟨W7.heap.size, 0, none⟩ = some (.bool sx) ∧ V3.cell? ⟨W7.heap.size, 1, none⟩ = some (.slice ax nx cx) ∧ V3.cell? ⟨W9.heap.size, 0, none⟩ = some (.bool sy) ∧ V3.cell? ⟨W9.heap.size, 1, none⟩ = some (.slice ay ny cy) := ⟨D1.out.z0, D1.out.z1, D2.out.z0, D2.out.z1, Dx.out.z0, Dx.out.z1, Dy.out.z0, Dy.out.z1⟩; clear hb))
          all_goals
            go_wp2_with fail
            go_ret
            exact ⟨rfl, HBD.out⟩
        · clear p10 p11 t1 p20 p21 t2 p30 p31 t3 px0 px1 tx py0 py1 ty
          clear X1 X2 X3 Xx Xy H1 H2 H3 Hx Hy Ex Ey Fx Fy Gx Gy Cc12 mx my m1 m2 m3 q1 q2 q3 r1 r2 r3
          refine region_stW 16 (by kernel_rfl) (by kernel_rfl) ?_
          simp only [List.take_succ_cons, List.take_zero, List.drop_succ_cons, List.drop_zero]
          iterate 16 (refine stW_go (fun K hK => ?_); go_simp; refine hK.out _ ?_; clear hK K)
          refine stW_nil ?_
          go_wp2_with fail
          refine (awake_any _).mono ?_
          rintro e W11 ⟨rfl, hb⟩
          have HBV : Hid (Below w.heap.size w W11) := HB.out.drew.trans (hb.mono HB.out.size)
          clear hb
          go_wp2_with fail
          go_ret
          exact ⟨rfl, HBV.out⟩
      · clear p10 p11 t1 p20 p21 t2 p30 p31 t3 px0 px1 tx py0 py1 ty
        clear X1 X2 X3 Xx Xy H1 H2 H3 Hx Hy Ex Ey Fx Fy Gx Gy Cc12 mx my m1 m2 m3 q1 q2 q3 r1 r2 r3
        refine region_stW 16 (by kernel_rfl) (by kernel_rfl) ?_
        simp only [List.take_succ_cons, List.take_zero, List.drop_succ_cons, List.drop_zero]
        iterate 16 (refine stW_go (fun K hK => ?_); go_simp; refine hK.out _ ?_; clear hK K)
        refine stW_nil ?_
        go_wp2_with fail
        refine (awake_any _).mono ?_
        rintro e W11 ⟨rfl, hb⟩
        have HBV : Hid (Below w.heap.size w W11) := HB.out.drew.trans (hb.mono HB.out.size)
        clear hb
        go_wp2_with fail
        go_ret
        exact ⟨rfl, HBV.out⟩
  · go_wp2_with fail
    refine (add_any s1 s3 a1 n1 c1 l1 a3 n3 c3 l3 _ H1.out H3.out (by omega) (by omega)).mono ?_
    rintro e W6 ⟨⟨v, rfl, hx⟩, hb⟩
    clear p10 p11 t1 p20 p21 t2 p30 p31 t3
    have X1 : Hid (Box W6 (w.heap.size) (.bool s1) (.slice a1 n1 c1)) := X1.out.below hb X1.out.lt
    have X2 : Hid (Box W6 (w.heap.size + 1) (.bool s2) (.slice a2 n2 c2)) := X2.out.below hb X2.out.lt
    have X3 : Hid (Box W6 (w.heap.size + 1 + 1) (.bool s3) (.slice a3 n3 c3)) := X3.out.below hb X3.out.lt
    have H1 : Hid (Sl W6 a1 n1 c1 l1) := H1.out.below hb (Nat.le_refl _)
    have H2 : Hid (Sl W6 a2 n2 c2 l2) := H2.out.below hb (Nat.le_refl _)
    have H3 : Hid (Sl W6 a3 n3 c3 l3) := H3.out.below hb (Nat.le_refl _)
    have HB : Hid (Below w.heap.size w W6) := HB.out.trans (hb.mono HB.out.size)
    clear hb
    have p10 := X1.out.z0
    have p11 := X1.out.z1
    have t1 := X1.out.lt
    have p20 := X2.out.z0
    have p21 := X2.out.z1
    have t2 := X2.out.lt
    have p30 := X3.out.z0
    have p31 := X3.out.z1
    have t3 := X3.out.lt
    obtain ⟨ax, nx, cx, lx, rfl, hs, hv, mx⟩ := hx.open (addV_lt _ _ _ _)
    have Hx : Hid (Sl W6 ax nx cx lx) := hs
    have Ex : Hid (vl 4294967296 lx = addV s1 (vl 4294967296 l1) s3 (vl 4294967296 l3)) := hv
    clear hs hv hx
    generalize hsx : addS s1 (vl 4294967296 l1) s3 (vl 4294967296 l3) = sx at *
    have Fx : Hid (addS s1 (vl 4294967296 l1) s3 (vl 4294967296 l3) = sx) := hsx
    clear hsx
    generalize hex : addE s1 (vl 4294967296 l1) s3 (vl 4294967296 l3) = ex at *
    have Gx : Hid (addE s1 (vl 4294967296 l1) s3 (vl 4294967296 l3) = ex) := hex
    clear hex
    go_wp2_with fail
    generalize hW : (World.alloc W6 _) = W7
    obtain ⟨xn, hb, hz⟩ := boxes1 W6 (.bool sx) (.slice ax nx cx) 24 hW
    have Xx : Hid (Box W7 (W6.heap.size) (.bool sx) (.slice ax nx cx)) := xn
    clear hW xn hz
    clear p10 p11 t1 p20 p21 t2 p30 p31 t3
    have X1 : Hid (Box W7 (w.heap.size) (.bool s1) (.slice a1 n1 c1)) := X1.out.below hb X1.out.lt
    have X2 : Hid (Box W7 (w.heap.size + 1) (.bool s2) (.slice a2 n2 c2)) := X2.out.below hb X2.out.lt
    have X3 : Hid (Box W7 (w.heap.size + 1 + 1) (.bool s3) (.slice a3 n3 c3)) := X3.out.below hb X3.out.lt
    have H1 : Hid (Sl W7 a1 n1 c1 l1) := H1.out.below hb (Nat.le_refl _)
    have H2 : Hid (Sl W7 a2 n2 c2 l2) := H2.out.below hb (Nat.le_refl _)
    have H3 : Hid (Sl W7 a3 n3 c3 l3) := H3.out.below hb (Nat.le_refl _)
    have Hx : Hid (Sl W7 ax nx cx lx) := Hx.out.below hb (Nat.le_refl _)
    have HB : Hid (Below w.heap.size w W7) := HB.out.trans (hb.mono HB.out.size)
    clear hb
    have p10 := X1.out.z0
    have p11 := X1.out.z1
    have t1 := X1.out.lt
    have p20 := X2.out.z0
    have p21 := X2.out.z1
    have t2 := X2.out.lt
    have p30 := X3.out.z0
    have p31 := X3.out.z1
    have t3 := X3.out.lt
    have px0 := Xx.out.z0
    have px1 := Xx.out.z1
    have tx := Xx.out.lt
    go_wp2_with fail
    refine (add_any s2 s3 a2 n2 c2 l2 a3 n3 c3 l3 _ H2.out H3.out (by omega) (by omega)).mono ?_
    rintro e W8 ⟨⟨v, rfl, hy⟩, hb⟩
    clear p10 p11 t1 p20 p21 t2 p30 p31 t3 px0 px1 tx
    have X1 : Hid (Box W8 (w.heap.size) (.bool s1) (.slice a1 n1 c1)) := X1.out.below hb X1.out.lt
    have X2 : Hid (Box W8 (w.heap.size + 1) (.bool s2) (.slice a2 n2 c2)) := X2.out.below hb X2.out.lt
    have X3 : Hid (Box W8 (w.heap.size + 1 + 1) (.bool s3) (.slice a3 n3 c3)) := X3.out.below hb X3.out.lt
    have Xx : Hid (Box W8 (W6.heap.size) (.bool sx) (.slice ax nx cx)) := Xx.out.below hb Xx.out.lt
    have H1 : Hid (Sl W8 a1 n1 c1 l1) := H1.out.below hb (Nat.le_refl _)
    have H2 : Hid (Sl W8 a2 n2 c2 l2) := H2.out.below hb (Nat.le_refl _)
    have H3 : Hid (Sl W8 a3 n3 c3 l3) := H3.out.below hb (Nat.le_refl _)
    have Hx : Hid (Sl W8 ax nx cx lx) := Hx.out.below hb (Nat.le_refl _)
    have HB : Hid (Below w.heap.size w W8) := HB.out.trans (hb.mono HB.out.size)
    clear hb
    have p10 := X1.out.z0
    have p11 := X1.out.z1
    have t1 := X1.out.lt
    have p20 := X2.out.z0
    have p21 := X2.out.z1
    have t2 := X2.out.lt
    have p30 := X3.out.z0
    have p31 := X3.out.z1
    have t3 := X3.out.lt
    have px0 := Xx.out.z0
    have px1 := Xx.out.z1
    have tx := Xx.out.lt
    obtain ⟨ay, ny, cy, ly, rfl, hs, hv, my⟩ := hy.open (addV_lt _ _ _ _)
    have Hy : Hid (Sl W8 ay ny cy ly) := hs
    have Ey : Hid (vl 4294967296 ly = addV s2 (vl 4294967296 l2) s3 (vl 4294967296 l3)) := hv
    clear hs hv hy
    generalize hsy : addS s2 (vl 4294967296 l2) s3 (vl 4294967296 l3) = sy at *
    have Fy : Hid (addS s2 (vl 4294967296 l2) s3 (vl 4294967296 l3) = sy) := hsy
    clear hsy
    generalize hey : addE s2 (vl 4294967296 l2) s3 (vl 4294967296 l3) = ey at *
    have Gy : Hid (addE s2 (vl 4294967296 l2) s3 (vl 4294967296 l3) = ey) := hey
    clear hey
    go_wp2_with fail
    generalize hW : (World.alloc W8 _) = W9
    obtain ⟨xn, hb, hz⟩ := boxes1 W8 (.bool sy) (.slice ay ny cy) 24 hW
    have Xy : Hid (Box W9 (W8.heap.size) (.bool sy) (.slice ay ny cy)) := xn
    clear hW xn hz
    clear p10 p11 t1 p20 p21 t2 p30 p31 t3 px0 px1 tx
    have X1 : Hid (Box W9 (w.heap.size) (.bool s1) (.slice a1 n1 c1)) := X1.out.below hb X1.out.lt
    have X2 : Hid (Box W9 (w.heap.size + 1) (.bool s2) (.slice a2 n2 c2)) := X2.out.below hb X2.out.lt
    have X3 : Hid (Box W9 (w.heap.size + 1 + 1) (.bool s3) (.slice a3 n3 c3)) := X3.out.below hb X3.out.lt
    have Xx : Hid (Box W9 (W6.heap.size) (.bool sx) (.slice ax nx cx)) := Xx.out.below hb Xx.out.lt
    have H1 : Hid (Sl W9 a1 n1 c1 l1) := H1.out.below hb (Nat.le_refl _)
    have H2 : Hid (Sl W9 a2 n2 c2 l2) := H2.out.below hb (Nat.le_refl _)
    have H3 : Hid (Sl W9 a3 n3 c3 l3) := H3.out.below hb (Nat.le_refl _)
    have Hx : Hid (Sl W9 ax nx cx lx) := Hx.out.below hb (Nat.le_refl _)
    have Hy : Hid (Sl W9 ay ny cy ly) := Hy.out.below hb (Nat.le_refl _)
    have HB : Hid (Below w.heap.size w W9) := HB.out.trans (hb.mono HB.out.size)
    clear hb
    have p10 := X1.out.z0
    have p11 := X1.out.z1
    have t1 := X1.out.lt
    have p20 := X2.out.z0
    have p21 := X2.out.z1
    have t2 := X2.out.lt
    have p30 := X3.out.z0
    have p31 := X3.out.z1
    have t3 := X3.out.lt
    have px0 := Xx.out.z0
    have px1 := Xx.out.z1
    have tx := Xx.out.lt
    have py0 := Xy.out.z0
    have py1 := Xy.out.z1
    have ty := Xy.out.lt
    go_wp2_with fail
    have oex : ex = 0 ∨ ex = 2 := by rw [← Gx.out]; exact addE_or _ _ _ _
    have oey : ey = 0 ∨ ey = 2 := by rw [← Gy.out]; exact addE_or _ _ _ _
    rcases oex with rfl | rfl
    · rcases oey with rfl | rfl
      · have HXY : Hid (cmpV sx (vl 4294967296 lx) sy (vl 4294967296 ly) = c12) := by
          show _ = _
          rw [cmpV_eq, Ex.out, Ey.out, ← Fx.out, ← Fy.out, addE_zero Gx.out, addE_zero Gy.out, cmpI_add, Cc12.out]
        have HAB : Hid (cmpV s1 (vl 4294967296 l1) s2 (vl 4294967296 l2) = c12) := by rw [cmpV_eq]; exact Cc12
        clear p10 p11 t1 p20 p21 t2 p30 p31 t3 px0 px1 tx py0 py1 ty
        have D1 : Hid (Box W9.drew (w.heap.size) (.bool s1) (.slice a1 n1 c1)) := X1.out.below (Below.refl _ _).drew X1.out.lt
        have D2 : Hid (Box W9.drew (w.heap.size + 1) (.bool s2) (.slice a2 n2 c2)) := X2.out.below (Below.refl _ _).drew X2.out.lt
        have Dx : Hid (Box W9.drew (W6.heap.size) (.bool sx) (.slice ax nx cx)) := Xx.out.below (Below.refl _ _).drew Xx.out.lt
        have Dy : Hid (Box W9.drew (W8.heap.size) (.bool sy) (.slice ay ny cy)) := Xy.out.below (Below.refl _ _).drew Xy.out.lt
        have J1 : Hid (Sl W9.drew a1 n1 c1 l1) := H1.out.below (Below.refl _ _).drew (Nat.le_refl _)
        have J2 : Hid (Sl W9.drew a2 n2 c2 l2) := H2.out.below (Below.refl _ _).drew (Nat.le_refl _)
        have Jx : Hid (Sl W9.drew ax nx cx lx) := Hx.out.below (Below.refl _ _).drew (Nat.le_refl _)
        have Jy : Hid (Sl W9.drew ay ny cy ly) := Hy.out.below (Below.refl _ _).drew (Nat.le_refl _)
        have HBD : Hid (Below w.heap.size w W9.drew) := HB.out.drew
        have kS : W9.drew.cell? ⟨w.heap.size, 0, none⟩ = some (.bool s1) ∧ W9.drew.cell? ⟨w.heap.size, 1, none⟩ = some (.slice a1 n1 c1) ∧ W9.drew.cell? ⟨w.heap.size + 1, 0, none⟩ = some (.bool s2) ∧ W9.drew.cell? ⟨w.heap.size + 1, 1, none⟩ = some (.slice a2 n2 c2) ∧ W9.drew.cell? ⟨W6.heap.size, 0, none⟩ = some (.bool sx) ∧ W9.drew.cell? ⟨W6.heap.size, 1, none⟩ = some (.slice ax nx cx) ∧ W9.drew.cell? ⟨W8.heap.size, 0, none⟩ = some (.bool sy) ∧ W9.drew.cell? ⟨W8.heap.size, 1, none⟩ = some (.slice ay ny cy) := ⟨D1.out.z0, D1.out.z1, D2.out.z0, D2.out.z1, Dx.out.z0, Dx.out.z1, Dy.out.z0, Dy.out.z1⟩
        go_region_held3 (fun w' => w'.cell? ⟨w.heap.size, 0, none⟩ = some (.bool s1) ∧ w'.cell? ⟨w.heap.size, 1, none⟩ = some (.slice a1 n1 c1) ∧ w'.cell? ⟨w.heap.size + 1, 0, none⟩ = some (.bool s2) ∧ w'.cell? ⟨w.heap.size + 1, 1, none⟩ = some (.slice a2 n2 c2) ∧ w'.cell? ⟨W6.heap.size, 0, none⟩ = some (.bool sx) ∧ w'.cell? ⟨W6.heap.size, 1, none⟩ = some (.slice ax nx cx) ∧ w'.cell? ⟨W8.heap.size, 0, none⟩ = some (.bool sy) ∧ w'.cell? ⟨W8.heap.size, 1, none⟩ = some (.slice ay ny cy))
          (exact kS)
          (first | (go_at_call_of 12 (Value.agg #[Value.bool sx, Value.slice ax nx cx]); refine (compare_any sx sy ax nx cx lx ay ny cy ly _ (by exact Jx.out) (by exact Jy.out) (by omega) (by omega)).mono ?_; rintro e V1 ⟨rfl, hb⟩; rw [HXY.out]; have D1 : Hid (Box V1 (w.heap.size) (.bool s1) (.slice a1 n1 c1)) := D1.out.below hb D1.out.lt; have D2 : Hid (Box V1 (w.heap.size + 1) (.bool s2) (.slice a2 n2 c2)) := D2.out.below hb D2.out.lt; have Dx : Hid (Box V1 (W6.heap.size) (.bool sx) (.slice ax nx cx)) := Dx.out.below hb Dx.out.lt; have Dy : Hid (Box V1 (W8.heap.size) (.bool sy) (.slice ay ny cy)) := Dy.out.below hb Dy.out.lt; have J1 : Hid (Sl V1 a1 n1 c1 l1) := J1.out.below hb (Nat.le_refl _); have J2 : Hid (Sl V1 a2 n2 c2 l2) := J2.out.below hb (Nat.le_refl _); have Jx : Hid (Sl V1 ax nx cx lx) := Jx.out.below hb (Nat.le_refl _); have Jy : Hid (Sl V1 ay ny cy ly) := Jy.out.below hb (Nat.le_refl _); have HBD : Hid (Below w.heap.size w V1) := HBD.out.trans (hb.mono HBD.out.size); clear kS; have kS : V1.cell? ⟨w.heap.size, 0, none⟩ = some (.bool s1) ∧ V1.cell? ⟨w.heap.size, 1, none⟩ = some (.slice a1 n1 c1) ∧ V1.cell? ⟨w.heap.size + 1, 0, none⟩ = some (.bool s2) ∧ V1.cell? ⟨w.heap.size + 1, 1, none⟩ = some (.slice a2 n2 c2) ∧ V1.cell? ⟨W6.heap.size, 0, none⟩ = some (.bool sx) ∧ V1.cell? ⟨W6.heap.size, 1, none⟩ = some (.slice ax nx cx) ∧ V1.cell? ⟨W8.heap.size, 0, none⟩ = some (.bool sy) ∧ V1.cell? ⟨W8.heap.size, 1, none⟩ = some (.slice ay ny cy) := ⟨D1.out.z0, D1.out.z1, D2.out.z0, D2.out.z1, Dx.out.z0, Dx.out.z1, Dy.out.z0, Dy.out.z1⟩; clear hb) | (go_at_call_of 12 (Value.agg #[Value.bool s1, Value.slice a1 n1 c1]); refine (compare_any s1 s2 a1 n1 c1 l1 a2 n2 c2 l2 _ (by exact J1.out) (by exact J2.out) (by omega) (by omega)).mono ?_; rintro e V2 ⟨rfl, hb⟩; rw [HAB.out]; have D1 : Hid (Box V2 (w.heap.size) (.bool s1) (.slice a1 n1 c1)) := D1.out.below hb D1.out.lt; have D2 : Hid (Box V2 (w.heap.size + 1) (.bool s2) (.slice a2 n2 c2)) := D2.out.below hb D2.out.lt; have Dx : Hid (Box V2 (W6.heap.size) (.bool sx) (.slice ax nx cx)) := Dx.out.below hb Dx.out.lt; have Dy : Hid (Box V2 (W8.heap.size) (.bool sy) (.slice ay ny cy)) := Dy.out.below hb Dy.out.lt; have J1 : Hid (Sl V2 a1 n1 c1 l1) := J1.out.below hb (Nat.le_refl _); have J2 : Hid (Sl V2 a2 n2 c2 l2) := J2.out.below hb (Nat.le_refl _); have Jx : Hid (Sl V2 ax nx cx lx) := Jx.out.below hb (Nat.le_refl _); have Jy : Hid (Sl V2 ay ny cy ly) := Jy.out.below hb (Nat.le_refl _); have HBD : Hid (Below w.heap.size w V2) := HBD.out.trans (hb.mono HBD.out.size); clear kS; have kS : V2.cell? ⟨w.heap.size, 0, none⟩ = some (.bool s1) ∧ V2.cell? ⟨w.heap.size, 1, none⟩ = some (.slice a1 n1 c1) ∧ V2.cell? ⟨w.heap.size + 1, 0, none⟩ = some (.bool s2) ∧ V2.cell? ⟨w.heap.size + 1, 1, none⟩ = some (.slice a2 n2 c2) ∧ V2.cell? ⟨W6.heap.size, 0, none⟩ = some (.bool sx) ∧ V2.cell? ⟨W6.heap.size, 1, none⟩ = some (.slice ax nx cx) ∧ V2.cell? ⟨W8.heap.size, 0, none⟩ = some (.bool sy) ∧ V2.cell? ⟨W8.heap.size, 1, none⟩ = some (.slice ay ny cy) := ⟨D1.out.z0, D1.out.z1, D2.out.z0, D2.out.z1, Dx.out.z0, Dx.out.z1, Dy.out.z0, Dy.out.z1⟩; clear hb) | (go_at_call 7; refine (awake_any _).mono ?_; rintro e V3 ⟨rfl, hb⟩; have D1 : Hid (Box V3 (w.heap.size) (.bool s1) (.slice a1 n1 c1)) := D1.out.below hb D1.out.lt; have D2 : Hid (Box V3 (w.heap.size + 1) (.bool s2) (.slice a2 n2 c2)) := D2.out.below hb D2.out.lt; have Dx : Hid (Box V3 (W6.heap.size) (.bool sx) (.slice ax nx cx)) := Dx.out.below hb Dx.out.lt; have Dy : Hid (Box V3 (W8.heap.size) (.bool sy) (.slice ay ny cy)) := Dy.out.below hb Dy.out.lt; have HBD : Hid (Below w.heap.size w V3) := HBD.out.trans (hb.mono HBD.out.size); clear kS; have kS : V3.cell? ⟨w.heap.size, 0, none⟩ = some (.bool s1) ∧ V3.cell? ⟨w.heap.size, 1, none⟩ = some (.slice a1 n1 c1) ∧ V3.cell? ⟨w.heap.size + 1, 0, none⟩ = some (.bool s2) ∧ V3.cell? ⟨w.heap.size + 1, 1, none⟩ = some (.slice a2 n2 c2) ∧ V3.cell? ⟨W6.heap.size, 0, none⟩ = some (.bool sx) ∧ V3.cell? ⟨W6.heap.size, 1, none⟩ = some (.slice ax nx cx) ∧ V3.cell? ⟨W8.heap.size, 0, none⟩ = some (.bool sy) ∧ V3.cell? ⟨W8.heap.size, 1, none⟩ = some (.slice ay ny cy) := ⟨D1.out.z0, D1.out.z1, D2.out.z0, D2.out.z1, Dx.out.z0, Dx.out.z1, Dy.out.z0, Dy.out.z1⟩; clear hb))
        all_goals
          go_wp2_with fail
          go_ret
          exact ⟨rfl, HBD.out⟩
      · clear p10 p11 t1 p20 p21 t2 p30 p31 t3 px0 px1 tx py0 py1 ty
        clear X1 X2 X3 Xx Xy H1 H2 H3 Hx Hy Ex Ey Fx Fy Gx Gy Cc12 mx my m1 m2 m3 q1 q2 q3 r1 r2 r3
        refine region_stW 16 (by kernel_rfl) (by kernel_rfl) ?_
        simp only [List.take_succ_cons, List.take_zero, List.drop_succ_cons, List.drop_zero]
        iterate 16 (refine stW_go (fun K hK => ?_); go_simp; refine hK.out _ ?_; clear hK K)
        refine stW_nil ?_
        go_wp2_with fail
        refine (awake_any _).mono ?_
        rintro e W10 ⟨rfl, hb⟩
        have HBV : Hid (Below w.heap.size w W10) := HB.out.drew.trans (hb.mono HB.out.size)
        clear hb
        go_wp2_with fail
        go_ret
        exact ⟨rfl, HBV.out⟩
    · clear p10 p11 t1 p20 p21 t2 p30 p31 t3 px0 px1 tx py0 py1 ty
      clear X1 X2 X3 Xx Xy H1 H2 H3 Hx Hy Ex Ey Fx Fy Gx Gy Cc12 mx my m1 m2 m3 q1 q2 q3 r1 r2 r3
      refine region_stW 16 (by kernel_rfl) (by kernel_rfl) ?_
      simp only [List.take_succ_cons, List.take_zero, List.drop_succ_cons, List.drop_zero]
      iterate 16 (refine stW_go (fun K hK => ?_); go_simp; refine hK.out _ ?_; clear hK K)
      refine stW_nil ?_
      go_wp2_with fail
      refine (awake_any _).mono ?_
      rintro e W10 ⟨rfl, hb⟩
      have HBV : Hid (Below w.heap.size w W10) := HB.out.drew.trans (hb.mono HB.out.size)
      clear hb
      go_wp2_with fail
      go_ret
      exact ⟨rfl, HBV.out⟩
theorem order_any (s1 s2 s3 : Bool) (a1 a2 a3 : Option Addr) (n1 n2 n3 c1 c2 c3 : Nat) (l1 l2 l3 : List Nat) (w : World) (h1 : Sl w a1 n1 c1 l1) (h2 : Sl w a2 n2 c2 l2) (h3 : Sl w a3 n3 c3 l3) :
    Calls Tryd.prog 5 #[.agg #[.bool s1, .slice a1 n1 c1], .agg #[.bool s2, .slice a2 n2 c2], .agg #[.bool s3, .slice a3 n3 c3]] w fun e w' => e = .returned (.bool true) ∧ Below w.heap.size w w' := by
  by_cases b1 : 40 < n1
  · exact order_out1 s1 s2 s3 a1 a2 a3 n1 n2 n3 c1 c2 c3 l1 l2 l3 w h1 h2 h3 b1
  by_cases b2 : 40 < n2
  · exact order_out2 s1 s2 s3 a1 a2 a3 n1 n2 n3 c1 c2 c3 l1 l2 l3 w h1 h2 h3 (by omega)
  by_cases b3 : 40 < n3
  · exact order_out3 s1 s2 s3 a1 a2 a3 n1 n2 n3 c1 c2 c3 l1 l2 l3 w h1 h2 h3 (by omega)
  exact order_in s1 s2 s3 a1 a2 a3 n1 n2 n3 c1 c2 c3 l1 l2 l3 w h1 h2 h3 (by omega) (by omega) (by omega)
end Go.Proofs.YtimjafgaadafdabDoor
