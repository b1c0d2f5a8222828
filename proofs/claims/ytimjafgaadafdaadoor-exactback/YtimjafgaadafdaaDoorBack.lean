/-
  ExactBack's law, walked: any two numbers.
-/
import Derived.Test.YtimjafgaadafdaaDoorBackA
namespace Go.Proofs.YtimjafgaadafdaaDoor
open Go.RowKit
attribute [local go_sem ↓] Go.wp_at_zero Go.wp_at_succ
set_option maxHeartbeats 4000000 in
theorem back_in (s1 s2 : Bool) (a1 a2 : Option Addr) (n1 n2 c1 c2 : Nat) (l1 l2 : List Nat) (w : World) (h1 : Sl w a1 n1 c1 l1) (h2 : Sl w a2 n2 c2 l2) (m1 : n1 ≤ 40) (m2 : n2 ≤ 40) :
    Calls Tryd.prog 8 #[.agg #[.bool s1, .slice a1 n1 c1], .agg #[.bool s2, .slice a2 n2 c2]] w fun e w' => e = .returned (.bool true) ∧ Below w.heap.size w w' := by
 have H1 : Hid (Sl w a1 n1 c1 l1) := h1
 have H2 : Hid (Sl w a2 n2 c2 l2) := h2
 have q1 := h1.mx
 have r1 := h1.lec
 have q2 := h2.mx
 have r2 := h2.lec
 clear h1 h2
 have HB : Hid (Below w.heap.size w w) := Below.refl _ _
 obtain ⟨vq, VQ⟩ : ∃ v, Hid (quoQ (vl 4294967296 l1) (vl 4294967296 l2) = v) := ⟨_, rfl⟩
 obtain ⟨vr, VR⟩ : ∃ v, Hid (quoR (vl 4294967296 l1) (vl 4294967296 l2) = v) := ⟨_, rfl⟩
 obtain ⟨eq, EQ⟩ : ∃ v, Hid (quoE (vl 4294967296 l1) (vl 4294967296 l2) = v) := ⟨_, rfl⟩
 obtain ⟨sq, SQ⟩ : ∃ v, Hid (sgB (s1 != s2) vq = v) := ⟨_, rfl⟩
 obtain ⟨sr, SR⟩ : ∃ v, Hid (sgB s1 vr = v) := ⟨_, rfl⟩
 have LQ : Hid (vq < 4294967296 ^ 40) := by rw [← VQ.out]; exact quoQ_lt _ _
 have LR : Hid (vr < 4294967296 ^ 40) := by rw [← VR.out]; exact quoR_lt _ _
 go_enter Tryd.func8, Tryd.ntmps8
 go_wp2_with fail
 generalize hW : (World.alloc _ _) = W1
 obtain ⟨x1, x2, hb, hz⟩ := boxes2 w (.bool s1) (.slice a1 n1 c1) (.bool s2) (.slice a2 n2 c2) 24 24 0 hW
 have X1 : Hid (Box W1 (w.heap.size) (.bool s1) (.slice a1 n1 c1)) := x1
 have X2 : Hid (Box W1 (w.heap.size + 1) (.bool s2) (.slice a2 n2 c2)) := x2
 clear hW x1 x2 hz
 have H1 : Hid (Sl W1 a1 n1 c1 l1) := H1.out.below hb (Nat.le_refl _)
 have H2 : Hid (Sl W1 a2 n2 c2 l2) := H2.out.below hb (Nat.le_refl _)
 have HB : Hid (Below w.heap.size w W1) := HB.out.trans (hb.mono HB.out.size)
 clear hb
 have p10 := X1.out.z0
 have p11 := X1.out.z1
 have t1 := X1.out.lt
 have p20 := X2.out.z0
 have p21 := X2.out.z1
 have t2 := X2.out.lt
 refine (in_any s1 a1 n1 c1 _ (by omega)).mono ?_
 rintro e W2 ⟨rfl, hb⟩
 rw [decide_eq_true (by omega)]
 clear p10 p11 t1 p20 p21 t2
 have X1 : Hid (Box W2 (w.heap.size) (.bool s1) (.slice a1 n1 c1)) := X1.out.below hb X1.out.lt
 have X2 : Hid (Box W2 (w.heap.size + 1) (.bool s2) (.slice a2 n2 c2)) := X2.out.below hb X2.out.lt
 have H1 : Hid (Sl W2 a1 n1 c1 l1) := H1.out.below hb (Nat.le_refl _)
 have H2 : Hid (Sl W2 a2 n2 c2 l2) := H2.out.below hb (Nat.le_refl _)
 have HB : Hid (Below w.heap.size w W2) := HB.out.trans (hb.mono HB.out.size)
 clear hb
 have p10 := X1.out.z0
 have p11 := X1.out.z1
 have t1 := X1.out.lt
 have p20 := X2.out.z0
 have p21 := X2.out.z1
 have t2 := X2.out.lt
 go_wp2_with fail
 refine (in_any s2 a2 n2 c2 _ (by omega)).mono ?_
 rintro e W3 ⟨rfl, hb⟩
 rw [decide_eq_true (by omega)]
 clear p10 p11 t1 p20 p21 t2
 have X1 : Hid (Box W3 (w.heap.size) (.bool s1) (.slice a1 n1 c1)) := X1.out.below hb X1.out.lt
 have X2 : Hid (Box W3 (w.heap.size + 1) (.bool s2) (.slice a2 n2 c2)) := X2.out.below hb X2.out.lt
 have H1 : Hid (Sl W3 a1 n1 c1 l1) := H1.out.below hb (Nat.le_refl _)
 have H2 : Hid (Sl W3 a2 n2 c2 l2) := H2.out.below hb (Nat.le_refl _)
 have HB : Hid (Below w.heap.size w W3) := HB.out.trans (hb.mono HB.out.size)
 clear hb
 have p10 := X1.out.z0
 have p11 := X1.out.z1
 have t1 := X1.out.lt
 have p20 := X2.out.z0
 have p21 := X2.out.z1
 have t2 := X2.out.lt
 go_wp2_with fail
 refine (quo_any s1 s2 a1 n1 c1 l1 a2 n2 c2 l2 _ H1.out H2.out (by omega) (by omega)).mono ?_
 rintro e W4 ⟨⟨v1, v2, rfl, hq, hr⟩, hb⟩
 rw [VQ.out, SQ.out] at hq
 rw [VR.out, SR.out] at hr
 rw [EQ.out]
 clear p10 p11 t1 p20 p21 t2
 have X1 : Hid (Box W4 (w.heap.size) (.bool s1) (.slice a1 n1 c1)) := X1.out.below hb X1.out.lt
 have X2 : Hid (Box W4 (w.heap.size + 1) (.bool s2) (.slice a2 n2 c2)) := X2.out.below hb X2.out.lt
 have H1 : Hid (Sl W4 a1 n1 c1 l1) := H1.out.below hb (Nat.le_refl _)
 have H2 : Hid (Sl W4 a2 n2 c2 l2) := H2.out.below hb (Nat.le_refl _)
 have HB : Hid (Below w.heap.size w W4) := HB.out.trans (hb.mono HB.out.size)
 clear hb
 have p10 := X1.out.z0
 have p11 := X1.out.z1
 have t1 := X1.out.lt
 have p20 := X2.out.z0
 have p21 := X2.out.z1
 have t2 := X2.out.lt
 obtain ⟨aq, nq, cq, lq, rfl, hs, hv, mq⟩ := hq.open LQ.out
 have Hq : Hid (Sl W4 aq nq cq lq) := hs
 have Eq : Hid (vl 4294967296 lq = vq) := hv
 clear hs hv hq
 obtain ⟨ar, nr, cr, lr, rfl, hs, hv, mr⟩ := hr.open LR.out
 have Hr : Hid (Sl W4 ar nr cr lr) := hs
 have Er : Hid (vl 4294967296 lr = vr) := hv
 clear hs hv hr
 by_cases e0 : eq = 0
 · subst e0
   go_wp2_with fail
   generalize hW : (World.alloc _ _) = W5
   obtain ⟨x1, x2, hb, hz⟩ := boxes2 W4 (.bool sq) (.slice aq nq cq) (.bool sr) (.slice ar nr cr) 24 24 0 hW
   have Xq : Hid (Box W5 (W4.heap.size) (.bool sq) (.slice aq nq cq)) := x1
   have Xr : Hid (Box W5 (W4.heap.size + 1) (.bool sr) (.slice ar nr cr)) := x2
   clear hW x1 x2 hz
   clear p10 p11 t1 p20 p21 t2
   have X1 : Hid (Box W5 (w.heap.size) (.bool s1) (.slice a1 n1 c1)) := X1.out.below hb X1.out.lt
   have X2 : Hid (Box W5 (w.heap.size + 1) (.bool s2) (.slice a2 n2 c2)) := X2.out.below hb X2.out.lt
   have H1 : Hid (Sl W5 a1 n1 c1 l1) := H1.out.below hb (Nat.le_refl _)
   have H2 : Hid (Sl W5 a2 n2 c2 l2) := H2.out.below hb (Nat.le_refl _)
   have Hq : Hid (Sl W5 aq nq cq lq) := Hq.out.below hb (Nat.le_refl _)
   have Hr : Hid (Sl W5 ar nr cr lr) := Hr.out.below hb (Nat.le_refl _)
   have HB : Hid (Below w.heap.size w W5) := HB.out.trans (hb.mono HB.out.size)
   clear hb
   have p10 := X1.out.z0
   have p11 := X1.out.z1
   have t1 := X1.out.lt
   have p20 := X2.out.z0
   have p21 := X2.out.z1
   have t2 := X2.out.lt
   have pq0 := Xq.out.z0
   have pq1 := Xq.out.z1
   have tq := Xq.out.lt
   have pr0 := Xr.out.z0
   have pr1 := Xr.out.z1
   have tr := Xr.out.lt
   obtain ⟨bN, bM, M0, q0, r0⟩ := back_open EQ.out
   have K0 : Hid (bigN (vl 4294967296 l1) = false) := bN
   have K1 : Hid (vl 4294967296 l2 ≠ 0) := M0
   have K2 : Hid (bigN (vl 4294967296 l2) = false) := bM
   clear bN bM M0 q0 r0
   obtain ⟨sp, SP⟩ : ∃ v, Hid (mulS sq vq s2 (vl 4294967296 l2) = v) := ⟨_, rfl⟩
   obtain ⟨vp, VP⟩ : ∃ v, Hid (mulV vq (vl 4294967296 l2) = v) := ⟨_, rfl⟩
   have EM : Hid (mulE vq (vl 4294967296 l2) = 0) := by show _ = _; rw [← VQ.out]; exact (back_mul EQ.out).1
   have AA : Hid (addE sp vp sr vr = 0 ∧ addV sp vp sr vr = vl 4294967296 l1 ∧ addS sp vp sr vr = sgB s1 (vl 4294967296 l1)) := by show _ ∧ _ ∧ _; rw [← SP.out, ← VP.out, ← SQ.out, ← SR.out, ← VQ.out, ← VR.out]; exact back_sum EQ.out s1 s2
   obtain ⟨ss, SS⟩ : ∃ v, Hid (sgB s1 (vl 4294967296 l1) = v) := ⟨_, rfl⟩
   refine (mul_any sq s2 aq nq cq lq a2 n2 c2 l2 _ Hq.out H2.out (by omega) (by omega)).mono ?_
   rintro e W6 ⟨⟨v, rfl, hp⟩, hb⟩
   rw [Eq.out, SP.out, VP.out] at hp
   rw [Eq.out, EM.out]
   clear p10 p11 t1 p20 p21 t2 pq0 pq1 tq pr0 pr1 tr
   have X1 : Hid (Box W6 (w.heap.size) (.bool s1) (.slice a1 n1 c1)) := X1.out.below hb X1.out.lt
   have X2 : Hid (Box W6 (w.heap.size + 1) (.bool s2) (.slice a2 n2 c2)) := X2.out.below hb X2.out.lt
   have Xq : Hid (Box W6 (W4.heap.size) (.bool sq) (.slice aq nq cq)) := Xq.out.below hb Xq.out.lt
   have Xr : Hid (Box W6 (W4.heap.size + 1) (.bool sr) (.slice ar nr cr)) := Xr.out.below hb Xr.out.lt
   have H1 : Hid (Sl W6 a1 n1 c1 l1) := H1.out.below hb (Nat.le_refl _)
   have H2 : Hid (Sl W6 a2 n2 c2 l2) := H2.out.below hb (Nat.le_refl _)
   have Hq : Hid (Sl W6 aq nq cq lq) := Hq.out.below hb (Nat.le_refl _)
   have Hr : Hid (Sl W6 ar nr cr lr) := Hr.out.below hb (Nat.le_refl _)
   have HB : Hid (Below w.heap.size w W6) := HB.out.trans (hb.mono HB.out.size)
   clear hb
   have p10 := X1.out.z0
   have p11 := X1.out.z1
   have t1 := X1.out.lt
   have p20 := X2.out.z0
   have p21 := X2.out.z1
   have t2 := X2.out.lt
   have pq0 := Xq.out.z0
   have pq1 := Xq.out.z1
   have tq := Xq.out.lt
   have pr0 := Xr.out.z0
   have pr1 := Xr.out.z1
   have tr := Xr.out.lt
   obtain ⟨ap, np, cp, lp, rfl, hs, hv, mp⟩ := hp.open (by rw [← VP.out]; exact mulV_lt _ _)
   have Hp : Hid (Sl W6 ap np cp lp) := hs
   have Ep : Hid (vl 4294967296 lp = vp) := hv
   clear hs hv hp
   go_wp2_with fail
   generalize hW : (World.alloc W6 _) = W7
   obtain ⟨xn, hb, hz⟩ := boxes1 W6 (.bool sp) (.slice ap np cp) 24 hW
   have Xp : Hid (Box W7 (W6.heap.size) (.bool sp) (.slice ap np cp)) := xn
   clear hW xn hz
   clear p10 p11 t1 p20 p21 t2 pq0 pq1 tq pr0 pr1 tr
   have X1 : Hid (Box W7 (w.heap.size) (.bool s1) (.slice a1 n1 c1)) := X1.out.below hb X1.out.lt
   have X2 : Hid (Box W7 (w.heap.size + 1) (.bool s2) (.slice a2 n2 c2)) := X2.out.below hb X2.out.lt
   have Xq : Hid (Box W7 (W4.heap.size) (.bool sq) (.slice aq nq cq)) := Xq.out.below hb Xq.out.lt
   have Xr : Hid (Box W7 (W4.heap.size + 1) (.bool sr) (.slice ar nr cr)) := Xr.out.below hb Xr.out.lt
   have H1 : Hid (Sl W7 a1 n1 c1 l1) := H1.out.below hb (Nat.le_refl _)
   have H2 : Hid (Sl W7 a2 n2 c2 l2) := H2.out.below hb (Nat.le_refl _)
   have Hq : Hid (Sl W7 aq nq cq lq) := Hq.out.below hb (Nat.le_refl _)
   have Hr : Hid (Sl W7 ar nr cr lr) := Hr.out.below hb (Nat.le_refl _)
   have Hp : Hid (Sl W7 ap np cp lp) := Hp.out.below hb (Nat.le_refl _)
   have HB : Hid (Below w.heap.size w W7) := HB.out.trans (hb.mono HB.out.size)
   clear hb
   have p10 := X1.out.z0
   have p11 := X1.out.z1
   have t1 := X1.out.lt
   have p20 := X2.out.z0
   have p21 := X2.out.z1
   have t2 := X2.out.lt
   have pq0 := Xq.out.z0
   have pq1 := Xq.out.z1
   have tq := Xq.out.lt
   have pr0 := Xr.out.z0
   have pr1 := Xr.out.z1
   have tr := Xr.out.lt
   have pp0 := Xp.out.z0
   have pp1 := Xp.out.z1
   have tp := Xp.out.lt
   go_wp2_with fail
   refine (add_any sp sr ap np cp lp ar nr cr lr _ Hp.out Hr.out (by omega) (by omega)).mono ?_
   rintro e W8 ⟨⟨v, rfl, hs0⟩, hb⟩
   rw [Ep.out, Er.out, AA.out.2.1, AA.out.2.2, SS.out] at hs0
   rw [Ep.out, Er.out, AA.out.1]
   clear p10 p11 t1 p20 p21 t2 pq0 pq1 tq pr0 pr1 tr pp0 pp1 tp
   have X1 : Hid (Box W8 (w.heap.size) (.bool s1) (.slice a1 n1 c1)) := X1.out.below hb X1.out.lt
   have X2 : Hid (Box W8 (w.heap.size + 1) (.bool s2) (.slice a2 n2 c2)) := X2.out.below hb X2.out.lt
   have Xq : Hid (Box W8 (W4.heap.size) (.bool sq) (.slice aq nq cq)) := Xq.out.below hb Xq.out.lt
   have Xr : Hid (Box W8 (W4.heap.size + 1) (.bool sr) (.slice ar nr cr)) := Xr.out.below hb Xr.out.lt
   have Xp : Hid (Box W8 (W6.heap.size) (.bool sp) (.slice ap np cp)) := Xp.out.below hb Xp.out.lt
   have H1 : Hid (Sl W8 a1 n1 c1 l1) := H1.out.below hb (Nat.le_refl _)
   have H2 : Hid (Sl W8 a2 n2 c2 l2) := H2.out.below hb (Nat.le_refl _)
   have Hq : Hid (Sl W8 aq nq cq lq) := Hq.out.below hb (Nat.le_refl _)
   have Hr : Hid (Sl W8 ar nr cr lr) := Hr.out.below hb (Nat.le_refl _)
   have Hp : Hid (Sl W8 ap np cp lp) := Hp.out.below hb (Nat.le_refl _)
   have HB : Hid (Below w.heap.size w W8) := HB.out.trans (hb.mono HB.out.size)
   clear hb
   have p10 := X1.out.z0
   have p11 := X1.out.z1
   have t1 := X1.out.lt
   have p20 := X2.out.z0
   have p21 := X2.out.z1
   have t2 := X2.out.lt
   have pq0 := Xq.out.z0
   have pq1 := Xq.out.z1
   have tq := Xq.out.lt
   have pr0 := Xr.out.z0
   have pr1 := Xr.out.z1
   have tr := Xr.out.lt
   have pp0 := Xp.out.z0
   have pp1 := Xp.out.z1
   have tp := Xp.out.lt
   obtain ⟨ay, ny, cy, ly, rfl, hs, hv, my⟩ := hs0.open (lim40 (bigN_lt K0.out))
   have Hy : Hid (Sl W8 ay ny cy ly) := hs
   have Ey : Hid (vl 4294967296 ly = vl 4294967296 l1) := hv
   clear hs hv hs0
   go_wp2_with fail
   generalize hW : (World.alloc W8 _) = W9
   obtain ⟨xn, hb, hz⟩ := boxes1 W8 (.bool ss) (.slice ay ny cy) 24 hW
   have Xy : Hid (Box W9 (W8.heap.size) (.bool ss) (.slice ay ny cy)) := xn
   clear hW xn hz
   clear p10 p11 t1 p20 p21 t2 pq0 pq1 tq pr0 pr1 tr pp0 pp1 tp
   have X1 : Hid (Box W9 (w.heap.size) (.bool s1) (.slice a1 n1 c1)) := X1.out.below hb X1.out.lt
   have X2 : Hid (Box W9 (w.heap.size + 1) (.bool s2) (.slice a2 n2 c2)) := X2.out.below hb X2.out.lt
   have Xq : Hid (Box W9 (W4.heap.size) (.bool sq) (.slice aq nq cq)) := Xq.out.below hb Xq.out.lt
   have Xr : Hid (Box W9 (W4.heap.size + 1) (.bool sr) (.slice ar nr cr)) := Xr.out.below hb Xr.out.lt
   have Xp : Hid (Box W9 (W6.heap.size) (.bool sp) (.slice ap np cp)) := Xp.out.below hb Xp.out.lt
   have H1 : Hid (Sl W9 a1 n1 c1 l1) := H1.out.below hb (Nat.le_refl _)
   have H2 : Hid (Sl W9 a2 n2 c2 l2) := H2.out.below hb (Nat.le_refl _)
   have Hq : Hid (Sl W9 aq nq cq lq) := Hq.out.below hb (Nat.le_refl _)
   have Hr : Hid (Sl W9 ar nr cr lr) := Hr.out.below hb (Nat.le_refl _)
   have Hp : Hid (Sl W9 ap np cp lp) := Hp.out.below hb (Nat.le_refl _)
   have Hy : Hid (Sl W9 ay ny cy ly) := Hy.out.below hb (Nat.le_refl _)
   have HB : Hid (Below w.heap.size w W9) := HB.out.trans (hb.mono HB.out.size)
   clear hb
   have p10 := X1.out.z0
   have p11 := X1.out.z1
   have t1 := X1.out.lt
   have p20 := X2.out.z0
   have p21 := X2.out.z1
   have t2 := X2.out.lt
   have pq0 := Xq.out.z0
   have pq1 := Xq.out.z1
   have tq := Xq.out.lt
   have pr0 := Xr.out.z0
   have pr1 := Xr.out.z1
   have tr := Xr.out.lt
   have pp0 := Xp.out.z0
   have pp1 := Xp.out.z1
   have tp := Xp.out.lt
   have py0 := Xy.out.z0
   have py1 := Xy.out.z1
   have ty := Xy.out.lt
   go_wp2_with fail
   refine (of_any 0 _ (by omega) (by omega)).mono ?_
   rintro e W10 ⟨x, rfl, hx, hb⟩
   obtain ⟨so, hso⟩ : ∃ so, sgB (decide ((0:Int) < 0)) (0:Int).natAbs = so := ⟨_, rfl⟩
   rw [hso] at hx
   clear hso
   clear p10 p11 t1 p20 p21 t2 pq0 pq1 tq pr0 pr1 tr pp0 pp1 tp py0 py1 ty
   have X1 : Hid (Box W10 (w.heap.size) (.bool s1) (.slice a1 n1 c1)) := X1.out.below hb X1.out.lt
   have X2 : Hid (Box W10 (w.heap.size + 1) (.bool s2) (.slice a2 n2 c2)) := X2.out.below hb X2.out.lt
   have Xq : Hid (Box W10 (W4.heap.size) (.bool sq) (.slice aq nq cq)) := Xq.out.below hb Xq.out.lt
   have Xr : Hid (Box W10 (W4.heap.size + 1) (.bool sr) (.slice ar nr cr)) := Xr.out.below hb Xr.out.lt
   have Xp : Hid (Box W10 (W6.heap.size) (.bool sp) (.slice ap np cp)) := Xp.out.below hb Xp.out.lt
   have Xy : Hid (Box W10 (W8.heap.size) (.bool ss) (.slice ay ny cy)) := Xy.out.below hb Xy.out.lt
   have H1 : Hid (Sl W10 a1 n1 c1 l1) := H1.out.below hb (Nat.le_refl _)
   have H2 : Hid (Sl W10 a2 n2 c2 l2) := H2.out.below hb (Nat.le_refl _)
   have Hq : Hid (Sl W10 aq nq cq lq) := Hq.out.below hb (Nat.le_refl _)
   have Hr : Hid (Sl W10 ar nr cr lr) := Hr.out.below hb (Nat.le_refl _)
   have Hp : Hid (Sl W10 ap np cp lp) := Hp.out.below hb (Nat.le_refl _)
   have Hy : Hid (Sl W10 ay ny cy ly) := Hy.out.below hb (Nat.le_refl _)
   have HB : Hid (Below w.heap.size w W10) := HB.out.trans (hb.mono HB.out.size)
   clear hb
   have p10 := X1.out.z0
   have p11 := X1.out.z1
   have t1 := X1.out.lt
   have p20 := X2.out.z0
   have p21 := X2.out.z1
   have t2 := X2.out.lt
   have pq0 := Xq.out.z0
   have pq1 := Xq.out.z1
   have tq := Xq.out.lt
   have pr0 := Xr.out.z0
   have pr1 := Xr.out.z1
   have tr := Xr.out.lt
   have pp0 := Xp.out.z0
   have pp1 := Xp.out.z1
   have tp := Xp.out.lt
   have py0 := Xy.out.z0
   have py1 := Xy.out.z1
   have ty := Xy.out.lt
   obtain ⟨ao, no, co, lo, rfl, hs, hv, mo⟩ := hx.open (by decide +kernel)
   have Ho : Hid (Sl W10 ao no co lo) := hs
   have Eo : Hid (vl 4294967296 lo = 0) := hv
   clear hs hv hx
   have BT : Hid (Below W10.heap.size W10 W10) := Below.refl _ _
   have T1 := H1
   have T2 := H2
   have Tq := Hq
   have Tr := Hr
   have Tp := Hp
   have Ty := Hy
   have To := Ho
   have U1 : Hid (w.heap.size < W10.heap.size) := X1.out.lt
   have U2 : Hid (w.heap.size + 1 < W10.heap.size) := X2.out.lt
   have Uq : Hid (W4.heap.size < W10.heap.size) := Xq.out.lt
   have Ur : Hid (W4.heap.size + 1 < W10.heap.size) := Xr.out.lt
   have Up : Hid (W6.heap.size < W10.heap.size) := Xp.out.lt
   have Uy : Hid (W8.heap.size < W10.heap.size) := Xy.out.lt
   go_wp2_with fail
   generalize hW : (World.alloc _ _) = W11
   obtain ⟨x1, x2, hb, hz⟩ := boxes2 W10 (.bool so) (.slice ao no co) (.bool s2) (.slice a2 n2 c2) 24 24 0 hW
   have Xo : Hid (Box W11 (W10.heap.size) (.bool so) (.slice ao no co)) := x1
   have Xt : Hid (Box W11 (W10.heap.size + 1) (.bool s2) (.slice a2 n2 c2)) := x2
   clear hW x1 x2 hz
   have BT : Hid (Below W10.heap.size W10 W11) := BT.out.trans (hb.mono BT.out.size)
   clear p10 p11 t1 p20 p21 t2 pq0 pq1 tq pr0 pr1 tr pp0 pp1 tp py0 py1 ty
   have X1 : Hid (Box W11 (w.heap.size) (.bool s1) (.slice a1 n1 c1)) := X1.out.below hb X1.out.lt
   have X2 : Hid (Box W11 (w.heap.size + 1) (.bool s2) (.slice a2 n2 c2)) := X2.out.below hb X2.out.lt
   have Xq : Hid (Box W11 (W4.heap.size) (.bool sq) (.slice aq nq cq)) := Xq.out.below hb Xq.out.lt
   have Xr : Hid (Box W11 (W4.heap.size + 1) (.bool sr) (.slice ar nr cr)) := Xr.out.below hb Xr.out.lt
   have Xp : Hid (Box W11 (W6.heap.size) (.bool sp) (.slice ap np cp)) := Xp.out.below hb Xp.out.lt
   have Xy : Hid (Box W11 (W8.heap.size) (.bool ss) (.slice ay ny cy)) := Xy.out.below hb Xy.out.lt
   have H1 : Hid (Sl W11 a1 n1 c1 l1) := H1.out.below hb (Nat.le_refl _)
   have H2 : Hid (Sl W11 a2 n2 c2 l2) := H2.out.below hb (Nat.le_refl _)
   have Hq : Hid (Sl W11 aq nq cq lq) := Hq.out.below hb (Nat.le_refl _)
   have Hr : Hid (Sl W11 ar nr cr lr) := Hr.out.below hb (Nat.le_refl _)
   have Hp : Hid (Sl W11 ap np cp lp) := Hp.out.below hb (Nat.le_refl _)
   have Hy : Hid (Sl W11 ay ny cy ly) := Hy.out.below hb (Nat.le_refl _)
   have Ho : Hid (Sl W11 ao no co lo) := Ho.out.below hb (Nat.le_refl _)
   have HB : Hid (Below w.heap.size w W11) := HB.out.trans (hb.mono HB.out.size)
   clear hb
   have p10 := X1.out.z0
   have p11 := X1.out.z1
   have t1 := X1.out.lt
   have p20 := X2.out.z0
   have p21 := X2.out.z1
   have t2 := X2.out.lt
   have pq0 := Xq.out.z0
   have pq1 := Xq.out.z1
   have tq := Xq.out.lt
   have pr0 := Xr.out.z0
   have pr1 := Xr.out.z1
   have tr := Xr.out.lt
   have pp0 := Xp.out.z0
   have pp1 := Xp.out.z1
   have tp := Xp.out.lt
   have py0 := Xy.out.z0
   have py1 := Xy.out.z1
   have ty := Xy.out.lt
   have po0 := Xo.out.z0
   have po1 := Xo.out.z1
   have to := Xo.out.lt
   have pt0 := Xt.out.z0
   have pt1 := Xt.out.z1
   have tt := Xt.out.lt
   obtain ⟨kb, KB⟩ : ∃ k, Hid (cmpV s2 (vl 4294967296 l2) so (vl 4294967296 lo) = k) := ⟨_, rfl⟩
   have okb : (kb = -1 ∧ s2 = true) ∨ (kb = 1 ∧ s2 = false) := by
     rw [← KB.out, cmpV_eq, Eo.out, zi_zero]
     have := K1.out
     cases s2
     · right; exact ⟨cmpI_gt (by simp [zi]; omega), rfl⟩
     · left; exact ⟨cmpI_lt (by simp [zi]; omega), rfl⟩
   refine (compare_any s2 so a2 n2 c2 l2 ao no co lo _ H2.out Ho.out (by omega) (by omega)).mono ?_
   rintro e W12 ⟨rfl, hb⟩
   rw [KB.out]
   have BT : Hid (Below W10.heap.size W10 W12) := BT.out.trans (hb.mono BT.out.size)
   clear p10 p11 t1 p20 p21 t2 pq0 pq1 tq pr0 pr1 tr pp0 pp1 tp py0 py1 ty po0 po1 to pt0 pt1 tt
   have X1 : Hid (Box W12 (w.heap.size) (.bool s1) (.slice a1 n1 c1)) := X1.out.below hb X1.out.lt
   have X2 : Hid (Box W12 (w.heap.size + 1) (.bool s2) (.slice a2 n2 c2)) := X2.out.below hb X2.out.lt
   have Xq : Hid (Box W12 (W4.heap.size) (.bool sq) (.slice aq nq cq)) := Xq.out.below hb Xq.out.lt
   have Xr : Hid (Box W12 (W4.heap.size + 1) (.bool sr) (.slice ar nr cr)) := Xr.out.below hb Xr.out.lt
   have Xp : Hid (Box W12 (W6.heap.size) (.bool sp) (.slice ap np cp)) := Xp.out.below hb Xp.out.lt
   have Xy : Hid (Box W12 (W8.heap.size) (.bool ss) (.slice ay ny cy)) := Xy.out.below hb Xy.out.lt
   have Xo : Hid (Box W12 (W10.heap.size) (.bool so) (.slice ao no co)) := Xo.out.below hb Xo.out.lt
   have Xt : Hid (Box W12 (W10.heap.size + 1) (.bool s2) (.slice a2 n2 c2)) := Xt.out.below hb Xt.out.lt
   have H1 : Hid (Sl W12 a1 n1 c1 l1) := H1.out.below hb (Nat.le_refl _)
   have H2 : Hid (Sl W12 a2 n2 c2 l2) := H2.out.below hb (Nat.le_refl _)
   have Hq : Hid (Sl W12 aq nq cq lq) := Hq.out.below hb (Nat.le_refl _)
   have Hr : Hid (Sl W12 ar nr cr lr) := Hr.out.below hb (Nat.le_refl _)
   have Hp : Hid (Sl W12 ap np cp lp) := Hp.out.below hb (Nat.le_refl _)
   have Hy : Hid (Sl W12 ay ny cy ly) := Hy.out.below hb (Nat.le_refl _)
   have Ho : Hid (Sl W12 ao no co lo) := Ho.out.below hb (Nat.le_refl _)
   have HB : Hid (Below w.heap.size w W12) := HB.out.trans (hb.mono HB.out.size)
   clear hb
   have p10 := X1.out.z0
   have p11 := X1.out.z1
   have t1 := X1.out.lt
   have p20 := X2.out.z0
   have p21 := X2.out.z1
   have t2 := X2.out.lt
   have pq0 := Xq.out.z0
   have pq1 := Xq.out.z1
   have tq := Xq.out.lt
   have pr0 := Xr.out.z0
   have pr1 := Xr.out.z1
   have tr := Xr.out.lt
   have pp0 := Xp.out.z0
   have pp1 := Xp.out.z1
   have tp := Xp.out.lt
   have py0 := Xy.out.z0
   have py1 := Xy.out.z1
   have ty := Xy.out.lt
   have po0 := Xo.out.z0
   have po1 := Xo.out.z1
   have to := Xo.out.lt
   have pt0 := Xt.out.z0
   have pt1 := Xt.out.z1
   have tt := Xt.out.lt
   rcases okb with ⟨rfl, z2⟩ | ⟨rfl, z2⟩
   · have Z2 : Hid (s2 = true) := z2
     clear z2
     obtain ⟨kr, KR⟩ : ∃ k, Hid (cmpV sr (vl 4294967296 lr) so (vl 4294967296 lo) = k) := ⟨_, rfl⟩
     have okr : (kr = -1 ∧ sr = true ∧ vr ≠ 0) ∨ (kr = 0 ∧ vr = 0) ∨ (kr = 1 ∧ sr = false ∧ vr ≠ 0) := by
       rw [← KR.out, cmpV_eq, Eo.out, Er.out, zi_zero]
       by_cases hz : vr = 0
       · subst hz; right; left; exact ⟨by rw [zi_zero]; rfl, rfl⟩
       cases sr
       · right; right; exact ⟨cmpI_gt (by simp [zi]; omega), rfl, hz⟩
       · left; exact ⟨cmpI_lt (by simp [zi]; omega), rfl, hz⟩
     have EZ : Hid (0 = 0) := rfl
     have Uo : Hid (W10.heap.size < W10.heap.size + 1) := Nat.lt_succ_self _
     go_wp2_with fail
     obtain ⟨sf, SF⟩ : ∃ v, Hid (sgB (!s2) (vl 4294967296 l2) = v) := ⟨_, rfl⟩
     have Gf : Hid (W10.heap.size + 1 < W12.heap.size) := Xt.out.lt
     refine (neg_any s2 a2 n2 c2 l2 _ H2.out (by omega)).mono ?_
     rintro e W13 ⟨v, rfl, hf0, hb⟩
     rw [SF.out] at hf0
     have BT : Hid (Below W10.heap.size W10 W13) := BT.out.trans (hb.mono BT.out.size)
     clear p10 p11 t1 p20 p21 t2 pq0 pq1 tq pr0 pr1 tr pp0 pp1 tp py0 py1 ty po0 po1 to pt0 pt1 tt
     have X1 : Hid (Box W13 (w.heap.size) (.bool s1) (.slice a1 n1 c1)) := X1.out.below hb X1.out.lt
     have X2 : Hid (Box W13 (w.heap.size + 1) (.bool s2) (.slice a2 n2 c2)) := X2.out.below hb X2.out.lt
     have Xq : Hid (Box W13 (W4.heap.size) (.bool sq) (.slice aq nq cq)) := Xq.out.below hb Xq.out.lt
     have Xr : Hid (Box W13 (W4.heap.size + 1) (.bool sr) (.slice ar nr cr)) := Xr.out.below hb Xr.out.lt
     have Xp : Hid (Box W13 (W6.heap.size) (.bool sp) (.slice ap np cp)) := Xp.out.below hb Xp.out.lt
     have Xy : Hid (Box W13 (W8.heap.size) (.bool ss) (.slice ay ny cy)) := Xy.out.below hb Xy.out.lt
     have Xo : Hid (Box W13 (W10.heap.size) (.bool so) (.slice ao no co)) := Xo.out.below hb Xo.out.lt
     have Xt : Hid (Box W13 (W10.heap.size + 1) (.bool s2) (.slice a2 n2 c2)) := Xt.out.below hb Xt.out.lt
     have H1 : Hid (Sl W13 a1 n1 c1 l1) := H1.out.below hb (Nat.le_refl _)
     have H2 : Hid (Sl W13 a2 n2 c2 l2) := H2.out.below hb (Nat.le_refl _)
     have Hq : Hid (Sl W13 aq nq cq lq) := Hq.out.below hb (Nat.le_refl _)
     have Hr : Hid (Sl W13 ar nr cr lr) := Hr.out.below hb (Nat.le_refl _)
     have Hp : Hid (Sl W13 ap np cp lp) := Hp.out.below hb (Nat.le_refl _)
     have Hy : Hid (Sl W13 ay ny cy ly) := Hy.out.below hb (Nat.le_refl _)
     have Ho : Hid (Sl W13 ao no co lo) := Ho.out.below hb (Nat.le_refl _)
     have HB : Hid (Below w.heap.size w W13) := HB.out.trans (hb.mono HB.out.size)
     clear hb
     have p10 := X1.out.z0
     have p11 := X1.out.z1
     have t1 := X1.out.lt
     have p20 := X2.out.z0
     have p21 := X2.out.z1
     have t2 := X2.out.lt
     have pq0 := Xq.out.z0
     have pq1 := Xq.out.z1
     have tq := Xq.out.lt
     have pr0 := Xr.out.z0
     have pr1 := Xr.out.z1
     have tr := Xr.out.lt
     have pp0 := Xp.out.z0
     have pp1 := Xp.out.z1
     have tp := Xp.out.lt
     have py0 := Xy.out.z0
     have py1 := Xy.out.z1
     have ty := Xy.out.lt
     have po0 := Xo.out.z0
     have po1 := Xo.out.z1
     have to := Xo.out.lt
     have pt0 := Xt.out.z0
     have pt1 := Xt.out.z1
     have tt := Xt.out.lt
     obtain ⟨af, nf, cf, l0, rfl, _, _, mf⟩ := hf0.open (lim40 (bigN_lt K2.out))
     have If : Hid (IntR W13 W12.heap.size (.agg #[.bool sf, .slice af nf cf]) sf (vl 4294967296 l2)) := hf0
     clear hf0
     have zf0 := Xt.out.f0
     have zf1 := Xt.out.f1
     have ur := Ur.out
     have dr1 : ¬ W10.heap.size = W4.heap.size := by omega
     have dr2 : ¬ W4.heap.size = W10.heap.size := by omega
     clear ur
     go_wp2_with fail
     clear zf0 zf1
     generalize hV : ((W13.setCell ⟨W10.heap.size + 1, 0, none⟩ (.bool sf)).setCell ⟨W10.heap.size + 1, 1, none⟩ (.slice af nf cf)) = W14
     obtain ⟨xt, d3, d4, d5, d6⟩ := set_only hV Xt.out
     clear hV
     have EN : Hid (W14.heap.size = W13.heap.size) := d6
     clear d6
     clear p10 p11 t1 p20 p21 t2 pq0 pq1 tq pr0 pr1 tr pp0 pp1 tp py0 py1 ty po0 po1 to pt0 pt1 tt
     have X1 : Hid (Box W14 (w.heap.size) (.bool s1) (.slice a1 n1 c1)) := d3 _ _ _ (by have := U1.out; have := EZ.out; omega) X1.out
     have X2 : Hid (Box W14 (w.heap.size + 1) (.bool s2) (.slice a2 n2 c2)) := d3 _ _ _ (by have := U2.out; have := EZ.out; omega) X2.out
     have Xq : Hid (Box W14 (W4.heap.size) (.bool sq) (.slice aq nq cq)) := d3 _ _ _ (by have := Uq.out; have := EZ.out; omega) Xq.out
     have Xr : Hid (Box W14 (W4.heap.size + 1) (.bool sr) (.slice ar nr cr)) := d3 _ _ _ (by have := Ur.out; have := EZ.out; omega) Xr.out
     have Xp : Hid (Box W14 (W6.heap.size) (.bool sp) (.slice ap np cp)) := d3 _ _ _ (by have := Up.out; have := EZ.out; omega) Xp.out
     have Xy : Hid (Box W14 (W8.heap.size) (.bool ss) (.slice ay ny cy)) := d3 _ _ _ (by have := Uy.out; have := EZ.out; omega) Xy.out
     have Xo : Hid (Box W14 (W10.heap.size) (.bool so) (.slice ao no co)) := d3 _ _ _ (by have := Uo.out; have := EZ.out; omega) Xo.out
     have Xt : Hid (Box W14 (W10.heap.size + 1) (.bool sf) (.slice af nf cf)) := xt
     have BT : Hid (Below W10.heap.size W10 W14) := d4 _ _ BT.out (by have := EZ.out; omega)
     have H1 : Hid (Sl W14 a1 n1 c1 l1) := T1.out.below BT.out (Nat.le_refl _)
     have H2 : Hid (Sl W14 a2 n2 c2 l2) := T2.out.below BT.out (Nat.le_refl _)
     have Hq : Hid (Sl W14 aq nq cq lq) := Tq.out.below BT.out (Nat.le_refl _)
     have Hr : Hid (Sl W14 ar nr cr lr) := Tr.out.below BT.out (Nat.le_refl _)
     have Hp : Hid (Sl W14 ap np cp lp) := Tp.out.below BT.out (Nat.le_refl _)
     have Hy : Hid (Sl W14 ay ny cy ly) := Ty.out.below BT.out (Nat.le_refl _)
     have Ho : Hid (Sl W14 ao no co lo) := To.out.below BT.out (Nat.le_refl _)
     have HB : Hid (Below w.heap.size w W14) := d4 _ _ HB.out (by have := U1.out; have := EZ.out; omega)
     have If : Hid (IntR W14 W12.heap.size (.agg #[.bool sf, .slice af nf cf]) sf (vl 4294967296 l2)) := d5 _ _ _ _ If.out (by have := Gf.out; have := EZ.out; omega)
     clear xt d3 d4 d5
     obtain ⟨lf, hs, hv⟩ := If.out.sl
     have Hf : Hid (Sl W14 af nf cf lf) := hs
     have Ef : Hid (vl 4294967296 lf = _) := hv
     clear hs hv
     have p10 := X1.out.z0
     have p11 := X1.out.z1
     have t1 := X1.out.lt
     have p20 := X2.out.z0
     have p21 := X2.out.z1
     have t2 := X2.out.lt
     have pq0 := Xq.out.z0
     have pq1 := Xq.out.z1
     have tq := Xq.out.lt
     have pr0 := Xr.out.z0
     have pr1 := Xr.out.z1
     have tr := Xr.out.lt
     have pp0 := Xp.out.z0
     have pp1 := Xp.out.z1
     have tp := Xp.out.lt
     have py0 := Xy.out.z0
     have py1 := Xy.out.z1
     have ty := Xy.out.lt
     have po0 := Xo.out.z0
     have po1 := Xo.out.z1
     have to := Xo.out.lt
     have pt0 := Xt.out.z0
     have pt1 := Xt.out.z1
     have tt := Xt.out.lt
     clear BT
     have BT : Hid (Below W14.heap.size W14 W14) := Below.refl _ _
     have T1 := H1
     have T2 := H2
     have Tq := Hq
     have Tr := Hr
     have Tp := Hp
     have Ty := Hy
     have To := Ho
     have Tf := Hf
     have U1 : Hid (w.heap.size < W14.heap.size) := X1.out.lt
     have U2 : Hid (w.heap.size + 1 < W14.heap.size) := X2.out.lt
     have Uq : Hid (W4.heap.size < W14.heap.size) := Xq.out.lt
     have Ur : Hid (W4.heap.size + 1 < W14.heap.size) := Xr.out.lt
     have Up : Hid (W6.heap.size < W14.heap.size) := Xp.out.lt
     have Uy : Hid (W8.heap.size < W14.heap.size) := Xy.out.lt
     have Uo : Hid (W10.heap.size < W14.heap.size) := Xo.out.lt
     have Ut : Hid (W10.heap.size + 1 < W14.heap.size) := Xt.out.lt
     have EZ := EN
     generalize hW : (World.alloc W14 _) = W15
     obtain ⟨xn, hb, hz⟩ := boxes1 W14 (.bool sr) (.slice ar nr cr) 24 hW
     have Xz : Hid (Box W15 (W14.heap.size) (.bool sr) (.slice ar nr cr)) := xn
     clear hW xn hz
     have BT : Hid (Below W14.heap.size W14 W15) := BT.out.trans (hb.mono BT.out.size)
     clear p10 p11 t1 p20 p21 t2 pq0 pq1 tq pr0 pr1 tr pp0 pp1 tp py0 py1 ty po0 po1 to pt0 pt1 tt
     have X1 : Hid (Box W15 (w.heap.size) (.bool s1) (.slice a1 n1 c1)) := X1.out.below hb X1.out.lt
     have X2 : Hid (Box W15 (w.heap.size + 1) (.bool s2) (.slice a2 n2 c2)) := X2.out.below hb X2.out.lt
     have Xq : Hid (Box W15 (W4.heap.size) (.bool sq) (.slice aq nq cq)) := Xq.out.below hb Xq.out.lt
     have Xr : Hid (Box W15 (W4.heap.size + 1) (.bool sr) (.slice ar nr cr)) := Xr.out.below hb Xr.out.lt
     have Xp : Hid (Box W15 (W6.heap.size) (.bool sp) (.slice ap np cp)) := Xp.out.below hb Xp.out.lt
     have Xy : Hid (Box W15 (W8.heap.size) (.bool ss) (.slice ay ny cy)) := Xy.out.below hb Xy.out.lt
     have Xo : Hid (Box W15 (W10.heap.size) (.bool so) (.slice ao no co)) := Xo.out.below hb Xo.out.lt
     have Xt : Hid (Box W15 (W10.heap.size + 1) (.bool sf) (.slice af nf cf)) := Xt.out.below hb Xt.out.lt
     have H1 : Hid (Sl W15 a1 n1 c1 l1) := H1.out.below hb (Nat.le_refl _)
     have H2 : Hid (Sl W15 a2 n2 c2 l2) := H2.out.below hb (Nat.le_refl _)
     have Hq : Hid (Sl W15 aq nq cq lq) := Hq.out.below hb (Nat.le_refl _)
     have Hr : Hid (Sl W15 ar nr cr lr) := Hr.out.below hb (Nat.le_refl _)
     have Hp : Hid (Sl W15 ap np cp lp) := Hp.out.below hb (Nat.le_refl _)
     have Hy : Hid (Sl W15 ay ny cy ly) := Hy.out.below hb (Nat.le_refl _)
     have Ho : Hid (Sl W15 ao no co lo) := Ho.out.below hb (Nat.le_refl _)
     have Hf : Hid (Sl W15 af nf cf lf) := Hf.out.below hb (Nat.le_refl _)
     have HB : Hid (Below w.heap.size w W15) := HB.out.trans (hb.mono HB.out.size)
     clear hb
     have p10 := X1.out.z0
     have p11 := X1.out.z1
     have t1 := X1.out.lt
     have p20 := X2.out.z0
     have p21 := X2.out.z1
     have t2 := X2.out.lt
     have pq0 := Xq.out.z0
     have pq1 := Xq.out.z1
     have tq := Xq.out.lt
     have pr0 := Xr.out.z0
     have pr1 := Xr.out.z1
     have tr := Xr.out.lt
     have pp0 := Xp.out.z0
     have pp1 := Xp.out.z1
     have tp := Xp.out.lt
     have py0 := Xy.out.z0
     have py1 := Xy.out.z1
     have ty := Xy.out.lt
     have po0 := Xo.out.z0
     have po1 := Xo.out.z1
     have to := Xo.out.lt
     have pt0 := Xt.out.z0
     have pt1 := Xt.out.z1
     have tt := Xt.out.lt
     have pz0 := Xz.out.z0
     have pz1 := Xz.out.z1
     have tz := Xz.out.lt
     go_wp2_with fail
     clear p10 p11 t1 p20 p21 t2 pq0 pq1 tq pr0 pr1 tr pp0 pp1 tp py0 py1 ty po0 po1 to pt0 pt1 tt pz0 pz1 tz
     have Xz : Hid (Box W15 (W13.heap.size) (.bool sr) (.slice ar nr cr)) := by have h := Xz.out; rw [EZ.out] at h; exact h
     have p10 := X1.out.z0
     have p11 := X1.out.z1
     have t1 := X1.out.lt
     have p20 := X2.out.z0
     have p21 := X2.out.z1
     have t2 := X2.out.lt
     have pq0 := Xq.out.z0
     have pq1 := Xq.out.z1
     have tq := Xq.out.lt
     have pr0 := Xr.out.z0
     have pr1 := Xr.out.z1
     have tr := Xr.out.lt
     have pp0 := Xp.out.z0
     have pp1 := Xp.out.z1
     have tp := Xp.out.lt
     have py0 := Xy.out.z0
     have py1 := Xy.out.z1
     have ty := Xy.out.lt
     have po0 := Xo.out.z0
     have po1 := Xo.out.z1
     have to := Xo.out.lt
     have pt0 := Xt.out.z0
     have pt1 := Xt.out.z1
     have tt := Xt.out.lt
     have pz0 := Xz.out.z0
     have pz1 := Xz.out.z1
     have tz := Xz.out.lt
     refine (compare_any sr so ar nr cr lr ao no co lo _ Hr.out Ho.out (by omega) (by omega)).mono ?_
     rintro e W16 ⟨rfl, hb⟩
     rw [KR.out]
     have BT : Hid (Below W14.heap.size W14 W16) := BT.out.trans (hb.mono BT.out.size)
     clear p10 p11 t1 p20 p21 t2 pq0 pq1 tq pr0 pr1 tr pp0 pp1 tp py0 py1 ty po0 po1 to pt0 pt1 tt pz0 pz1 tz
     have X1 : Hid (Box W16 (w.heap.size) (.bool s1) (.slice a1 n1 c1)) := X1.out.below hb X1.out.lt
     have X2 : Hid (Box W16 (w.heap.size + 1) (.bool s2) (.slice a2 n2 c2)) := X2.out.below hb X2.out.lt
     have Xq : Hid (Box W16 (W4.heap.size) (.bool sq) (.slice aq nq cq)) := Xq.out.below hb Xq.out.lt
     have Xr : Hid (Box W16 (W4.heap.size + 1) (.bool sr) (.slice ar nr cr)) := Xr.out.below hb Xr.out.lt
     have Xp : Hid (Box W16 (W6.heap.size) (.bool sp) (.slice ap np cp)) := Xp.out.below hb Xp.out.lt
     have Xy : Hid (Box W16 (W8.heap.size) (.bool ss) (.slice ay ny cy)) := Xy.out.below hb Xy.out.lt
     have Xo : Hid (Box W16 (W10.heap.size) (.bool so) (.slice ao no co)) := Xo.out.below hb Xo.out.lt
     have Xt : Hid (Box W16 (W10.heap.size + 1) (.bool sf) (.slice af nf cf)) := Xt.out.below hb Xt.out.lt
     have Xz : Hid (Box W16 (W13.heap.size) (.bool sr) (.slice ar nr cr)) := Xz.out.below hb Xz.out.lt
     have H1 : Hid (Sl W16 a1 n1 c1 l1) := H1.out.below hb (Nat.le_refl _)
     have H2 : Hid (Sl W16 a2 n2 c2 l2) := H2.out.below hb (Nat.le_refl _)
     have Hq : Hid (Sl W16 aq nq cq lq) := Hq.out.below hb (Nat.le_refl _)
     have Hr : Hid (Sl W16 ar nr cr lr) := Hr.out.below hb (Nat.le_refl _)
     have Hp : Hid (Sl W16 ap np cp lp) := Hp.out.below hb (Nat.le_refl _)
     have Hy : Hid (Sl W16 ay ny cy ly) := Hy.out.below hb (Nat.le_refl _)
     have Ho : Hid (Sl W16 ao no co lo) := Ho.out.below hb (Nat.le_refl _)
     have Hf : Hid (Sl W16 af nf cf lf) := Hf.out.below hb (Nat.le_refl _)
     have HB : Hid (Below w.heap.size w W16) := HB.out.trans (hb.mono HB.out.size)
     clear hb
     have p10 := X1.out.z0
     have p11 := X1.out.z1
     have t1 := X1.out.lt
     have p20 := X2.out.z0
     have p21 := X2.out.z1
     have t2 := X2.out.lt
     have pq0 := Xq.out.z0
     have pq1 := Xq.out.z1
     have tq := Xq.out.lt
     have pr0 := Xr.out.z0
     have pr1 := Xr.out.z1
     have tr := Xr.out.lt
     have pp0 := Xp.out.z0
     have pp1 := Xp.out.z1
     have tp := Xp.out.lt
     have py0 := Xy.out.z0
     have py1 := Xy.out.z1
     have ty := Xy.out.lt
     have po0 := Xo.out.z0
     have po1 := Xo.out.z1
     have to := Xo.out.lt
     have pt0 := Xt.out.z0
     have pt1 := Xt.out.z1
     have tt := Xt.out.lt
     have pz0 := Xz.out.z0
     have pz1 := Xz.out.z1
     have tz := Xz.out.lt
     rcases okr with ⟨rfl, zr, zr2⟩ | ⟨rfl, zr⟩ | ⟨rfl, zr, zr2⟩
     · have Z3 : Hid (sr = true ∧ vr ≠ 0) := ⟨zr, zr2⟩
       clear zr zr2
       go_wp2_with fail
       obtain ⟨sg, SG⟩ : ∃ v, Hid (sgB (!sr) (vr) = v) := ⟨_, rfl⟩
       have Gg : Hid (W13.heap.size < W16.heap.size) := Xz.out.lt
       refine (neg_any sr ar nr cr lr _ Hr.out (by omega)).mono ?_
       rintro e W17 ⟨v, rfl, hf0, hb⟩
       rw [Er.out] at hf0
       rw [SG.out] at hf0
       have BT : Hid (Below W14.heap.size W14 W17) := BT.out.trans (hb.mono BT.out.size)
       clear p10 p11 t1 p20 p21 t2 pq0 pq1 tq pr0 pr1 tr pp0 pp1 tp py0 py1 ty po0 po1 to pt0 pt1 tt pz0 pz1 tz
       have X1 : Hid (Box W17 (w.heap.size) (.bool s1) (.slice a1 n1 c1)) := X1.out.below hb X1.out.lt
       have X2 : Hid (Box W17 (w.heap.size + 1) (.bool s2) (.slice a2 n2 c2)) := X2.out.below hb X2.out.lt
       have Xq : Hid (Box W17 (W4.heap.size) (.bool sq) (.slice aq nq cq)) := Xq.out.below hb Xq.out.lt
       have Xr : Hid (Box W17 (W4.heap.size + 1) (.bool sr) (.slice ar nr cr)) := Xr.out.below hb Xr.out.lt
       have Xp : Hid (Box W17 (W6.heap.size) (.bool sp) (.slice ap np cp)) := Xp.out.below hb Xp.out.lt
       have Xy : Hid (Box W17 (W8.heap.size) (.bool ss) (.slice ay ny cy)) := Xy.out.below hb Xy.out.lt
       have Xo : Hid (Box W17 (W10.heap.size) (.bool so) (.slice ao no co)) := Xo.out.below hb Xo.out.lt
       have Xt : Hid (Box W17 (W10.heap.size + 1) (.bool sf) (.slice af nf cf)) := Xt.out.below hb Xt.out.lt
       have Xz : Hid (Box W17 (W13.heap.size) (.bool sr) (.slice ar nr cr)) := Xz.out.below hb Xz.out.lt
       have H1 : Hid (Sl W17 a1 n1 c1 l1) := H1.out.below hb (Nat.le_refl _)
       have H2 : Hid (Sl W17 a2 n2 c2 l2) := H2.out.below hb (Nat.le_refl _)
       have Hq : Hid (Sl W17 aq nq cq lq) := Hq.out.below hb (Nat.le_refl _)
       have Hr : Hid (Sl W17 ar nr cr lr) := Hr.out.below hb (Nat.le_refl _)
       have Hp : Hid (Sl W17 ap np cp lp) := Hp.out.below hb (Nat.le_refl _)
       have Hy : Hid (Sl W17 ay ny cy ly) := Hy.out.below hb (Nat.le_refl _)
       have Ho : Hid (Sl W17 ao no co lo) := Ho.out.below hb (Nat.le_refl _)
       have Hf : Hid (Sl W17 af nf cf lf) := Hf.out.below hb (Nat.le_refl _)
       have HB : Hid (Below w.heap.size w W17) := HB.out.trans (hb.mono HB.out.size)
       clear hb
       have p10 := X1.out.z0
       have p11 := X1.out.z1
       have t1 := X1.out.lt
       have p20 := X2.out.z0
       have p21 := X2.out.z1
       have t2 := X2.out.lt
       have pq0 := Xq.out.z0
       have pq1 := Xq.out.z1
       have tq := Xq.out.lt
       have pr0 := Xr.out.z0
       have pr1 := Xr.out.z1
       have tr := Xr.out.lt
       have pp0 := Xp.out.z0
       have pp1 := Xp.out.z1
       have tp := Xp.out.lt
       have py0 := Xy.out.z0
       have py1 := Xy.out.z1
       have ty := Xy.out.lt
       have po0 := Xo.out.z0
       have po1 := Xo.out.z1
       have to := Xo.out.lt
       have pt0 := Xt.out.z0
       have pt1 := Xt.out.z1
       have tt := Xt.out.lt
       have pz0 := Xz.out.z0
       have pz1 := Xz.out.z1
       have tz := Xz.out.lt
       obtain ⟨ag, ng, cg, l0, rfl, _, _, mg⟩ := hf0.open LR.out
       have Ig : Hid (IntR W17 W16.heap.size (.agg #[.bool sg, .slice ag ng cg]) sg (vr)) := hf0
       clear hf0
       have zf0 := Xz.out.f0
       have zf1 := Xz.out.f1
       go_wp2_with fail
       clear zf0 zf1
       generalize hV : ((W17.setCell ⟨W13.heap.size, 0, none⟩ (.bool sg)).setCell ⟨W13.heap.size, 1, none⟩ (.slice ag ng cg)) = W18
       obtain ⟨xt, d3, d4, d5, d6⟩ := set_only hV Xz.out
       clear hV
       have EN : Hid (W18.heap.size = W17.heap.size) := d6
       clear d6
       clear p10 p11 t1 p20 p21 t2 pq0 pq1 tq pr0 pr1 tr pp0 pp1 tp py0 py1 ty po0 po1 to pt0 pt1 tt pz0 pz1 tz
       have X1 : Hid (Box W18 (w.heap.size) (.bool s1) (.slice a1 n1 c1)) := d3 _ _ _ (by have := U1.out; have := EZ.out; omega) X1.out
       have X2 : Hid (Box W18 (w.heap.size + 1) (.bool s2) (.slice a2 n2 c2)) := d3 _ _ _ (by have := U2.out; have := EZ.out; omega) X2.out
       have Xq : Hid (Box W18 (W4.heap.size) (.bool sq) (.slice aq nq cq)) := d3 _ _ _ (by have := Uq.out; have := EZ.out; omega) Xq.out
       have Xr : Hid (Box W18 (W4.heap.size + 1) (.bool sr) (.slice ar nr cr)) := d3 _ _ _ (by have := Ur.out; have := EZ.out; omega) Xr.out
       have Xp : Hid (Box W18 (W6.heap.size) (.bool sp) (.slice ap np cp)) := d3 _ _ _ (by have := Up.out; have := EZ.out; omega) Xp.out
       have Xy : Hid (Box W18 (W8.heap.size) (.bool ss) (.slice ay ny cy)) := d3 _ _ _ (by have := Uy.out; have := EZ.out; omega) Xy.out
       have Xo : Hid (Box W18 (W10.heap.size) (.bool so) (.slice ao no co)) := d3 _ _ _ (by have := Uo.out; have := EZ.out; omega) Xo.out
       have Xt : Hid (Box W18 (W10.heap.size + 1) (.bool sf) (.slice af nf cf)) := d3 _ _ _ (by have := Ut.out; have := EZ.out; omega) Xt.out
       have Xz : Hid (Box W18 (W13.heap.size) (.bool sg) (.slice ag ng cg)) := xt
       have BT : Hid (Below W14.heap.size W14 W18) := d4 _ _ BT.out (by have := EZ.out; omega)
       have H1 : Hid (Sl W18 a1 n1 c1 l1) := T1.out.below BT.out (Nat.le_refl _)
       have H2 : Hid (Sl W18 a2 n2 c2 l2) := T2.out.below BT.out (Nat.le_refl _)
       have Hq : Hid (Sl W18 aq nq cq lq) := Tq.out.below BT.out (Nat.le_refl _)
       have Hr : Hid (Sl W18 ar nr cr lr) := Tr.out.below BT.out (Nat.le_refl _)
       have Hp : Hid (Sl W18 ap np cp lp) := Tp.out.below BT.out (Nat.le_refl _)
       have Hy : Hid (Sl W18 ay ny cy ly) := Ty.out.below BT.out (Nat.le_refl _)
       have Ho : Hid (Sl W18 ao no co lo) := To.out.below BT.out (Nat.le_refl _)
       have Hf : Hid (Sl W18 af nf cf lf) := Tf.out.below BT.out (Nat.le_refl _)
       have HB : Hid (Below w.heap.size w W18) := d4 _ _ HB.out (by have := U1.out; have := EZ.out; omega)
       have Ig : Hid (IntR W18 W16.heap.size (.agg #[.bool sg, .slice ag ng cg]) sg (vr)) := d5 _ _ _ _ Ig.out (by have := Gg.out; have := EZ.out; omega)
       clear xt d3 d4 d5
       obtain ⟨lg, hs, hv⟩ := Ig.out.sl
       have Hg : Hid (Sl W18 ag ng cg lg) := hs
       have Eg : Hid (vl 4294967296 lg = _) := hv
       clear hs hv
       have p10 := X1.out.z0
       have p11 := X1.out.z1
       have t1 := X1.out.lt
       have p20 := X2.out.z0
       have p21 := X2.out.z1
       have t2 := X2.out.lt
       have pq0 := Xq.out.z0
       have pq1 := Xq.out.z1
       have tq := Xq.out.lt
       have pr0 := Xr.out.z0
       have pr1 := Xr.out.z1
       have tr := Xr.out.lt
       have pp0 := Xp.out.z0
       have pp1 := Xp.out.z1
       have tp := Xp.out.lt
       have py0 := Xy.out.z0
       have py1 := Xy.out.z1
       have ty := Xy.out.lt
       have po0 := Xo.out.z0
       have po1 := Xo.out.z1
       have to := Xo.out.lt
       have pt0 := Xt.out.z0
       have pt1 := Xt.out.z1
       have tt := Xt.out.lt
       have pz0 := Xz.out.z0
       have pz1 := Xz.out.z1
       have tz := Xz.out.lt
       have RL : Hid (vr < vl 4294967296 l2) := by show _ < _; rw [← VR.out, (back_open EQ.out).2.2.2.2]; exact Nat.mod_lt _ (Nat.pos_of_ne_zero K1.out)
       have HA0 : Hid (cmpV ss (vl 4294967296 ly) s1 (vl 4294967296 l1) = 0) := by show _ = _; rw [cmpV_eq, Ey.out, ← SS.out, zi_sg]; exact cmpI_self _
       have HSZ : Hid (cmpV sg (vl 4294967296 lg) sf (vl 4294967296 lf) = -1) := by
         show _ = _
         have h1 := RL.out
         have h2 : zi sg (vl 4294967296 lg) = (vr : Int) := by
           rw [Eg.out, ← SG.out, Z3.out.1]; simp [zi, sgB]
         have h3 : zi sf (vl 4294967296 lf) = (vl 4294967296 l2 : Int) := by
           rw [Ef.out, ← SF.out, Z2.out]; simp [zi, sgB]
         rw [cmpV_eq, h2, h3]
         exact cmpI_lt (by omega)
       have KA : Hid (cmpV s1 (vl 4294967296 l1) so (vl 4294967296 lo) = -1) := by
         show _ = _
         have h1 := Z3.out
         have h2 : sr = s1 := by rw [← SR.out]; exact sgB_pos h1.2
         have h3 : vl 4294967296 l1 ≠ 0 := fun h => h1.2 (by rw [← VR.out, (back_open EQ.out).2.2.2.2, h]; exact Nat.zero_mod _)
         rw [cmpV_eq, Eo.out, zi_zero, ← h2, h1.1]
         exact cmpI_lt (by simp [zi]; omega)
       clear p10 p11 t1 p20 p21 t2 pq0 pq1 tq pr0 pr1 tr pp0 pp1 tp py0 py1 ty po0 po1 to pt0 pt1 tt pz0 pz1 tz
       have D1 : Hid (Box W18.drew (w.heap.size) (.bool s1) (.slice a1 n1 c1)) := X1.out.below (Below.refl _ _).drew X1.out.lt
       have Dr : Hid (Box W18.drew (W4.heap.size + 1) (.bool sr) (.slice ar nr cr)) := Xr.out.below (Below.refl _ _).drew Xr.out.lt
       have Dy : Hid (Box W18.drew (W8.heap.size) (.bool ss) (.slice ay ny cy)) := Xy.out.below (Below.refl _ _).drew Xy.out.lt
       have Do : Hid (Box W18.drew (W10.heap.size) (.bool so) (.slice ao no co)) := Xo.out.below (Below.refl _ _).drew Xo.out.lt
       have Dt : Hid (Box W18.drew (W10.heap.size + 1) (.bool sf) (.slice af nf cf)) := Xt.out.below (Below.refl _ _).drew Xt.out.lt
       have Dz : Hid (Box W18.drew (W13.heap.size) (.bool sg) (.slice ag ng cg)) := Xz.out.below (Below.refl _ _).drew Xz.out.lt
       have Jy : Hid (Sl W18.drew ay ny cy ly) := Hy.out.below (Below.refl _ _).drew (Nat.le_refl _)
       have J1 : Hid (Sl W18.drew a1 n1 c1 l1) := H1.out.below (Below.refl _ _).drew (Nat.le_refl _)
       have Jr : Hid (Sl W18.drew ar nr cr lr) := Hr.out.below (Below.refl _ _).drew (Nat.le_refl _)
       have Jo : Hid (Sl W18.drew ao no co lo) := Ho.out.below (Below.refl _ _).drew (Nat.le_refl _)
       have Jg : Hid (Sl W18.drew ag ng cg lg) := Hg.out.below (Below.refl _ _).drew (Nat.le_refl _)
       have Jf : Hid (Sl W18.drew af nf cf lf) := Hf.out.below (Below.refl _ _).drew (Nat.le_refl _)
       have HBD : Hid (Below w.heap.size w W18.drew) := HB.out.drew
       have kS : W18.drew.cell? ⟨w.heap.size, 0, none⟩ = some (.bool s1) ∧ W18.drew.cell? ⟨w.heap.size, 1, none⟩ = some (.slice a1 n1 c1) ∧ W18.drew.cell? ⟨W4.heap.size + 1, 0, none⟩ = some (.bool sr) ∧ W18.drew.cell? ⟨W4.heap.size + 1, 1, none⟩ = some (.slice ar nr cr) ∧ W18.drew.cell? ⟨W8.heap.size, 0, none⟩ = some (.bool ss) ∧ W18.drew.cell? ⟨W8.heap.size, 1, none⟩ = some (.slice ay ny cy) ∧ W18.drew.cell? ⟨W10.heap.size, 0, none⟩ = some (.bool so) ∧ W18.drew.cell? ⟨W10.heap.size, 1, none⟩ = some (.slice ao no co) ∧ W18.drew.cell? ⟨W10.heap.size + 1, 0, none⟩ = some (.bool sf) ∧ W18.drew.cell? ⟨W10.heap.size + 1, 1, none⟩ = some (.slice af nf cf) ∧ W18.drew.cell? ⟨W13.heap.size, 0, none⟩ = some (.bool sg) ∧ W18.drew.cell? ⟨W13.heap.size, 1, none⟩ = some (.slice ag ng cg) := ⟨D1.out.z0, D1.out.z1, Dr.out.z0, Dr.out.z1, Dy.out.z0, Dy.out.z1, Do.out.z0, Do.out.z1, Dt.out.z0, Dt.out.z1, Dz.out.z0, Dz.out.z1⟩
       clear X1 X2 Xq Xr Xp Xy Xo Xt Xz H1 H2 Hq Hr Hp Hy Ho Hf Hg T1 T2 Tq Tr Tp Ty To Tf HB BT
       refine wp_region_held_drew (S := fun w' => w'.cell? ⟨w.heap.size, 0, none⟩ = some (.bool s1) ∧ w'.cell? ⟨w.heap.size, 1, none⟩ = some (.slice a1 n1 c1) ∧ w'.cell? ⟨W4.heap.size + 1, 0, none⟩ = some (.bool sr) ∧ w'.cell? ⟨W4.heap.size + 1, 1, none⟩ = some (.slice ar nr cr) ∧ w'.cell? ⟨W8.heap.size, 0, none⟩ = some (.bool ss) ∧ w'.cell? ⟨W8.heap.size, 1, none⟩ = some (.slice ay ny cy) ∧ w'.cell? ⟨W10.heap.size, 0, none⟩ = some (.bool so) ∧ w'.cell? ⟨W10.heap.size, 1, none⟩ = some (.slice ao no co) ∧ w'.cell? ⟨W10.heap.size + 1, 0, none⟩ = some (.bool sf) ∧ w'.cell? ⟨W10.heap.size + 1, 1, none⟩ = some (.slice af nf cf) ∧ w'.cell? ⟨W13.heap.size, 0, none⟩ = some (.bool sg) ∧ w'.cell? ⟨W13.heap.size, 1, none⟩ = some (.slice ag ng cg)) (by kernel_rfl) (by exact kS) (fun hH => ?_)
       clear hH
       refine wpAnyH_take (i := 0) (oi := { dst := some 61, op := Op.move (Operand.tmp 9), type := 28, pos := "law.go:112", after := #[], guard := none }) (v := ?_) rfl (by kernel_rfl) (by kernel_rfl) (by kernel_rfl) (fun _ _ _ h => h) (Or.inl ⟨by rfl, ?_⟩) (by exact kS) ?_
       rotate_left
       · intro w h; (try dsimp only at h); (go_simp <;> with_reducible rfl)
       try simp only [Act.put, List.setIfInBounds_toArray, List.set_cons_zero, List.set_cons_succ]
       refine wpAnyH_take (i := 1) (oi := { dst := some 62, op := Op.binOp BinOp.eql 28 (Operand.tmp 61) (Operand.const (Value.int IntKind.i64 0)) 28, type := 4, pos := "law.go:112", after := #[{ on := 0, ground := Ground.data }], guard := none }) (v := ?_) rfl (by kernel_rfl) (by kernel_rfl) (by kernel_rfl) (fun _ _ _ h => h) (Or.inl ⟨by rfl, ?_⟩) (by exact kS) ?_
       rotate_left
       · intro w h; (try dsimp only at h); (go_simp <;> with_reducible rfl)
       try simp only [Act.put, List.setIfInBounds_toArray, List.set_cons_zero, List.set_cons_succ]
       refine wpAnyH_take (i := 2) (oi := { dst := some 63, op := Op.move (Operand.tmp 62), type := 4, pos := "law.go:112", after := #[{ on := 1, ground := Ground.data }], guard := none }) (v := ?_) rfl (by kernel_rfl) (by kernel_rfl) (by kernel_rfl) (fun _ _ _ h => h) (Or.inl ⟨by rfl, ?_⟩) (by exact kS) ?_
       rotate_left
       · intro w h; (try dsimp only at h); (go_simp <;> with_reducible rfl)
       try simp only [Act.put, List.setIfInBounds_toArray, List.set_cons_zero, List.set_cons_succ]
       refine wpAnyH_take (i := 3) (oi := { dst := some 64, op := Op.move (Operand.tmp 11), type := 28, pos := "law.go:112", after := #[{ on := 2, ground := Ground.guard }], guard := some (2, true) }) (v := ?_) rfl (by kernel_rfl) (by kernel_rfl) (by kernel_rfl) (fun _ _ _ h => h) (Or.inl ⟨by rfl, ?_⟩) (by exact kS) ?_
       rotate_left
       · intro w h; (try dsimp only at h); (go_simp <;> with_reducible rfl)
       try simp only [Act.put, List.setIfInBounds_toArray, List.set_cons_zero, List.set_cons_succ]
       refine wpAnyH_take (i := 4) (oi := { dst := some 65, op := Op.binOp BinOp.eql 28 (Operand.tmp 64) (Operand.const (Value.int IntKind.i64 0)) 28, type := 4, pos := "law.go:112", after := #[{ on := 3, ground := Ground.data }, { on := 2, ground := Ground.guard }], guard := some (2, true) }) (v := ?_) rfl (by kernel_rfl) (by kernel_rfl) (by kernel_rfl) (fun _ _ _ h => h) (Or.inl ⟨by rfl, ?_⟩) (by exact kS) ?_
       rotate_left
       · intro w h; (try dsimp only at h); (go_simp <;> with_reducible rfl)
       try simp only [Act.put, List.setIfInBounds_toArray, List.set_cons_zero, List.set_cons_succ]
       refine wpAnyH_take (i := 5) (oi := { dst := some 66, op := Op.pick (Operand.tmp 63) (Operand.tmp 65) (Operand.const (Value.bool false)), type := 4, pos := "law.go:112", after := #[{ on := 2, ground := Ground.data }, { on := 4, ground := Ground.data }], guard := none }) (v := ?_) rfl (by kernel_rfl) (by kernel_rfl) (by kernel_rfl) (fun _ _ _ h => h) (Or.inl ⟨by rfl, ?_⟩) (by exact kS) ?_
       rotate_left
       · intro w h; (try dsimp only at h); (go_simp <;> with_reducible rfl)
       try simp only [Act.put, List.setIfInBounds_toArray, List.set_cons_zero, List.set_cons_succ]
       refine wpAnyH_take (i := 6) (oi := { dst := some 67, op := Op.move (Operand.tmp 66), type := 4, pos := "law.go:112", after := #[{ on := 5, ground := Ground.data }, { on := 2, ground := Ground.chain }], guard := none }) (v := ?_) rfl (by kernel_rfl) (by kernel_rfl) (by kernel_rfl) (fun _ _ _ h => h) (Or.inl ⟨by rfl, ?_⟩) (by exact kS) ?_
       rotate_left
       · intro w h; (try dsimp only at h); (go_simp <;> with_reducible rfl)
       try simp only [Act.put, List.setIfInBounds_toArray, List.set_cons_zero, List.set_cons_succ]
       refine wpAnyH_take (i := 7) (oi := { dst := some 68, op := Op.load 24 (Operand.tmp 10), type := 24, pos := "law.go:112", after := #[{ on := 6, ground := Ground.guard }], guard := some (6, true) }) (v := ?_) rfl (by kernel_rfl) (by kernel_rfl) (by kernel_rfl) (fun _ _ _ h => h) (Or.inl ⟨by rfl, ?_⟩) (by exact kS) ?_
       rotate_left
       · intro w h; (try dsimp only at h); (go_simp <;> with_reducible rfl)
       try simp only [Act.put, List.setIfInBounds_toArray, List.set_cons_zero, List.set_cons_succ]
       refine wpAnyH_take (i := 8) (oi := { dst := some 69, op := Op.load 24 (Operand.tmp 2), type := 24, pos := "law.go:112", after := #[{ on := 6, ground := Ground.guard }], guard := some (6, true) }) (v := ?_) rfl (by kernel_rfl) (by kernel_rfl) (by kernel_rfl) (fun _ _ _ h => h) (Or.inl ⟨by rfl, ?_⟩) (by exact kS) ?_
       rotate_left
       · intro w h; (try dsimp only at h); (go_simp <;> with_reducible rfl)
       try simp only [Act.put, List.setIfInBounds_toArray, List.set_cons_zero, List.set_cons_succ]
       refine wpAnyH_ready (rs := [9]) (by kernel_rfl) (by simp) ?_
       refine AllReadyH.cons (o := { dst := some 70, op := Op.call { callee := Callee.value (Operand.func 17), args := #[Operand.tmp 68, Operand.tmp 69], argTypes := #[24, 24] }, type := 3, pos := "law.go:112", after := #[{ on := 7, ground := Ground.data }, { on := 8, ground := Ground.data }, { on := 6, ground := Ground.chain }, { on := 6, ground := Ground.guard }], guard := some (6, true) }) rfl (fun K hK => ?_) AllReadyH.nil
       go_simp
       (refine (compare_any ss s1 ay ny cy ly a1 n1 c1 l1 _ (by exact Jy.out) (by exact J1.out) (by omega) (by omega)).mono ?_; rintro e V1 ⟨rfl, hb⟩; rw [HA0.out]; have D1 : Hid (Box V1 (w.heap.size) (.bool s1) (.slice a1 n1 c1)) := D1.out.below hb D1.out.lt; have Dr : Hid (Box V1 (W4.heap.size + 1) (.bool sr) (.slice ar nr cr)) := Dr.out.below hb Dr.out.lt; have Dy : Hid (Box V1 (W8.heap.size) (.bool ss) (.slice ay ny cy)) := Dy.out.below hb Dy.out.lt; have Do : Hid (Box V1 (W10.heap.size) (.bool so) (.slice ao no co)) := Do.out.below hb Do.out.lt; have Dt : Hid (Box V1 (W10.heap.size + 1) (.bool sf) (.slice af nf cf)) := Dt.out.below hb Dt.out.lt; have Dz : Hid (Box V1 (W13.heap.size) (.bool sg) (.slice ag ng cg)) := Dz.out.below hb Dz.out.lt; have Jy : Hid (Sl V1 ay ny cy ly) := Jy.out.below hb (Nat.le_refl _); have J1 : Hid (Sl V1 a1 n1 c1 l1) := J1.out.below hb (Nat.le_refl _); have Jr : Hid (Sl V1 ar nr cr lr) := Jr.out.below hb (Nat.le_refl _); have Jo : Hid (Sl V1 ao no co lo) := Jo.out.below hb (Nat.le_refl _); have Jg : Hid (Sl V1 ag ng cg lg) := Jg.out.below hb (Nat.le_refl _); have Jf : Hid (Sl V1 af nf cf lf) := Jf.out.below hb (Nat.le_refl _); have HBD : Hid (Below w.heap.size w V1) := HBD.out.trans (hb.mono HBD.out.size); clear kS; have kS : V1.cell? ⟨w.heap.size, 0, none⟩ = some (.bool s1) ∧ V1.cell? ⟨w.heap.size, 1, none⟩ = some (.slice a1 n1 c1) ∧ V1.cell? ⟨W4.heap.size + 1, 0, none⟩ = some (.bool sr) ∧ V1.cell? ⟨W4.heap.size + 1, 1, none⟩ = some (.slice ar nr cr) ∧ V1.cell? ⟨W8.heap.size, 0, none⟩ = some (.bool ss) ∧ V1.cell? ⟨W8.heap.size, 1, none⟩ = some (.slice ay ny cy) ∧ V1.cell? ⟨W10.heap.size, 0, none⟩ = some (.bool so) ∧ V1.cell? ⟨W10.heap.size, 1, none⟩ = some (.slice ao no co) ∧ V1.cell? ⟨W10.heap.size + 1, 0, none⟩ = some (.bool sf) ∧ V1.cell? ⟨W10.heap.size + 1, 1, none⟩ = some (.slice af nf cf) ∧ V1.cell? ⟨W13.heap.size, 0, none⟩ = some (.bool sg) ∧ V1.cell? ⟨W13.heap.size, 1, none⟩ = some (.slice ag ng cg) := ⟨D1.out.z0, D1.out.z1, Dr.out.z0, Dr.out.z1, Dy.out.z0, Dy.out.z1, Do.out.z0, Do.out.z1, Dt.out.z0, Dt.out.z1, Dz.out.z0, Dz.out.z1⟩; clear hb)
       go_wp2_with fail
       refine hK.out _ _ (by exact kS) (fun hH => ?_)
       clear hK K hH
       try simp only [Act.put, List.setIfInBounds_toArray, List.set_cons_zero, List.set_cons_succ]
       refine wpAnyH_take (i := 10) (oi := { dst := some 71, op := Op.binOp BinOp.eql 3 (Operand.tmp 70) (Operand.const (Value.int IntKind.i64 0)) 3, type := 4, pos := "law.go:112", after := #[{ on := 9, ground := Ground.data }, { on := 6, ground := Ground.guard }], guard := some (6, true) }) (v := ?_) rfl (by kernel_rfl) (by kernel_rfl) (by kernel_rfl) (fun _ _ _ h => h) (Or.inl ⟨by rfl, ?_⟩) (by exact kS) ?_
       rotate_left
       · intro w h; (try dsimp only at h); (go_simp <;> with_reducible rfl)
       try simp only [Act.put, List.setIfInBounds_toArray, List.set_cons_zero, List.set_cons_succ]
       refine wpAnyH_take (i := 11) (oi := { dst := some 72, op := Op.pick (Operand.tmp 67) (Operand.tmp 71) (Operand.const (Value.bool false)), type := 4, pos := "law.go:112", after := #[{ on := 6, ground := Ground.data }, { on := 10, ground := Ground.data }], guard := none }) (v := ?_) rfl (by kernel_rfl) (by kernel_rfl) (by kernel_rfl) (fun _ _ _ h => h) (Or.inl ⟨by rfl, ?_⟩) (by exact kS) ?_
       rotate_left
       · intro w h; (try dsimp only at h); (go_simp <;> with_reducible rfl)
       try simp only [Act.put, List.setIfInBounds_toArray, List.set_cons_zero, List.set_cons_succ]
       refine wpAnyH_take (i := 12) (oi := { dst := some 73, op := Op.move (Operand.tmp 72), type := 4, pos := "law.go:112", after := #[{ on := 11, ground := Ground.data }, { on := 9, ground := Ground.chain }], guard := none }) (v := ?_) rfl (by kernel_rfl) (by kernel_rfl) (by kernel_rfl) (fun _ _ _ h => h) (Or.inl ⟨by rfl, ?_⟩) (by exact kS) ?_
       rotate_left
       · intro w h; (try dsimp only at h); (go_simp <;> with_reducible rfl)
       try simp only [Act.put, List.setIfInBounds_toArray, List.set_cons_zero, List.set_cons_succ]
       refine wpAnyH_take (i := 13) (oi := { dst := some 74, op := Op.load 24 (Operand.tmp 14), type := 24, pos := "law.go:112", after := #[{ on := 12, ground := Ground.guard }], guard := some (12, true) }) (v := ?_) rfl (by kernel_rfl) (by kernel_rfl) (by kernel_rfl) (fun _ _ _ h => h) (Or.inl ⟨by rfl, ?_⟩) (by exact kS) ?_
       rotate_left
       · intro w h; (try dsimp only at h); (go_simp <;> with_reducible rfl)
       try simp only [Act.put, List.setIfInBounds_toArray, List.set_cons_zero, List.set_cons_succ]
       refine wpAnyH_take (i := 14) (oi := { dst := some 75, op := Op.load 24 (Operand.tmp 13), type := 24, pos := "law.go:112", after := #[{ on := 12, ground := Ground.guard }], guard := some (12, true) }) (v := ?_) rfl (by kernel_rfl) (by kernel_rfl) (by kernel_rfl) (fun _ _ _ h => h) (Or.inl ⟨by rfl, ?_⟩) (by exact kS) ?_
       rotate_left
       · intro w h; (try dsimp only at h); (go_simp <;> with_reducible rfl)
       try simp only [Act.put, List.setIfInBounds_toArray, List.set_cons_zero, List.set_cons_succ]
       refine wpAnyH_ready (rs := [15]) (by kernel_rfl) (by simp) ?_
       refine AllReadyH.cons (o := { dst := some 76, op := Op.call { callee := Callee.value (Operand.func 17), args := #[Operand.tmp 74, Operand.tmp 75], argTypes := #[24, 24] }, type := 3, pos := "law.go:112", after := #[{ on := 13, ground := Ground.data }, { on := 14, ground := Ground.data }, { on := 12, ground := Ground.chain }, { on := 12, ground := Ground.guard }], guard := some (12, true) }) rfl (fun K hK => ?_) AllReadyH.nil
       go_simp
       (refine (compare_any sg sf ag ng cg lg af nf cf lf _ (by exact Jg.out) (by exact Jf.out) (by omega) (by omega)).mono ?_; rintro e V2 ⟨rfl, hb⟩; rw [HSZ.out]; have D1 : Hid (Box V2 (w.heap.size) (.bool s1) (.slice a1 n1 c1)) := D1.out.below hb D1.out.lt; have Dr : Hid (Box V2 (W4.heap.size + 1) (.bool sr) (.slice ar nr cr)) := Dr.out.below hb Dr.out.lt; have Dy : Hid (Box V2 (W8.heap.size) (.bool ss) (.slice ay ny cy)) := Dy.out.below hb Dy.out.lt; have Do : Hid (Box V2 (W10.heap.size) (.bool so) (.slice ao no co)) := Do.out.below hb Do.out.lt; have Dt : Hid (Box V2 (W10.heap.size + 1) (.bool sf) (.slice af nf cf)) := Dt.out.below hb Dt.out.lt; have Dz : Hid (Box V2 (W13.heap.size) (.bool sg) (.slice ag ng cg)) := Dz.out.below hb Dz.out.lt; have Jy : Hid (Sl V2 ay ny cy ly) := Jy.out.below hb (Nat.le_refl _); have J1 : Hid (Sl V2 a1 n1 c1 l1) := J1.out.below hb (Nat.le_refl _); have Jr : Hid (Sl V2 ar nr cr lr) := Jr.out.below hb (Nat.le_refl _); have Jo : Hid (Sl V2 ao no co lo) := Jo.out.below hb (Nat.le_refl _); have Jg : Hid (Sl V2 ag ng cg lg) := Jg.out.below hb (Nat.le_refl _); have Jf : Hid (Sl V2 af nf cf lf) := Jf.out.below hb (Nat.le_refl _); have HBD : Hid (Below w.heap.size w V2) := HBD.out.trans (hb.mono HBD.out.size); clear kS; have kS : V2.cell? ⟨w.heap.size, 0, none⟩ = some (.bool s1) ∧ V2.cell? ⟨w.heap.size, 1, none⟩ = some (.slice a1 n1 c1) ∧ V2.cell? ⟨W4.heap.size + 1, 0, none⟩ = some (.bool sr) ∧ V2.cell? ⟨W4.heap.size + 1, 1, none⟩ = some (.slice ar nr cr) ∧ V2.cell? ⟨W8.heap.size, 0, none⟩ = some (.bool ss) ∧ V2.cell? ⟨W8.heap.size, 1, none⟩ = some (.slice ay ny cy) ∧ V2.cell? ⟨W10.heap.size, 0, none⟩ = some (.bool so) ∧ V2.cell? ⟨W10.heap.size, 1, none⟩ = some (.slice ao no co) ∧ V2.cell? ⟨W10.heap.size + 1, 0, none⟩ = some (.bool sf) ∧ V2.cell? ⟨W10.heap.size + 1, 1, none⟩ = some (.slice af nf cf) ∧ V2.cell? ⟨W13.heap.size, 0, none⟩ = some (.bool sg) ∧ V2.cell? ⟨W13.heap.size, 1, none⟩ = some (.slice ag ng cg) := ⟨D1.out.z0, D1.out.z1, Dr.out.z0, Dr.out.z1, Dy.out.z0, Dy.out.z1, Do.out.z0, Do.out.z1, Dt.out.z0, Dt.out.z1, Dz.out.z0, Dz.out.z1⟩; clear hb)
       go_wp2_with fail
       refine hK.out _ _ (by exact kS) (fun hH => ?_)
       clear hK K hH
       try simp only [Act.put, List.setIfInBounds_toArray, List.set_cons_zero, List.set_cons_succ]
       refine wpAnyH_take (i := 16) (oi := { dst := some 77, op := Op.binOp BinOp.lss 3 (Operand.tmp 76) (Operand.const (Value.int IntKind.i64 0)) 3, type := 4, pos := "law.go:112", after := #[{ on := 15, ground := Ground.data }, { on := 12, ground := Ground.guard }], guard := some (12, true) }) (v := ?_) rfl (by kernel_rfl) (by kernel_rfl) (by kernel_rfl) (fun _ _ _ h => h) (Or.inl ⟨by rfl, ?_⟩) (by exact kS) ?_
       rotate_left
       · intro w h; (try dsimp only at h); (go_simp <;> with_reducible rfl)
       try simp only [Act.put, List.setIfInBounds_toArray, List.set_cons_zero, List.set_cons_succ]
       refine wpAnyH_take (i := 17) (oi := { dst := some 78, op := Op.pick (Operand.tmp 73) (Operand.tmp 77) (Operand.const (Value.bool false)), type := 4, pos := "law.go:112", after := #[{ on := 12, ground := Ground.data }, { on := 16, ground := Ground.data }], guard := none }) (v := ?_) rfl (by kernel_rfl) (by kernel_rfl) (by kernel_rfl) (fun _ _ _ h => h) (Or.inl ⟨by rfl, ?_⟩) (by exact kS) ?_
       rotate_left
       · intro w h; (try dsimp only at h); (go_simp <;> with_reducible rfl)
       try simp only [Act.put, List.setIfInBounds_toArray, List.set_cons_zero, List.set_cons_succ]
       refine wpAnyH_take (i := 18) (oi := { dst := some 79, op := Op.move (Operand.tmp 78), type := 4, pos := "law.go:112", after := #[{ on := 17, ground := Ground.data }, { on := 15, ground := Ground.chain }], guard := none }) (v := ?_) rfl (by kernel_rfl) (by kernel_rfl) (by kernel_rfl) (fun _ _ _ h => h) (Or.inl ⟨by rfl, ?_⟩) (by exact kS) ?_
       rotate_left
       · intro w h; (try dsimp only at h); (go_simp <;> with_reducible rfl)
       try simp only [Act.put, List.setIfInBounds_toArray, List.set_cons_zero, List.set_cons_succ]
       refine wpAnyH_take (i := 19) (oi := { dst := some 80, op := Op.load 24 (Operand.tmp 6), type := 24, pos := "law.go:112", after := #[{ on := 18, ground := Ground.guard }], guard := some (18, true) }) (v := ?_) rfl (by kernel_rfl) (by kernel_rfl) (by kernel_rfl) (fun _ _ _ h => h) (Or.inl ⟨by rfl, ?_⟩) (by exact kS) ?_
       rotate_left
       · intro w h; (try dsimp only at h); (go_simp <;> with_reducible rfl)
       try simp only [Act.put, List.setIfInBounds_toArray, List.set_cons_zero, List.set_cons_succ]
       refine wpAnyH_take (i := 20) (oi := { dst := some 81, op := Op.load 24 (Operand.tmp 12), type := 24, pos := "law.go:112", after := #[{ on := 18, ground := Ground.guard }], guard := some (18, true) }) (v := ?_) rfl (by kernel_rfl) (by kernel_rfl) (by kernel_rfl) (fun _ _ _ h => h) (Or.inl ⟨by rfl, ?_⟩) (by exact kS) ?_
       rotate_left
       · intro w h; (try dsimp only at h); (go_simp <;> with_reducible rfl)
       try simp only [Act.put, List.setIfInBounds_toArray, List.set_cons_zero, List.set_cons_succ]
       refine wpAnyH_ready (rs := [21]) (by kernel_rfl) (by simp) ?_
       refine AllReadyH.cons (o := { dst := some 82, op := Op.call { callee := Callee.value (Operand.func 17), args := #[Operand.tmp 80, Operand.tmp 81], argTypes := #[24, 24] }, type := 3, pos := "law.go:112", after := #[{ on := 19, ground := Ground.data }, { on := 20, ground := Ground.data }, { on := 18, ground := Ground.chain }, { on := 18, ground := Ground.guard }], guard := some (18, true) }) rfl (fun K hK => ?_) AllReadyH.nil
       go_simp
       (refine (compare_any sr so ar nr cr lr ao no co lo _ (by exact Jr.out) (by exact Jo.out) (by omega) (by omega)).mono ?_; rintro e V3 ⟨rfl, hb⟩; rw [KR.out]; have D1 : Hid (Box V3 (w.heap.size) (.bool s1) (.slice a1 n1 c1)) := D1.out.below hb D1.out.lt; have Dr : Hid (Box V3 (W4.heap.size + 1) (.bool sr) (.slice ar nr cr)) := Dr.out.below hb Dr.out.lt; have Dy : Hid (Box V3 (W8.heap.size) (.bool ss) (.slice ay ny cy)) := Dy.out.below hb Dy.out.lt; have Do : Hid (Box V3 (W10.heap.size) (.bool so) (.slice ao no co)) := Do.out.below hb Do.out.lt; have Dt : Hid (Box V3 (W10.heap.size + 1) (.bool sf) (.slice af nf cf)) := Dt.out.below hb Dt.out.lt; have Dz : Hid (Box V3 (W13.heap.size) (.bool sg) (.slice ag ng cg)) := Dz.out.below hb Dz.out.lt; have Jy : Hid (Sl V3 ay ny cy ly) := Jy.out.below hb (Nat.le_refl _); have J1 : Hid (Sl V3 a1 n1 c1 l1) := J1.out.below hb (Nat.le_refl _); have Jr : Hid (Sl V3 ar nr cr lr) := Jr.out.below hb (Nat.le_refl _); have Jo : Hid (Sl V3 ao no co lo) := Jo.out.below hb (Nat.le_refl _); have Jg : Hid (Sl V3 ag ng cg lg) := Jg.out.below hb (Nat.le_refl _); have Jf : Hid (Sl V3 af nf cf lf) := Jf.out.below hb (Nat.le_refl _); have HBD : Hid (Below w.heap.size w V3) := HBD.out.trans (hb.mono HBD.out.size); clear kS; have kS : V3.cell? ⟨w.heap.size, 0, none⟩ = some (.bool s1) ∧ V3.cell? ⟨w.heap.size, 1, none⟩ = some (.slice a1 n1 c1) ∧ V3.cell? ⟨W4.heap.size + 1, 0, none⟩ = some (.bool sr) ∧ V3.cell? ⟨W4.heap.size + 1, 1, none⟩ = some (.slice ar nr cr) ∧ V3.cell? ⟨W8.heap.size, 0, none⟩ = some (.bool ss) ∧ V3.cell? ⟨W8.heap.size, 1, none⟩ = some (.slice ay ny cy) ∧ V3.cell? ⟨W10.heap.size, 0, none⟩ = some (.bool so) ∧ V3.cell? ⟨W10.heap.size, 1, none⟩ = some (.slice ao no co) ∧ V3.cell? ⟨W10.heap.size + 1, 0, none⟩ = some (.bool sf) ∧ V3.cell? ⟨W10.heap.size + 1, 1, none⟩ = some (.slice af nf cf) ∧ V3.cell? ⟨W13.heap.size, 0, none⟩ = some (.bool sg) ∧ V3.cell? ⟨W13.heap.size, 1, none⟩ = some (.slice ag ng cg) := ⟨D1.out.z0, D1.out.z1, Dr.out.z0, Dr.out.z1, Dy.out.z0, Dy.out.z1, Do.out.z0, Do.out.z1, Dt.out.z0, Dt.out.z1, Dz.out.z0, Dz.out.z1⟩; clear hb)
       go_wp2_with fail
       refine hK.out _ _ (by exact kS) (fun hH => ?_)
       clear hK K hH
       try simp only [Act.put, List.setIfInBounds_toArray, List.set_cons_zero, List.set_cons_succ]
       refine wpAnyH_take (i := 22) (oi := { dst := some 83, op := Op.binOp BinOp.eql 3 (Operand.tmp 82) (Operand.const (Value.int IntKind.i64 0)) 3, type := 4, pos := "law.go:112", after := #[{ on := 21, ground := Ground.data }, { on := 18, ground := Ground.guard }], guard := some (18, true) }) (v := ?_) rfl (by kernel_rfl) (by kernel_rfl) (by kernel_rfl) (fun _ _ _ h => h) (Or.inl ⟨by rfl, ?_⟩) (by exact kS) ?_
       rotate_left
       · intro w h; (try dsimp only at h); (go_simp <;> with_reducible rfl)
       try simp only [Act.put, List.setIfInBounds_toArray, List.set_cons_zero, List.set_cons_succ]
       refine wpAnyH_take (i := 23) (oi := { dst := some 84, op := Op.move (Operand.tmp 83), type := 4, pos := "law.go:112", after := #[{ on := 22, ground := Ground.data }, { on := 21, ground := Ground.chain }, { on := 18, ground := Ground.guard }], guard := some (18, true) }) (v := ?_) rfl (by kernel_rfl) (by kernel_rfl) (by kernel_rfl) (fun _ _ _ h => h) (Or.inl ⟨by rfl, ?_⟩) (by exact kS) ?_
       rotate_left
       · intro w h; (try dsimp only at h); (go_simp <;> with_reducible rfl)
       try simp only [Act.put, List.setIfInBounds_toArray, List.set_cons_zero, List.set_cons_succ]
       refine wpAnyH_take (i := 24) (oi := { dst := some 85, op := Op.load 24 (Operand.tmp 6), type := 24, pos := "law.go:112", after := #[{ on := 23, ground := Ground.guard }], guard := some (23, false) }) (v := ?_) rfl (by kernel_rfl) (by kernel_rfl) (by kernel_rfl) (fun _ _ _ h => h) (Or.inl ⟨by rfl, ?_⟩) (by exact kS) ?_
       rotate_left
       · intro w h; (try dsimp only at h); (go_simp <;> with_reducible rfl)
       try simp only [Act.put, List.setIfInBounds_toArray, List.set_cons_zero, List.set_cons_succ]
       refine wpAnyH_take (i := 25) (oi := { dst := some 86, op := Op.load 24 (Operand.tmp 12), type := 24, pos := "law.go:112", after := #[{ on := 23, ground := Ground.guard }], guard := some (23, false) }) (v := ?_) rfl (by kernel_rfl) (by kernel_rfl) (by kernel_rfl) (fun _ _ _ h => h) (Or.inl ⟨by rfl, ?_⟩) (by exact kS) ?_
       rotate_left
       · intro w h; (try dsimp only at h); (go_simp <;> with_reducible rfl)
       try simp only [Act.put, List.setIfInBounds_toArray, List.set_cons_zero, List.set_cons_succ]
       refine wpAnyH_take (i := 28) (oi := { dst := some 89, op := Op.load 24 (Operand.tmp 2), type := 24, pos := "law.go:112", after := #[{ on := 23, ground := Ground.guard }], guard := some (23, false) }) (v := ?_) rfl (by kernel_rfl) (by kernel_rfl) (by kernel_rfl) (fun _ _ _ h => h) (Or.inl ⟨by rfl, ?_⟩) (by exact kS) ?_
       rotate_left
       · intro w h; (try dsimp only at h); (go_simp <;> with_reducible rfl)
       try simp only [Act.put, List.setIfInBounds_toArray, List.set_cons_zero, List.set_cons_succ]
       refine wpAnyH_take (i := 29) (oi := { dst := some 90, op := Op.load 24 (Operand.tmp 12), type := 24, pos := "law.go:112", after := #[{ on := 23, ground := Ground.guard }], guard := some (23, false) }) (v := ?_) rfl (by kernel_rfl) (by kernel_rfl) (by kernel_rfl) (fun _ _ _ h => h) (Or.inl ⟨by rfl, ?_⟩) (by exact kS) ?_
       rotate_left
       · intro w h; (try dsimp only at h); (go_simp <;> with_reducible rfl)
       try simp only [Act.put, List.setIfInBounds_toArray, List.set_cons_zero, List.set_cons_succ]
       refine wpAnyH_ready (rs := [26]) (by kernel_rfl) (by simp) ?_
       refine AllReadyH.cons (o := { dst := some 87, op := Op.call { callee := Callee.value (Operand.func 17), args := #[Operand.tmp 85, Operand.tmp 86], argTypes := #[24, 24] }, type := 3, pos := "law.go:112", after := #[{ on := 24, ground := Ground.data }, { on := 25, ground := Ground.data }, { on := 23, ground := Ground.chain }, { on := 23, ground := Ground.guard }], guard := some (23, false) }) rfl (fun K hK => ?_) AllReadyH.nil
       go_simp
       (refine (compare_any sr so ar nr cr lr ao no co lo _ (by exact Jr.out) (by exact Jo.out) (by omega) (by omega)).mono ?_; rintro e V4 ⟨rfl, hb⟩; rw [KR.out]; have D1 : Hid (Box V4 (w.heap.size) (.bool s1) (.slice a1 n1 c1)) := D1.out.below hb D1.out.lt; have Dr : Hid (Box V4 (W4.heap.size + 1) (.bool sr) (.slice ar nr cr)) := Dr.out.below hb Dr.out.lt; have Dy : Hid (Box V4 (W8.heap.size) (.bool ss) (.slice ay ny cy)) := Dy.out.below hb Dy.out.lt; have Do : Hid (Box V4 (W10.heap.size) (.bool so) (.slice ao no co)) := Do.out.below hb Do.out.lt; have Dt : Hid (Box V4 (W10.heap.size + 1) (.bool sf) (.slice af nf cf)) := Dt.out.below hb Dt.out.lt; have Dz : Hid (Box V4 (W13.heap.size) (.bool sg) (.slice ag ng cg)) := Dz.out.below hb Dz.out.lt; have Jy : Hid (Sl V4 ay ny cy ly) := Jy.out.below hb (Nat.le_refl _); have J1 : Hid (Sl V4 a1 n1 c1 l1) := J1.out.below hb (Nat.le_refl _); have Jr : Hid (Sl V4 ar nr cr lr) := Jr.out.below hb (Nat.le_refl _); have Jo : Hid (Sl V4 ao no co lo) := Jo.out.below hb (Nat.le_refl _); have Jg : Hid (Sl V4 ag ng cg lg) := Jg.out.below hb (Nat.le_refl _); have Jf : Hid (Sl V4 af nf cf lf) := Jf.out.below hb (Nat.le_refl _); have HBD : Hid (Below w.heap.size w V4) := HBD.out.trans (hb.mono HBD.out.size); clear kS; have kS : V4.cell? ⟨w.heap.size, 0, none⟩ = some (.bool s1) ∧ V4.cell? ⟨w.heap.size, 1, none⟩ = some (.slice a1 n1 c1) ∧ V4.cell? ⟨W4.heap.size + 1, 0, none⟩ = some (.bool sr) ∧ V4.cell? ⟨W4.heap.size + 1, 1, none⟩ = some (.slice ar nr cr) ∧ V4.cell? ⟨W8.heap.size, 0, none⟩ = some (.bool ss) ∧ V4.cell? ⟨W8.heap.size, 1, none⟩ = some (.slice ay ny cy) ∧ V4.cell? ⟨W10.heap.size, 0, none⟩ = some (.bool so) ∧ V4.cell? ⟨W10.heap.size, 1, none⟩ = some (.slice ao no co) ∧ V4.cell? ⟨W10.heap.size + 1, 0, none⟩ = some (.bool sf) ∧ V4.cell? ⟨W10.heap.size + 1, 1, none⟩ = some (.slice af nf cf) ∧ V4.cell? ⟨W13.heap.size, 0, none⟩ = some (.bool sg) ∧ V4.cell? ⟨W13.heap.size, 1, none⟩ = some (.slice ag ng cg) := ⟨D1.out.z0, D1.out.z1, Dr.out.z0, Dr.out.z1, Dy.out.z0, Dy.out.z1, Do.out.z0, Do.out.z1, Dt.out.z0, Dt.out.z1, Dz.out.z0, Dz.out.z1⟩; clear hb)
       go_wp2_with fail
       refine hK.out _ _ (by exact kS) (fun hH => ?_)
       clear hK K hH
       try simp only [Act.put, List.setIfInBounds_toArray, List.set_cons_zero, List.set_cons_succ]
       refine wpAnyH_take (i := 27) (oi := { dst := some 88, op := Op.binOp BinOp.lss 3 (Operand.tmp 87) (Operand.const (Value.int IntKind.i64 0)) 3, type := 4, pos := "law.go:112", after := #[{ on := 26, ground := Ground.data }, { on := 23, ground := Ground.guard }], guard := some (23, false) }) (v := ?_) rfl (by kernel_rfl) (by kernel_rfl) (by kernel_rfl) (fun _ _ _ h => h) (Or.inl ⟨by rfl, ?_⟩) (by exact kS) ?_
       rotate_left
       · intro w h; (try dsimp only at h); (go_simp <;> with_reducible rfl)
       try simp only [Act.put, List.setIfInBounds_toArray, List.set_cons_zero, List.set_cons_succ]
       refine wpAnyH_ready (rs := [30]) (by kernel_rfl) (by simp) ?_
       refine AllReadyH.cons (o := { dst := some 91, op := Op.call { callee := Callee.value (Operand.func 17), args := #[Operand.tmp 89, Operand.tmp 90], argTypes := #[24, 24] }, type := 3, pos := "law.go:112", after := #[{ on := 28, ground := Ground.data }, { on := 29, ground := Ground.data }, { on := 26, ground := Ground.chain }, { on := 23, ground := Ground.guard }], guard := some (23, false) }) rfl (fun K hK => ?_) AllReadyH.nil
       go_simp
       (refine (compare_any s1 so a1 n1 c1 l1 ao no co lo _ (by exact J1.out) (by exact Jo.out) (by omega) (by omega)).mono ?_; rintro e V5 ⟨rfl, hb⟩; rw [KA.out]; have D1 : Hid (Box V5 (w.heap.size) (.bool s1) (.slice a1 n1 c1)) := D1.out.below hb D1.out.lt; have Dr : Hid (Box V5 (W4.heap.size + 1) (.bool sr) (.slice ar nr cr)) := Dr.out.below hb Dr.out.lt; have Dy : Hid (Box V5 (W8.heap.size) (.bool ss) (.slice ay ny cy)) := Dy.out.below hb Dy.out.lt; have Do : Hid (Box V5 (W10.heap.size) (.bool so) (.slice ao no co)) := Do.out.below hb Do.out.lt; have Dt : Hid (Box V5 (W10.heap.size + 1) (.bool sf) (.slice af nf cf)) := Dt.out.below hb Dt.out.lt; have Dz : Hid (Box V5 (W13.heap.size) (.bool sg) (.slice ag ng cg)) := Dz.out.below hb Dz.out.lt; have Jy : Hid (Sl V5 ay ny cy ly) := Jy.out.below hb (Nat.le_refl _); have J1 : Hid (Sl V5 a1 n1 c1 l1) := J1.out.below hb (Nat.le_refl _); have Jr : Hid (Sl V5 ar nr cr lr) := Jr.out.below hb (Nat.le_refl _); have Jo : Hid (Sl V5 ao no co lo) := Jo.out.below hb (Nat.le_refl _); have Jg : Hid (Sl V5 ag ng cg lg) := Jg.out.below hb (Nat.le_refl _); have Jf : Hid (Sl V5 af nf cf lf) := Jf.out.below hb (Nat.le_refl _); have HBD : Hid (Below w.heap.size w V5) := HBD.out.trans (hb.mono HBD.out.size); clear kS; have kS : V5.cell? ⟨w.heap.size, 0, none⟩ = some (.bool s1) ∧ V5.cell? ⟨w.heap.size, 1, none⟩ = some (.slice a1 n1 c1) ∧ V5.cell? ⟨W4.heap.size + 1, 0, none⟩ = some (.bool sr) ∧ V5.cell? ⟨W4.heap.size + 1, 1, none⟩ = some (.slice ar nr cr) ∧ V5.cell? ⟨W8.heap.size, 0, none⟩ = some (.bool ss) ∧ V5.cell? ⟨W8.heap.size, 1, none⟩ = some (.slice ay ny cy) ∧ V5.cell? ⟨W10.heap.size, 0, none⟩ = some (.bool so) ∧ V5.cell? ⟨W10.heap.size, 1, none⟩ = some (.slice ao no co) ∧ V5.cell? ⟨W10.heap.size + 1, 0, none⟩ = some (.bool sf) ∧ V5.cell? ⟨W10.heap.size + 1, 1, none⟩ = some (.slice af nf cf) ∧ V5.cell? ⟨W13.heap.size, 0, none⟩ = some (.bool sg) ∧ V5.cell? ⟨W13.heap.size, 1, none⟩ = some (.slice ag ng cg) := ⟨D1.out.z0, D1.out.z1, Dr.out.z0, Dr.out.z1, Dy.out.z0, Dy.out.z1, Do.out.z0, Do.out.z1, Dt.out.z0, Dt.out.z1, Dz.out.z0, Dz.out.z1⟩; clear hb)
       go_wp2_with fail
       refine hK.out _ _ (by exact kS) (fun hH => ?_)
       clear hK K hH
       try simp only [Act.put, List.setIfInBounds_toArray, List.set_cons_zero, List.set_cons_succ]
       refine wpAnyH_take (i := 31) (oi := { dst := some 92, op := Op.binOp BinOp.lss 3 (Operand.tmp 91) (Operand.const (Value.int IntKind.i64 0)) 3, type := 4, pos := "law.go:112", after := #[{ on := 30, ground := Ground.data }, { on := 23, ground := Ground.guard }], guard := some (23, false) }) (v := ?_) rfl (by kernel_rfl) (by kernel_rfl) (by kernel_rfl) (fun _ _ _ h => h) (Or.inl ⟨by rfl, ?_⟩) (by exact kS) ?_
       rotate_left
       · intro w h; (try dsimp only at h); (go_simp <;> with_reducible rfl)
       try simp only [Act.put, List.setIfInBounds_toArray, List.set_cons_zero, List.set_cons_succ]
       refine wpAnyH_take (i := 32) (oi := { dst := some 93, op := Op.binOp BinOp.eql 4 (Operand.tmp 88) (Operand.tmp 92) 4, type := 4, pos := "law.go:112", after := #[{ on := 27, ground := Ground.data }, { on := 31, ground := Ground.data }, { on := 23, ground := Ground.guard }], guard := some (23, false) }) (v := ?_) rfl (by kernel_rfl) (by kernel_rfl) (by kernel_rfl) (fun _ _ _ h => h) (Or.inl ⟨by rfl, ?_⟩) (by exact kS) ?_
       rotate_left
       · intro w h; (try dsimp only at h); (go_simp <;> with_reducible rfl)
       try simp only [Act.put, List.setIfInBounds_toArray, List.set_cons_zero, List.set_cons_succ]
       refine wpAnyH_take (i := 33) (oi := { dst := some 94, op := Op.pick (Operand.tmp 84) (Operand.const (Value.bool true)) (Operand.tmp 93), type := 4, pos := "law.go:112", after := #[{ on := 23, ground := Ground.data }, { on := 32, ground := Ground.data }, { on := 18, ground := Ground.guard }], guard := some (18, true) }) (v := ?_) rfl (by kernel_rfl) (by kernel_rfl) (by kernel_rfl) (fun _ _ _ h => h) (Or.inl ⟨by rfl, ?_⟩) (by exact kS) ?_
       rotate_left
       · intro w h; (try dsimp only at h); (go_simp <;> with_reducible rfl)
       try simp only [Act.put, List.setIfInBounds_toArray, List.set_cons_zero, List.set_cons_succ]
       refine wpAnyH_take (i := 34) (oi := { dst := some 95, op := Op.pick (Operand.tmp 79) (Operand.tmp 94) (Operand.const (Value.bool false)), type := 4, pos := "law.go:112", after := #[{ on := 18, ground := Ground.data }, { on := 33, ground := Ground.data }], guard := none }) (v := ?_) rfl (by kernel_rfl) (by kernel_rfl) (by kernel_rfl) (fun _ _ _ h => h) (Or.inl ⟨by rfl, ?_⟩) (by exact kS) ?_
       rotate_left
       · intro w h; (try dsimp only at h); (go_simp <;> with_reducible rfl)
       try simp only [Act.put, List.setIfInBounds_toArray, List.set_cons_zero, List.set_cons_succ]
       refine wpAnyH_take (i := 35) (oi := { dst := some 96, op := Op.move (Operand.tmp 95), type := 4, pos := "law.go:112", after := #[{ on := 34, ground := Ground.data }, { on := 30, ground := Ground.chain }], guard := none }) (v := ?_) rfl (by kernel_rfl) (by kernel_rfl) (by kernel_rfl) (fun _ _ _ h => h) (Or.inl ⟨by rfl, ?_⟩) (by exact kS) ?_
       rotate_left
       · intro w h; (try dsimp only at h); (go_simp <;> with_reducible rfl)
       try simp only [Act.put, List.setIfInBounds_toArray, List.set_cons_zero, List.set_cons_succ]
       refine wpAnyH_ready (rs := [36]) (by kernel_rfl) (by simp) ?_
       refine AllReadyH.cons (o := { dst := some 97, op := Op.call { callee := Callee.value (Operand.func 10), args := #[], argTypes := #[] }, type := 4, pos := "law.go:112", after := #[{ on := 35, ground := Ground.chain }, { on := 35, ground := Ground.guard }], guard := some (35, true) }) rfl (fun K hK => ?_) AllReadyH.nil
       go_simp
       (refine (awake_any _).mono ?_; rintro e V6 ⟨rfl, hb⟩; have D1 : Hid (Box V6 (w.heap.size) (.bool s1) (.slice a1 n1 c1)) := D1.out.below hb D1.out.lt; have Dr : Hid (Box V6 (W4.heap.size + 1) (.bool sr) (.slice ar nr cr)) := Dr.out.below hb Dr.out.lt; have Dy : Hid (Box V6 (W8.heap.size) (.bool ss) (.slice ay ny cy)) := Dy.out.below hb Dy.out.lt; have Do : Hid (Box V6 (W10.heap.size) (.bool so) (.slice ao no co)) := Do.out.below hb Do.out.lt; have Dt : Hid (Box V6 (W10.heap.size + 1) (.bool sf) (.slice af nf cf)) := Dt.out.below hb Dt.out.lt; have Dz : Hid (Box V6 (W13.heap.size) (.bool sg) (.slice ag ng cg)) := Dz.out.below hb Dz.out.lt; have Jy : Hid (Sl V6 ay ny cy ly) := Jy.out.below hb (Nat.le_refl _); have J1 : Hid (Sl V6 a1 n1 c1 l1) := J1.out.below hb (Nat.le_refl _); have Jr : Hid (Sl V6 ar nr cr lr) := Jr.out.below hb (Nat.le_refl _); have Jo : Hid (Sl V6 ao no co lo) := Jo.out.below hb (Nat.le_refl _); have Jg : Hid (Sl V6 ag ng cg lg) := Jg.out.below hb (Nat.le_refl _); have Jf : Hid (Sl V6 af nf cf lf) := Jf.out.below hb (Nat.le_refl _); have HBD : Hid (Below w.heap.size w V6) := HBD.out.trans (hb.mono HBD.out.size); clear kS; have kS : V6.cell? ⟨w.heap.size, 0, none⟩ = some (.bool s1) ∧ V6.cell? ⟨w.heap.size, 1, none⟩ = some (.slice a1 n1 c1) ∧ V6.cell? ⟨W4.heap.size + 1, 0, none⟩ = some (.bool sr) ∧ V6.cell? ⟨W4.heap.size + 1, 1, none⟩ = some (.slice ar nr cr) ∧ V6.cell? ⟨W8.heap.size, 0, none⟩ = some (.bool ss) ∧ V6.cell? ⟨W8.heap.size, 1, none⟩ = some (.slice ay ny cy) ∧ V6.cell? ⟨W10.heap.size, 0, none⟩ = some (.bool so) ∧ V6.cell? ⟨W10.heap.size, 1, none⟩ = some (.slice ao no co) ∧ V6.cell? ⟨W10.heap.size + 1, 0, none⟩ = some (.bool sf) ∧ V6.cell? ⟨W10.heap.size + 1, 1, none⟩ = some (.slice af nf cf) ∧ V6.cell? ⟨W13.heap.size, 0, none⟩ = some (.bool sg) ∧ V6.cell? ⟨W13.heap.size, 1, none⟩ = some (.slice ag ng cg) := ⟨D1.out.z0, D1.out.z1, Dr.out.z0, Dr.out.z1, Dy.out.z0, Dy.out.z1, Do.out.z0, Do.out.z1, Dt.out.z0, Dt.out.z1, Dz.out.z0, Dz.out.z1⟩; clear hb)
       go_wp2_with fail
       refine hK.out _ _ (by exact kS) (fun hH => ?_)
       clear hK K hH
       try simp only [Act.put, List.setIfInBounds_toArray, List.set_cons_zero, List.set_cons_succ]
       refine wpAnyH_take (i := 37) (oi := { dst := some 98, op := Op.pick (Operand.tmp 96) (Operand.tmp 97) (Operand.const (Value.bool false)), type := 4, pos := "law.go:112", after := #[{ on := 35, ground := Ground.data }, { on := 36, ground := Ground.data }], guard := none }) (v := ?_) rfl (by kernel_rfl) (by kernel_rfl) (by kernel_rfl) (fun _ _ _ h => h) (Or.inl ⟨by rfl, ?_⟩) (by exact kS) ?_
       rotate_left
       · intro w h; (try dsimp only at h); (go_simp <;> with_reducible rfl)
       try simp only [Act.put, List.setIfInBounds_toArray, List.set_cons_zero, List.set_cons_succ]
       refine wpAnyH_take (i := 38) (oi := { dst := some 4, op := Op.assign (Operand.tmp 98), type := 4, pos := "law.go:112", after := #[{ on := 37, ground := Ground.data }, { on := 36, ground := Ground.chain }, { on := 0, ground := Ground.phase }, { on := 1, ground := Ground.phase }, { on := 2, ground := Ground.phase }, { on := 3, ground := Ground.phase }, { on := 4, ground := Ground.phase }, { on := 5, ground := Ground.phase }, { on := 6, ground := Ground.phase }, { on := 7, ground := Ground.phase }, { on := 8, ground := Ground.phase }, { on := 9, ground := Ground.phase }, { on := 10, ground := Ground.phase }, { on := 11, ground := Ground.phase }, { on := 12, ground := Ground.phase }, { on := 13, ground := Ground.phase }, { on := 14, ground := Ground.phase }, { on := 15, ground := Ground.phase }, { on := 16, ground := Ground.phase }, { on := 17, ground := Ground.phase }, { on := 18, ground := Ground.phase }, { on := 19, ground := Ground.phase }, { on := 20, ground := Ground.phase }, { on := 21, ground := Ground.phase }, { on := 22, ground := Ground.phase }, { on := 23, ground := Ground.phase }, { on := 24, ground := Ground.phase }, { on := 25, ground := Ground.phase }, { on := 26, ground := Ground.phase }, { on := 27, ground := Ground.phase }, { on := 28, ground := Ground.phase }, { on := 29, ground := Ground.phase }, { on := 30, ground := Ground.phase }, { on := 31, ground := Ground.phase }, { on := 32, ground := Ground.phase }, { on := 33, ground := Ground.phase }, { on := 34, ground := Ground.phase }, { on := 35, ground := Ground.phase }, { on := 36, ground := Ground.phase }, { on := 37, ground := Ground.phase }], guard := none }) (v := ?_) rfl (by kernel_rfl) (by kernel_rfl) (by kernel_rfl) (fun _ _ _ h => h) (Or.inl ⟨by rfl, ?_⟩) (by exact kS) ?_
       rotate_left
       · intro w h; (try dsimp only at h); (go_simp <;> with_reducible rfl)
       try simp only [Act.put, List.setIfInBounds_toArray, List.set_cons_zero, List.set_cons_succ]
       refine wpAnyH_done (by kernel_rfl) ?_ _
       go_wp2_with fail
       go_ret
       exact ⟨rfl, HBD.out⟩
     · have Z3 : Hid (vr = 0) := zr
       clear zr
       go_wp2_with fail
       have RL : Hid (vr < vl 4294967296 l2) := by show _ < _; rw [← VR.out, (back_open EQ.out).2.2.2.2]; exact Nat.mod_lt _ (Nat.pos_of_ne_zero K1.out)
       have HA0 : Hid (cmpV ss (vl 4294967296 ly) s1 (vl 4294967296 l1) = 0) := by show _ = _; rw [cmpV_eq, Ey.out, ← SS.out, zi_sg]; exact cmpI_self _
       have HSZ : Hid (cmpV sr (vl 4294967296 lr) sf (vl 4294967296 lf) = -1) := by
         show _ = _
         have h1 := RL.out
         have h2 : zi sr (vl 4294967296 lr) = (vr : Int) := by
           rw [Er.out, Z3.out]; exact zi_zero _
         have h3 : zi sf (vl 4294967296 lf) = (vl 4294967296 l2 : Int) := by
           rw [Ef.out, ← SF.out, Z2.out]; simp [zi, sgB]
         rw [cmpV_eq, h2, h3]
         exact cmpI_lt (by omega)
       clear p10 p11 t1 p20 p21 t2 pq0 pq1 tq pr0 pr1 tr pp0 pp1 tp py0 py1 ty po0 po1 to pt0 pt1 tt pz0 pz1 tz
       have D1 : Hid (Box W16.drew (w.heap.size) (.bool s1) (.slice a1 n1 c1)) := X1.out.below (Below.refl _ _).drew X1.out.lt
       have Dr : Hid (Box W16.drew (W4.heap.size + 1) (.bool sr) (.slice ar nr cr)) := Xr.out.below (Below.refl _ _).drew Xr.out.lt
       have Dy : Hid (Box W16.drew (W8.heap.size) (.bool ss) (.slice ay ny cy)) := Xy.out.below (Below.refl _ _).drew Xy.out.lt
       have Do : Hid (Box W16.drew (W10.heap.size) (.bool so) (.slice ao no co)) := Xo.out.below (Below.refl _ _).drew Xo.out.lt
       have Dt : Hid (Box W16.drew (W10.heap.size + 1) (.bool sf) (.slice af nf cf)) := Xt.out.below (Below.refl _ _).drew Xt.out.lt
       have Dz : Hid (Box W16.drew (W13.heap.size) (.bool sr) (.slice ar nr cr)) := Xz.out.below (Below.refl _ _).drew Xz.out.lt
       have Jy : Hid (Sl W16.drew ay ny cy ly) := Hy.out.below (Below.refl _ _).drew (Nat.le_refl _)
       have J1 : Hid (Sl W16.drew a1 n1 c1 l1) := H1.out.below (Below.refl _ _).drew (Nat.le_refl _)
       have Jr : Hid (Sl W16.drew ar nr cr lr) := Hr.out.below (Below.refl _ _).drew (Nat.le_refl _)
       have Jo : Hid (Sl W16.drew ao no co lo) := Ho.out.below (Below.refl _ _).drew (Nat.le_refl _)
       have Jf : Hid (Sl W16.drew af nf cf lf) := Hf.out.below (Below.refl _ _).drew (Nat.le_refl _)
       have HBD : Hid (Below w.heap.size w W16.drew) := HB.out.drew
       have kS : W16.drew.cell? ⟨w.heap.size, 0, none⟩ = some (.bool s1) ∧ W16.drew.cell? ⟨w.heap.size, 1, none⟩ = some (.slice a1 n1 c1) ∧ W16.drew.cell? ⟨W4.heap.size + 1, 0, none⟩ = some (.bool sr) ∧ W16.drew.cell? ⟨W4.heap.size + 1, 1, none⟩ = some (.slice ar nr cr) ∧ W16.drew.cell? ⟨W8.heap.size, 0, none⟩ = some (.bool ss) ∧ W16.drew.cell? ⟨W8.heap.size, 1, none⟩ = some (.slice ay ny cy) ∧ W16.drew.cell? ⟨W10.heap.size, 0, none⟩ = some (.bool so) ∧ W16.drew.cell? ⟨W10.heap.size, 1, none⟩ = some (.slice ao no co) ∧ W16.drew.cell? ⟨W10.heap.size + 1, 0, none⟩ = some (.bool sf) ∧ W16.drew.cell? ⟨W10.heap.size + 1, 1, none⟩ = some (.slice af nf cf) ∧ W16.drew.cell? ⟨W13.heap.size, 0, none⟩ = some (.bool sr) ∧ W16.drew.cell? ⟨W13.heap.size, 1, none⟩ = some (.slice ar nr cr) := ⟨D1.out.z0, D1.out.z1, Dr.out.z0, Dr.out.z1, Dy.out.z0, Dy.out.z1, Do.out.z0, Do.out.z1, Dt.out.z0, Dt.out.z1, Dz.out.z0, Dz.out.z1⟩
       clear X1 X2 Xq Xr Xp Xy Xo Xt Xz H1 H2 Hq Hr Hp Hy Ho Hf T1 T2 Tq Tr Tp Ty To Tf HB BT
       refine wp_region_held_drew (S := fun w' => w'.cell? ⟨w.heap.size, 0, none⟩ = some (.bool s1) ∧ w'.cell? ⟨w.heap.size, 1, none⟩ = some (.slice a1 n1 c1) ∧ w'.cell? ⟨W4.heap.size + 1, 0, none⟩ = some (.bool sr) ∧ w'.cell? ⟨W4.heap.size + 1, 1, none⟩ = some (.slice ar nr cr) ∧ w'.cell? ⟨W8.heap.size, 0, none⟩ = some (.bool ss) ∧ w'.cell? ⟨W8.heap.size, 1, none⟩ = some (.slice ay ny cy) ∧ w'.cell? ⟨W10.heap.size, 0, none⟩ = some (.bool so) ∧ w'.cell? ⟨W10.heap.size, 1, none⟩ = some (.slice ao no co) ∧ w'.cell? ⟨W10.heap.size + 1, 0, none⟩ = some (.bool sf) ∧ w'.cell? ⟨W10.heap.size + 1, 1, none⟩ = some (.slice af nf cf) ∧ w'.cell? ⟨W13.heap.size, 0, none⟩ = some (.bool sr) ∧ w'.cell? ⟨W13.heap.size, 1, none⟩ = some (.slice ar nr cr)) (by kernel_rfl) (by exact kS) (fun hH => ?_)
       clear hH
       refine wpAnyH_take (i := 0) (oi := { dst := some 61, op := Op.move (Operand.tmp 9), type := 28, pos := "law.go:112", after := #[], guard := none }) (v := ?_) rfl (by kernel_rfl) (by kernel_rfl) (by kernel_rfl) (fun _ _ _ h => h) (Or.inl ⟨by rfl, ?_⟩) (by exact kS) ?_
       rotate_left
       · intro w h; (try dsimp only at h); (go_simp <;> with_reducible rfl)
       try simp only [Act.put, List.setIfInBounds_toArray, List.set_cons_zero, List.set_cons_succ]
       refine wpAnyH_take (i := 1) (oi := { dst := some 62, op := Op.binOp BinOp.eql 28 (Operand.tmp 61) (Operand.const (Value.int IntKind.i64 0)) 28, type := 4, pos := "law.go:112", after := #[{ on := 0, ground := Ground.data }], guard := none }) (v := ?_) rfl (by kernel_rfl) (by kernel_rfl) (by kernel_rfl) (fun _ _ _ h => h) (Or.inl ⟨by rfl, ?_⟩) (by exact kS) ?_
       rotate_left
       · intro w h; (try dsimp only at h); (go_simp <;> with_reducible rfl)
       try simp only [Act.put, List.setIfInBounds_toArray, List.set_cons_zero, List.set_cons_succ]
       refine wpAnyH_take (i := 2) (oi := { dst := some 63, op := Op.move (Operand.tmp 62), type := 4, pos := "law.go:112", after := #[{ on := 1, ground := Ground.data }], guard := none }) (v := ?_) rfl (by kernel_rfl) (by kernel_rfl) (by kernel_rfl) (fun _ _ _ h => h) (Or.inl ⟨by rfl, ?_⟩) (by exact kS) ?_
       rotate_left
       · intro w h; (try dsimp only at h); (go_simp <;> with_reducible rfl)
       try simp only [Act.put, List.setIfInBounds_toArray, List.set_cons_zero, List.set_cons_succ]
       refine wpAnyH_take (i := 3) (oi := { dst := some 64, op := Op.move (Operand.tmp 11), type := 28, pos := "law.go:112", after := #[{ on := 2, ground := Ground.guard }], guard := some (2, true) }) (v := ?_) rfl (by kernel_rfl) (by kernel_rfl) (by kernel_rfl) (fun _ _ _ h => h) (Or.inl ⟨by rfl, ?_⟩) (by exact kS) ?_
       rotate_left
       · intro w h; (try dsimp only at h); (go_simp <;> with_reducible rfl)
       try simp only [Act.put, List.setIfInBounds_toArray, List.set_cons_zero, List.set_cons_succ]
       refine wpAnyH_take (i := 4) (oi := { dst := some 65, op := Op.binOp BinOp.eql 28 (Operand.tmp 64) (Operand.const (Value.int IntKind.i64 0)) 28, type := 4, pos := "law.go:112", after := #[{ on := 3, ground := Ground.data }, { on := 2, ground := Ground.guard }], guard := some (2, true) }) (v := ?_) rfl (by kernel_rfl) (by kernel_rfl) (by kernel_rfl) (fun _ _ _ h => h) (Or.inl ⟨by rfl, ?_⟩) (by exact kS) ?_
       rotate_left
       · intro w h; (try dsimp only at h); (go_simp <;> with_reducible rfl)
       try simp only [Act.put, List.setIfInBounds_toArray, List.set_cons_zero, List.set_cons_succ]
       refine wpAnyH_take (i := 5) (oi := { dst := some 66, op := Op.pick (Operand.tmp 63) (Operand.tmp 65) (Operand.const (Value.bool false)), type := 4, pos := "law.go:112", after := #[{ on := 2, ground := Ground.data }, { on := 4, ground := Ground.data }], guard := none }) (v := ?_) rfl (by kernel_rfl) (by kernel_rfl) (by kernel_rfl) (fun _ _ _ h => h) (Or.inl ⟨by rfl, ?_⟩) (by exact kS) ?_
       rotate_left
       · intro w h; (try dsimp only at h); (go_simp <;> with_reducible rfl)
       try simp only [Act.put, List.setIfInBounds_toArray, List.set_cons_zero, List.set_cons_succ]
       refine wpAnyH_take (i := 6) (oi := { dst := some 67, op := Op.move (Operand.tmp 66), type := 4, pos := "law.go:112", after := #[{ on := 5, ground := Ground.data }, { on := 2, ground := Ground.chain }], guard := none }) (v := ?_) rfl (by kernel_rfl) (by kernel_rfl) (by kernel_rfl) (fun _ _ _ h => h) (Or.inl ⟨by rfl, ?_⟩) (by exact kS) ?_
       rotate_left
       · intro w h; (try dsimp only at h); (go_simp <;> with_reducible rfl)
       try simp only [Act.put, List.setIfInBounds_toArray, List.set_cons_zero, List.set_cons_succ]
       refine wpAnyH_take (i := 7) (oi := { dst := some 68, op := Op.load 24 (Operand.tmp 10), type := 24, pos := "law.go:112", after := #[{ on := 6, ground := Ground.guard }], guard := some (6, true) }) (v := ?_) rfl (by kernel_rfl) (by kernel_rfl) (by kernel_rfl) (fun _ _ _ h => h) (Or.inl ⟨by rfl, ?_⟩) (by exact kS) ?_
       rotate_left
       · intro w h; (try dsimp only at h); (go_simp <;> with_reducible rfl)
       try simp only [Act.put, List.setIfInBounds_toArray, List.set_cons_zero, List.set_cons_succ]
       refine wpAnyH_take (i := 8) (oi := { dst := some 69, op := Op.load 24 (Operand.tmp 2), type := 24, pos := "law.go:112", after := #[{ on := 6, ground := Ground.guard }], guard := some (6, true) }) (v := ?_) rfl (by kernel_rfl) (by kernel_rfl) (by kernel_rfl) (fun _ _ _ h => h) (Or.inl ⟨by rfl, ?_⟩) (by exact kS) ?_
       rotate_left
       · intro w h; (try dsimp only at h); (go_simp <;> with_reducible rfl)
       try simp only [Act.put, List.setIfInBounds_toArray, List.set_cons_zero, List.set_cons_succ]
       refine wpAnyH_ready (rs := [9]) (by kernel_rfl) (by simp) ?_
       refine AllReadyH.cons (o := { dst := some 70, op := Op.call { callee := Callee.value (Operand.func 17), args := #[Operand.tmp 68, Operand.tmp 69], argTypes := #[24, 24] }, type := 3, pos := "law.go:112", after := #[{ on := 7, ground := Ground.data }, { on := 8, ground := Ground.data }, { on := 6, ground := Ground.chain }, { on := 6, ground := Ground.guard }], guard := some (6, true) }) rfl (fun K hK => ?_) AllReadyH.nil
       go_simp
       (refine (compare_any ss s1 ay ny cy ly a1 n1 c1 l1 _ (by exact Jy.out) (by exact J1.out) (by omega) (by omega)).mono ?_; rintro e V1 ⟨rfl, hb⟩; rw [HA0.out]; have D1 : Hid (Box V1 (w.heap.size) (.bool s1) (.slice a1 n1 c1)) := D1.out.below hb D1.out.lt; have Dr : Hid (Box V1 (W4.heap.size + 1) (.bool sr) (.slice ar nr cr)) := Dr.out.below hb Dr.out.lt; have Dy : Hid (Box V1 (W8.heap.size) (.bool ss) (.slice ay ny cy)) := Dy.out.below hb Dy.out.lt; have Do : Hid (Box V1 (W10.heap.size) (.bool so) (.slice ao no co)) := Do.out.below hb Do.out.lt; have Dt : Hid (Box V1 (W10.heap.size + 1) (.bool sf) (.slice af nf cf)) := Dt.out.below hb Dt.out.lt; have Dz : Hid (Box V1 (W13.heap.size) (.bool sr) (.slice ar nr cr)) := Dz.out.below hb Dz.out.lt; have Jy : Hid (Sl V1 ay ny cy ly) := Jy.out.below hb (Nat.le_refl _); have J1 : Hid (Sl V1 a1 n1 c1 l1) := J1.out.below hb (Nat.le_refl _); have Jr : Hid (Sl V1 ar nr cr lr) := Jr.out.below hb (Nat.le_refl _); have Jo : Hid (Sl V1 ao no co lo) := Jo.out.below hb (Nat.le_refl _); have Jf : Hid (Sl V1 af nf cf lf) := Jf.out.below hb (Nat.le_refl _); have HBD : Hid (Below w.heap.size w V1) := HBD.out.trans (hb.mono HBD.out.size); clear kS; have kS : V1.cell? ⟨w.heap.size, 0, none⟩ = some (.bool s1) ∧ V1.cell? ⟨w.heap.size, 1, none⟩ = some (.slice a1 n1 c1) ∧ V1.cell? ⟨W4.heap.size + 1, 0, none⟩ = some (.bool sr) ∧ V1.cell? ⟨W4.heap.size + 1, 1, none⟩ = some (.slice ar nr cr) ∧ V1.cell? ⟨W8.heap.size, 0, none⟩ = some (.bool ss) ∧ V1.cell? ⟨W8.heap.size, 1, none⟩ = some (.slice ay ny cy) ∧ V1.cell? ⟨W10.heap.size, 0, none⟩ = some (.bool so) ∧ V1.cell? ⟨W10.heap.size, 1, none⟩ = some (.slice ao no co) ∧ V1.cell? ⟨W10.heap.size + 1, 0, none⟩ = some (.bool sf) ∧ V1.cell? ⟨W10.heap.size + 1, 1, none⟩ = some (.slice af nf cf) ∧ V1.cell? ⟨W13.heap.size, 0, none⟩ = some (.bool sr) ∧ V1.cell? ⟨W13.heap.size, 1, none⟩ = some (.slice ar nr cr) := ⟨D1.out.z0, D1.out.z1, Dr.out.z0, Dr.out.z1, Dy.out.z0, Dy.out.z1, Do.out.z0, Do.out.z1, Dt.out.z0, Dt.out.z1, Dz.out.z0, Dz.out.z1⟩; clear hb)
       go_wp2_with fail
       refine hK.out _ _ (by exact kS) (fun hH => ?_)
       clear hK K hH
       try simp only [Act.put, List.setIfInBounds_toArray, List.set_cons_zero, List.set_cons_succ]
       refine wpAnyH_take (i := 10) (oi := { dst := some 71, op := Op.binOp BinOp.eql 3 (Operand.tmp 70) (Operand.const (Value.int IntKind.i64 0)) 3, type := 4, pos := "law.go:112", after := #[{ on := 9, ground := Ground.data }, { on := 6, ground := Ground.guard }], guard := some (6, true) }) (v := ?_) rfl (by kernel_rfl) (by kernel_rfl) (by kernel_rfl) (fun _ _ _ h => h) (Or.inl ⟨by rfl, ?_⟩) (by exact kS) ?_
       rotate_left
       · intro w h; (try dsimp only at h); (go_simp <;> with_reducible rfl)
       try simp only [Act.put, List.setIfInBounds_toArray, List.set_cons_zero, List.set_cons_succ]
       refine wpAnyH_take (i := 11) (oi := { dst := some 72, op := Op.pick (Operand.tmp 67) (Operand.tmp 71) (Operand.const (Value.bool false)), type := 4, pos := "law.go:112", after := #[{ on := 6, ground := Ground.data }, { on := 10, ground := Ground.data }], guard := none }) (v := ?_) rfl (by kernel_rfl) (by kernel_rfl) (by kernel_rfl) (fun _ _ _ h => h) (Or.inl ⟨by rfl, ?_⟩) (by exact kS) ?_
       rotate_left
       · intro w h; (try dsimp only at h); (go_simp <;> with_reducible rfl)
       try simp only [Act.put, List.setIfInBounds_toArray, List.set_cons_zero, List.set_cons_succ]
       refine wpAnyH_take (i := 12) (oi := { dst := some 73, op := Op.move (Operand.tmp 72), type := 4, pos := "law.go:112", after := #[{ on := 11, ground := Ground.data }, { on := 9, ground := Ground.chain }], guard := none }) (v := ?_) rfl (by kernel_rfl) (by kernel_rfl) (by kernel_rfl) (fun _ _ _ h => h) (Or.inl ⟨by rfl, ?_⟩) (by exact kS) ?_
       rotate_left
       · intro w h; (try dsimp only at h); (go_simp <;> with_reducible rfl)
       try simp only [Act.put, List.setIfInBounds_toArray, List.set_cons_zero, List.set_cons_succ]
       refine wpAnyH_take (i := 13) (oi := { dst := some 74, op := Op.load 24 (Operand.tmp 14), type := 24, pos := "law.go:112", after := #[{ on := 12, ground := Ground.guard }], guard := some (12, true) }) (v := ?_) rfl (by kernel_rfl) (by kernel_rfl) (by kernel_rfl) (fun _ _ _ h => h) (Or.inl ⟨by rfl, ?_⟩) (by exact kS) ?_
       rotate_left
       · intro w h; (try dsimp only at h); (go_simp <;> with_reducible rfl)
       try simp only [Act.put, List.setIfInBounds_toArray, List.set_cons_zero, List.set_cons_succ]
       refine wpAnyH_take (i := 14) (oi := { dst := some 75, op := Op.load 24 (Operand.tmp 13), type := 24, pos := "law.go:112", after := #[{ on := 12, ground := Ground.guard }], guard := some (12, true) }) (v := ?_) rfl (by kernel_rfl) (by kernel_rfl) (by kernel_rfl) (fun _ _ _ h => h) (Or.inl ⟨by rfl, ?_⟩) (by exact kS) ?_
       rotate_left
       · intro w h; (try dsimp only at h); (go_simp <;> with_reducible rfl)
       try simp only [Act.put, List.setIfInBounds_toArray, List.set_cons_zero, List.set_cons_succ]
       refine wpAnyH_ready (rs := [15]) (by kernel_rfl) (by simp) ?_
       refine AllReadyH.cons (o := { dst := some 76, op := Op.call { callee := Callee.value (Operand.func 17), args := #[Operand.tmp 74, Operand.tmp 75], argTypes := #[24, 24] }, type := 3, pos := "law.go:112", after := #[{ on := 13, ground := Ground.data }, { on := 14, ground := Ground.data }, { on := 12, ground := Ground.chain }, { on := 12, ground := Ground.guard }], guard := some (12, true) }) rfl (fun K hK => ?_) AllReadyH.nil
       go_simp
       (refine (compare_any sr sf ar nr cr lr af nf cf lf _ (by exact Jr.out) (by exact Jf.out) (by omega) (by omega)).mono ?_; rintro e V2 ⟨rfl, hb⟩; rw [HSZ.out]; have D1 : Hid (Box V2 (w.heap.size) (.bool s1) (.slice a1 n1 c1)) := D1.out.below hb D1.out.lt; have Dr : Hid (Box V2 (W4.heap.size + 1) (.bool sr) (.slice ar nr cr)) := Dr.out.below hb Dr.out.lt; have Dy : Hid (Box V2 (W8.heap.size) (.bool ss) (.slice ay ny cy)) := Dy.out.below hb Dy.out.lt; have Do : Hid (Box V2 (W10.heap.size) (.bool so) (.slice ao no co)) := Do.out.below hb Do.out.lt; have Dt : Hid (Box V2 (W10.heap.size + 1) (.bool sf) (.slice af nf cf)) := Dt.out.below hb Dt.out.lt; have Dz : Hid (Box V2 (W13.heap.size) (.bool sr) (.slice ar nr cr)) := Dz.out.below hb Dz.out.lt; have Jy : Hid (Sl V2 ay ny cy ly) := Jy.out.below hb (Nat.le_refl _); have J1 : Hid (Sl V2 a1 n1 c1 l1) := J1.out.below hb (Nat.le_refl _); have Jr : Hid (Sl V2 ar nr cr lr) := Jr.out.below hb (Nat.le_refl _); have Jo : Hid (Sl V2 ao no co lo) := Jo.out.below hb (Nat.le_refl _); have Jf : Hid (Sl V2 af nf cf lf) := Jf.out.below hb (Nat.le_refl _); have HBD : Hid (Below w.heap.size w V2) := HBD.out.trans (hb.mono HBD.out.size); clear kS; have kS : V2.cell? ⟨w.heap.size, 0, none⟩ = some (.bool s1) ∧ V2.cell? ⟨w.heap.size, 1, none⟩ = some (.slice a1 n1 c1) ∧ V2.cell? ⟨W4.heap.size + 1, 0, none⟩ = some (.bool sr) ∧ V2.cell? ⟨W4.heap.size + 1, 1, none⟩ = some (.slice ar nr cr) ∧ V2.cell? ⟨W8.heap.size, 0, none⟩ = some (.bool ss) ∧ V2.cell? ⟨W8.heap.size, 1, none⟩ = some (.slice ay ny cy) ∧ V2.cell? ⟨W10.heap.size, 0, none⟩ = some (.bool so) ∧ V2.cell? ⟨W10.heap.size, 1, none⟩ = some (.slice ao no co) ∧ V2.cell? ⟨W10.heap.size + 1, 0, none⟩ = some (.bool sf) ∧ V2.cell? ⟨W10.heap.size + 1, 1, none⟩ = some (.slice af nf cf) ∧ V2.cell? ⟨W13.heap.size, 0, none⟩ = some (.bool sr) ∧ V2.cell? ⟨W13.heap.size, 1, none⟩ = some (.slice ar nr cr) := ⟨D1.out.z0, D1.out.z1, Dr.out.z0, Dr.out.z1, Dy.out.z0, Dy.out.z1, Do.out.z0, Do.out.z1, Dt.out.z0, Dt.out.z1, Dz.out.z0, Dz.out.z1⟩; clear hb)
       go_wp2_with fail
       refine hK.out _ _ (by exact kS) (fun hH => ?_)
       clear hK K hH
       try simp only [Act.put, List.setIfInBounds_toArray, List.set_cons_zero, List.set_cons_succ]
       refine wpAnyH_take (i := 16) (oi := { dst := some 77, op := Op.binOp BinOp.lss 3 (Operand.tmp 76) (Operand.const (Value.int IntKind.i64 0)) 3, type := 4, pos := "law.go:112", after := #[{ on := 15, ground := Ground.data }, { on := 12, ground := Ground.guard }], guard := some (12, true) }) (v := ?_) rfl (by kernel_rfl) (by kernel_rfl) (by kernel_rfl) (fun _ _ _ h => h) (Or.inl ⟨by rfl, ?_⟩) (by exact kS) ?_
       rotate_left
       · intro w h; (try dsimp only at h); (go_simp <;> with_reducible rfl)
       try simp only [Act.put, List.setIfInBounds_toArray, List.set_cons_zero, List.set_cons_succ]
       refine wpAnyH_take (i := 17) (oi := { dst := some 78, op := Op.pick (Operand.tmp 73) (Operand.tmp 77) (Operand.const (Value.bool false)), type := 4, pos := "law.go:112", after := #[{ on := 12, ground := Ground.data }, { on := 16, ground := Ground.data }], guard := none }) (v := ?_) rfl (by kernel_rfl) (by kernel_rfl) (by kernel_rfl) (fun _ _ _ h => h) (Or.inl ⟨by rfl, ?_⟩) (by exact kS) ?_
       rotate_left
       · intro w h; (try dsimp only at h); (go_simp <;> with_reducible rfl)
       try simp only [Act.put, List.setIfInBounds_toArray, List.set_cons_zero, List.set_cons_succ]
       refine wpAnyH_take (i := 18) (oi := { dst := some 79, op := Op.move (Operand.tmp 78), type := 4, pos := "law.go:112", after := #[{ on := 17, ground := Ground.data }, { on := 15, ground := Ground.chain }], guard := none }) (v := ?_) rfl (by kernel_rfl) (by kernel_rfl) (by kernel_rfl) (fun _ _ _ h => h) (Or.inl ⟨by rfl, ?_⟩) (by exact kS) ?_
       rotate_left
       · intro w h; (try dsimp only at h); (go_simp <;> with_reducible rfl)
       try simp only [Act.put, List.setIfInBounds_toArray, List.set_cons_zero, List.set_cons_succ]
       refine wpAnyH_take (i := 19) (oi := { dst := some 80, op := Op.load 24 (Operand.tmp 6), type := 24, pos := "law.go:112", after := #[{ on := 18, ground := Ground.guard }], guard := some (18, true) }) (v := ?_) rfl (by kernel_rfl) (by kernel_rfl) (by kernel_rfl) (fun _ _ _ h => h) (Or.inl ⟨by rfl, ?_⟩) (by exact kS) ?_
       rotate_left
       · intro w h; (try dsimp only at h); (go_simp <;> with_reducible rfl)
       try simp only [Act.put, List.setIfInBounds_toArray, List.set_cons_zero, List.set_cons_succ]
       refine wpAnyH_take (i := 20) (oi := { dst := some 81, op := Op.load 24 (Operand.tmp 12), type := 24, pos := "law.go:112", after := #[{ on := 18, ground := Ground.guard }], guard := some (18, true) }) (v := ?_) rfl (by kernel_rfl) (by kernel_rfl) (by kernel_rfl) (fun _ _ _ h => h) (Or.inl ⟨by rfl, ?_⟩) (by exact kS) ?_
       rotate_left
       · intro w h; (try dsimp only at h); (go_simp <;> with_reducible rfl)
       try simp only [Act.put, List.setIfInBounds_toArray, List.set_cons_zero, List.set_cons_succ]
       refine wpAnyH_ready (rs := [21]) (by kernel_rfl) (by simp) ?_
       refine AllReadyH.cons (o := { dst := some 82, op := Op.call { callee := Callee.value (Operand.func 17), args := #[Operand.tmp 80, Operand.tmp 81], argTypes := #[24, 24] }, type := 3, pos := "law.go:112", after := #[{ on := 19, ground := Ground.data }, { on := 20, ground := Ground.data }, { on := 18, ground := Ground.chain }, { on := 18, ground := Ground.guard }], guard := some (18, true) }) rfl (fun K hK => ?_) AllReadyH.nil
       go_simp
       (refine (compare_any sr so ar nr cr lr ao no co lo _ (by exact Jr.out) (by exact Jo.out) (by omega) (by omega)).mono ?_; rintro e V3 ⟨rfl, hb⟩; rw [KR.out]; have D1 : Hid (Box V3 (w.heap.size) (.bool s1) (.slice a1 n1 c1)) := D1.out.below hb D1.out.lt; have Dr : Hid (Box V3 (W4.heap.size + 1) (.bool sr) (.slice ar nr cr)) := Dr.out.below hb Dr.out.lt; have Dy : Hid (Box V3 (W8.heap.size) (.bool ss) (.slice ay ny cy)) := Dy.out.below hb Dy.out.lt; have Do : Hid (Box V3 (W10.heap.size) (.bool so) (.slice ao no co)) := Do.out.below hb Do.out.lt; have Dt : Hid (Box V3 (W10.heap.size + 1) (.bool sf) (.slice af nf cf)) := Dt.out.below hb Dt.out.lt; have Dz : Hid (Box V3 (W13.heap.size) (.bool sr) (.slice ar nr cr)) := Dz.out.below hb Dz.out.lt; have Jy : Hid (Sl V3 ay ny cy ly) := Jy.out.below hb (Nat.le_refl _); have J1 : Hid (Sl V3 a1 n1 c1 l1) := J1.out.below hb (Nat.le_refl _); have Jr : Hid (Sl V3 ar nr cr lr) := Jr.out.below hb (Nat.le_refl _); have Jo : Hid (Sl V3 ao no co lo) := Jo.out.below hb (Nat.le_refl _); have Jf : Hid (Sl V3 af nf cf lf) := Jf.out.below hb (Nat.le_refl _); have HBD : Hid (Below w.heap.size w V3) := HBD.out.trans (hb.mono HBD.out.size); clear kS; have kS : V3.cell? ⟨w.heap.size, 0, none⟩ = some (.bool s1) ∧ V3.cell? ⟨w.heap.size, 1, none⟩ = some (.slice a1 n1 c1) ∧ V3.cell? ⟨W4.heap.size + 1, 0, none⟩ = some (.bool sr) ∧ V3.cell? ⟨W4.heap.size + 1, 1, none⟩ = some (.slice ar nr cr) ∧ V3.cell? ⟨W8.heap.size, 0, none⟩ = some (.bool ss) ∧ V3.cell? ⟨W8.heap.size, 1, none⟩ = some (.slice ay ny cy) ∧ V3.cell? ⟨W10.heap.size, 0, none⟩ = some (.bool so) ∧ V3.cell? ⟨W10.heap.size, 1, none⟩ = some (.slice ao no co) ∧ V3.cell? ⟨W10.heap.size + 1, 0, none⟩ = some (.bool sf) ∧ V3.cell? ⟨W10.heap.size + 1, 1, none⟩ = some (.slice af nf cf) ∧ V3.cell? ⟨W13.heap.size, 0, none⟩ = some (.bool sr) ∧ V3.cell? ⟨W13.heap.size, 1, none⟩ = some (.slice ar nr cr) := ⟨D1.out.z0, D1.out.z1, Dr.out.z0, Dr.out.z1, Dy.out.z0, Dy.out.z1, Do.out.z0, Do.out.z1, Dt.out.z0, Dt.out.z1, Dz.out.z0, Dz.out.z1⟩; clear hb)
       go_wp2_with fail
       refine hK.out _ _ (by exact kS) (fun hH => ?_)
       clear hK K hH
       try simp only [Act.put, List.setIfInBounds_toArray, List.set_cons_zero, List.set_cons_succ]
       refine wpAnyH_take (i := 22) (oi := { dst := some 83, op := Op.binOp BinOp.eql 3 (Operand.tmp 82) (Operand.const (Value.int IntKind.i64 0)) 3, type := 4, pos := "law.go:112", after := #[{ on := 21, ground := Ground.data }, { on := 18, ground := Ground.guard }], guard := some (18, true) }) (v := ?_) rfl (by kernel_rfl) (by kernel_rfl) (by kernel_rfl) (fun _ _ _ h => h) (Or.inl ⟨by rfl, ?_⟩) (by exact kS) ?_
       rotate_left
       · intro w h; (try dsimp only at h); (go_simp <;> with_reducible rfl)
       try simp only [Act.put, List.setIfInBounds_toArray, List.set_cons_zero, List.set_cons_succ]
       refine wpAnyH_take (i := 23) (oi := { dst := some 84, op := Op.move (Operand.tmp 83), type := 4, pos := "law.go:112", after := #[{ on := 22, ground := Ground.data }, { on := 21, ground := Ground.chain }, { on := 18, ground := Ground.guard }], guard := some (18, true) }) (v := ?_) rfl (by kernel_rfl) (by kernel_rfl) (by kernel_rfl) (fun _ _ _ h => h) (Or.inl ⟨by rfl, ?_⟩) (by exact kS) ?_
       rotate_left
       · intro w h; (try dsimp only at h); (go_simp <;> with_reducible rfl)
       try simp only [Act.put, List.setIfInBounds_toArray, List.set_cons_zero, List.set_cons_succ]
       refine wpAnyH_take (i := 24) (oi := { dst := some 85, op := Op.load 24 (Operand.tmp 6), type := 24, pos := "law.go:112", after := #[{ on := 23, ground := Ground.guard }], guard := some (23, false) }) (v := undef) rfl (by kernel_rfl) (by kernel_rfl) (by kernel_rfl) (fun _ _ _ h => h) (Or.inr ⟨by rfl, rfl⟩) (by exact kS) ?_
       try simp only [Act.put, List.setIfInBounds_toArray, List.set_cons_zero, List.set_cons_succ]
       refine wpAnyH_take (i := 25) (oi := { dst := some 86, op := Op.load 24 (Operand.tmp 12), type := 24, pos := "law.go:112", after := #[{ on := 23, ground := Ground.guard }], guard := some (23, false) }) (v := undef) rfl (by kernel_rfl) (by kernel_rfl) (by kernel_rfl) (fun _ _ _ h => h) (Or.inr ⟨by rfl, rfl⟩) (by exact kS) ?_
       try simp only [Act.put, List.setIfInBounds_toArray, List.set_cons_zero, List.set_cons_succ]
       refine wpAnyH_take (i := 28) (oi := { dst := some 89, op := Op.load 24 (Operand.tmp 2), type := 24, pos := "law.go:112", after := #[{ on := 23, ground := Ground.guard }], guard := some (23, false) }) (v := undef) rfl (by kernel_rfl) (by kernel_rfl) (by kernel_rfl) (fun _ _ _ h => h) (Or.inr ⟨by rfl, rfl⟩) (by exact kS) ?_
       try simp only [Act.put, List.setIfInBounds_toArray, List.set_cons_zero, List.set_cons_succ]
       refine wpAnyH_take (i := 29) (oi := { dst := some 90, op := Op.load 24 (Operand.tmp 12), type := 24, pos := "law.go:112", after := #[{ on := 23, ground := Ground.guard }], guard := some (23, false) }) (v := undef) rfl (by kernel_rfl) (by kernel_rfl) (by kernel_rfl) (fun _ _ _ h => h) (Or.inr ⟨by rfl, rfl⟩) (by exact kS) ?_
       try simp only [Act.put, List.setIfInBounds_toArray, List.set_cons_zero, List.set_cons_succ]
       refine wpAnyH_ready (rs := [26]) (by kernel_rfl) (by simp) ?_
       refine AllReadyH.cons (o := { dst := some 87, op := Op.call { callee := Callee.value (Operand.func 17), args := #[Operand.tmp 85, Operand.tmp 86], argTypes := #[24, 24] }, type := 3, pos := "law.go:112", after := #[{ on := 24, ground := Ground.data }, { on := 25, ground := Ground.data }, { on := 23, ground := Ground.chain }, { on := 23, ground := Ground.guard }], guard := some (23, false) }) rfl (fun K hK => ?_) AllReadyH.nil
       go_simp
       refine hK.out _ _ (by exact kS) (fun hH => ?_)
       clear hK K hH
       try simp only [Act.put, List.setIfInBounds_toArray, List.set_cons_zero, List.set_cons_succ]
       refine wpAnyH_take (i := 27) (oi := { dst := some 88, op := Op.binOp BinOp.lss 3 (Operand.tmp 87) (Operand.const (Value.int IntKind.i64 0)) 3, type := 4, pos := "law.go:112", after := #[{ on := 26, ground := Ground.data }, { on := 23, ground := Ground.guard }], guard := some (23, false) }) (v := undef) rfl (by kernel_rfl) (by kernel_rfl) (by kernel_rfl) (fun _ _ _ h => h) (Or.inr ⟨by rfl, rfl⟩) (by exact kS) ?_
       try simp only [Act.put, List.setIfInBounds_toArray, List.set_cons_zero, List.set_cons_succ]
       refine wpAnyH_ready (rs := [30]) (by kernel_rfl) (by simp) ?_
       refine AllReadyH.cons (o := { dst := some 91, op := Op.call { callee := Callee.value (Operand.func 17), args := #[Operand.tmp 89, Operand.tmp 90], argTypes := #[24, 24] }, type := 3, pos := "law.go:112", after := #[{ on := 28, ground := Ground.data }, { on := 29, ground := Ground.data }, { on := 26, ground := Ground.chain }, { on := 23, ground := Ground.guard }], guard := some (23, false) }) rfl (fun K hK => ?_) AllReadyH.nil
       go_simp
       refine hK.out _ _ (by exact kS) (fun hH => ?_)
       clear hK K hH
       try simp only [Act.put, List.setIfInBounds_toArray, List.set_cons_zero, List.set_cons_succ]
       refine wpAnyH_take (i := 31) (oi := { dst := some 92, op := Op.binOp BinOp.lss 3 (Operand.tmp 91) (Operand.const (Value.int IntKind.i64 0)) 3, type := 4, pos := "law.go:112", after := #[{ on := 30, ground := Ground.data }, { on := 23, ground := Ground.guard }], guard := some (23, false) }) (v := undef) rfl (by kernel_rfl) (by kernel_rfl) (by kernel_rfl) (fun _ _ _ h => h) (Or.inr ⟨by rfl, rfl⟩) (by exact kS) ?_
       try simp only [Act.put, List.setIfInBounds_toArray, List.set_cons_zero, List.set_cons_succ]
       refine wpAnyH_take (i := 32) (oi := { dst := some 93, op := Op.binOp BinOp.eql 4 (Operand.tmp 88) (Operand.tmp 92) 4, type := 4, pos := "law.go:112", after := #[{ on := 27, ground := Ground.data }, { on := 31, ground := Ground.data }, { on := 23, ground := Ground.guard }], guard := some (23, false) }) (v := undef) rfl (by kernel_rfl) (by kernel_rfl) (by kernel_rfl) (fun _ _ _ h => h) (Or.inr ⟨by rfl, rfl⟩) (by exact kS) ?_
       try simp only [Act.put, List.setIfInBounds_toArray, List.set_cons_zero, List.set_cons_succ]
       refine wpAnyH_take (i := 33) (oi := { dst := some 94, op := Op.pick (Operand.tmp 84) (Operand.const (Value.bool true)) (Operand.tmp 93), type := 4, pos := "law.go:112", after := #[{ on := 23, ground := Ground.data }, { on := 32, ground := Ground.data }, { on := 18, ground := Ground.guard }], guard := some (18, true) }) (v := ?_) rfl (by kernel_rfl) (by kernel_rfl) (by kernel_rfl) (fun _ _ _ h => h) (Or.inl ⟨by rfl, ?_⟩) (by exact kS) ?_
       rotate_left
       · intro w h; (try dsimp only at h); (go_simp <;> with_reducible rfl)
       try simp only [Act.put, List.setIfInBounds_toArray, List.set_cons_zero, List.set_cons_succ]
       refine wpAnyH_take (i := 34) (oi := { dst := some 95, op := Op.pick (Operand.tmp 79) (Operand.tmp 94) (Operand.const (Value.bool false)), type := 4, pos := "law.go:112", after := #[{ on := 18, ground := Ground.data }, { on := 33, ground := Ground.data }], guard := none }) (v := ?_) rfl (by kernel_rfl) (by kernel_rfl) (by kernel_rfl) (fun _ _ _ h => h) (Or.inl ⟨by rfl, ?_⟩) (by exact kS) ?_
       rotate_left
       · intro w h; (try dsimp only at h); (go_simp <;> with_reducible rfl)
       try simp only [Act.put, List.setIfInBounds_toArray, List.set_cons_zero, List.set_cons_succ]
       refine wpAnyH_take (i := 35) (oi := { dst := some 96, op := Op.move (Operand.tmp 95), type := 4, pos := "law.go:112", after := #[{ on := 34, ground := Ground.data }, { on := 30, ground := Ground.chain }], guard := none }) (v := ?_) rfl (by kernel_rfl) (by kernel_rfl) (by kernel_rfl) (fun _ _ _ h => h) (Or.inl ⟨by rfl, ?_⟩) (by exact kS) ?_
       rotate_left
       · intro w h; (try dsimp only at h); (go_simp <;> with_reducible rfl)
       try simp only [Act.put, List.setIfInBounds_toArray, List.set_cons_zero, List.set_cons_succ]
       refine wpAnyH_ready (rs := [36]) (by kernel_rfl) (by simp) ?_
       refine AllReadyH.cons (o := { dst := some 97, op := Op.call { callee := Callee.value (Operand.func 10), args := #[], argTypes := #[] }, type := 4, pos := "law.go:112", after := #[{ on := 35, ground := Ground.chain }, { on := 35, ground := Ground.guard }], guard := some (35, true) }) rfl (fun K hK => ?_) AllReadyH.nil
       go_simp
       (refine (awake_any _).mono ?_; rintro e V4 ⟨rfl, hb⟩; have D1 : Hid (Box V4 (w.heap.size) (.bool s1) (.slice a1 n1 c1)) := D1.out.below hb D1.out.lt; have Dr : Hid (Box V4 (W4.heap.size + 1) (.bool sr) (.slice ar nr cr)) := Dr.out.below hb Dr.out.lt; have Dy : Hid (Box V4 (W8.heap.size) (.bool ss) (.slice ay ny cy)) := Dy.out.below hb Dy.out.lt; have Do : Hid (Box V4 (W10.heap.size) (.bool so) (.slice ao no co)) := Do.out.below hb Do.out.lt; have Dt : Hid (Box V4 (W10.heap.size + 1) (.bool sf) (.slice af nf cf)) := Dt.out.below hb Dt.out.lt; have Dz : Hid (Box V4 (W13.heap.size) (.bool sr) (.slice ar nr cr)) := Dz.out.below hb Dz.out.lt; have Jy : Hid (Sl V4 ay ny cy ly) := Jy.out.below hb (Nat.le_refl _); have J1 : Hid (Sl V4 a1 n1 c1 l1) := J1.out.below hb (Nat.le_refl _); have Jr : Hid (Sl V4 ar nr cr lr) := Jr.out.below hb (Nat.le_refl _); have Jo : Hid (Sl V4 ao no co lo) := Jo.out.below hb (Nat.le_refl _); have Jf : Hid (Sl V4 af nf cf lf) := Jf.out.below hb (Nat.le_refl _); have HBD : Hid (Below w.heap.size w V4) := HBD.out.trans (hb.mono HBD.out.size); clear kS; have kS : V4.cell? ⟨w.heap.size, 0, none⟩ = some (.bool s1) ∧ V4.cell? ⟨w.heap.size, 1, none⟩ = some (.slice a1 n1 c1) ∧ V4.cell? ⟨W4.heap.size + 1, 0, none⟩ = some (.bool sr) ∧ V4.cell? ⟨W4.heap.size + 1, 1, none⟩ = some (.slice ar nr cr) ∧ V4.cell? ⟨W8.heap.size, 0, none⟩ = some (.bool ss) ∧ V4.cell? ⟨W8.heap.size, 1, none⟩ = some (.slice ay ny cy) ∧ V4.cell? ⟨W10.heap.size, 0, none⟩ = some (.bool so) ∧ V4.cell? ⟨W10.heap.size, 1, none⟩ = some (.slice ao no co) ∧ V4.cell? ⟨W10.heap.size + 1, 0, none⟩ = some (.bool sf) ∧ V4.cell? ⟨W10.heap.size + 1, 1, none⟩ = some (.slice af nf cf) ∧ V4.cell? ⟨W13.heap.size, 0, none⟩ = some (.bool sr) ∧ V4.cell? ⟨W13.heap.size, 1, none⟩ = some (.slice ar nr cr) := ⟨D1.out.z0, D1.out.z1, Dr.out.z0, Dr.out.z1, Dy.out.z0, Dy.out.z1, Do.out.z0, Do.out.z1, Dt.out.z0, Dt.out.z1, Dz.out.z0, Dz.out.z1⟩; clear hb)
       go_wp2_with fail
       refine hK.out _ _ (by exact kS) (fun hH => ?_)
       clear hK K hH
       try simp only [Act.put, List.setIfInBounds_toArray, List.set_cons_zero, List.set_cons_succ]
       refine wpAnyH_take (i := 37) (oi := { dst := some 98, op := Op.pick (Operand.tmp 96) (Operand.tmp 97) (Operand.const (Value.bool false)), type := 4, pos := "law.go:112", after := #[{ on := 35, ground := Ground.data }, { on := 36, ground := Ground.data }], guard := none }) (v := ?_) rfl (by kernel_rfl) (by kernel_rfl) (by kernel_rfl) (fun _ _ _ h => h) (Or.inl ⟨by rfl, ?_⟩) (by exact kS) ?_
       rotate_left
       · intro w h; (try dsimp only at h); (go_simp <;> with_reducible rfl)
       try simp only [Act.put, List.setIfInBounds_toArray, List.set_cons_zero, List.set_cons_succ]
       refine wpAnyH_take (i := 38) (oi := { dst := some 4, op := Op.assign (Operand.tmp 98), type := 4, pos := "law.go:112", after := #[{ on := 37, ground := Ground.data }, { on := 36, ground := Ground.chain }, { on := 0, ground := Ground.phase }, { on := 1, ground := Ground.phase }, { on := 2, ground := Ground.phase }, { on := 3, ground := Ground.phase }, { on := 4, ground := Ground.phase }, { on := 5, ground := Ground.phase }, { on := 6, ground := Ground.phase }, { on := 7, ground := Ground.phase }, { on := 8, ground := Ground.phase }, { on := 9, ground := Ground.phase }, { on := 10, ground := Ground.phase }, { on := 11, ground := Ground.phase }, { on := 12, ground := Ground.phase }, { on := 13, ground := Ground.phase }, { on := 14, ground := Ground.phase }, { on := 15, ground := Ground.phase }, { on := 16, ground := Ground.phase }, { on := 17, ground := Ground.phase }, { on := 18, ground := Ground.phase }, { on := 19, ground := Ground.phase }, { on := 20, ground := Ground.phase }, { on := 21, ground := Ground.phase }, { on := 22, ground := Ground.phase }, { on := 23, ground := Ground.phase }, { on := 24, ground := Ground.phase }, { on := 25, ground := Ground.phase }, { on := 26, ground := Ground.phase }, { on := 27, ground := Ground.phase }, { on := 28, ground := Ground.phase }, { on := 29, ground := Ground.phase }, { on := 30, ground := Ground.phase }, { on := 31, ground := Ground.phase }, { on := 32, ground := Ground.phase }, { on := 33, ground := Ground.phase }, { on := 34, ground := Ground.phase }, { on := 35, ground := Ground.phase }, { on := 36, ground := Ground.phase }, { on := 37, ground := Ground.phase }], guard := none }) (v := ?_) rfl (by kernel_rfl) (by kernel_rfl) (by kernel_rfl) (fun _ _ _ h => h) (Or.inl ⟨by rfl, ?_⟩) (by exact kS) ?_
       rotate_left
       · intro w h; (try dsimp only at h); (go_simp <;> with_reducible rfl)
       try simp only [Act.put, List.setIfInBounds_toArray, List.set_cons_zero, List.set_cons_succ]
       refine wpAnyH_done (by kernel_rfl) ?_ _
       go_wp2_with fail
       go_ret
       exact ⟨rfl, HBD.out⟩
     · have Z3 : Hid (sr = false ∧ vr ≠ 0) := ⟨zr, zr2⟩
       clear zr zr2
       go_wp2_with fail
       have RL : Hid (vr < vl 4294967296 l2) := by show _ < _; rw [← VR.out, (back_open EQ.out).2.2.2.2]; exact Nat.mod_lt _ (Nat.pos_of_ne_zero K1.out)
       have HA0 : Hid (cmpV ss (vl 4294967296 ly) s1 (vl 4294967296 l1) = 0) := by show _ = _; rw [cmpV_eq, Ey.out, ← SS.out, zi_sg]; exact cmpI_self _
       have HSZ : Hid (cmpV sr (vl 4294967296 lr) sf (vl 4294967296 lf) = -1) := by
         show _ = _
         have h1 := RL.out
         have h2 : zi sr (vl 4294967296 lr) = (vr : Int) := by
           rw [Er.out, Z3.out.1]; rfl
         have h3 : zi sf (vl 4294967296 lf) = (vl 4294967296 l2 : Int) := by
           rw [Ef.out, ← SF.out, Z2.out]; simp [zi, sgB]
         rw [cmpV_eq, h2, h3]
         exact cmpI_lt (by omega)
       have KA : Hid (cmpV s1 (vl 4294967296 l1) so (vl 4294967296 lo) = 1) := by
         show _ = _
         have h1 := Z3.out
         have h2 : sr = s1 := by rw [← SR.out]; exact sgB_pos h1.2
         have h3 : vl 4294967296 l1 ≠ 0 := fun h => h1.2 (by rw [← VR.out, (back_open EQ.out).2.2.2.2, h]; exact Nat.zero_mod _)
         rw [cmpV_eq, Eo.out, zi_zero, ← h2, h1.1]
         exact cmpI_gt (by simp [zi]; omega)
       clear p10 p11 t1 p20 p21 t2 pq0 pq1 tq pr0 pr1 tr pp0 pp1 tp py0 py1 ty po0 po1 to pt0 pt1 tt pz0 pz1 tz
       have D1 : Hid (Box W16.drew (w.heap.size) (.bool s1) (.slice a1 n1 c1)) := X1.out.below (Below.refl _ _).drew X1.out.lt
       have Dr : Hid (Box W16.drew (W4.heap.size + 1) (.bool sr) (.slice ar nr cr)) := Xr.out.below (Below.refl _ _).drew Xr.out.lt
       have Dy : Hid (Box W16.drew (W8.heap.size) (.bool ss) (.slice ay ny cy)) := Xy.out.below (Below.refl _ _).drew Xy.out.lt
       have Do : Hid (Box W16.drew (W10.heap.size) (.bool so) (.slice ao no co)) := Xo.out.below (Below.refl _ _).drew Xo.out.lt
       have Dt : Hid (Box W16.drew (W10.heap.size + 1) (.bool sf) (.slice af nf cf)) := Xt.out.below (Below.refl _ _).drew Xt.out.lt
       have Dz : Hid (Box W16.drew (W13.heap.size) (.bool sr) (.slice ar nr cr)) := Xz.out.below (Below.refl _ _).drew Xz.out.lt
       have Jy : Hid (Sl W16.drew ay ny cy ly) := Hy.out.below (Below.refl _ _).drew (Nat.le_refl _)
       have J1 : Hid (Sl W16.drew a1 n1 c1 l1) := H1.out.below (Below.refl _ _).drew (Nat.le_refl _)
       have Jr : Hid (Sl W16.drew ar nr cr lr) := Hr.out.below (Below.refl _ _).drew (Nat.le_refl _)
       have Jo : Hid (Sl W16.drew ao no co lo) := Ho.out.below (Below.refl _ _).drew (Nat.le_refl _)
       have Jf : Hid (Sl W16.drew af nf cf lf) := Hf.out.below (Below.refl _ _).drew (Nat.le_refl _)
       have HBD : Hid (Below w.heap.size w W16.drew) := HB.out.drew
       have kS : W16.drew.cell? ⟨w.heap.size, 0, none⟩ = some (.bool s1) ∧ W16.drew.cell? ⟨w.heap.size, 1, none⟩ = some (.slice a1 n1 c1) ∧ W16.drew.cell? ⟨W4.heap.size + 1, 0, none⟩ = some (.bool sr) ∧ W16.drew.cell? ⟨W4.heap.size + 1, 1, none⟩ = some (.slice ar nr cr) ∧ W16.drew.cell? ⟨W8.heap.size, 0, none⟩ = some (.bool ss) ∧ W16.drew.cell? ⟨W8.heap.size, 1, none⟩ = some (.slice ay ny cy) ∧ W16.drew.cell? ⟨W10.heap.size, 0, none⟩ = some (.bool so) ∧ W16.drew.cell? ⟨W10.heap.size, 1, none⟩ = some (.slice ao no co) ∧ W16.drew.cell? ⟨W10.heap.size + 1, 0, none⟩ = some (.bool sf) ∧ W16.drew.cell? ⟨W10.heap.size + 1, 1, none⟩ = some (.slice af nf cf) ∧ W16.drew.cell? ⟨W13.heap.size, 0, none⟩ = some (.bool sr) ∧ W16.drew.cell? ⟨W13.heap.size, 1, none⟩ = some (.slice ar nr cr) := ⟨D1.out.z0, D1.out.z1, Dr.out.z0, Dr.out.z1, Dy.out.z0, Dy.out.z1, Do.out.z0, Do.out.z1, Dt.out.z0, Dt.out.z1, Dz.out.z0, Dz.out.z1⟩
       clear X1 X2 Xq Xr Xp Xy Xo Xt Xz H1 H2 Hq Hr Hp Hy Ho Hf T1 T2 Tq Tr Tp Ty To Tf HB BT
       refine wp_region_held_drew (S := fun w' => w'.cell? ⟨w.heap.size, 0, none⟩ = some (.bool s1) ∧ w'.cell? ⟨w.heap.size, 1, none⟩ = some (.slice a1 n1 c1) ∧ w'.cell? ⟨W4.heap.size + 1, 0, none⟩ = some (.bool sr) ∧ w'.cell? ⟨W4.heap.size + 1, 1, none⟩ = some (.slice ar nr cr) ∧ w'.cell? ⟨W8.heap.size, 0, none⟩ = some (.bool ss) ∧ w'.cell? ⟨W8.heap.size, 1, none⟩ = some (.slice ay ny cy) ∧ w'.cell? ⟨W10.heap.size, 0, none⟩ = some (.bool so) ∧ w'.cell? ⟨W10.heap.size, 1, none⟩ = some (.slice ao no co) ∧ w'.cell? ⟨W10.heap.size + 1, 0, none⟩ = some (.bool sf) ∧ w'.cell? ⟨W10.heap.size + 1, 1, none⟩ = some (.slice af nf cf) ∧ w'.cell? ⟨W13.heap.size, 0, none⟩ = some (.bool sr) ∧ w'.cell? ⟨W13.heap.size, 1, none⟩ = some (.slice ar nr cr)) (by kernel_rfl) (by exact kS) (fun hH => ?_)
       clear hH
       refine wpAnyH_take (i := 0) (oi := { dst := some 61, op := Op.move (Operand.tmp 9), type := 28, pos := "law.go:112", after := #[], guard := none }) (v := ?_) rfl (by kernel_rfl) (by kernel_rfl) (by kernel_rfl) (fun _ _ _ h => h) (Or.inl ⟨by rfl, ?_⟩) (by exact kS) ?_
       rotate_left
       · intro w h; (try dsimp only at h); (go_simp <;> with_reducible rfl)
       try simp only [Act.put, List.setIfInBounds_toArray, List.set_cons_zero, List.set_cons_succ]
       refine wpAnyH_take (i := 1) (oi := { dst := some 62, op := Op.binOp BinOp.eql 28 (Operand.tmp 61) (Operand.const (Value.int IntKind.i64 0)) 28, type := 4, pos := "law.go:112", after := #[{ on := 0, ground := Ground.data }], guard := none }) (v := ?_) rfl (by kernel_rfl) (by kernel_rfl) (by kernel_rfl) (fun _ _ _ h => h) (Or.inl ⟨by rfl, ?_⟩) (by exact kS) ?_
       rotate_left
       · intro w h; (try dsimp only at h); (go_simp <;> with_reducible rfl)
       try simp only [Act.put, List.setIfInBounds_toArray, List.set_cons_zero, List.set_cons_succ]
       refine wpAnyH_take (i := 2) (oi := { dst := some 63, op := Op.move (Operand.tmp 62), type := 4, pos := "law.go:112", after := #[{ on := 1, ground := Ground.data }], guard := none }) (v := ?_) rfl (by kernel_rfl) (by kernel_rfl) (by kernel_rfl) (fun _ _ _ h => h) (Or.inl ⟨by rfl, ?_⟩) (by exact kS) ?_
       rotate_left
       · intro w h; (try dsimp only at h); (go_simp <;> with_reducible rfl)
       try simp only [Act.put, List.setIfInBounds_toArray, List.set_cons_zero, List.set_cons_succ]
       refine wpAnyH_take (i := 3) (oi := { dst := some 64, op := Op.move (Operand.tmp 11), type := 28, pos := "law.go:112", after := #[{ on := 2, ground := Ground.guard }], guard := some (2, true) }) (v := ?_) rfl (by kernel_rfl) (by kernel_rfl) (by kernel_rfl) (fun _ _ _ h => h) (Or.inl ⟨by rfl, ?_⟩) (by exact kS) ?_
       rotate_left
       · intro w h; (try dsimp only at h); (go_simp <;> with_reducible rfl)
       try simp only [Act.put, List.setIfInBounds_toArray, List.set_cons_zero, List.set_cons_succ]
       refine wpAnyH_take (i := 4) (oi := { dst := some 65, op := Op.binOp BinOp.eql 28 (Operand.tmp 64) (Operand.const (Value.int IntKind.i64 0)) 28, type := 4, pos := "law.go:112", after := #[{ on := 3, ground := Ground.data }, { on := 2, ground := Ground.guard }], guard := some (2, true) }) (v := ?_) rfl (by kernel_rfl) (by kernel_rfl) (by kernel_rfl) (fun _ _ _ h => h) (Or.inl ⟨by rfl, ?_⟩) (by exact kS) ?_
       rotate_left
       · intro w h; (try dsimp only at h); (go_simp <;> with_reducible rfl)
       try simp only [Act.put, List.setIfInBounds_toArray, List.set_cons_zero, List.set_cons_succ]
       refine wpAnyH_take (i := 5) (oi := { dst := some 66, op := Op.pick (Operand.tmp 63) (Operand.tmp 65) (Operand.const (Value.bool false)), type := 4, pos := "law.go:112", after := #[{ on := 2, ground := Ground.data }, { on := 4, ground := Ground.data }], guard := none }) (v := ?_) rfl (by kernel_rfl) (by kernel_rfl) (by kernel_rfl) (fun _ _ _ h => h) (Or.inl ⟨by rfl, ?_⟩) (by exact kS) ?_
       rotate_left
       · intro w h; (try dsimp only at h); (go_simp <;> with_reducible rfl)
       try simp only [Act.put, List.setIfInBounds_toArray, List.set_cons_zero, List.set_cons_succ]
       refine wpAnyH_take (i := 6) (oi := { dst := some 67, op := Op.move (Operand.tmp 66), type := 4, pos := "law.go:112", after := #[{ on := 5, ground := Ground.data }, { on := 2, ground := Ground.chain }], guard := none }) (v := ?_) rfl (by kernel_rfl) (by kernel_rfl) (by kernel_rfl) (fun _ _ _ h => h) (Or.inl ⟨by rfl, ?_⟩) (by exact kS) ?_
       rotate_left
       · intro w h; (try dsimp only at h); (go_simp <;> with_reducible rfl)
       try simp only [Act.put, List.setIfInBounds_toArray, List.set_cons_zero, List.set_cons_succ]
       refine wpAnyH_take (i := 7) (oi := { dst := some 68, op := Op.load 24 (Operand.tmp 10), type := 24, pos := "law.go:112", after := #[{ on := 6, ground := Ground.guard }], guard := some (6, true) }) (v := ?_) rfl (by kernel_rfl) (by kernel_rfl) (by kernel_rfl) (fun _ _ _ h => h) (Or.inl ⟨by rfl, ?_⟩) (by exact kS) ?_
       rotate_left
       · intro w h; (try dsimp only at h); (go_simp <;> with_reducible rfl)
       try simp only [Act.put, List.setIfInBounds_toArray, List.set_cons_zero, List.set_cons_succ]
       refine wpAnyH_take (i := 8) (oi := { dst := some 69, op := Op.load 24 (Operand.tmp 2), type := 24, pos := "law.go:112", after := #[{ on := 6, ground := Ground.guard }], guard := some (6, true) }) (v := ?_) rfl (by kernel_rfl) (by kernel_rfl) (by kernel_rfl) (fun _ _ _ h => h) (Or.inl ⟨by rfl, ?_⟩) (by exact kS) ?_
       rotate_left
       · intro w h; (try dsimp only at h); (go_simp <;> with_reducible rfl)
       try simp only [Act.put, List.setIfInBounds_toArray, List.set_cons_zero, List.set_cons_succ]
       refine wpAnyH_ready (rs := [9]) (by kernel_rfl) (by simp) ?_
       refine AllReadyH.cons (o := { dst := some 70, op := Op.call { callee := Callee.value (Operand.func 17), args := #[Operand.tmp 68, Operand.tmp 69], argTypes := #[24, 24] }, type := 3, pos := "law.go:112", after := #[{ on := 7, ground := Ground.data }, { on := 8, ground := Ground.data }, { on := 6, ground := Ground.chain }, { on := 6, ground := Ground.guard }], guard := some (6, true) }) rfl (fun K hK => ?_) AllReadyH.nil
       go_simp
       (refine (compare_any ss s1 ay ny cy ly a1 n1 c1 l1 _ (by exact Jy.out) (by exact J1.out) (by omega) (by omega)).mono ?_; rintro e V1 ⟨rfl, hb⟩; rw [HA0.out]; have D1 : Hid (Box V1 (w.heap.size) (.bool s1) (.slice a1 n1 c1)) := D1.out.below hb D1.out.lt; have Dr : Hid (Box V1 (W4.heap.size + 1) (.bool sr) (.slice ar nr cr)) := Dr.out.below hb Dr.out.lt; have Dy : Hid (Box V1 (W8.heap.size) (.bool ss) (.slice ay ny cy)) := Dy.out.below hb Dy.out.lt; have Do : Hid (Box V1 (W10.heap.size) (.bool so) (.slice ao no co)) := Do.out.below hb Do.out.lt; have Dt : Hid (Box V1 (W10.heap.size + 1) (.bool sf) (.slice af nf cf)) := Dt.out.below hb Dt.out.lt; have Dz : Hid (Box V1 (W13.heap.size) (.bool sr) (.slice ar nr cr)) := Dz.out.below hb Dz.out.lt; have Jy : Hid (Sl V1 ay ny cy ly) := Jy.out.below hb (Nat.le_refl _); have J1 : Hid (Sl V1 a1 n1 c1 l1) := J1.out.below hb (Nat.le_refl _); have Jr : Hid (Sl V1 ar nr cr lr) := Jr.out.below hb (Nat.le_refl _); have Jo : Hid (Sl V1 ao no co lo) := Jo.out.below hb (Nat.le_refl _); have Jf : Hid (Sl V1 af nf cf lf) := Jf.out.below hb (Nat.le_refl _); have HBD : Hid (Below w.heap.size w V1) := HBD.out.trans (hb.mono HBD.out.size); clear kS; have kS : V1.cell? ⟨w.heap.size, 0, none⟩ = some (.bool s1) ∧ V1.cell? ⟨w.heap.size, 1, none⟩ = some (.slice a1 n1 c1) ∧ V1.cell? ⟨W4.heap.size + 1, 0, none⟩ = some (.bool sr) ∧ V1.cell? ⟨W4.heap.size + 1, 1, none⟩ = some (.slice ar nr cr) ∧ V1.cell? ⟨W8.heap.size, 0, none⟩ = some (.bool ss) ∧ V1.cell? ⟨W8.heap.size, 1, none⟩ = some (.slice ay ny cy) ∧ V1.cell? ⟨W10.heap.size, 0, none⟩ = some (.bool so) ∧ V1.cell? ⟨W10.heap.size, 1, none⟩ = some (.slice ao no co) ∧ V1.cell? ⟨W10.heap.size + 1, 0, none⟩ = some (.bool sf) ∧ V1.cell? ⟨W10.heap.size + 1, 1, none⟩ = some (.slice af nf cf) ∧ V1.cell? ⟨W13.heap.size, 0, none⟩ = some (.bool sr) ∧ V1.cell? ⟨W13.heap.size, 1, none⟩ = some (.slice ar nr cr) := ⟨D1.out.z0, D1.out.z1, Dr.out.z0, Dr.out.z1, Dy.out.z0, Dy.out.z1, Do.out.z0, Do.out.z1, Dt.out.z0, Dt.out.z1, Dz.out.z0, Dz.out.z1⟩; clear hb)
       go_wp2_with fail
       refine hK.out _ _ (by exact kS) (fun hH => ?_)
       clear hK K hH
       try simp only [Act.put, List.setIfInBounds_toArray, List.set_cons_zero, List.set_cons_succ]
       refine wpAnyH_take (i := 10) (oi := { dst := some 71, op := Op.binOp BinOp.eql 3 (Operand.tmp 70) (Operand.const (Value.int IntKind.i64 0)) 3, type := 4, pos := "law.go:112", after := #[{ on := 9, ground := Ground.data }, { on := 6, ground := Ground.guard }], guard := some (6, true) }) (v := ?_) rfl (by kernel_rfl) (by kernel_rfl) (by kernel_rfl) (fun _ _ _ h => h) (Or.inl ⟨by rfl, ?_⟩) (by exact kS) ?_
       rotate_left
       · intro w h; (try dsimp only at h); (go_simp <;> with_reducible rfl)
       try simp only [Act.put, List.setIfInBounds_toArray, List.set_cons_zero, List.set_cons_succ]
       refine wpAnyH_take (i := 11) (oi := { dst := some 72, op := Op.pick (Operand.tmp 67) (Operand.tmp 71) (Operand.const (Value.bool false)), type := 4, pos := "law.go:112", after := #[{ on := 6, ground := Ground.data }, { on := 10, ground := Ground.data }], guard := none }) (v := ?_) rfl (by kernel_rfl) (by kernel_rfl) (by kernel_rfl) (fun _ _ _ h => h) (Or.inl ⟨by rfl, ?_⟩) (by exact kS) ?_
       rotate_left
       · intro w h; (try dsimp only at h); (go_simp <;> with_reducible rfl)
       try simp only [Act.put, List.setIfInBounds_toArray, List.set_cons_zero, List.set_cons_succ]
       refine wpAnyH_take (i := 12) (oi := { dst := some 73, op := Op.move (Operand.tmp 72), type := 4, pos := "law.go:112", after := #[{ on := 11, ground := Ground.data }, { on := 9, ground := Ground.chain }], guard := none }) (v := ?_) rfl (by kernel_rfl) (by kernel_rfl) (by kernel_rfl) (fun _ _ _ h => h) (Or.inl ⟨by rfl, ?_⟩) (by exact kS) ?_
       rotate_left
       · intro w h; (try dsimp only at h); (go_simp <;> with_reducible rfl)
       try simp only [Act.put, List.setIfInBounds_toArray, List.set_cons_zero, List.set_cons_succ]
       refine wpAnyH_take (i := 13) (oi := { dst := some 74, op := Op.load 24 (Operand.tmp 14), type := 24, pos := "law.go:112", after := #[{ on := 12, ground := Ground.guard }], guard := some (12, true) }) (v := ?_) rfl (by kernel_rfl) (by kernel_rfl) (by kernel_rfl) (fun _ _ _ h => h) (Or.inl ⟨by rfl, ?_⟩) (by exact kS) ?_
       rotate_left
       · intro w h; (try dsimp only at h); (go_simp <;> with_reducible rfl)
       try simp only [Act.put, List.setIfInBounds_toArray, List.set_cons_zero, List.set_cons_succ]
       refine wpAnyH_take (i := 14) (oi := { dst := some 75, op := Op.load 24 (Operand.tmp 13), type := 24, pos := "law.go:112", after := #[{ on := 12, ground := Ground.guard }], guard := some (12, true) }) (v := ?_) rfl (by kernel_rfl) (by kernel_rfl) (by kernel_rfl) (fun _ _ _ h => h) (Or.inl ⟨by rfl, ?_⟩) (by exact kS) ?_
       rotate_left
       · intro w h; (try dsimp only at h); (go_simp <;> with_reducible rfl)
       try simp only [Act.put, List.setIfInBounds_toArray, List.set_cons_zero, List.set_cons_succ]
       refine wpAnyH_ready (rs := [15]) (by kernel_rfl) (by simp) ?_
       refine AllReadyH.cons (o := { dst := some 76, op := Op.call { callee := Callee.value (Operand.func 17), args := #[Operand.tmp 74, Operand.tmp 75], argTypes := #[24, 24] }, type := 3, pos := "law.go:112", after := #[{ on := 13, ground := Ground.data }, { on := 14, ground := Ground.data }, { on := 12, ground := Ground.chain }, { on := 12, ground := Ground.guard }], guard := some (12, true) }) rfl (fun K hK => ?_) AllReadyH.nil
       go_simp
       (refine (compare_any sr sf ar nr cr lr af nf cf lf _ (by exact Jr.out) (by exact Jf.out) (by omega) (by omega)).mono ?_; rintro e V2 ⟨rfl, hb⟩; rw [HSZ.out]; have D1 : Hid (Box V2 (w.heap.size) (.bool s1) (.slice a1 n1 c1)) := D1.out.below hb D1.out.lt; have Dr : Hid (Box V2 (W4.heap.size + 1) (.bool sr) (.slice ar nr cr)) := Dr.out.below hb Dr.out.lt; have Dy : Hid (Box V2 (W8.heap.size) (.bool ss) (.slice ay ny cy)) := Dy.out.below hb Dy.out.lt; have Do : Hid (Box V2 (W10.heap.size) (.bool so) (.slice ao no co)) := Do.out.below hb Do.out.lt; have Dt : Hid (Box V2 (W10.heap.size + 1) (.bool sf) (.slice af nf cf)) := Dt.out.below hb Dt.out.lt; have Dz : Hid (Box V2 (W13.heap.size) (.bool sr) (.slice ar nr cr)) := Dz.out.below hb Dz.out.lt; have Jy : Hid (Sl V2 ay ny cy ly) := Jy.out.below hb (Nat.le_refl _); have J1 : Hid (Sl V2 a1 n1 c1 l1) := J1.out.below hb (Nat.le_refl _); have Jr : Hid (Sl V2 ar nr cr lr) := Jr.out.below hb (Nat.le_refl _); have Jo : Hid (Sl V2 ao no co lo) := Jo.out.below hb (Nat.le_refl _); have Jf : Hid (Sl V2 af nf cf lf) := Jf.out.below hb (Nat.le_refl _); have HBD : Hid (Below w.heap.size w V2) := HBD.out.trans (hb.mono HBD.out.size); clear kS; have kS : V2.cell? ⟨w.heap.size, 0, none⟩ = some (.bool s1) ∧ V2.cell? ⟨w.heap.size, 1, none⟩ = some (.slice a1 n1 c1) ∧ V2.cell? ⟨W4.heap.size + 1, 0, none⟩ = some (.bool sr) ∧ V2.cell? ⟨W4.heap.size + 1, 1, none⟩ = some (.slice ar nr cr) ∧ V2.cell? ⟨W8.heap.size, 0, none⟩ = some (.bool ss) ∧ V2.cell? ⟨W8.heap.size, 1, none⟩ = some (.slice ay ny cy) ∧ V2.cell? ⟨W10.heap.size, 0, none⟩ = some (.bool so) ∧ V2.cell? ⟨W10.heap.size, 1, none⟩ = some (.slice ao no co) ∧ V2.cell? ⟨W10.heap.size + 1, 0, none⟩ = some (.bool sf) ∧ V2.cell? ⟨W10.heap.size + 1, 1, none⟩ = some (.slice af nf cf) ∧ V2.cell? ⟨W13.heap.size, 0, none⟩ = some (.bool sr) ∧ V2.cell? ⟨W13.heap.size, 1, none⟩ = some (.slice ar nr cr) := ⟨D1.out.z0, D1.out.z1, Dr.out.z0, Dr.out.z1, Dy.out.z0, Dy.out.z1, Do.out.z0, Do.out.z1, Dt.out.z0, Dt.out.z1, Dz.out.z0, Dz.out.z1⟩; clear hb)
       go_wp2_with fail
       refine hK.out _ _ (by exact kS) (fun hH => ?_)
       clear hK K hH
       try simp only [Act.put, List.setIfInBounds_toArray, List.set_cons_zero, List.set_cons_succ]
       refine wpAnyH_take (i := 16) (oi := { dst := some 77, op := Op.binOp BinOp.lss 3 (Operand.tmp 76) (Operand.const (Value.int IntKind.i64 0)) 3, type := 4, pos := "law.go:112", after := #[{ on := 15, ground := Ground.data }, { on := 12, ground := Ground.guard }], guard := some (12, true) }) (v := ?_) rfl (by kernel_rfl) (by kernel_rfl) (by kernel_rfl) (fun _ _ _ h => h) (Or.inl ⟨by rfl, ?_⟩) (by exact kS) ?_
       rotate_left
       · intro w h; (try dsimp only at h); (go_simp <;> with_reducible rfl)
       try simp only [Act.put, List.setIfInBounds_toArray, List.set_cons_zero, List.set_cons_succ]
       refine wpAnyH_take (i := 17) (oi := { dst := some 78, op := Op.pick (Operand.tmp 73) (Operand.tmp 77) (Operand.const (Value.bool false)), type := 4, pos := "law.go:112", after := #[{ on := 12, ground := Ground.data }, { on := 16, ground := Ground.data }], guard := none }) (v := ?_) rfl (by kernel_rfl) (by kernel_rfl) (by kernel_rfl) (fun _ _ _ h => h) (Or.inl ⟨by rfl, ?_⟩) (by exact kS) ?_
       rotate_left
       · intro w h; (try dsimp only at h); (go_simp <;> with_reducible rfl)
       try simp only [Act.put, List.setIfInBounds_toArray, List.set_cons_zero, List.set_cons_succ]
       refine wpAnyH_take (i := 18) (oi := { dst := some 79, op := Op.move (Operand.tmp 78), type := 4, pos := "law.go:112", after := #[{ on := 17, ground := Ground.data }, { on := 15, ground := Ground.chain }], guard := none }) (v := ?_) rfl (by kernel_rfl) (by kernel_rfl) (by kernel_rfl) (fun _ _ _ h => h) (Or.inl ⟨by rfl, ?_⟩) (by exact kS) ?_
       rotate_left
       · intro w h; (try dsimp only at h); (go_simp <;> with_reducible rfl)
       try simp only [Act.put, List.setIfInBounds_toArray, List.set_cons_zero, List.set_cons_succ]
       refine wpAnyH_take (i := 19) (oi := { dst := some 80, op := Op.load 24 (Operand.tmp 6), type := 24, pos := "law.go:112", after := #[{ on := 18, ground := Ground.guard }], guard := some (18, true) }) (v := ?_) rfl (by kernel_rfl) (by kernel_rfl) (by kernel_rfl) (fun _ _ _ h => h) (Or.inl ⟨by rfl, ?_⟩) (by exact kS) ?_
       rotate_left
       · intro w h; (try dsimp only at h); (go_simp <;> with_reducible rfl)
       try simp only [Act.put, List.setIfInBounds_toArray, List.set_cons_zero, List.set_cons_succ]
       refine wpAnyH_take (i := 20) (oi := { dst := some 81, op := Op.load 24 (Operand.tmp 12), type := 24, pos := "law.go:112", after := #[{ on := 18, ground := Ground.guard }], guard := some (18, true) }) (v := ?_) rfl (by kernel_rfl) (by kernel_rfl) (by kernel_rfl) (fun _ _ _ h => h) (Or.inl ⟨by rfl, ?_⟩) (by exact kS) ?_
       rotate_left
       · intro w h; (try dsimp only at h); (go_simp <;> with_reducible rfl)
       try simp only [Act.put, List.setIfInBounds_toArray, List.set_cons_zero, List.set_cons_succ]
       refine wpAnyH_ready (rs := [21]) (by kernel_rfl) (by simp) ?_
       refine AllReadyH.cons (o := { dst := some 82, op := Op.call { callee := Callee.value (Operand.func 17), args := #[Operand.tmp 80, Operand.tmp 81], argTypes := #[24, 24] }, type := 3, pos := "law.go:112", after := #[{ on := 19, ground := Ground.data }, { on := 20, ground := Ground.data }, { on := 18, ground := Ground.chain }, { on := 18, ground := Ground.guard }], guard := some (18, true) }) rfl (fun K hK => ?_) AllReadyH.nil
       go_simp
       (refine (compare_any sr so ar nr cr lr ao no co lo _ (by exact Jr.out) (by exact Jo.out) (by omega) (by omega)).mono ?_; rintro e V3 ⟨rfl, hb⟩; rw [KR.out]; have D1 : Hid (Box V3 (w.heap.size) (.bool s1) (.slice a1 n1 c1)) := D1.out.below hb D1.out.lt; have Dr : Hid (Box V3 (W4.heap.size + 1) (.bool sr) (.slice ar nr cr)) := Dr.out.below hb Dr.out.lt; have Dy : Hid (Box V3 (W8.heap.size) (.bool ss) (.slice ay ny cy)) := Dy.out.below hb Dy.out.lt; have Do : Hid (Box V3 (W10.heap.size) (.bool so) (.slice ao no co)) := Do.out.below hb Do.out.lt; have Dt : Hid (Box V3 (W10.heap.size + 1) (.bool sf) (.slice af nf cf)) := Dt.out.below hb Dt.out.lt; have Dz : Hid (Box V3 (W13.heap.size) (.bool sr) (.slice ar nr cr)) := Dz.out.below hb Dz.out.lt; have Jy : Hid (Sl V3 ay ny cy ly) := Jy.out.below hb (Nat.le_refl _); have J1 : Hid (Sl V3 a1 n1 c1 l1) := J1.out.below hb (Nat.le_refl _); have Jr : Hid (Sl V3 ar nr cr lr) := Jr.out.below hb (Nat.le_refl _); have Jo : Hid (Sl V3 ao no co lo) := Jo.out.below hb (Nat.le_refl _); have Jf : Hid (Sl V3 af nf cf lf) := Jf.out.below hb (Nat.le_refl _); have HBD : Hid (Below w.heap.size w V3) := HBD.out.trans (hb.mono HBD.out.size); clear kS; have kS : V3.cell? ⟨w.heap.size, 0, none⟩ = some (.bool s1) ∧ V3.cell? ⟨w.heap.size, 1, none⟩ = some (.slice a1 n1 c1) ∧ V3.cell? ⟨W4.heap.size + 1, 0, none⟩ = some (.bool sr) ∧ V3.cell? ⟨W4.heap.size + 1, 1, none⟩ = some (.slice ar nr cr) ∧ V3.cell? ⟨W8.heap.size, 0, none⟩ = some (.bool ss) ∧ V3.cell? ⟨W8.heap.size, 1, none⟩ = some (.slice ay ny cy) ∧ V3.cell? ⟨W10.heap.size, 0, none⟩ = some (.bool so) ∧ V3.cell? ⟨W10.heap.size, 1, none⟩ = some (.slice ao no co) ∧ V3.cell? ⟨W10.heap.size + 1, 0, none⟩ = some (.bool sf) ∧ V3.cell? ⟨W10.heap.size + 1, 1, none⟩ = some (.slice af nf cf) ∧ V3.cell? ⟨W13.heap.size, 0, none⟩ = some (.bool sr) ∧ V3.cell? ⟨W13.heap.size, 1, none⟩ = some (.slice ar nr cr) := ⟨D1.out.z0, D1.out.z1, Dr.out.z0, Dr.out.z1, Dy.out.z0, Dy.out.z1, Do.out.z0, Do.out.z1, Dt.out.z0, Dt.out.z1, Dz.out.z0, Dz.out.z1⟩; clear hb)
       go_wp2_with fail
       refine hK.out _ _ (by exact kS) (fun hH => ?_)
       clear hK K hH
       try simp only [Act.put, List.setIfInBounds_toArray, List.set_cons_zero, List.set_cons_succ]
       refine wpAnyH_take (i := 22) (oi := { dst := some 83, op := Op.binOp BinOp.eql 3 (Operand.tmp 82) (Operand.const (Value.int IntKind.i64 0)) 3, type := 4, pos := "law.go:112", after := #[{ on := 21, ground := Ground.data }, { on := 18, ground := Ground.guard }], guard := some (18, true) }) (v := ?_) rfl (by kernel_rfl) (by kernel_rfl) (by kernel_rfl) (fun _ _ _ h => h) (Or.inl ⟨by rfl, ?_⟩) (by exact kS) ?_
       rotate_left
       · intro w h; (try dsimp only at h); (go_simp <;> with_reducible rfl)
       try simp only [Act.put, List.setIfInBounds_toArray, List.set_cons_zero, List.set_cons_succ]
       refine wpAnyH_take (i := 23) (oi := { dst := some 84, op := Op.move (Operand.tmp 83), type := 4, pos := "law.go:112", after := #[{ on := 22, ground := Ground.data }, { on := 21, ground := Ground.chain }, { on := 18, ground := Ground.guard }], guard := some (18, true) }) (v := ?_) rfl (by kernel_rfl) (by kernel_rfl) (by kernel_rfl) (fun _ _ _ h => h) (Or.inl ⟨by rfl, ?_⟩) (by exact kS) ?_
       rotate_left
       · intro w h; (try dsimp only at h); (go_simp <;> with_reducible rfl)
       try simp only [Act.put, List.setIfInBounds_toArray, List.set_cons_zero, List.set_cons_succ]
       refine wpAnyH_take (i := 24) (oi := { dst := some 85, op := Op.load 24 (Operand.tmp 6), type := 24, pos := "law.go:112", after := #[{ on := 23, ground := Ground.guard }], guard := some (23, false) }) (v := ?_) rfl (by kernel_rfl) (by kernel_rfl) (by kernel_rfl) (fun _ _ _ h => h) (Or.inl ⟨by rfl, ?_⟩) (by exact kS) ?_
       rotate_left
       · intro w h; (try dsimp only at h); (go_simp <;> with_reducible rfl)
       try simp only [Act.put, List.setIfInBounds_toArray, List.set_cons_zero, List.set_cons_succ]
       refine wpAnyH_take (i := 25) (oi := { dst := some 86, op := Op.load 24 (Operand.tmp 12), type := 24, pos := "law.go:112", after := #[{ on := 23, ground := Ground.guard }], guard := some (23, false) }) (v := ?_) rfl (by kernel_rfl) (by kernel_rfl) (by kernel_rfl) (fun _ _ _ h => h) (Or.inl ⟨by rfl, ?_⟩) (by exact kS) ?_
       rotate_left
       · intro w h; (try dsimp only at h); (go_simp <;> with_reducible rfl)
       try simp only [Act.put, List.setIfInBounds_toArray, List.set_cons_zero, List.set_cons_succ]
       refine wpAnyH_take (i := 28) (oi := { dst := some 89, op := Op.load 24 (Operand.tmp 2), type := 24, pos := "law.go:112", after := #[{ on := 23, ground := Ground.guard }], guard := some (23, false) }) (v := ?_) rfl (by kernel_rfl) (by kernel_rfl) (by kernel_rfl) (fun _ _ _ h => h) (Or.inl ⟨by rfl, ?_⟩) (by exact kS) ?_
       rotate_left
       · intro w h; (try dsimp only at h); (go_simp <;> with_reducible rfl)
       try simp only [Act.put, List.setIfInBounds_toArray, List.set_cons_zero, List.set_cons_succ]
       refine wpAnyH_take (i := 29) (oi := { dst := some 90, op := Op.load 24 (Operand.tmp 12), type := 24, pos := "law.go:112", after := #[{ on := 23, ground := Ground.guard }], guard := some (23, false) }) (v := ?_) rfl (by kernel_rfl) (by kernel_rfl) (by kernel_rfl) (fun _ _ _ h => h) (Or.inl ⟨by rfl, ?_⟩) (by exact kS) ?_
       rotate_left
       · intro w h; (try dsimp only at h); (go_simp <;> with_reducible rfl)
       try simp only [Act.put, List.setIfInBounds_toArray, List.set_cons_zero, List.set_cons_succ]
       refine wpAnyH_ready (rs := [26]) (by kernel_rfl) (by simp) ?_
       refine AllReadyH.cons (o := { dst := some 87, op := Op.call { callee := Callee.value (Operand.func 17), args := #[Operand.tmp 85, Operand.tmp 86], argTypes := #[24, 24] }, type := 3, pos := "law.go:112", after := #[{ on := 24, ground := Ground.data }, { on := 25, ground := Ground.data }, { on := 23, ground := Ground.chain }, { on := 23, ground := Ground.guard }], guard := some (23, false) }) rfl (fun K hK => ?_) AllReadyH.nil
       go_simp
       (refine (compare_any sr so ar nr cr lr ao no co lo _ (by exact Jr.out) (by exact Jo.out) (by omega) (by omega)).mono ?_; rintro e V4 ⟨rfl, hb⟩; rw [KR.out]; have D1 : Hid (Box V4 (w.heap.size) (.bool s1) (.slice a1 n1 c1)) := D1.out.below hb D1.out.lt; have Dr : Hid (Box V4 (W4.heap.size + 1) (.bool sr) (.slice ar nr cr)) := Dr.out.below hb Dr.out.lt; have Dy : Hid (Box V4 (W8.heap.size) (.bool ss) (.slice ay ny cy)) := Dy.out.below hb Dy.out.lt; have Do : Hid (Box V4 (W10.heap.size) (.bool so) (.slice ao no co)) := Do.out.below hb Do.out.lt; have Dt : Hid (Box V4 (W10.heap.size + 1) (.bool sf) (.slice af nf cf)) := Dt.out.below hb Dt.out.lt; have Dz : Hid (Box V4 (W13.heap.size) (.bool sr) (.slice ar nr cr)) := Dz.out.below hb Dz.out.lt; have Jy : Hid (Sl V4 ay ny cy ly) := Jy.out.below hb (Nat.le_refl _); have J1 : Hid (Sl V4 a1 n1 c1 l1) := J1.out.below hb (Nat.le_refl _); have Jr : Hid (Sl V4 ar nr cr lr) := Jr.out.below hb (Nat.le_refl _); have Jo : Hid (Sl V4 ao no co lo) := Jo.out.below hb (Nat.le_refl _); have Jf : Hid (Sl V4 af nf cf lf) := Jf.out.below hb (Nat.le_refl _); have HBD : Hid (Below w.heap.size w V4) := HBD.out.trans (hb.mono HBD.out.size); clear kS; have kS : V4.cell? ⟨w.heap.size, 0, none⟩ = some (.bool s1) ∧ V4.cell? ⟨w.heap.size, 1, none⟩ = some (.slice a1 n1 c1) ∧ V4.cell? ⟨W4.heap.size + 1, 0, none⟩ = some (.bool sr) ∧ V4.cell? ⟨W4.heap.size + 1, 1, none⟩ = some (.slice ar nr cr) ∧ V4.cell? ⟨W8.heap.size, 0, none⟩ = some (.bool ss) ∧ V4.cell? ⟨W8.heap.size, 1, none⟩ = some (.slice ay ny cy) ∧ V4.cell? ⟨W10.heap.size, 0, none⟩ = some (.bool so) ∧ V4.cell? ⟨W10.heap.size, 1, none⟩ = some (.slice ao no co) ∧ V4.cell? ⟨W10.heap.size + 1, 0, none⟩ = some (.bool sf) ∧ V4.cell? ⟨W10.heap.size + 1, 1, none⟩ = some (.slice af nf cf) ∧ V4.cell? ⟨W13.heap.size, 0, none⟩ = some (.bool sr) ∧ V4.cell? ⟨W13.heap.size, 1, none⟩ = some (.slice ar nr cr) := ⟨D1.out.z0, D1.out.z1, Dr.out.z0, Dr.out.z1, Dy.out.z0, Dy.out.z1, Do.out.z0, Do.out.z1, Dt.out.z0, Dt.out.z1, Dz.out.z0, Dz.out.z1⟩; clear hb)
       go_wp2_with fail
       refine hK.out _ _ (by exact kS) (fun hH => ?_)
       clear hK K hH
       try simp only [Act.put, List.setIfInBounds_toArray, List.set_cons_zero, List.set_cons_succ]
       refine wpAnyH_take (i := 27) (oi := { dst := some 88, op := Op.binOp BinOp.lss 3 (Operand.tmp 87) (Operand.const (Value.int IntKind.i64 0)) 3, type := 4, pos := "law.go:112", after := #[{ on := 26, ground := Ground.data }, { on := 23, ground := Ground.guard }], guard := some (23, false) }) (v := ?_) rfl (by kernel_rfl) (by kernel_rfl) (by kernel_rfl) (fun _ _ _ h => h) (Or.inl ⟨by rfl, ?_⟩) (by exact kS) ?_
       rotate_left
       · intro w h; (try dsimp only at h); (go_simp <;> with_reducible rfl)
       try simp only [Act.put, List.setIfInBounds_toArray, List.set_cons_zero, List.set_cons_succ]
       refine wpAnyH_ready (rs := [30]) (by kernel_rfl) (by simp) ?_
       refine AllReadyH.cons (o := { dst := some 91, op := Op.call { callee := Callee.value (Operand.func 17), args := #[Operand.tmp 89, Operand.tmp 90], argTypes := #[24, 24] }, type := 3, pos := "law.go:112", after := #[{ on := 28, ground := Ground.data }, { on := 29, ground := Ground.data }, { on := 26, ground := Ground.chain }, { on := 23, ground := Ground.guard }], guard := some (23, false) }) rfl (fun K hK => ?_) AllReadyH.nil
       go_simp
       (refine (compare_any s1 so a1 n1 c1 l1 ao no co lo _ (by exact J1.out) (by exact Jo.out) (by omega) (by omega)).mono ?_; rintro e V5 ⟨rfl, hb⟩; rw [KA.out]; have D1 : Hid (Box V5 (w.heap.size) (.bool s1) (.slice a1 n1 c1)) := D1.out.below hb D1.out.lt; have Dr : Hid (Box V5 (W4.heap.size + 1) (.bool sr) (.slice ar nr cr)) := Dr.out.below hb Dr.out.lt; have Dy : Hid (Box V5 (W8.heap.size) (.bool ss) (.slice ay ny cy)) := Dy.out.below hb Dy.out.lt; have Do : Hid (Box V5 (W10.heap.size) (.bool so) (.slice ao no co)) := Do.out.below hb Do.out.lt; have Dt : Hid (Box V5 (W10.heap.size + 1) (.bool sf) (.slice af nf cf)) := Dt.out.below hb Dt.out.lt; have Dz : Hid (Box V5 (W13.heap.size) (.bool sr) (.slice ar nr cr)) := Dz.out.below hb Dz.out.lt; have Jy : Hid (Sl V5 ay ny cy ly) := Jy.out.below hb (Nat.le_refl _); have J1 : Hid (Sl V5 a1 n1 c1 l1) := J1.out.below hb (Nat.le_refl _); have Jr : Hid (Sl V5 ar nr cr lr) := Jr.out.below hb (Nat.le_refl _); have Jo : Hid (Sl V5 ao no co lo) := Jo.out.below hb (Nat.le_refl _); have Jf : Hid (Sl V5 af nf cf lf) := Jf.out.below hb (Nat.le_refl _); have HBD : Hid (Below w.heap.size w V5) := HBD.out.trans (hb.mono HBD.out.size); clear kS; have kS : V5.cell? ⟨w.heap.size, 0, none⟩ = some (.bool s1) ∧ V5.cell? ⟨w.heap.size, 1, none⟩ = some (.slice a1 n1 c1) ∧ V5.cell? ⟨W4.heap.size + 1, 0, none⟩ = some (.bool sr) ∧ V5.cell? ⟨W4.heap.size + 1, 1, none⟩ = some (.slice ar nr cr) ∧ V5.cell? ⟨W8.heap.size, 0, none⟩ = some (.bool ss) ∧ V5.cell? ⟨W8.heap.size, 1, none⟩ = some (.slice ay ny cy) ∧ V5.cell? ⟨W10.heap.size, 0, none⟩ = some (.bool so) ∧ V5.cell? ⟨W10.heap.size, 1, none⟩ = some (.slice ao no co) ∧ V5.cell? ⟨W10.heap.size + 1, 0, none⟩ = some (.bool sf) ∧ V5.cell? ⟨W10.heap.size + 1, 1, none⟩ = some (.slice af nf cf) ∧ V5.cell? ⟨W13.heap.size, 0, none⟩ = some (.bool sr) ∧ V5.cell? ⟨W13.heap.size, 1, none⟩ = some (.slice ar nr cr) := ⟨D1.out.z0, D1.out.z1, Dr.out.z0, Dr.out.z1, Dy.out.z0, Dy.out.z1, Do.out.z0, Do.out.z1, Dt.out.z0, Dt.out.z1, Dz.out.z0, Dz.out.z1⟩; clear hb)
       go_wp2_with fail
       refine hK.out _ _ (by exact kS) (fun hH => ?_)
       clear hK K hH
       try simp only [Act.put, List.setIfInBounds_toArray, List.set_cons_zero, List.set_cons_succ]
       refine wpAnyH_take (i := 31) (oi := { dst := some 92, op := Op.binOp BinOp.lss 3 (Operand.tmp 91) (Operand.const (Value.int IntKind.i64 0)) 3, type := 4, pos := "law.go:112", after := #[{ on := 30, ground := Ground.data }, { on := 23, ground := Ground.guard }], guard := some (23, false) }) (v := ?_) rfl (by kernel_rfl) (by kernel_rfl) (by kernel_rfl) (fun _ _ _ h => h) (Or.inl ⟨by rfl, ?_⟩) (by exact kS) ?_
       rotate_left
       · intro w h; (try dsimp only at h); (go_simp <;> with_reducible rfl)
       try simp only [Act.put, List.setIfInBounds_toArray, List.set_cons_zero, List.set_cons_succ]
       refine wpAnyH_take (i := 32) (oi := { dst := some 93, op := Op.binOp BinOp.eql 4 (Operand.tmp 88) (Operand.tmp 92) 4, type := 4, pos := "law.go:112", after := #[{ on := 27, ground := Ground.data }, { on := 31, ground := Ground.data }, { on := 23, ground := Ground.guard }], guard := some (23, false) }) (v := ?_) rfl (by kernel_rfl) (by kernel_rfl) (by kernel_rfl) (fun _ _ _ h => h) (Or.inl ⟨by rfl, ?_⟩) (by exact kS) ?_
       rotate_left
       · intro w h; (try dsimp only at h); (go_simp <;> with_reducible rfl)
       try simp only [Act.put, List.setIfInBounds_toArray, List.set_cons_zero, List.set_cons_succ]
       refine wpAnyH_take (i := 33) (oi := { dst := some 94, op := Op.pick (Operand.tmp 84) (Operand.const (Value.bool true)) (Operand.tmp 93), type := 4, pos := "law.go:112", after := #[{ on := 23, ground := Ground.data }, { on := 32, ground := Ground.data }, { on := 18, ground := Ground.guard }], guard := some (18, true) }) (v := ?_) rfl (by kernel_rfl) (by kernel_rfl) (by kernel_rfl) (fun _ _ _ h => h) (Or.inl ⟨by rfl, ?_⟩) (by exact kS) ?_
       rotate_left
       · intro w h; (try dsimp only at h); (go_simp <;> with_reducible rfl)
       try simp only [Act.put, List.setIfInBounds_toArray, List.set_cons_zero, List.set_cons_succ]
       refine wpAnyH_take (i := 34) (oi := { dst := some 95, op := Op.pick (Operand.tmp 79) (Operand.tmp 94) (Operand.const (Value.bool false)), type := 4, pos := "law.go:112", after := #[{ on := 18, ground := Ground.data }, { on := 33, ground := Ground.data }], guard := none }) (v := ?_) rfl (by kernel_rfl) (by kernel_rfl) (by kernel_rfl) (fun _ _ _ h => h) (Or.inl ⟨by rfl, ?_⟩) (by exact kS) ?_
       rotate_left
       · intro w h; (try dsimp only at h); (go_simp <;> with_reducible rfl)
       try simp only [Act.put, List.setIfInBounds_toArray, List.set_cons_zero, List.set_cons_succ]
       refine wpAnyH_take (i := 35) (oi := { dst := some 96, op := Op.move (Operand.tmp 95), type := 4, pos := "law.go:112", after := #[{ on := 34, ground := Ground.data }, { on := 30, ground := Ground.chain }], guard := none }) (v := ?_) rfl (by kernel_rfl) (by kernel_rfl) (by kernel_rfl) (fun _ _ _ h => h) (Or.inl ⟨by rfl, ?_⟩) (by exact kS) ?_
       rotate_left
       · intro w h; (try dsimp only at h); (go_simp <;> with_reducible rfl)
       try simp only [Act.put, List.setIfInBounds_toArray, List.set_cons_zero, List.set_cons_succ]
       refine wpAnyH_ready (rs := [36]) (by kernel_rfl) (by simp) ?_
       refine AllReadyH.cons (o := { dst := some 97, op := Op.call { callee := Callee.value (Operand.func 10), args := #[], argTypes := #[] }, type := 4, pos := "law.go:112", after := #[{ on := 35, ground := Ground.chain }, { on := 35, ground := Ground.guard }], guard := some (35, true) }) rfl (fun K hK => ?_) AllReadyH.nil
       go_simp
       (refine (awake_any _).mono ?_; rintro e V6 ⟨rfl, hb⟩; have D1 : Hid (Box V6 (w.heap.size) (.bool s1) (.slice a1 n1 c1)) := D1.out.below hb D1.out.lt; have Dr : Hid (Box V6 (W4.heap.size + 1) (.bool sr) (.slice ar nr cr)) := Dr.out.below hb Dr.out.lt; have Dy : Hid (Box V6 (W8.heap.size) (.bool ss) (.slice ay ny cy)) := Dy.out.below hb Dy.out.lt; have Do : Hid (Box V6 (W10.heap.size) (.bool so) (.slice ao no co)) := Do.out.below hb Do.out.lt; have Dt : Hid (Box V6 (W10.heap.size + 1) (.bool sf) (.slice af nf cf)) := Dt.out.below hb Dt.out.lt; have Dz : Hid (Box V6 (W13.heap.size) (.bool sr) (.slice ar nr cr)) := Dz.out.below hb Dz.out.lt; have Jy : Hid (Sl V6 ay ny cy ly) := Jy.out.below hb (Nat.le_refl _); have J1 : Hid (Sl V6 a1 n1 c1 l1) := J1.out.below hb (Nat.le_refl _); have Jr : Hid (Sl V6 ar nr cr lr) := Jr.out.below hb (Nat.le_refl _); have Jo : Hid (Sl V6 ao no co lo) := Jo.out.below hb (Nat.le_refl _); have Jf : Hid (Sl V6 af nf cf lf) := Jf.out.below hb (Nat.le_refl _); have HBD : Hid (Below w.heap.size w V6) := HBD.out.trans (hb.mono HBD.out.size); clear kS; have kS : V6.cell? ⟨w.heap.size, 0, none⟩ = some (.bool s1) ∧ V6.cell? ⟨w.heap.size, 1, none⟩ = some (.slice a1 n1 c1) ∧ V6.cell? ⟨W4.heap.size + 1, 0, none⟩ = some (.bool sr) ∧ V6.cell? ⟨W4.heap.size + 1, 1, none⟩ = some (.slice ar nr cr) ∧ V6.cell? ⟨W8.heap.size, 0, none⟩ = some (.bool ss) ∧ V6.cell? ⟨W8.heap.size, 1, none⟩ = some (.slice ay ny cy) ∧ V6.cell? ⟨W10.heap.size, 0, none⟩ = some (.bool so) ∧ V6.cell? ⟨W10.heap.size, 1, none⟩ = some (.slice ao no co) ∧ V6.cell? ⟨W10.heap.size + 1, 0, none⟩ = some (.bool sf) ∧ V6.cell? ⟨W10.heap.size + 1, 1, none⟩ = some (.slice af nf cf) ∧ V6.cell? ⟨W13.heap.size, 0, none⟩ = some (.bool sr) ∧ V6.cell? ⟨W13.heap.size, 1, none⟩ = some (.slice ar nr cr) := ⟨D1.out.z0, D1.out.z1, Dr.out.z0, Dr.out.z1, Dy.out.z0, Dy.out.z1, Do.out.z0, Do.out.z1, Dt.out.z0, Dt.out.z1, Dz.out.z0, Dz.out.z1⟩; clear hb)
       go_wp2_with fail
       refine hK.out _ _ (by exact kS) (fun hH => ?_)
       clear hK K hH
       try simp only [Act.put, List.setIfInBounds_toArray, List.set_cons_zero, List.set_cons_succ]
       refine wpAnyH_take (i := 37) (oi := { dst := some 98, op := Op.pick (Operand.tmp 96) (Operand.tmp 97) (Operand.const (Value.bool false)), type := 4, pos := "law.go:112", after := #[{ on := 35, ground := Ground.data }, { on := 36, ground := Ground.data }], guard := none }) (v := ?_) rfl (by kernel_rfl) (by kernel_rfl) (by kernel_rfl) (fun _ _ _ h => h) (Or.inl ⟨by rfl, ?_⟩) (by exact kS) ?_
       rotate_left
       · intro w h; (try dsimp only at h); (go_simp <;> with_reducible rfl)
       try simp only [Act.put, List.setIfInBounds_toArray, List.set_cons_zero, List.set_cons_succ]
       refine wpAnyH_take (i := 38) (oi := { dst := some 4, op := Op.assign (Operand.tmp 98), type := 4, pos := "law.go:112", after := #[{ on := 37, ground := Ground.data }, { on := 36, ground := Ground.chain }, { on := 0, ground := Ground.phase }, { on := 1, ground := Ground.phase }, { on := 2, ground := Ground.phase }, { on := 3, ground := Ground.phase }, { on := 4, ground := Ground.phase }, { on := 5, ground := Ground.phase }, { on := 6, ground := Ground.phase }, { on := 7, ground := Ground.phase }, { on := 8, ground := Ground.phase }, { on := 9, ground := Ground.phase }, { on := 10, ground := Ground.phase }, { on := 11, ground := Ground.phase }, { on := 12, ground := Ground.phase }, { on := 13, ground := Ground.phase }, { on := 14, ground := Ground.phase }, { on := 15, ground := Ground.phase }, { on := 16, ground := Ground.phase }, { on := 17, ground := Ground.phase }, { on := 18, ground := Ground.phase }, { on := 19, ground := Ground.phase }, { on := 20, ground := Ground.phase }, { on := 21, ground := Ground.phase }, { on := 22, ground := Ground.phase }, { on := 23, ground := Ground.phase }, { on := 24, ground := Ground.phase }, { on := 25, ground := Ground.phase }, { on := 26, ground := Ground.phase }, { on := 27, ground := Ground.phase }, { on := 28, ground := Ground.phase }, { on := 29, ground := Ground.phase }, { on := 30, ground := Ground.phase }, { on := 31, ground := Ground.phase }, { on := 32, ground := Ground.phase }, { on := 33, ground := Ground.phase }, { on := 34, ground := Ground.phase }, { on := 35, ground := Ground.phase }, { on := 36, ground := Ground.phase }, { on := 37, ground := Ground.phase }], guard := none }) (v := ?_) rfl (by kernel_rfl) (by kernel_rfl) (by kernel_rfl) (fun _ _ _ h => h) (Or.inl ⟨by rfl, ?_⟩) (by exact kS) ?_
       rotate_left
       · intro w h; (try dsimp only at h); (go_simp <;> with_reducible rfl)
       try simp only [Act.put, List.setIfInBounds_toArray, List.set_cons_zero, List.set_cons_succ]
       refine wpAnyH_done (by kernel_rfl) ?_ _
       go_wp2_with fail
       go_ret
       exact ⟨rfl, HBD.out⟩
   · have Z2 : Hid (s2 = false) := z2
     clear z2
     obtain ⟨kr, KR⟩ : ∃ k, Hid (cmpV sr (vl 4294967296 lr) so (vl 4294967296 lo) = k) := ⟨_, rfl⟩
     have okr : (kr = -1 ∧ sr = true ∧ vr ≠ 0) ∨ (kr = 0 ∧ vr = 0) ∨ (kr = 1 ∧ sr = false ∧ vr ≠ 0) := by
       rw [← KR.out, cmpV_eq, Eo.out, Er.out, zi_zero]
       by_cases hz : vr = 0
       · subst hz; right; left; exact ⟨by rw [zi_zero]; rfl, rfl⟩
       cases sr
       · right; right; exact ⟨cmpI_gt (by simp [zi]; omega), rfl, hz⟩
       · left; exact ⟨cmpI_lt (by simp [zi]; omega), rfl, hz⟩
     have EZ : Hid (0 = 0) := rfl
     go_wp2_with fail
     clear BT
     have BT : Hid (Below W12.heap.size W12 W12) := Below.refl _ _
     have T1 := H1
     have T2 := H2
     have Tq := Hq
     have Tr := Hr
     have Tp := Hp
     have Ty := Hy
     have To := Ho
     have U1 : Hid (w.heap.size < W12.heap.size) := X1.out.lt
     have U2 : Hid (w.heap.size + 1 < W12.heap.size) := X2.out.lt
     have Uq : Hid (W4.heap.size < W12.heap.size) := Xq.out.lt
     have Ur : Hid (W4.heap.size + 1 < W12.heap.size) := Xr.out.lt
     have Up : Hid (W6.heap.size < W12.heap.size) := Xp.out.lt
     have Uy : Hid (W8.heap.size < W12.heap.size) := Xy.out.lt
     have Uo : Hid (W10.heap.size < W12.heap.size) := Xo.out.lt
     have Ut : Hid (W10.heap.size + 1 < W12.heap.size) := Xt.out.lt
     generalize hW : (World.alloc W12 _) = W13
     obtain ⟨xn, hb, hz⟩ := boxes1 W12 (.bool sr) (.slice ar nr cr) 24 hW
     have Xz : Hid (Box W13 (W12.heap.size) (.bool sr) (.slice ar nr cr)) := xn
     clear hW xn hz
     have BT : Hid (Below W12.heap.size W12 W13) := BT.out.trans (hb.mono BT.out.size)
     clear p10 p11 t1 p20 p21 t2 pq0 pq1 tq pr0 pr1 tr pp0 pp1 tp py0 py1 ty po0 po1 to pt0 pt1 tt
     have X1 : Hid (Box W13 (w.heap.size) (.bool s1) (.slice a1 n1 c1)) := X1.out.below hb X1.out.lt
     have X2 : Hid (Box W13 (w.heap.size + 1) (.bool s2) (.slice a2 n2 c2)) := X2.out.below hb X2.out.lt
     have Xq : Hid (Box W13 (W4.heap.size) (.bool sq) (.slice aq nq cq)) := Xq.out.below hb Xq.out.lt
     have Xr : Hid (Box W13 (W4.heap.size + 1) (.bool sr) (.slice ar nr cr)) := Xr.out.below hb Xr.out.lt
     have Xp : Hid (Box W13 (W6.heap.size) (.bool sp) (.slice ap np cp)) := Xp.out.below hb Xp.out.lt
     have Xy : Hid (Box W13 (W8.heap.size) (.bool ss) (.slice ay ny cy)) := Xy.out.below hb Xy.out.lt
     have Xo : Hid (Box W13 (W10.heap.size) (.bool so) (.slice ao no co)) := Xo.out.below hb Xo.out.lt
     have Xt : Hid (Box W13 (W10.heap.size + 1) (.bool s2) (.slice a2 n2 c2)) := Xt.out.below hb Xt.out.lt
     have H1 : Hid (Sl W13 a1 n1 c1 l1) := H1.out.below hb (Nat.le_refl _)
     have H2 : Hid (Sl W13 a2 n2 c2 l2) := H2.out.below hb (Nat.le_refl _)
     have Hq : Hid (Sl W13 aq nq cq lq) := Hq.out.below hb (Nat.le_refl _)
     have Hr : Hid (Sl W13 ar nr cr lr) := Hr.out.below hb (Nat.le_refl _)
     have Hp : Hid (Sl W13 ap np cp lp) := Hp.out.below hb (Nat.le_refl _)
     have Hy : Hid (Sl W13 ay ny cy ly) := Hy.out.below hb (Nat.le_refl _)
     have Ho : Hid (Sl W13 ao no co lo) := Ho.out.below hb (Nat.le_refl _)
     have HB : Hid (Below w.heap.size w W13) := HB.out.trans (hb.mono HB.out.size)
     clear hb
     have p10 := X1.out.z0
     have p11 := X1.out.z1
     have t1 := X1.out.lt
     have p20 := X2.out.z0
     have p21 := X2.out.z1
     have t2 := X2.out.lt
     have pq0 := Xq.out.z0
     have pq1 := Xq.out.z1
     have tq := Xq.out.lt
     have pr0 := Xr.out.z0
     have pr1 := Xr.out.z1
     have tr := Xr.out.lt
     have pp0 := Xp.out.z0
     have pp1 := Xp.out.z1
     have tp := Xp.out.lt
     have py0 := Xy.out.z0
     have py1 := Xy.out.z1
     have ty := Xy.out.lt
     have po0 := Xo.out.z0
     have po1 := Xo.out.z1
     have to := Xo.out.lt
     have pt0 := Xt.out.z0
     have pt1 := Xt.out.z1
     have tt := Xt.out.lt
     have pz0 := Xz.out.z0
     have pz1 := Xz.out.z1
     have tz := Xz.out.lt
     go_wp2_with fail
     refine (compare_any sr so ar nr cr lr ao no co lo _ Hr.out Ho.out (by omega) (by omega)).mono ?_
     rintro e W14 ⟨rfl, hb⟩
     rw [KR.out]
     have BT : Hid (Below W12.heap.size W12 W14) := BT.out.trans (hb.mono BT.out.size)
     clear p10 p11 t1 p20 p21 t2 pq0 pq1 tq pr0 pr1 tr pp0 pp1 tp py0 py1 ty po0 po1 to pt0 pt1 tt pz0 pz1 tz
     have X1 : Hid (Box W14 (w.heap.size) (.bool s1) (.slice a1 n1 c1)) := X1.out.below hb X1.out.lt
     have X2 : Hid (Box W14 (w.heap.size + 1) (.bool s2) (.slice a2 n2 c2)) := X2.out.below hb X2.out.lt
     have Xq : Hid (Box W14 (W4.heap.size) (.bool sq) (.slice aq nq cq)) := Xq.out.below hb Xq.out.lt
     have Xr : Hid (Box W14 (W4.heap.size + 1) (.bool sr) (.slice ar nr cr)) := Xr.out.below hb Xr.out.lt
     have Xp : Hid (Box W14 (W6.heap.size) (.bool sp) (.slice ap np cp)) := Xp.out.below hb Xp.out.lt
     have Xy : Hid (Box W14 (W8.heap.size) (.bool ss) (.slice ay ny cy)) := Xy.out.below hb Xy.out.lt
     have Xo : Hid (Box W14 (W10.heap.size) (.bool so) (.slice ao no co)) := Xo.out.below hb Xo.out.lt
     have Xt : Hid (Box W14 (W10.heap.size + 1) (.bool s2) (.slice a2 n2 c2)) := Xt.out.below hb Xt.out.lt
     have Xz : Hid (Box W14 (W12.heap.size) (.bool sr) (.slice ar nr cr)) := Xz.out.below hb Xz.out.lt
     have H1 : Hid (Sl W14 a1 n1 c1 l1) := H1.out.below hb (Nat.le_refl _)
     have H2 : Hid (Sl W14 a2 n2 c2 l2) := H2.out.below hb (Nat.le_refl _)
     have Hq : Hid (Sl W14 aq nq cq lq) := Hq.out.below hb (Nat.le_refl _)
     have Hr : Hid (Sl W14 ar nr cr lr) := Hr.out.below hb (Nat.le_refl _)
     have Hp : Hid (Sl W14 ap np cp lp) := Hp.out.below hb (Nat.le_refl _)
     have Hy : Hid (Sl W14 ay ny cy ly) := Hy.out.below hb (Nat.le_refl _)
     have Ho : Hid (Sl W14 ao no co lo) := Ho.out.below hb (Nat.le_refl _)
     have HB : Hid (Below w.heap.size w W14) := HB.out.trans (hb.mono HB.out.size)
     clear hb
     have p10 := X1.out.z0
     have p11 := X1.out.z1
     have t1 := X1.out.lt
     have p20 := X2.out.z0
     have p21 := X2.out.z1
     have t2 := X2.out.lt
     have pq0 := Xq.out.z0
     have pq1 := Xq.out.z1
     have tq := Xq.out.lt
     have pr0 := Xr.out.z0
     have pr1 := Xr.out.z1
     have tr := Xr.out.lt
     have pp0 := Xp.out.z0
     have pp1 := Xp.out.z1
     have tp := Xp.out.lt
     have py0 := Xy.out.z0
     have py1 := Xy.out.z1
     have ty := Xy.out.lt
     have po0 := Xo.out.z0
     have po1 := Xo.out.z1
     have to := Xo.out.lt
     have pt0 := Xt.out.z0
     have pt1 := Xt.out.z1
     have tt := Xt.out.lt
     have pz0 := Xz.out.z0
     have pz1 := Xz.out.z1
     have tz := Xz.out.lt
     rcases okr with ⟨rfl, zr, zr2⟩ | ⟨rfl, zr⟩ | ⟨rfl, zr, zr2⟩
     · have Z3 : Hid (sr = true ∧ vr ≠ 0) := ⟨zr, zr2⟩
       clear zr zr2
       go_wp2_with fail
       obtain ⟨sg, SG⟩ : ∃ v, Hid (sgB (!sr) (vr) = v) := ⟨_, rfl⟩
       have Gg : Hid (W12.heap.size < W14.heap.size) := Xz.out.lt
       refine (neg_any sr ar nr cr lr _ Hr.out (by omega)).mono ?_
       rintro e W15 ⟨v, rfl, hf0, hb⟩
       rw [Er.out] at hf0
       rw [SG.out] at hf0
       have BT : Hid (Below W12.heap.size W12 W15) := BT.out.trans (hb.mono BT.out.size)
       clear p10 p11 t1 p20 p21 t2 pq0 pq1 tq pr0 pr1 tr pp0 pp1 tp py0 py1 ty po0 po1 to pt0 pt1 tt pz0 pz1 tz
       have X1 : Hid (Box W15 (w.heap.size) (.bool s1) (.slice a1 n1 c1)) := X1.out.below hb X1.out.lt
       have X2 : Hid (Box W15 (w.heap.size + 1) (.bool s2) (.slice a2 n2 c2)) := X2.out.below hb X2.out.lt
       have Xq : Hid (Box W15 (W4.heap.size) (.bool sq) (.slice aq nq cq)) := Xq.out.below hb Xq.out.lt
       have Xr : Hid (Box W15 (W4.heap.size + 1) (.bool sr) (.slice ar nr cr)) := Xr.out.below hb Xr.out.lt
       have Xp : Hid (Box W15 (W6.heap.size) (.bool sp) (.slice ap np cp)) := Xp.out.below hb Xp.out.lt
       have Xy : Hid (Box W15 (W8.heap.size) (.bool ss) (.slice ay ny cy)) := Xy.out.below hb Xy.out.lt
       have Xo : Hid (Box W15 (W10.heap.size) (.bool so) (.slice ao no co)) := Xo.out.below hb Xo.out.lt
       have Xt : Hid (Box W15 (W10.heap.size + 1) (.bool s2) (.slice a2 n2 c2)) := Xt.out.below hb Xt.out.lt
       have Xz : Hid (Box W15 (W12.heap.size) (.bool sr) (.slice ar nr cr)) := Xz.out.below hb Xz.out.lt
       have H1 : Hid (Sl W15 a1 n1 c1 l1) := H1.out.below hb (Nat.le_refl _)
       have H2 : Hid (Sl W15 a2 n2 c2 l2) := H2.out.below hb (Nat.le_refl _)
       have Hq : Hid (Sl W15 aq nq cq lq) := Hq.out.below hb (Nat.le_refl _)
       have Hr : Hid (Sl W15 ar nr cr lr) := Hr.out.below hb (Nat.le_refl _)
       have Hp : Hid (Sl W15 ap np cp lp) := Hp.out.below hb (Nat.le_refl _)
       have Hy : Hid (Sl W15 ay ny cy ly) := Hy.out.below hb (Nat.le_refl _)
       have Ho : Hid (Sl W15 ao no co lo) := Ho.out.below hb (Nat.le_refl _)
       have HB : Hid (Below w.heap.size w W15) := HB.out.trans (hb.mono HB.out.size)
       clear hb
       have p10 := X1.out.z0
       have p11 := X1.out.z1
       have t1 := X1.out.lt
       have p20 := X2.out.z0
       have p21 := X2.out.z1
       have t2 := X2.out.lt
       have pq0 := Xq.out.z0
       have pq1 := Xq.out.z1
       have tq := Xq.out.lt
       have pr0 := Xr.out.z0
       have pr1 := Xr.out.z1
       have tr := Xr.out.lt
       have pp0 := Xp.out.z0
       have pp1 := Xp.out.z1
       have tp := Xp.out.lt
       have py0 := Xy.out.z0
       have py1 := Xy.out.z1
       have ty := Xy.out.lt
       have po0 := Xo.out.z0
       have po1 := Xo.out.z1
       have to := Xo.out.lt
       have pt0 := Xt.out.z0
       have pt1 := Xt.out.z1
       have tt := Xt.out.lt
       have pz0 := Xz.out.z0
       have pz1 := Xz.out.z1
       have tz := Xz.out.lt
       obtain ⟨ag, ng, cg, l0, rfl, _, _, mg⟩ := hf0.open LR.out
       have Ig : Hid (IntR W15 W14.heap.size (.agg #[.bool sg, .slice ag ng cg]) sg (vr)) := hf0
       clear hf0
       have zf0 := Xz.out.f0
       have zf1 := Xz.out.f1
       go_wp2_with fail
       clear zf0 zf1
       generalize hV : ((W15.setCell ⟨W12.heap.size, 0, none⟩ (.bool sg)).setCell ⟨W12.heap.size, 1, none⟩ (.slice ag ng cg)) = W16
       obtain ⟨xt, d3, d4, d5, d6⟩ := set_only hV Xz.out
       clear hV
       have EN : Hid (W16.heap.size = W15.heap.size) := d6
       clear d6
       clear p10 p11 t1 p20 p21 t2 pq0 pq1 tq pr0 pr1 tr pp0 pp1 tp py0 py1 ty po0 po1 to pt0 pt1 tt pz0 pz1 tz
       have X1 : Hid (Box W16 (w.heap.size) (.bool s1) (.slice a1 n1 c1)) := d3 _ _ _ (by have := U1.out; have := EZ.out; omega) X1.out
       have X2 : Hid (Box W16 (w.heap.size + 1) (.bool s2) (.slice a2 n2 c2)) := d3 _ _ _ (by have := U2.out; have := EZ.out; omega) X2.out
       have Xq : Hid (Box W16 (W4.heap.size) (.bool sq) (.slice aq nq cq)) := d3 _ _ _ (by have := Uq.out; have := EZ.out; omega) Xq.out
       have Xr : Hid (Box W16 (W4.heap.size + 1) (.bool sr) (.slice ar nr cr)) := d3 _ _ _ (by have := Ur.out; have := EZ.out; omega) Xr.out
       have Xp : Hid (Box W16 (W6.heap.size) (.bool sp) (.slice ap np cp)) := d3 _ _ _ (by have := Up.out; have := EZ.out; omega) Xp.out
       have Xy : Hid (Box W16 (W8.heap.size) (.bool ss) (.slice ay ny cy)) := d3 _ _ _ (by have := Uy.out; have := EZ.out; omega) Xy.out
       have Xo : Hid (Box W16 (W10.heap.size) (.bool so) (.slice ao no co)) := d3 _ _ _ (by have := Uo.out; have := EZ.out; omega) Xo.out
       have Xt : Hid (Box W16 (W10.heap.size + 1) (.bool s2) (.slice a2 n2 c2)) := d3 _ _ _ (by have := Ut.out; have := EZ.out; omega) Xt.out
       have Xz : Hid (Box W16 (W12.heap.size) (.bool sg) (.slice ag ng cg)) := xt
       have BT : Hid (Below W12.heap.size W12 W16) := d4 _ _ BT.out (by have := EZ.out; omega)
       have H1 : Hid (Sl W16 a1 n1 c1 l1) := T1.out.below BT.out (Nat.le_refl _)
       have H2 : Hid (Sl W16 a2 n2 c2 l2) := T2.out.below BT.out (Nat.le_refl _)
       have Hq : Hid (Sl W16 aq nq cq lq) := Tq.out.below BT.out (Nat.le_refl _)
       have Hr : Hid (Sl W16 ar nr cr lr) := Tr.out.below BT.out (Nat.le_refl _)
       have Hp : Hid (Sl W16 ap np cp lp) := Tp.out.below BT.out (Nat.le_refl _)
       have Hy : Hid (Sl W16 ay ny cy ly) := Ty.out.below BT.out (Nat.le_refl _)
       have Ho : Hid (Sl W16 ao no co lo) := To.out.below BT.out (Nat.le_refl _)
       have HB : Hid (Below w.heap.size w W16) := d4 _ _ HB.out (by have := U1.out; have := EZ.out; omega)
       have Ig : Hid (IntR W16 W14.heap.size (.agg #[.bool sg, .slice ag ng cg]) sg (vr)) := d5 _ _ _ _ Ig.out (by have := Gg.out; have := EZ.out; omega)
       clear xt d3 d4 d5
       obtain ⟨lg, hs, hv⟩ := Ig.out.sl
       have Hg : Hid (Sl W16 ag ng cg lg) := hs
       have Eg : Hid (vl 4294967296 lg = _) := hv
       clear hs hv
       have p10 := X1.out.z0
       have p11 := X1.out.z1
       have t1 := X1.out.lt
       have p20 := X2.out.z0
       have p21 := X2.out.z1
       have t2 := X2.out.lt
       have pq0 := Xq.out.z0
       have pq1 := Xq.out.z1
       have tq := Xq.out.lt
       have pr0 := Xr.out.z0
       have pr1 := Xr.out.z1
       have tr := Xr.out.lt
       have pp0 := Xp.out.z0
       have pp1 := Xp.out.z1
       have tp := Xp.out.lt
       have py0 := Xy.out.z0
       have py1 := Xy.out.z1
       have ty := Xy.out.lt
       have po0 := Xo.out.z0
       have po1 := Xo.out.z1
       have to := Xo.out.lt
       have pt0 := Xt.out.z0
       have pt1 := Xt.out.z1
       have tt := Xt.out.lt
       have pz0 := Xz.out.z0
       have pz1 := Xz.out.z1
       have tz := Xz.out.lt
       have RL : Hid (vr < vl 4294967296 l2) := by show _ < _; rw [← VR.out, (back_open EQ.out).2.2.2.2]; exact Nat.mod_lt _ (Nat.pos_of_ne_zero K1.out)
       have HA0 : Hid (cmpV ss (vl 4294967296 ly) s1 (vl 4294967296 l1) = 0) := by show _ = _; rw [cmpV_eq, Ey.out, ← SS.out, zi_sg]; exact cmpI_self _
       have HSZ : Hid (cmpV sg (vl 4294967296 lg) s2 (vl 4294967296 l2) = -1) := by
         show _ = _
         have h1 := RL.out
         have h2 : zi sg (vl 4294967296 lg) = (vr : Int) := by
           rw [Eg.out, ← SG.out, Z3.out.1]; simp [zi, sgB]
         have h3 : zi s2 (vl 4294967296 l2) = (vl 4294967296 l2 : Int) := by
           rw [Z2.out]; rfl
         rw [cmpV_eq, h2, h3]
         exact cmpI_lt (by omega)
       have KA : Hid (cmpV s1 (vl 4294967296 l1) so (vl 4294967296 lo) = -1) := by
         show _ = _
         have h1 := Z3.out
         have h2 : sr = s1 := by rw [← SR.out]; exact sgB_pos h1.2
         have h3 : vl 4294967296 l1 ≠ 0 := fun h => h1.2 (by rw [← VR.out, (back_open EQ.out).2.2.2.2, h]; exact Nat.zero_mod _)
         rw [cmpV_eq, Eo.out, zi_zero, ← h2, h1.1]
         exact cmpI_lt (by simp [zi]; omega)
       clear p10 p11 t1 p20 p21 t2 pq0 pq1 tq pr0 pr1 tr pp0 pp1 tp py0 py1 ty po0 po1 to pt0 pt1 tt pz0 pz1 tz
       have D1 : Hid (Box W16.drew (w.heap.size) (.bool s1) (.slice a1 n1 c1)) := X1.out.below (Below.refl _ _).drew X1.out.lt
       have Dr : Hid (Box W16.drew (W4.heap.size + 1) (.bool sr) (.slice ar nr cr)) := Xr.out.below (Below.refl _ _).drew Xr.out.lt
       have Dy : Hid (Box W16.drew (W8.heap.size) (.bool ss) (.slice ay ny cy)) := Xy.out.below (Below.refl _ _).drew Xy.out.lt
       have Do : Hid (Box W16.drew (W10.heap.size) (.bool so) (.slice ao no co)) := Xo.out.below (Below.refl _ _).drew Xo.out.lt
       have Dt : Hid (Box W16.drew (W10.heap.size + 1) (.bool s2) (.slice a2 n2 c2)) := Xt.out.below (Below.refl _ _).drew Xt.out.lt
       have Dz : Hid (Box W16.drew (W12.heap.size) (.bool sg) (.slice ag ng cg)) := Xz.out.below (Below.refl _ _).drew Xz.out.lt
       have Jy : Hid (Sl W16.drew ay ny cy ly) := Hy.out.below (Below.refl _ _).drew (Nat.le_refl _)
       have J1 : Hid (Sl W16.drew a1 n1 c1 l1) := H1.out.below (Below.refl _ _).drew (Nat.le_refl _)
       have Jr : Hid (Sl W16.drew ar nr cr lr) := Hr.out.below (Below.refl _ _).drew (Nat.le_refl _)
       have Jo : Hid (Sl W16.drew ao no co lo) := Ho.out.below (Below.refl _ _).drew (Nat.le_refl _)
       have Jg : Hid (Sl W16.drew ag ng cg lg) := Hg.out.below (Below.refl _ _).drew (Nat.le_refl _)
       have J2 : Hid (Sl W16.drew a2 n2 c2 l2) := H2.out.below (Below.refl _ _).drew (Nat.le_refl _)
       have HBD : Hid (Below w.heap.size w W16.drew) := HB.out.drew
       have kS : W16.drew.cell? ⟨w.heap.size, 0, none⟩ = some (.bool s1) ∧ W16.drew.cell? ⟨w.heap.size, 1, none⟩ = some (.slice a1 n1 c1) ∧ W16.drew.cell? ⟨W4.heap.size + 1, 0, none⟩ = some (.bool sr) ∧ W16.drew.cell? ⟨W4.heap.size + 1, 1, none⟩ = some (.slice ar nr cr) ∧ W16.drew.cell? ⟨W8.heap.size, 0, none⟩ = some (.bool ss) ∧ W16.drew.cell? ⟨W8.heap.size, 1, none⟩ = some (.slice ay ny cy) ∧ W16.drew.cell? ⟨W10.heap.size, 0, none⟩ = some (.bool so) ∧ W16.drew.cell? ⟨W10.heap.size, 1, none⟩ = some (.slice ao no co) ∧ W16.drew.cell? ⟨W10.heap.size + 1, 0, none⟩ = some (.bool s2) ∧ W16.drew.cell? ⟨W10.heap.size + 1, 1, none⟩ = some (.slice a2 n2 c2) ∧ W16.drew.cell? ⟨W12.heap.size, 0, none⟩ = some (.bool sg) ∧ W16.drew.cell? ⟨W12.heap.size, 1, none⟩ = some (.slice ag ng cg) := ⟨D1.out.z0, D1.out.z1, Dr.out.z0, Dr.out.z1, Dy.out.z0, Dy.out.z1, Do.out.z0, Do.out.z1, Dt.out.z0, Dt.out.z1, Dz.out.z0, Dz.out.z1⟩
       clear X1 X2 Xq Xr Xp Xy Xo Xt Xz H1 H2 Hq Hr Hp Hy Ho Hg T1 T2 Tq Tr Tp Ty To HB BT
       refine wp_region_held_drew (S := fun w' => w'.cell? ⟨w.heap.size, 0, none⟩ = some (.bool s1) ∧ w'.cell? ⟨w.heap.size, 1, none⟩ = some (.slice a1 n1 c1) ∧ w'.cell? ⟨W4.heap.size + 1, 0, none⟩ = some (.bool sr) ∧ w'.cell? ⟨W4.heap.size + 1, 1, none⟩ = some (.slice ar nr cr) ∧ w'.cell? ⟨W8.heap.size, 0, none⟩ = some (.bool ss) ∧ w'.cell? ⟨W8.heap.size, 1, none⟩ = some (.slice ay ny cy) ∧ w'.cell? ⟨W10.heap.size, 0, none⟩ = some (.bool so) ∧ w'.cell? ⟨W10.heap.size, 1, none⟩ = some (.slice ao no co) ∧ w'.cell? ⟨W10.heap.size + 1, 0, none⟩ = some (.bool s2) ∧ w'.cell? ⟨W10.heap.size + 1, 1, none⟩ = some (.slice a2 n2 c2) ∧ w'.cell? ⟨W12.heap.size, 0, none⟩ = some (.bool sg) ∧ w'.cell? ⟨W12.heap.size, 1, none⟩ = some (.slice ag ng cg)) (by kernel_rfl) (by exact kS) (fun hH => ?_)
       clear hH
       refine wpAnyH_take (i := 0) (oi := { dst := some 61, op := Op.move (Operand.tmp 9), type := 28, pos := "law.go:112", after := #[], guard := none }) (v := ?_) rfl (by kernel_rfl) (by kernel_rfl) (by kernel_rfl) (fun _ _ _ h => h) (Or.inl ⟨by rfl, ?_⟩) (by exact kS) ?_
       rotate_left
       · intro w h; (try dsimp only at h); (go_simp <;> with_reducible rfl)
       try simp only [Act.put, List.setIfInBounds_toArray, List.set_cons_zero, List.set_cons_succ]
       refine wpAnyH_take (i := 1) (oi := { dst := some 62, op := Op.binOp BinOp.eql 28 (Operand.tmp 61) (Operand.const (Value.int IntKind.i64 0)) 28, type := 4, pos := "law.go:112", after := #[{ on := 0, ground := Ground.data }], guard := none }) (v := ?_) rfl (by kernel_rfl) (by kernel_rfl) (by kernel_rfl) (fun _ _ _ h => h) (Or.inl ⟨by rfl, ?_⟩) (by exact kS) ?_
       rotate_left
       · intro w h; (try dsimp only at h); (go_simp <;> with_reducible rfl)
       try simp only [Act.put, List.setIfInBounds_toArray, List.set_cons_zero, List.set_cons_succ]
       refine wpAnyH_take (i := 2) (oi := { dst := some 63, op := Op.move (Operand.tmp 62), type := 4, pos := "law.go:112", after := #[{ on := 1, ground := Ground.data }], guard := none }) (v := ?_) rfl (by kernel_rfl) (by kernel_rfl) (by kernel_rfl) (fun _ _ _ h => h) (Or.inl ⟨by rfl, ?_⟩) (by exact kS) ?_
       rotate_left
       · intro w h; (try dsimp only at h); (go_simp <;> with_reducible rfl)
       try simp only [Act.put, List.setIfInBounds_toArray, List.set_cons_zero, List.set_cons_succ]
       refine wpAnyH_take (i := 3) (oi := { dst := some 64, op := Op.move (Operand.tmp 11), type := 28, pos := "law.go:112", after := #[{ on := 2, ground := Ground.guard }], guard := some (2, true) }) (v := ?_) rfl (by kernel_rfl) (by kernel_rfl) (by kernel_rfl) (fun _ _ _ h => h) (Or.inl ⟨by rfl, ?_⟩) (by exact kS) ?_
       rotate_left
       · intro w h; (try dsimp only at h); (go_simp <;> with_reducible rfl)
       try simp only [Act.put, List.setIfInBounds_toArray, List.set_cons_zero, List.set_cons_succ]
       refine wpAnyH_take (i := 4) (oi := { dst := some 65, op := Op.binOp BinOp.eql 28 (Operand.tmp 64) (Operand.const (Value.int IntKind.i64 0)) 28, type := 4, pos := "law.go:112", after := #[{ on := 3, ground := Ground.data }, { on := 2, ground := Ground.guard }], guard := some (2, true) }) (v := ?_) rfl (by kernel_rfl) (by kernel_rfl) (by kernel_rfl) (fun _ _ _ h => h) (Or.inl ⟨by rfl, ?_⟩) (by exact kS) ?_
       rotate_left
       · intro w h; (try dsimp only at h); (go_simp <;> with_reducible rfl)
       try simp only [Act.put, List.setIfInBounds_toArray, List.set_cons_zero, List.set_cons_succ]
       refine wpAnyH_take (i := 5) (oi := { dst := some 66, op := Op.pick (Operand.tmp 63) (Operand.tmp 65) (Operand.const (Value.bool false)), type := 4, pos := "law.go:112", after := #[{ on := 2, ground := Ground.data }, { on := 4, ground := Ground.data }], guard := none }) (v := ?_) rfl (by kernel_rfl) (by kernel_rfl) (by kernel_rfl) (fun _ _ _ h => h) (Or.inl ⟨by rfl, ?_⟩) (by exact kS) ?_
       rotate_left
       · intro w h; (try dsimp only at h); (go_simp <;> with_reducible rfl)
       try simp only [Act.put, List.setIfInBounds_toArray, List.set_cons_zero, List.set_cons_succ]
       refine wpAnyH_take (i := 6) (oi := { dst := some 67, op := Op.move (Operand.tmp 66), type := 4, pos := "law.go:112", after := #[{ on := 5, ground := Ground.data }, { on := 2, ground := Ground.chain }], guard := none }) (v := ?_) rfl (by kernel_rfl) (by kernel_rfl) (by kernel_rfl) (fun _ _ _ h => h) (Or.inl ⟨by rfl, ?_⟩) (by exact kS) ?_
       rotate_left
       · intro w h; (try dsimp only at h); (go_simp <;> with_reducible rfl)
       try simp only [Act.put, List.setIfInBounds_toArray, List.set_cons_zero, List.set_cons_succ]
       refine wpAnyH_take (i := 7) (oi := { dst := some 68, op := Op.load 24 (Operand.tmp 10), type := 24, pos := "law.go:112", after := #[{ on := 6, ground := Ground.guard }], guard := some (6, true) }) (v := ?_) rfl (by kernel_rfl) (by kernel_rfl) (by kernel_rfl) (fun _ _ _ h => h) (Or.inl ⟨by rfl, ?_⟩) (by exact kS) ?_
       rotate_left
       · intro w h; (try dsimp only at h); (go_simp <;> with_reducible rfl)
       try simp only [Act.put, List.setIfInBounds_toArray, List.set_cons_zero, List.set_cons_succ]
       refine wpAnyH_take (i := 8) (oi := { dst := some 69, op := Op.load 24 (Operand.tmp 2), type := 24, pos := "law.go:112", after := #[{ on := 6, ground := Ground.guard }], guard := some (6, true) }) (v := ?_) rfl (by kernel_rfl) (by kernel_rfl) (by kernel_rfl) (fun _ _ _ h => h) (Or.inl ⟨by rfl, ?_⟩) (by exact kS) ?_
       rotate_left
       · intro w h; (try dsimp only at h); (go_simp <;> with_reducible rfl)
       try simp only [Act.put, List.setIfInBounds_toArray, List.set_cons_zero, List.set_cons_succ]
       refine wpAnyH_ready (rs := [9]) (by kernel_rfl) (by simp) ?_
       refine AllReadyH.cons (o := { dst := some 70, op := Op.call { callee := Callee.value (Operand.func 17), args := #[Operand.tmp 68, Operand.tmp 69], argTypes := #[24, 24] }, type := 3, pos := "law.go:112", after := #[{ on := 7, ground := Ground.data }, { on := 8, ground := Ground.data }, { on := 6, ground := Ground.chain }, { on := 6, ground := Ground.guard }], guard := some (6, true) }) rfl (fun K hK => ?_) AllReadyH.nil
       go_simp
       (refine (compare_any ss s1 ay ny cy ly a1 n1 c1 l1 _ (by exact Jy.out) (by exact J1.out) (by omega) (by omega)).mono ?_; rintro e V1 ⟨rfl, hb⟩; rw [HA0.out]; have D1 : Hid (Box V1 (w.heap.size) (.bool s1) (.slice a1 n1 c1)) := D1.out.below hb D1.out.lt; have Dr : Hid (Box V1 (W4.heap.size + 1) (.bool sr) (.slice ar nr cr)) := Dr.out.below hb Dr.out.lt; have Dy : Hid (Box V1 (W8.heap.size) (.bool ss) (.slice ay ny cy)) := Dy.out.below hb Dy.out.lt; have Do : Hid (Box V1 (W10.heap.size) (.bool so) (.slice ao no co)) := Do.out.below hb Do.out.lt; have Dt : Hid (Box V1 (W10.heap.size + 1) (.bool s2) (.slice a2 n2 c2)) := Dt.out.below hb Dt.out.lt; have Dz : Hid (Box V1 (W12.heap.size) (.bool sg) (.slice ag ng cg)) := Dz.out.below hb Dz.out.lt; have Jy : Hid (Sl V1 ay ny cy ly) := Jy.out.below hb (Nat.le_refl _); have J1 : Hid (Sl V1 a1 n1 c1 l1) := J1.out.below hb (Nat.le_refl _); have Jr : Hid (Sl V1 ar nr cr lr) := Jr.out.below hb (Nat.le_refl _); have Jo : Hid (Sl V1 ao no co lo) := Jo.out.below hb (Nat.le_refl _); have Jg : Hid (Sl V1 ag ng cg lg) := Jg.out.below hb (Nat.le_refl _); have J2 : Hid (Sl V1 a2 n2 c2 l2) := J2.out.below hb (Nat.le_refl _); have HBD : Hid (Below w.heap.size w V1) := HBD.out.trans (hb.mono HBD.out.size); clear kS; have kS : V1.cell? ⟨w.heap.size, 0, none⟩ = some (.bool s1) ∧ V1.cell? ⟨w.heap.size, 1, none⟩ = some (.slice a1 n1 c1) ∧ V1.cell? ⟨W4.heap.size + 1, 0, none⟩ = some (.bool sr) ∧ V1.cell? ⟨W4.heap.size + 1, 1, none⟩ = some (.slice ar nr cr) ∧ V1.cell? ⟨W8.heap.size, 0, none⟩ = some (.bool ss) ∧ V1.cell? ⟨W8.heap.size, 1, none⟩ = some (.slice ay ny cy) ∧ V1.cell? ⟨W10.heap.size, 0, none⟩ = some (.bool so) ∧ V1.cell? ⟨W10.heap.size, 1, none⟩ = some (.slice ao no co) ∧ V1.cell? ⟨W10.heap.size + 1, 0, none⟩ = some (.bool s2) ∧ V1.cell? ⟨W10.heap.size + 1, 1, none⟩ = some (.slice a2 n2 c2) ∧ V1.cell? ⟨W12.heap.size, 0, none⟩ = some (.bool sg) ∧ V1.cell? ⟨W12.heap.size, 1, none⟩ = some (.slice ag ng cg) := ⟨D1.out.z0, D1.out.z1, Dr.out.z0, Dr.out.z1, Dy.out.z0, Dy.out.z1, Do.out.z0, Do.out.z1, Dt.out.z0, Dt.out.z1, Dz.out.z0, Dz.out.z1⟩; clear hb)
       go_wp2_with fail
       refine hK.out _ _ (by exact kS) (fun hH => ?_)
       clear hK K hH
       try simp only [Act.put, List.setIfInBounds_toArray, List.set_cons_zero, List.set_cons_succ]
       refine wpAnyH_take (i := 10) (oi := { dst := some 71, op := Op.binOp BinOp.eql 3 (Operand.tmp 70) (Operand.const (Value.int IntKind.i64 0)) 3, type := 4, pos := "law.go:112", after := #[{ on := 9, ground := Ground.data }, { on := 6, ground := Ground.guard }], guard := some (6, true) }) (v := ?_) rfl (by kernel_rfl) (by kernel_rfl) (by kernel_rfl) (fun _ _ _ h => h) (Or.inl ⟨by rfl, ?_⟩) (by exact kS) ?_
       rotate_left
       · intro w h; (try dsimp only at h); (go_simp <;> with_reducible rfl)
       try simp only [Act.put, List.setIfInBounds_toArray, List.set_cons_zero, List.set_cons_succ]
       refine wpAnyH_take (i := 11) (oi := { dst := some 72, op := Op.pick (Operand.tmp 67) (Operand.tmp 71) (Operand.const (Value.bool false)), type := 4, pos := "law.go:112", after := #[{ on := 6, ground := Ground.data }, { on := 10, ground := Ground.data }], guard := none }) (v := ?_) rfl (by kernel_rfl) (by kernel_rfl) (by kernel_rfl) (fun _ _ _ h => h) (Or.inl ⟨by rfl, ?_⟩) (by exact kS) ?_
       rotate_left
       · intro w h; (try dsimp only at h); (go_simp <;> with_reducible rfl)
       try simp only [Act.put, List.setIfInBounds_toArray, List.set_cons_zero, List.set_cons_succ]
       refine wpAnyH_take (i := 12) (oi := { dst := some 73, op := Op.move (Operand.tmp 72), type := 4, pos := "law.go:112", after := #[{ on := 11, ground := Ground.data }, { on := 9, ground := Ground.chain }], guard := none }) (v := ?_) rfl (by kernel_rfl) (by kernel_rfl) (by kernel_rfl) (fun _ _ _ h => h) (Or.inl ⟨by rfl, ?_⟩) (by exact kS) ?_
       rotate_left
       · intro w h; (try dsimp only at h); (go_simp <;> with_reducible rfl)
       try simp only [Act.put, List.setIfInBounds_toArray, List.set_cons_zero, List.set_cons_succ]
       refine wpAnyH_take (i := 13) (oi := { dst := some 74, op := Op.load 24 (Operand.tmp 14), type := 24, pos := "law.go:112", after := #[{ on := 12, ground := Ground.guard }], guard := some (12, true) }) (v := ?_) rfl (by kernel_rfl) (by kernel_rfl) (by kernel_rfl) (fun _ _ _ h => h) (Or.inl ⟨by rfl, ?_⟩) (by exact kS) ?_
       rotate_left
       · intro w h; (try dsimp only at h); (go_simp <;> with_reducible rfl)
       try simp only [Act.put, List.setIfInBounds_toArray, List.set_cons_zero, List.set_cons_succ]
       refine wpAnyH_take (i := 14) (oi := { dst := some 75, op := Op.load 24 (Operand.tmp 13), type := 24, pos := "law.go:112", after := #[{ on := 12, ground := Ground.guard }], guard := some (12, true) }) (v := ?_) rfl (by kernel_rfl) (by kernel_rfl) (by kernel_rfl) (fun _ _ _ h => h) (Or.inl ⟨by rfl, ?_⟩) (by exact kS) ?_
       rotate_left
       · intro w h; (try dsimp only at h); (go_simp <;> with_reducible rfl)
       try simp only [Act.put, List.setIfInBounds_toArray, List.set_cons_zero, List.set_cons_succ]
       refine wpAnyH_ready (rs := [15]) (by kernel_rfl) (by simp) ?_
       refine AllReadyH.cons (o := { dst := some 76, op := Op.call { callee := Callee.value (Operand.func 17), args := #[Operand.tmp 74, Operand.tmp 75], argTypes := #[24, 24] }, type := 3, pos := "law.go:112", after := #[{ on := 13, ground := Ground.data }, { on := 14, ground := Ground.data }, { on := 12, ground := Ground.chain }, { on := 12, ground := Ground.guard }], guard := some (12, true) }) rfl (fun K hK => ?_) AllReadyH.nil
       go_simp
       (refine (compare_any sg s2 ag ng cg lg a2 n2 c2 l2 _ (by exact Jg.out) (by exact J2.out) (by omega) (by omega)).mono ?_; rintro e V2 ⟨rfl, hb⟩; rw [HSZ.out]; have D1 : Hid (Box V2 (w.heap.size) (.bool s1) (.slice a1 n1 c1)) := D1.out.below hb D1.out.lt; have Dr : Hid (Box V2 (W4.heap.size + 1) (.bool sr) (.slice ar nr cr)) := Dr.out.below hb Dr.out.lt; have Dy : Hid (Box V2 (W8.heap.size) (.bool ss) (.slice ay ny cy)) := Dy.out.below hb Dy.out.lt; have Do : Hid (Box V2 (W10.heap.size) (.bool so) (.slice ao no co)) := Do.out.below hb Do.out.lt; have Dt : Hid (Box V2 (W10.heap.size + 1) (.bool s2) (.slice a2 n2 c2)) := Dt.out.below hb Dt.out.lt; have Dz : Hid (Box V2 (W12.heap.size) (.bool sg) (.slice ag ng cg)) := Dz.out.below hb Dz.out.lt; have Jy : Hid (Sl V2 ay ny cy ly) := Jy.out.below hb (Nat.le_refl _); have J1 : Hid (Sl V2 a1 n1 c1 l1) := J1.out.below hb (Nat.le_refl _); have Jr : Hid (Sl V2 ar nr cr lr) := Jr.out.below hb (Nat.le_refl _); have Jo : Hid (Sl V2 ao no co lo) := Jo.out.below hb (Nat.le_refl _); have Jg : Hid (Sl V2 ag ng cg lg) := Jg.out.below hb (Nat.le_refl _); have J2 : Hid (Sl V2 a2 n2 c2 l2) := J2.out.below hb (Nat.le_refl _); have HBD : Hid (Below w.heap.size w V2) := HBD.out.trans (hb.mono HBD.out.size); clear kS; have kS : V2.cell? ⟨w.heap.size, 0, none⟩ = some (.bool s1) ∧ V2.cell? ⟨w.heap.size, 1, none⟩ = some (.slice a1 n1 c1) ∧ V2.cell? ⟨W4.heap.size + 1, 0, none⟩ = some (.bool sr) ∧ V2.cell? ⟨W4.heap.size + 1, 1, none⟩ = some (.slice ar nr cr) ∧ V2.cell? ⟨W8.heap.size, 0, none⟩ = some (.bool ss) ∧ V2.cell? ⟨W8.heap.size, 1, none⟩ = some (.slice ay ny cy) ∧ V2.cell? ⟨W10.heap.size, 0, none⟩ = some (.bool so) ∧ V2.cell? ⟨W10.heap.size, 1, none⟩ = some (.slice ao no co) ∧ V2.cell? ⟨W10.heap.size + 1, 0, none⟩ = some (.bool s2) ∧ V2.cell? ⟨W10.heap.size + 1, 1, none⟩ = some (.slice a2 n2 c2) ∧ V2.cell? ⟨W12.heap.size, 0, none⟩ = some (.bool sg) ∧ V2.cell? ⟨W12.heap.size, 1, none⟩ = some (.slice ag ng cg) := ⟨D1.out.z0, D1.out.z1, Dr.out.z0, Dr.out.z1, Dy.out.z0, Dy.out.z1, Do.out.z0, Do.out.z1, Dt.out.z0, Dt.out.z1, Dz.out.z0, Dz.out.z1⟩; clear hb)
       go_wp2_with fail
       refine hK.out _ _ (by exact kS) (fun hH => ?_)
       clear hK K hH
       try simp only [Act.put, List.setIfInBounds_toArray, List.set_cons_zero, List.set_cons_succ]
       refine wpAnyH_take (i := 16) (oi := { dst := some 77, op := Op.binOp BinOp.lss 3 (Operand.tmp 76) (Operand.const (Value.int IntKind.i64 0)) 3, type := 4, pos := "law.go:112", after := #[{ on := 15, ground := Ground.data }, { on := 12, ground := Ground.guard }], guard := some (12, true) }) (v := ?_) rfl (by kernel_rfl) (by kernel_rfl) (by kernel_rfl) (fun _ _ _ h => h) (Or.inl ⟨by rfl, ?_⟩) (by exact kS) ?_
       rotate_left
       · intro w h; (try dsimp only at h); (go_simp <;> with_reducible rfl)
       try simp only [Act.put, List.setIfInBounds_toArray, List.set_cons_zero, List.set_cons_succ]
       refine wpAnyH_take (i := 17) (oi := { dst := some 78, op := Op.pick (Operand.tmp 73) (Operand.tmp 77) (Operand.const (Value.bool false)), type := 4, pos := "law.go:112", after := #[{ on := 12, ground := Ground.data }, { on := 16, ground := Ground.data }], guard := none }) (v := ?_) rfl (by kernel_rfl) (by kernel_rfl) (by kernel_rfl) (fun _ _ _ h => h) (Or.inl ⟨by rfl, ?_⟩) (by exact kS) ?_
       rotate_left
       · intro w h; (try dsimp only at h); (go_simp <;> with_reducible rfl)
       try simp only [Act.put, List.setIfInBounds_toArray, List.set_cons_zero, List.set_cons_succ]
       refine wpAnyH_take (i := 18) (oi := { dst := some 79, op := Op.move (Operand.tmp 78), type := 4, pos := "law.go:112", after := #[{ on := 17, ground := Ground.data }, { on := 15, ground := Ground.chain }], guard := none }) (v := ?_) rfl (by kernel_rfl) (by kernel_rfl) (by kernel_rfl) (fun _ _ _ h => h) (Or.inl ⟨by rfl, ?_⟩) (by exact kS) ?_
       rotate_left
       · intro w h; (try dsimp only at h); (go_simp <;> with_reducible rfl)
       try simp only [Act.put, List.setIfInBounds_toArray, List.set_cons_zero, List.set_cons_succ]
       refine wpAnyH_take (i := 19) (oi := { dst := some 80, op := Op.load 24 (Operand.tmp 6), type := 24, pos := "law.go:112", after := #[{ on := 18, ground := Ground.guard }], guard := some (18, true) }) (v := ?_) rfl (by kernel_rfl) (by kernel_rfl) (by kernel_rfl) (fun _ _ _ h => h) (Or.inl ⟨by rfl, ?_⟩) (by exact kS) ?_
       rotate_left
       · intro w h; (try dsimp only at h); (go_simp <;> with_reducible rfl)
       try simp only [Act.put, List.setIfInBounds_toArray, List.set_cons_zero, List.set_cons_succ]
       refine wpAnyH_take (i := 20) (oi := { dst := some 81, op := Op.load 24 (Operand.tmp 12), type := 24, pos := "law.go:112", after := #[{ on := 18, ground := Ground.guard }], guard := some (18, true) }) (v := ?_) rfl (by kernel_rfl) (by kernel_rfl) (by kernel_rfl) (fun _ _ _ h => h) (Or.inl ⟨by rfl, ?_⟩) (by exact kS) ?_
       rotate_left
       · intro w h; (try dsimp only at h); (go_simp <;> with_reducible rfl)
       try simp only [Act.put, List.setIfInBounds_toArray, List.set_cons_zero, List.set_cons_succ]
       refine wpAnyH_ready (rs := [21]) (by kernel_rfl) (by simp) ?_
       refine AllReadyH.cons (o := { dst := some 82, op := Op.call { callee := Callee.value (Operand.func 17), args := #[Operand.tmp 80, Operand.tmp 81], argTypes := #[24, 24] }, type := 3, pos := "law.go:112", after := #[{ on := 19, ground := Ground.data }, { on := 20, ground := Ground.data }, { on := 18, ground := Ground.chain }, { on := 18, ground := Ground.guard }], guard := some (18, true) }) rfl (fun K hK => ?_) AllReadyH.nil
       go_simp
       (refine (compare_any sr so ar nr cr lr ao no co lo _ (by exact Jr.out) (by exact Jo.out) (by omega) (by omega)).mono ?_; rintro e V3 ⟨rfl, hb⟩; rw [KR.out]; have D1 : Hid (Box V3 (w.heap.size) (.bool s1) (.slice a1 n1 c1)) := D1.out.below hb D1.out.lt; have Dr : Hid (Box V3 (W4.heap.size + 1) (.bool sr) (.slice ar nr cr)) := Dr.out.below hb Dr.out.lt; have Dy : Hid (Box V3 (W8.heap.size) (.bool ss) (.slice ay ny cy)) := Dy.out.below hb Dy.out.lt; have Do : Hid (Box V3 (W10.heap.size) (.bool so) (.slice ao no co)) := Do.out.below hb Do.out.lt; have Dt : Hid (Box V3 (W10.heap.size + 1) (.bool s2) (.slice a2 n2 c2)) := Dt.out.below hb Dt.out.lt; have Dz : Hid (Box V3 (W12.heap.size) (.bool sg) (.slice ag ng cg)) := Dz.out.below hb Dz.out.lt; have Jy : Hid (Sl V3 ay ny cy ly) := Jy.out.below hb (Nat.le_refl _); have J1 : Hid (Sl V3 a1 n1 c1 l1) := J1.out.below hb (Nat.le_refl _); have Jr : Hid (Sl V3 ar nr cr lr) := Jr.out.below hb (Nat.le_refl _); have Jo : Hid (Sl V3 ao no co lo) := Jo.out.below hb (Nat.le_refl _); have Jg : Hid (Sl V3 ag ng cg lg) := Jg.out.below hb (Nat.le_refl _); have J2 : Hid (Sl V3 a2 n2 c2 l2) := J2.out.below hb (Nat.le_refl _); have HBD : Hid (Below w.heap.size w V3) := HBD.out.trans (hb.mono HBD.out.size); clear kS; have kS : V3.cell? ⟨w.heap.size, 0, none⟩ = some (.bool s1) ∧ V3.cell? ⟨w.heap.size, 1, none⟩ = some (.slice a1 n1 c1) ∧ V3.cell? ⟨W4.heap.size + 1, 0, none⟩ = some (.bool sr) ∧ V3.cell? ⟨W4.heap.size + 1, 1, none⟩ = some (.slice ar nr cr) ∧ V3.cell? ⟨W8.heap.size, 0, none⟩ = some (.bool ss) ∧ V3.cell? ⟨W8.heap.size, 1, none⟩ = some (.slice ay ny cy) ∧ V3.cell? ⟨W10.heap.size, 0, none⟩ = some (.bool so) ∧ V3.cell? ⟨W10.heap.size, 1, none⟩ = some (.slice ao no co) ∧ V3.cell? ⟨W10.heap.size + 1, 0, none⟩ = some (.bool s2) ∧ V3.cell? ⟨W10.heap.size + 1, 1, none⟩ = some (.slice a2 n2 c2) ∧ V3.cell? ⟨W12.heap.size, 0, none⟩ = some (.bool sg) ∧ V3.cell? ⟨W12.heap.size, 1, none⟩ = some (.slice ag ng cg) := ⟨D1.out.z0, D1.out.z1, Dr.out.z0, Dr.out.z1, Dy.out.z0, Dy.out.z1, Do.out.z0, Do.out.z1, Dt.out.z0, Dt.out.z1, Dz.out.z0, Dz.out.z1⟩; clear hb)
       go_wp2_with fail
       refine hK.out _ _ (by exact kS) (fun hH => ?_)
       clear hK K hH
       try simp only [Act.put, List.setIfInBounds_toArray, List.set_cons_zero, List.set_cons_succ]
       refine wpAnyH_take (i := 22) (oi := { dst := some 83, op := Op.binOp BinOp.eql 3 (Operand.tmp 82) (Operand.const (Value.int IntKind.i64 0)) 3, type := 4, pos := "law.go:112", after := #[{ on := 21, ground := Ground.data }, { on := 18, ground := Ground.guard }], guard := some (18, true) }) (v := ?_) rfl (by kernel_rfl) (by kernel_rfl) (by kernel_rfl) (fun _ _ _ h => h) (Or.inl ⟨by rfl, ?_⟩) (by exact kS) ?_
       rotate_left
       · intro w h; (try dsimp only at h); (go_simp <;> with_reducible rfl)
       try simp only [Act.put, List.setIfInBounds_toArray, List.set_cons_zero, List.set_cons_succ]
       refine wpAnyH_take (i := 23) (oi := { dst := some 84, op := Op.move (Operand.tmp 83), type := 4, pos := "law.go:112", after := #[{ on := 22, ground := Ground.data }, { on := 21, ground := Ground.chain }, { on := 18, ground := Ground.guard }], guard := some (18, true) }) (v := ?_) rfl (by kernel_rfl) (by kernel_rfl) (by kernel_rfl) (fun _ _ _ h => h) (Or.inl ⟨by rfl, ?_⟩) (by exact kS) ?_
       rotate_left
       · intro w h; (try dsimp only at h); (go_simp <;> with_reducible rfl)
       try simp only [Act.put, List.setIfInBounds_toArray, List.set_cons_zero, List.set_cons_succ]
       refine wpAnyH_take (i := 24) (oi := { dst := some 85, op := Op.load 24 (Operand.tmp 6), type := 24, pos := "law.go:112", after := #[{ on := 23, ground := Ground.guard }], guard := some (23, false) }) (v := ?_) rfl (by kernel_rfl) (by kernel_rfl) (by kernel_rfl) (fun _ _ _ h => h) (Or.inl ⟨by rfl, ?_⟩) (by exact kS) ?_
       rotate_left
       · intro w h; (try dsimp only at h); (go_simp <;> with_reducible rfl)
       try simp only [Act.put, List.setIfInBounds_toArray, List.set_cons_zero, List.set_cons_succ]
       refine wpAnyH_take (i := 25) (oi := { dst := some 86, op := Op.load 24 (Operand.tmp 12), type := 24, pos := "law.go:112", after := #[{ on := 23, ground := Ground.guard }], guard := some (23, false) }) (v := ?_) rfl (by kernel_rfl) (by kernel_rfl) (by kernel_rfl) (fun _ _ _ h => h) (Or.inl ⟨by rfl, ?_⟩) (by exact kS) ?_
       rotate_left
       · intro w h; (try dsimp only at h); (go_simp <;> with_reducible rfl)
       try simp only [Act.put, List.setIfInBounds_toArray, List.set_cons_zero, List.set_cons_succ]
       refine wpAnyH_take (i := 28) (oi := { dst := some 89, op := Op.load 24 (Operand.tmp 2), type := 24, pos := "law.go:112", after := #[{ on := 23, ground := Ground.guard }], guard := some (23, false) }) (v := ?_) rfl (by kernel_rfl) (by kernel_rfl) (by kernel_rfl) (fun _ _ _ h => h) (Or.inl ⟨by rfl, ?_⟩) (by exact kS) ?_
       rotate_left
       · intro w h; (try dsimp only at h); (go_simp <;> with_reducible rfl)
       try simp only [Act.put, List.setIfInBounds_toArray, List.set_cons_zero, List.set_cons_succ]
       refine wpAnyH_take (i := 29) (oi := { dst := some 90, op := Op.load 24 (Operand.tmp 12), type := 24, pos := "law.go:112", after := #[{ on := 23, ground := Ground.guard }], guard := some (23, false) }) (v := ?_) rfl (by kernel_rfl) (by kernel_rfl) (by kernel_rfl) (fun _ _ _ h => h) (Or.inl ⟨by rfl, ?_⟩) (by exact kS) ?_
       rotate_left
       · intro w h; (try dsimp only at h); (go_simp <;> with_reducible rfl)
       try simp only [Act.put, List.setIfInBounds_toArray, List.set_cons_zero, List.set_cons_succ]
       refine wpAnyH_ready (rs := [26]) (by kernel_rfl) (by simp) ?_
       refine AllReadyH.cons (o := { dst := some 87, op := Op.call { callee := Callee.value (Operand.func 17), args := #[Operand.tmp 85, Operand.tmp 86], argTypes := #[24, 24] }, type := 3, pos := "law.go:112", after := #[{ on := 24, ground := Ground.data }, { on := 25, ground := Ground.data }, { on := 23, ground := Ground.chain }, { on := 23, ground := Ground.guard }], guard := some (23, false) }) rfl (fun K hK => ?_) AllReadyH.nil
       go_simp
       (refine (compare_any sr so ar nr cr lr ao no co lo _ (by exact Jr.out) (by exact Jo.out) (by omega) (by omega)).mono ?_; rintro e V4 ⟨rfl, hb⟩; rw [KR.out]; have D1 : Hid (Box V4 (w.heap.size) (.bool s1) (.slice a1 n1 c1)) := D1.out.below hb D1.out.lt; have Dr : Hid (Box V4 (W4.heap.size + 1) (.bool sr) (.slice ar nr cr)) := Dr.out.below hb Dr.out.lt; have Dy : Hid (Box V4 (W8.heap.size) (.bool ss) (.slice ay ny cy)) := Dy.out.below hb Dy.out.lt; have Do : Hid (Box V4 (W10.heap.size) (.bool so) (.slice ao no co)) := Do.out.below hb Do.out.lt; have Dt : Hid (Box V4 (W10.heap.size + 1) (.bool s2) (.slice a2 n2 c2)) := Dt.out.below hb Dt.out.lt; have Dz : Hid (Box V4 (W12.heap.size) (.bool sg) (.slice ag ng cg)) := Dz.out.below hb Dz.out.lt; have Jy : Hid (Sl V4 ay ny cy ly) := Jy.out.below hb (Nat.le_refl _); have J1 : Hid (Sl V4 a1 n1 c1 l1) := J1.out.below hb (Nat.le_refl _); have Jr : Hid (Sl V4 ar nr cr lr) := Jr.out.below hb (Nat.le_refl _); have Jo : Hid (Sl V4 ao no co lo) := Jo.out.below hb (Nat.le_refl _); have Jg : Hid (Sl V4 ag ng cg lg) := Jg.out.below hb (Nat.le_refl _); have J2 : Hid (Sl V4 a2 n2 c2 l2) := J2.out.below hb (Nat.le_refl _); have HBD : Hid (Below w.heap.size w V4) := HBD.out.trans (hb.mono HBD.out.size); clear kS; have kS : V4.cell? ⟨w.heap.size, 0, none⟩ = some (.bool s1) ∧ V4.cell? ⟨w.heap.size, 1, none⟩ = some (.slice a1 n1 c1) ∧ V4.cell? ⟨W4.heap.size + 1, 0, none⟩ = some (.bool sr) ∧ V4.cell? ⟨W4.heap.size + 1, 1, none⟩ = some (.slice ar nr cr) ∧ V4.cell? ⟨W8.heap.size, 0, none⟩ = some (.bool ss) ∧ V4.cell? ⟨W8.heap.size, 1, none⟩ = some (.slice ay ny cy) ∧ V4.cell? ⟨W10.heap.size, 0, none⟩ = some (.bool so) ∧ V4.cell? ⟨W10.heap.size, 1, none⟩ = some (.slice ao no co) ∧ V4.cell? ⟨W10.heap.size + 1, 0, none⟩ = some (.bool s2) ∧ V4.cell? ⟨W10.heap.size + 1, 1, none⟩ = some (.slice a2 n2 c2) ∧ V4.cell? ⟨W12.heap.size, 0, none⟩ = some (.bool sg) ∧ V4.cell? ⟨W12.heap.size, 1, none⟩ = some (.slice ag ng cg) := ⟨D1.out.z0, D1.out.z1, Dr.out.z0, Dr.out.z1, Dy.out.z0, Dy.out.z1, Do.out.z0, Do.out.z1, Dt.out.z0, Dt.out.z1, Dz.out.z0, Dz.out.z1⟩; clear hb)
       go_wp2_with fail
       refine hK.out _ _ (by exact kS) (fun hH => ?_)
       clear hK K hH
       try simp only [Act.put, List.setIfInBounds_toArray, List.set_cons_zero, List.set_cons_succ]
       refine wpAnyH_take (i := 27) (oi := { dst := some 88, op := Op.binOp BinOp.lss 3 (Operand.tmp 87) (Operand.const (Value.int IntKind.i64 0)) 3, type := 4, pos := "law.go:112", after := #[{ on := 26, ground := Ground.data }, { on := 23, ground := Ground.guard }], guard := some (23, false) }) (v := ?_) rfl (by kernel_rfl) (by kernel_rfl) (by kernel_rfl) (fun _ _ _ h => h) (Or.inl ⟨by rfl, ?_⟩) (by exact kS) ?_
       rotate_left
       · intro w h; (try dsimp only at h); (go_simp <;> with_reducible rfl)
       try simp only [Act.put, List.setIfInBounds_toArray, List.set_cons_zero, List.set_cons_succ]
       refine wpAnyH_ready (rs := [30]) (by kernel_rfl) (by simp) ?_
       refine AllReadyH.cons (o := { dst := some 91, op := Op.call { callee := Callee.value (Operand.func 17), args := #[Operand.tmp 89, Operand.tmp 90], argTypes := #[24, 24] }, type := 3, pos := "law.go:112", after := #[{ on := 28, ground := Ground.data }, { on := 29, ground := Ground.data }, { on := 26, ground := Ground.chain }, { on := 23, ground := Ground.guard }], guard := some (23, false) }) rfl (fun K hK => ?_) AllReadyH.nil
       go_simp
       (refine (compare_any s1 so a1 n1 c1 l1 ao no co lo _ (by exact J1.out) (by exact Jo.out) (by omega) (by omega)).mono ?_; rintro e V5 ⟨rfl, hb⟩; rw [KA.out]; have D1 : Hid (Box V5 (w.heap.size) (.bool s1) (.slice a1 n1 c1)) := D1.out.below hb D1.out.lt; have Dr : Hid (Box V5 (W4.heap.size + 1) (.bool sr) (.slice ar nr cr)) := Dr.out.below hb Dr.out.lt; have Dy : Hid (Box V5 (W8.heap.size) (.bool ss) (.slice ay ny cy)) := Dy.out.below hb Dy.out.lt; have Do : Hid (Box V5 (W10.heap.size) (.bool so) (.slice ao no co)) := Do.out.below hb Do.out.lt; have Dt : Hid (Box V5 (W10.heap.size + 1) (.bool s2) (.slice a2 n2 c2)) := Dt.out.below hb Dt.out.lt; have Dz : Hid (Box V5 (W12.heap.size) (.bool sg) (.slice ag ng cg)) := Dz.out.below hb Dz.out.lt; have Jy : Hid (Sl V5 ay ny cy ly) := Jy.out.below hb (Nat.le_refl _); have J1 : Hid (Sl V5 a1 n1 c1 l1) := J1.out.below hb (Nat.le_refl _); have Jr : Hid (Sl V5 ar nr cr lr) := Jr.out.below hb (Nat.le_refl _); have Jo : Hid (Sl V5 ao no co lo) := Jo.out.below hb (Nat.le_refl _); have Jg : Hid (Sl V5 ag ng cg lg) := Jg.out.below hb (Nat.le_refl _); have J2 : Hid (Sl V5 a2 n2 c2 l2) := J2.out.below hb (Nat.le_refl _); have HBD : Hid (Below w.heap.size w V5) := HBD.out.trans (hb.mono HBD.out.size); clear kS; have kS : V5.cell? ⟨w.heap.size, 0, none⟩ = some (.bool s1) ∧ V5.cell? ⟨w.heap.size, 1, none⟩ = some (.slice a1 n1 c1) ∧ V5.cell? ⟨W4.heap.size + 1, 0, none⟩ = some (.bool sr) ∧ V5.cell? ⟨W4.heap.size + 1, 1, none⟩ = some (.slice ar nr cr) ∧ V5.cell? ⟨W8.heap.size, 0, none⟩ = some (.bool ss) ∧ V5.cell? ⟨W8.heap.size, 1, none⟩ = some (.slice ay ny cy) ∧ V5.cell? ⟨W10.heap.size, 0, none⟩ = some (.bool so) ∧ V5.cell? ⟨W10.heap.size, 1, none⟩ = some (.slice ao no co) ∧ V5.cell? ⟨W10.heap.size + 1, 0, none⟩ = some (.bool s2) ∧ V5.cell? ⟨W10.heap.size + 1, 1, none⟩ = some (.slice a2 n2 c2) ∧ V5.cell? ⟨W12.heap.size, 0, none⟩ = some (.bool sg) ∧ V5.cell? ⟨W12.heap.size, 1, none⟩ = some (.slice ag ng cg) := ⟨D1.out.z0, D1.out.z1, Dr.out.z0, Dr.out.z1, Dy.out.z0, Dy.out.z1, Do.out.z0, Do.out.z1, Dt.out.z0, Dt.out.z1, Dz.out.z0, Dz.out.z1⟩; clear hb)
       go_wp2_with fail
       refine hK.out _ _ (by exact kS) (fun hH => ?_)
       clear hK K hH
       try simp only [Act.put, List.setIfInBounds_toArray, List.set_cons_zero, List.set_cons_succ]
       refine wpAnyH_take (i := 31) (oi := { dst := some 92, op := Op.binOp BinOp.lss 3 (Operand.tmp 91) (Operand.const (Value.int IntKind.i64 0)) 3, type := 4, pos := "law.go:112", after := #[{ on := 30, ground := Ground.data }, { on := 23, ground := Ground.guard }], guard := some (23, false) }) (v := ?_) rfl (by kernel_rfl) (by kernel_rfl) (by kernel_rfl) (fun _ _ _ h => h) (Or.inl ⟨by rfl, ?_⟩) (by exact kS) ?_
       rotate_left
       · intro w h; (try dsimp only at h); (go_simp <;> with_reducible rfl)
       try simp only [Act.put, List.setIfInBounds_toArray, List.set_cons_zero, List.set_cons_succ]
       refine wpAnyH_take (i := 32) (oi := { dst := some 93, op := Op.binOp BinOp.eql 4 (Operand.tmp 88) (Operand.tmp 92) 4, type := 4, pos := "law.go:112", after := #[{ on := 27, ground := Ground.data }, { on := 31, ground := Ground.data }, { on := 23, ground := Ground.guard }], guard := some (23, false) }) (v := ?_) rfl (by kernel_rfl) (by kernel_rfl) (by kernel_rfl) (fun _ _ _ h => h) (Or.inl ⟨by rfl, ?_⟩) (by exact kS) ?_
       rotate_left
       · intro w h; (try dsimp only at h); (go_simp <;> with_reducible rfl)
       try simp only [Act.put, List.setIfInBounds_toArray, List.set_cons_zero, List.set_cons_succ]
       refine wpAnyH_take (i := 33) (oi := { dst := some 94, op := Op.pick (Operand.tmp 84) (Operand.const (Value.bool true)) (Operand.tmp 93), type := 4, pos := "law.go:112", after := #[{ on := 23, ground := Ground.data }, { on := 32, ground := Ground.data }, { on := 18, ground := Ground.guard }], guard := some (18, true) }) (v := ?_) rfl (by kernel_rfl) (by kernel_rfl) (by kernel_rfl) (fun _ _ _ h => h) (Or.inl ⟨by rfl, ?_⟩) (by exact kS) ?_
       rotate_left
       · intro w h; (try dsimp only at h); (go_simp <;> with_reducible rfl)
       try simp only [Act.put, List.setIfInBounds_toArray, List.set_cons_zero, List.set_cons_succ]
       refine wpAnyH_take (i := 34) (oi := { dst := some 95, op := Op.pick (Operand.tmp 79) (Operand.tmp 94) (Operand.const (Value.bool false)), type := 4, pos := "law.go:112", after := #[{ on := 18, ground := Ground.data }, { on := 33, ground := Ground.data }], guard := none }) (v := ?_) rfl (by kernel_rfl) (by kernel_rfl) (by kernel_rfl) (fun _ _ _ h => h) (Or.inl ⟨by rfl, ?_⟩) (by exact kS) ?_
       rotate_left
       · intro w h; (try dsimp only at h); (go_simp <;> with_reducible rfl)
       try simp only [Act.put, List.setIfInBounds_toArray, List.set_cons_zero, List.set_cons_succ]
       refine wpAnyH_take (i := 35) (oi := { dst := some 96, op := Op.move (Operand.tmp 95), type := 4, pos := "law.go:112", after := #[{ on := 34, ground := Ground.data }, { on := 30, ground := Ground.chain }], guard := none }) (v := ?_) rfl (by kernel_rfl) (by kernel_rfl) (by kernel_rfl) (fun _ _ _ h => h) (Or.inl ⟨by rfl, ?_⟩) (by exact kS) ?_
       rotate_left
       · intro w h; (try dsimp only at h); (go_simp <;> with_reducible rfl)
       try simp only [Act.put, List.setIfInBounds_toArray, List.set_cons_zero, List.set_cons_succ]
       refine wpAnyH_ready (rs := [36]) (by kernel_rfl) (by simp) ?_
       refine AllReadyH.cons (o := { dst := some 97, op := Op.call { callee := Callee.value (Operand.func 10), args := #[], argTypes := #[] }, type := 4, pos := "law.go:112", after := #[{ on := 35, ground := Ground.chain }, { on := 35, ground := Ground.guard }], guard := some (35, true) }) rfl (fun K hK => ?_) AllReadyH.nil
       go_simp
       (refine (awake_any _).mono ?_; rintro e V6 ⟨rfl, hb⟩; have D1 : Hid (Box V6 (w.heap.size) (.bool s1) (.slice a1 n1 c1)) := D1.out.below hb D1.out.lt; have Dr : Hid (Box V6 (W4.heap.size + 1) (.bool sr) (.slice ar nr cr)) := Dr.out.below hb Dr.out.lt; have Dy : Hid (Box V6 (W8.heap.size) (.bool ss) (.slice ay ny cy)) := Dy.out.below hb Dy.out.lt; have Do : Hid (Box V6 (W10.heap.size) (.bool so) (.slice ao no co)) := Do.out.below hb Do.out.lt; have Dt : Hid (Box V6 (W10.heap.size + 1) (.bool s2) (.slice a2 n2 c2)) := Dt.out.below hb Dt.out.lt; have Dz : Hid (Box V6 (W12.heap.size) (.bool sg) (.slice ag ng cg)) := Dz.out.below hb Dz.out.lt; have Jy : Hid (Sl V6 ay ny cy ly) := Jy.out.below hb (Nat.le_refl _); have J1 : Hid (Sl V6 a1 n1 c1 l1) := J1.out.below hb (Nat.le_refl _); have Jr : Hid (Sl V6 ar nr cr lr) := Jr.out.below hb (Nat.le_refl _); have Jo : Hid (Sl V6 ao no co lo) := Jo.out.below hb (Nat.le_refl _); have Jg : Hid (Sl V6 ag ng cg lg) := Jg.out.below hb (Nat.le_refl _); have J2 : Hid (Sl V6 a2 n2 c2 l2) := J2.out.below hb (Nat.le_refl _); have HBD : Hid (Below w.heap.size w V6) := HBD.out.trans (hb.mono HBD.out.size); clear kS; have kS : V6.cell? ⟨w.heap.size, 0, none⟩ = some (.bool s1) ∧ V6.cell? ⟨w.heap.size, 1, none⟩ = some (.slice a1 n1 c1) ∧ V6.cell? ⟨W4.heap.size + 1, 0, none⟩ = some (.bool sr) ∧ V6.cell? ⟨W4.heap.size + 1, 1, none⟩ = some (.slice ar nr cr) ∧ V6.cell? ⟨W8.heap.size, 0, none⟩ = some (.bool ss) ∧ V6.cell? ⟨W8.heap.size, 1, none⟩ = some (.slice ay ny cy) ∧ V6.cell? ⟨W10.heap.size, 0, none⟩ = some (.bool so) ∧ V6.cell? ⟨W10.heap.size, 1, none⟩ = some (.slice ao no co) ∧ V6.cell? ⟨W10.heap.size + 1, 0, none⟩ = some (.bool s2) ∧ V6.cell? ⟨W10.heap.size + 1, 1, none⟩ = some (.slice a2 n2 c2) ∧ V6.cell? ⟨W12.heap.size, 0, none⟩ = some (.bool sg) ∧ V6.cell? ⟨W12.heap.size, 1, none⟩ = some (.slice ag ng cg) := ⟨D1.out.z0, D1.out.z1, Dr.out.z0, Dr.out.z1, Dy.out.z0, Dy.out.z1, Do.out.z0, Do.out.z1, Dt.out.z0, Dt.out.z1, Dz.out.z0, Dz.out.z1⟩; clear hb)
       go_wp2_with fail
       refine hK.out _ _ (by exact kS) (fun hH => ?_)
       clear hK K hH
       try simp only [Act.put, List.setIfInBounds_toArray, List.set_cons_zero, List.set_cons_succ]
       refine wpAnyH_take (i := 37) (oi := { dst := some 98, op := Op.pick (Operand.tmp 96) (Operand.tmp 97) (Operand.const (Value.bool false)), type := 4, pos := "law.go:112", after := #[{ on := 35, ground := Ground.data }, { on := 36, ground := Ground.data }], guard := none }) (v := ?_) rfl (by kernel_rfl) (by kernel_rfl) (by kernel_rfl) (fun _ _ _ h => h) (Or.inl ⟨by rfl, ?_⟩) (by exact kS) ?_
       rotate_left
       · intro w h; (try dsimp only at h); (go_simp <;> with_reducible rfl)
       try simp only [Act.put, List.setIfInBounds_toArray, List.set_cons_zero, List.set_cons_succ]
       refine wpAnyH_take (i := 38) (oi := { dst := some 4, op := Op.assign (Operand.tmp 98), type := 4, pos := "law.go:112", after := #[{ on := 37, ground := Ground.data }, { on := 36, ground := Ground.chain }, { on := 0, ground := Ground.phase }, { on := 1, ground := Ground.phase }, { on := 2, ground := Ground.phase }, { on := 3, ground := Ground.phase }, { on := 4, ground := Ground.phase }, { on := 5, ground := Ground.phase }, { on := 6, ground := Ground.phase }, { on := 7, ground := Ground.phase }, { on := 8, ground := Ground.phase }, { on := 9, ground := Ground.phase }, { on := 10, ground := Ground.phase }, { on := 11, ground := Ground.phase }, { on := 12, ground := Ground.phase }, { on := 13, ground := Ground.phase }, { on := 14, ground := Ground.phase }, { on := 15, ground := Ground.phase }, { on := 16, ground := Ground.phase }, { on := 17, ground := Ground.phase }, { on := 18, ground := Ground.phase }, { on := 19, ground := Ground.phase }, { on := 20, ground := Ground.phase }, { on := 21, ground := Ground.phase }, { on := 22, ground := Ground.phase }, { on := 23, ground := Ground.phase }, { on := 24, ground := Ground.phase }, { on := 25, ground := Ground.phase }, { on := 26, ground := Ground.phase }, { on := 27, ground := Ground.phase }, { on := 28, ground := Ground.phase }, { on := 29, ground := Ground.phase }, { on := 30, ground := Ground.phase }, { on := 31, ground := Ground.phase }, { on := 32, ground := Ground.phase }, { on := 33, ground := Ground.phase }, { on := 34, ground := Ground.phase }, { on := 35, ground := Ground.phase }, { on := 36, ground := Ground.phase }, { on := 37, ground := Ground.phase }], guard := none }) (v := ?_) rfl (by kernel_rfl) (by kernel_rfl) (by kernel_rfl) (fun _ _ _ h => h) (Or.inl ⟨by rfl, ?_⟩) (by exact kS) ?_
       rotate_left
       · intro w h; (try dsimp only at h); (go_simp <;> with_reducible rfl)
       try simp only [Act.put, List.setIfInBounds_toArray, List.set_cons_zero, List.set_cons_succ]
       refine wpAnyH_done (by kernel_rfl) ?_ _
       go_wp2_with fail
       go_ret
       exact ⟨rfl, HBD.out⟩
     · have Z3 : Hid (vr = 0) := zr
       clear zr
       go_wp2_with fail
       have RL : Hid (vr < vl 4294967296 l2) := by show _ < _; rw [← VR.out, (back_open EQ.out).2.2.2.2]; exact Nat.mod_lt _ (Nat.pos_of_ne_zero K1.out)
       have HA0 : Hid (cmpV ss (vl 4294967296 ly) s1 (vl 4294967296 l1) = 0) := by show _ = _; rw [cmpV_eq, Ey.out, ← SS.out, zi_sg]; exact cmpI_self _
       have HSZ : Hid (cmpV sr (vl 4294967296 lr) s2 (vl 4294967296 l2) = -1) := by
         show _ = _
         have h1 := RL.out
         have h2 : zi sr (vl 4294967296 lr) = (vr : Int) := by
           rw [Er.out, Z3.out]; exact zi_zero _
         have h3 : zi s2 (vl 4294967296 l2) = (vl 4294967296 l2 : Int) := by
           rw [Z2.out]; rfl
         rw [cmpV_eq, h2, h3]
         exact cmpI_lt (by omega)
       clear p10 p11 t1 p20 p21 t2 pq0 pq1 tq pr0 pr1 tr pp0 pp1 tp py0 py1 ty po0 po1 to pt0 pt1 tt pz0 pz1 tz
       have D1 : Hid (Box W14.drew (w.heap.size) (.bool s1) (.slice a1 n1 c1)) := X1.out.below (Below.refl _ _).drew X1.out.lt
       have Dr : Hid (Box W14.drew (W4.heap.size + 1) (.bool sr) (.slice ar nr cr)) := Xr.out.below (Below.refl _ _).drew Xr.out.lt
       have Dy : Hid (Box W14.drew (W8.heap.size) (.bool ss) (.slice ay ny cy)) := Xy.out.below (Below.refl _ _).drew Xy.out.lt
       have Do : Hid (Box W14.drew (W10.heap.size) (.bool so) (.slice ao no co)) := Xo.out.below (Below.refl _ _).drew Xo.out.lt
       have Dt : Hid (Box W14.drew (W10.heap.size + 1) (.bool s2) (.slice a2 n2 c2)) := Xt.out.below (Below.refl _ _).drew Xt.out.lt
       have Dz : Hid (Box W14.drew (W12.heap.size) (.bool sr) (.slice ar nr cr)) := Xz.out.below (Below.refl _ _).drew Xz.out.lt
       have Jy : Hid (Sl W14.drew ay ny cy ly) := Hy.out.below (Below.refl _ _).drew (Nat.le_refl _)
       have J1 : Hid (Sl W14.drew a1 n1 c1 l1) := H1.out.below (Below.refl _ _).drew (Nat.le_refl _)
       have Jr : Hid (Sl W14.drew ar nr cr lr) := Hr.out.below (Below.refl _ _).drew (Nat.le_refl _)
       have Jo : Hid (Sl W14.drew ao no co lo) := Ho.out.below (Below.refl _ _).drew (Nat.le_refl _)
       have J2 : Hid (Sl W14.drew a2 n2 c2 l2) := H2.out.below (Below.refl _ _).drew (Nat.le_refl _)
       have HBD : Hid (Below w.heap.size w W14.drew) := HB.out.drew
       have kS : W14.drew.cell? ⟨w.heap.size, 0, none⟩ = some (.bool s1) ∧ W14.drew.cell? ⟨w.heap.size, 1, none⟩ = some (.slice a1 n1 c1) ∧ W14.drew.cell? ⟨W4.heap.size + 1, 0, none⟩ = some (.bool sr) ∧ W14.drew.cell? ⟨W4.heap.size + 1, 1, none⟩ = some (.slice ar nr cr) ∧ W14.drew.cell? ⟨W8.heap.size, 0, none⟩ = some (.bool ss) ∧ W14.drew.cell? ⟨W8.heap.size, 1, none⟩ = some (.slice ay ny cy) ∧ W14.drew.cell? ⟨W10.heap.size, 0, none⟩ = some (.bool so) ∧ W14.drew.cell? ⟨W10.heap.size, 1, none⟩ = some (.slice ao no co) ∧ W14.drew.cell? ⟨W10.heap.size + 1, 0, none⟩ = some (.bool s2) ∧ W14.drew.cell? ⟨W10.heap.size + 1, 1, none⟩ = some (.slice a2 n2 c2) ∧ W14.drew.cell? ⟨W12.heap.size, 0, none⟩ = some (.bool sr) ∧ W14.drew.cell? ⟨W12.heap.size, 1, none⟩ = some (.slice ar nr cr) := ⟨D1.out.z0, D1.out.z1, Dr.out.z0, Dr.out.z1, Dy.out.z0, Dy.out.z1, Do.out.z0, Do.out.z1, Dt.out.z0, Dt.out.z1, Dz.out.z0, Dz.out.z1⟩
       clear X1 X2 Xq Xr Xp Xy Xo Xt Xz H1 H2 Hq Hr Hp Hy Ho T1 T2 Tq Tr Tp Ty To HB BT
       refine wp_region_held_drew (S := fun w' => w'.cell? ⟨w.heap.size, 0, none⟩ = some (.bool s1) ∧ w'.cell? ⟨w.heap.size, 1, none⟩ = some (.slice a1 n1 c1) ∧ w'.cell? ⟨W4.heap.size + 1, 0, none⟩ = some (.bool sr) ∧ w'.cell? ⟨W4.heap.size + 1, 1, none⟩ = some (.slice ar nr cr) ∧ w'.cell? ⟨W8.heap.size, 0, none⟩ = some (.bool ss) ∧ w'.cell? ⟨W8.heap.size, 1, none⟩ = some (.slice ay ny cy) ∧ w'.cell? ⟨W10.heap.size, 0, none⟩ = some (.bool so) ∧ w'.cell? ⟨W10.heap.size, 1, none⟩ = some (.slice ao no co) ∧ w'.cell? ⟨W10.heap.size + 1, 0, none⟩ = some (.bool s2) ∧ w'.cell? ⟨W10.heap.size + 1, 1, none⟩ = some (.slice a2 n2 c2) ∧ w'.cell? ⟨W12.heap.size, 0, none⟩ = some (.bool sr) ∧ w'.cell? ⟨W12.heap.size, 1, none⟩ = some (.slice ar nr cr)) (by kernel_rfl) (by exact kS) (fun hH => ?_)
       clear hH
       refine wpAnyH_take (i := 0) (oi := { dst := some 61, op := Op.move (Operand.tmp 9), type := 28, pos := "law.go:112", after := #[], guard := none }) (v := ?_) rfl (by kernel_rfl) (by kernel_rfl) (by kernel_rfl) (fun _ _ _ h => h) (Or.inl ⟨by rfl, ?_⟩) (by exact kS) ?_
       rotate_left
       · intro w h; (try dsimp only at h); (go_simp <;> with_reducible rfl)
       try simp only [Act.put, List.setIfInBounds_toArray, List.set_cons_zero, List.set_cons_succ]
       refine wpAnyH_take (i := 1) (oi := { dst := some 62, op := Op.binOp BinOp.eql 28 (Operand.tmp 61) (Operand.const (Value.int IntKind.i64 0)) 28, type := 4, pos := "law.go:112", after := #[{ on := 0, ground := Ground.data }], guard := none }) (v := ?_) rfl (by kernel_rfl) (by kernel_rfl) (by kernel_rfl) (fun _ _ _ h => h) (Or.inl ⟨by rfl, ?_⟩) (by exact kS) ?_
       rotate_left
       · intro w h; (try dsimp only at h); (go_simp <;> with_reducible rfl)
       try simp only [Act.put, List.setIfInBounds_toArray, List.set_cons_zero, List.set_cons_succ]
       refine wpAnyH_take (i := 2) (oi := { dst := some 63, op := Op.move (Operand.tmp 62), type := 4, pos := "law.go:112", after := #[{ on := 1, ground := Ground.data }], guard := none }) (v := ?_) rfl (by kernel_rfl) (by kernel_rfl) (by kernel_rfl) (fun _ _ _ h => h) (Or.inl ⟨by rfl, ?_⟩) (by exact kS) ?_
       rotate_left
       · intro w h; (try dsimp only at h); (go_simp <;> with_reducible rfl)
       try simp only [Act.put, List.setIfInBounds_toArray, List.set_cons_zero, List.set_cons_succ]
       refine wpAnyH_take (i := 3) (oi := { dst := some 64, op := Op.move (Operand.tmp 11), type := 28, pos := "law.go:112", after := #[{ on := 2, ground := Ground.guard }], guard := some (2, true) }) (v := ?_) rfl (by kernel_rfl) (by kernel_rfl) (by kernel_rfl) (fun _ _ _ h => h) (Or.inl ⟨by rfl, ?_⟩) (by exact kS) ?_
       rotate_left
       · intro w h; (try dsimp only at h); (go_simp <;> with_reducible rfl)
       try simp only [Act.put, List.setIfInBounds_toArray, List.set_cons_zero, List.set_cons_succ]
       refine wpAnyH_take (i := 4) (oi := { dst := some 65, op := Op.binOp BinOp.eql 28 (Operand.tmp 64) (Operand.const (Value.int IntKind.i64 0)) 28, type := 4, pos := "law.go:112", after := #[{ on := 3, ground := Ground.data }, { on := 2, ground := Ground.guard }], guard := some (2, true) }) (v := ?_) rfl (by kernel_rfl) (by kernel_rfl) (by kernel_rfl) (fun _ _ _ h => h) (Or.inl ⟨by rfl, ?_⟩) (by exact kS) ?_
       rotate_left
       · intro w h; (try dsimp only at h); (go_simp <;> with_reducible rfl)
       try simp only [Act.put, List.setIfInBounds_toArray, List.set_cons_zero, List.set_cons_succ]
       refine wpAnyH_take (i := 5) (oi := { dst := some 66, op := Op.pick (Operand.tmp 63) (Operand.tmp 65) (Operand.const (Value.bool false)), type := 4, pos := "law.go:112", after := #[{ on := 2, ground := Ground.data }, { on := 4, ground := Ground.data }], guard := none }) (v := ?_) rfl (by kernel_rfl) (by kernel_rfl) (by kernel_rfl) (fun _ _ _ h => h) (Or.inl ⟨by rfl, ?_⟩) (by exact kS) ?_
       rotate_left
       · intro w h; (try dsimp only at h); (go_simp <;> with_reducible rfl)
       try simp only [Act.put, List.setIfInBounds_toArray, List.set_cons_zero, List.set_cons_succ]
       refine wpAnyH_take (i := 6) (oi := { dst := some 67, op := Op.move (Operand.tmp 66), type := 4, pos := "law.go:112", after := #[{ on := 5, ground := Ground.data }, { on := 2, ground := Ground.chain }], guard := none }) (v := ?_) rfl (by kernel_rfl) (by kernel_rfl) (by kernel_rfl) (fun _ _ _ h => h) (Or.inl ⟨by rfl, ?_⟩) (by exact kS) ?_
       rotate_left
       · intro w h; (try dsimp only at h); (go_simp <;> with_reducible rfl)
       try simp only [Act.put, List.setIfInBounds_toArray, List.set_cons_zero, List.set_cons_succ]
       refine wpAnyH_take (i := 7) (oi := { dst := some 68, op := Op.load 24 (Operand.tmp 10), type := 24, pos := "law.go:112", after := #[{ on := 6, ground := Ground.guard }], guard := some (6, true) }) (v := ?_) rfl (by kernel_rfl) (by kernel_rfl) (by kernel_rfl) (fun _ _ _ h => h) (Or.inl ⟨by rfl, ?_⟩) (by exact kS) ?_
       rotate_left
       · intro w h; (try dsimp only at h); (go_simp <;> with_reducible rfl)
       try simp only [Act.put, List.setIfInBounds_toArray, List.set_cons_zero, List.set_cons_succ]
       refine wpAnyH_take (i := 8) (oi := { dst := some 69, op := Op.load 24 (Operand.tmp 2), type := 24, pos := "law.go:112", after := #[{ on := 6, ground := Ground.guard }], guard := some (6, true) }) (v := ?_) rfl (by kernel_rfl) (by kernel_rfl) (by kernel_rfl) (fun _ _ _ h => h) (Or.inl ⟨by rfl, ?_⟩) (by exact kS) ?_
       rotate_left
       · intro w h; (try dsimp only at h); (go_simp <;> with_reducible rfl)
       try simp only [Act.put, List.setIfInBounds_toArray, List.set_cons_zero, List.set_cons_succ]
       refine wpAnyH_ready (rs := [9]) (by kernel_rfl) (by simp) ?_
       refine AllReadyH.cons (o := { dst := some 70, op := Op.call { callee := Callee.value (Operand.func 17), args := #[Operand.tmp 68, Operand.tmp 69], argTypes := #[24, 24] }, type := 3, pos := "law.go:112", after := #[{ on := 7, ground := Ground.data }, { on := 8, ground := Ground.data }, { on := 6, ground := Ground.chain }, { on := 6, ground := Ground.guard }], guard := some (6, true) }) rfl (fun K hK => ?_) AllReadyH.nil
       go_simp
       (refine (compare_any ss s1 ay ny cy ly a1 n1 c1 l1 _ (by exact Jy.out) (by exact J1.out) (by omega) (by omega)).mono ?_; rintro e V1 ⟨rfl, hb⟩; rw [HA0.out]; have D1 : Hid (Box V1 (w.heap.size) (.bool s1) (.slice a1 n1 c1)) := D1.out.below hb D1.out.lt; have Dr : Hid (Box V1 (W4.heap.size + 1) (.bool sr) (.slice ar nr cr)) := Dr.out.below hb Dr.out.lt; have Dy : Hid (Box V1 (W8.heap.size) (.bool ss) (.slice ay ny cy)) := Dy.out.below hb Dy.out.lt; have Do : Hid (Box V1 (W10.heap.size) (.bool so) (.slice ao no co)) := Do.out.below hb Do.out.lt; have Dt : Hid (Box V1 (W10.heap.size + 1) (.bool s2) (.slice a2 n2 c2)) := Dt.out.below hb Dt.out.lt; have Dz : Hid (Box V1 (W12.heap.size) (.bool sr) (.slice ar nr cr)) := Dz.out.below hb Dz.out.lt; have Jy : Hid (Sl V1 ay ny cy ly) := Jy.out.below hb (Nat.le_refl _); have J1 : Hid (Sl V1 a1 n1 c1 l1) := J1.out.below hb (Nat.le_refl _); have Jr : Hid (Sl V1 ar nr cr lr) := Jr.out.below hb (Nat.le_refl _); have Jo : Hid (Sl V1 ao no co lo) := Jo.out.below hb (Nat.le_refl _); have J2 : Hid (Sl V1 a2 n2 c2 l2) := J2.out.below hb (Nat.le_refl _); have HBD : Hid (Below w.heap.size w V1) := HBD.out.trans (hb.mono HBD.out.size); clear kS; have kS : V1.cell? ⟨w.heap.size, 0, none⟩ = some (.bool s1) ∧ V1.cell? ⟨w.heap.size, 1, none⟩ = some (.slice a1 n1 c1) ∧ V1.cell? ⟨W4.heap.size + 1, 0, none⟩ = some (.bool sr) ∧ V1.cell? ⟨W4.heap.size + 1, 1, none⟩ = some (.slice ar nr cr) ∧ V1.cell? ⟨W8.heap.size, 0, none⟩ = some (.bool ss) ∧ V1.cell? ⟨W8.heap.size, 1, none⟩ = some (.slice ay ny cy) ∧ V1.cell? ⟨W10.heap.size, 0, none⟩ = some (.bool so) ∧ V1.cell? ⟨W10.heap.size, 1, none⟩ = some (.slice ao no co) ∧ V1.cell? ⟨W10.heap.size + 1, 0, none⟩ = some (.bool s2) ∧ V1.cell? ⟨W10.heap.size + 1, 1, none⟩ = some (.slice a2 n2 c2) ∧ V1.cell? ⟨W12.heap.size, 0, none⟩ = some (.bool sr) ∧ V1.cell? ⟨W12.heap.size, 1, none⟩ = some (.slice ar nr cr) := ⟨D1.out.z0, D1.out.z1, Dr.out.z0, Dr.out.z1, Dy.out.z0, Dy.out.z1, Do.out.z0, Do.out.z1, Dt.out.z0, Dt.out.z1, Dz.out.z0, Dz.out.z1⟩; clear hb)
       go_wp2_with fail
       refine hK.out _ _ (by exact kS) (fun hH => ?_)
       clear hK K hH
       try simp only [Act.put, List.setIfInBounds_toArray, List.set_cons_zero, List.set_cons_succ]
       refine wpAnyH_take (i := 10) (oi := { dst := some 71, op := Op.binOp BinOp.eql 3 (Operand.tmp 70) (Operand.const (Value.int IntKind.i64 0)) 3, type := 4, pos := "law.go:112", after := #[{ on := 9, ground := Ground.data }, { on := 6, ground := Ground.guard }], guard := some (6, true) }) (v := ?_) rfl (by kernel_rfl) (by kernel_rfl) (by kernel_rfl) (fun _ _ _ h => h) (Or.inl ⟨by rfl, ?_⟩) (by exact kS) ?_
       rotate_left
       · intro w h; (try dsimp only at h); (go_simp <;> with_reducible rfl)
       try simp only [Act.put, List.setIfInBounds_toArray, List.set_cons_zero, List.set_cons_succ]
       refine wpAnyH_take (i := 11) (oi := { dst := some 72, op := Op.pick (Operand.tmp 67) (Operand.tmp 71) (Operand.const (Value.bool false)), type := 4, pos := "law.go:112", after := #[{ on := 6, ground := Ground.data }, { on := 10, ground := Ground.data }], guard := none }) (v := ?_) rfl (by kernel_rfl) (by kernel_rfl) (by kernel_rfl) (fun _ _ _ h => h) (Or.inl ⟨by rfl, ?_⟩) (by exact kS) ?_
       rotate_left
       · intro w h; (try dsimp only at h); (go_simp <;> with_reducible rfl)
       try simp only [Act.put, List.setIfInBounds_toArray, List.set_cons_zero, List.set_cons_succ]
       refine wpAnyH_take (i := 12) (oi := { dst := some 73, op := Op.move (Operand.tmp 72), type := 4, pos := "law.go:112", after := #[{ on := 11, ground := Ground.data }, { on := 9, ground := Ground.chain }], guard := none }) (v := ?_) rfl (by kernel_rfl) (by kernel_rfl) (by kernel_rfl) (fun _ _ _ h => h) (Or.inl ⟨by rfl, ?_⟩) (by exact kS) ?_
       rotate_left
       · intro w h; (try dsimp only at h); (go_simp <;> with_reducible rfl)
       try simp only [Act.put, List.setIfInBounds_toArray, List.set_cons_zero, List.set_cons_succ]
       refine wpAnyH_take (i := 13) (oi := { dst := some 74, op := Op.load 24 (Operand.tmp 14), type := 24, pos := "law.go:112", after := #[{ on := 12, ground := Ground.guard }], guard := some (12, true) }) (v := ?_) rfl (by kernel_rfl) (by kernel_rfl) (by kernel_rfl) (fun _ _ _ h => h) (Or.inl ⟨by rfl, ?_⟩) (by exact kS) ?_
       rotate_left
       · intro w h; (try dsimp only at h); (go_simp <;> with_reducible rfl)
       try simp only [Act.put, List.setIfInBounds_toArray, List.set_cons_zero, List.set_cons_succ]
       refine wpAnyH_take (i := 14) (oi := { dst := some 75, op := Op.load 24 (Operand.tmp 13), type := 24, pos := "law.go:112", after := #[{ on := 12, ground := Ground.guard }], guard := some (12, true) }) (v := ?_) rfl (by kernel_rfl) (by kernel_rfl) (by kernel_rfl) (fun _ _ _ h => h) (Or.inl ⟨by rfl, ?_⟩) (by exact kS) ?_
       rotate_left
       · intro w h; (try dsimp only at h); (go_simp <;> with_reducible rfl)
       try simp only [Act.put, List.setIfInBounds_toArray, List.set_cons_zero, List.set_cons_succ]
       refine wpAnyH_ready (rs := [15]) (by kernel_rfl) (by simp) ?_
       refine AllReadyH.cons (o := { dst := some 76, op := Op.call { callee := Callee.value (Operand.func 17), args := #[Operand.tmp 74, Operand.tmp 75], argTypes := #[24, 24] }, type := 3, pos := "law.go:112", after := #[{ on := 13, ground := Ground.data }, { on := 14, ground := Ground.data }, { on := 12, ground := Ground.chain }, { on := 12, ground := Ground.guard }], guard := some (12, true) }) rfl (fun K hK => ?_) AllReadyH.nil
       go_simp
       (refine (compare_any sr s2 ar nr cr lr a2 n2 c2 l2 _ (by exact Jr.out) (by exact J2.out) (by omega) (by omega)).mono ?_; rintro e V2 ⟨rfl, hb⟩; rw [HSZ.out]; have D1 : Hid (Box V2 (w.heap.size) (.bool s1) (.slice a1 n1 c1)) := D1.out.below hb D1.out.lt; have Dr : Hid (Box V2 (W4.heap.size + 1) (.bool sr) (.slice ar nr cr)) := Dr.out.below hb Dr.out.lt; have Dy : Hid (Box V2 (W8.heap.size) (.bool ss) (.slice ay ny cy)) := Dy.out.below hb Dy.out.lt; have Do : Hid (Box V2 (W10.heap.size) (.bool so) (.slice ao no co)) := Do.out.below hb Do.out.lt; have Dt : Hid (Box V2 (W10.heap.size + 1) (.bool s2) (.slice a2 n2 c2)) := Dt.out.below hb Dt.out.lt; have Dz : Hid (Box V2 (W12.heap.size) (.bool sr) (.slice ar nr cr)) := Dz.out.below hb Dz.out.lt; have Jy : Hid (Sl V2 ay ny cy ly) := Jy.out.below hb (Nat.le_refl _); have J1 : Hid (Sl V2 a1 n1 c1 l1) := J1.out.below hb (Nat.le_refl _); have Jr : Hid (Sl V2 ar nr cr lr) := Jr.out.below hb (Nat.le_refl _); have Jo : Hid (Sl V2 ao no co lo) := Jo.out.below hb (Nat.le_refl _); have J2 : Hid (Sl V2 a2 n2 c2 l2) := J2.out.below hb (Nat.le_refl _); have HBD : Hid (Below w.heap.size w V2) := HBD.out.trans (hb.mono HBD.out.size); clear kS; have kS : V2.cell? ⟨w.heap.size, 0, none⟩ = some (.bool s1) ∧ V2.cell? ⟨w.heap.size, 1, none⟩ = some (.slice a1 n1 c1) ∧ V2.cell? ⟨W4.heap.size + 1, 0, none⟩ = some (.bool sr) ∧ V2.cell? ⟨W4.heap.size + 1, 1, none⟩ = some (.slice ar nr cr) ∧ V2.cell? ⟨W8.heap.size, 0, none⟩ = some (.bool ss) ∧ V2.cell? ⟨W8.heap.size, 1, none⟩ = some (.slice ay ny cy) ∧ V2.cell? ⟨W10.heap.size, 0, none⟩ = some (.bool so) ∧ V2.cell? ⟨W10.heap.size, 1, none⟩ = some (.slice ao no co) ∧ V2.cell? ⟨W10.heap.size + 1, 0, none⟩ = some (.bool s2) ∧ V2.cell? ⟨W10.heap.size + 1, 1, none⟩ = some (.slice a2 n2 c2) ∧ V2.cell? ⟨W12.heap.size, 0, none⟩ = some (.bool sr) ∧ V2.cell? ⟨W12.heap.size, 1, none⟩ = some (.slice ar nr cr) := ⟨D1.out.z0, D1.out.z1, Dr.out.z0, Dr.out.z1, Dy.out.z0, Dy.out.z1, Do.out.z0, Do.out.z1, Dt.out.z0, Dt.out.z1, Dz.out.z0, Dz.out.z1⟩; clear hb)
       go_wp2_with fail
       refine hK.out _ _ (by exact kS) (fun hH => ?_)
       clear hK K hH
       try simp only [Act.put, List.setIfInBounds_toArray, List.set_cons_zero, List.set_cons_succ]
       refine wpAnyH_take (i := 16) (oi := { dst := some 77, op := Op.binOp BinOp.lss 3 (Operand.tmp 76) (Operand.const (Value.int IntKind.i64 0)) 3, type := 4, pos := "law.go:112", after := #[{ on := 15, ground := Ground.data }, { on := 12, ground := Ground.guard }], guard := some (12, true) }) (v := ?_) rfl (by kernel_rfl) (by kernel_rfl) (by kernel_rfl) (fun _ _ _ h => h) (Or.inl ⟨by rfl, ?_⟩) (by exact kS) ?_
       rotate_left
       · intro w h; (try dsimp only at h); (go_simp <;> with_reducible rfl)
       try simp only [Act.put, List.setIfInBounds_toArray, List.set_cons_zero, List.set_cons_succ]
       refine wpAnyH_take (i := 17) (oi := { dst := some 78, op := Op.pick (Operand.tmp 73) (Operand.tmp 77) (Operand.const (Value.bool false)), type := 4, pos := "law.go:112", after := #[{ on := 12, ground := Ground.data }, { on := 16, ground := Ground.data }], guard := none }) (v := ?_) rfl (by kernel_rfl) (by kernel_rfl) (by kernel_rfl) (fun _ _ _ h => h) (Or.inl ⟨by rfl, ?_⟩) (by exact kS) ?_
       rotate_left
       · intro w h; (try dsimp only at h); (go_simp <;> with_reducible rfl)
       try simp only [Act.put, List.setIfInBounds_toArray, List.set_cons_zero, List.set_cons_succ]
       refine wpAnyH_take (i := 18) (oi := { dst := some 79, op := Op.move (Operand.tmp 78), type := 4, pos := "law.go:112", after := #[{ on := 17, ground := Ground.data }, { on := 15, ground := Ground.chain }], guard := none }) (v := ?_) rfl (by kernel_rfl) (by kernel_rfl) (by kernel_rfl) (fun _ _ _ h => h) (Or.inl ⟨by rfl, ?_⟩) (by exact kS) ?_
       rotate_left
       · intro w h; (try dsimp only at h); (go_simp <;> with_reducible rfl)
       try simp only [Act.put, List.setIfInBounds_toArray, List.set_cons_zero, List.set_cons_succ]
       refine wpAnyH_take (i := 19) (oi := { dst := some 80, op := Op.load 24 (Operand.tmp 6), type := 24, pos := "law.go:112", after := #[{ on := 18, ground := Ground.guard }], guard := some (18, true) }) (v := ?_) rfl (by kernel_rfl) (by kernel_rfl) (by kernel_rfl) (fun _ _ _ h => h) (Or.inl ⟨by rfl, ?_⟩) (by exact kS) ?_
       rotate_left
       · intro w h; (try dsimp only at h); (go_simp <;> with_reducible rfl)
       try simp only [Act.put, List.setIfInBounds_toArray, List.set_cons_zero, List.set_cons_succ]
       refine wpAnyH_take (i := 20) (oi := { dst := some 81, op := Op.load 24 (Operand.tmp 12), type := 24, pos := "law.go:112", after := #[{ on := 18, ground := Ground.guard }], guard := some (18, true) }) (v := ?_) rfl (by kernel_rfl) (by kernel_rfl) (by kernel_rfl) (fun _ _ _ h => h) (Or.inl ⟨by rfl, ?_⟩) (by exact kS) ?_
       rotate_left
       · intro w h; (try dsimp only at h); (go_simp <;> with_reducible rfl)
       try simp only [Act.put, List.setIfInBounds_toArray, List.set_cons_zero, List.set_cons_succ]
       refine wpAnyH_ready (rs := [21]) (by kernel_rfl) (by simp) ?_
       refine AllReadyH.cons (o := { dst := some 82, op := Op.call { callee := Callee.value (Operand.func 17), args := #[Operand.tmp 80, Operand.tmp 81], argTypes := #[24, 24] }, type := 3, pos := "law.go:112", after := #[{ on := 19, ground := Ground.data }, { on := 20, ground := Ground.data }, { on := 18, ground := Ground.chain }, { on := 18, ground := Ground.guard }], guard := some (18, true) }) rfl (fun K hK => ?_) AllReadyH.nil
       go_simp
       (refine (compare_any sr so ar nr cr lr ao no co lo _ (by exact Jr.out) (by exact Jo.out) (by omega) (by omega)).mono ?_; rintro e V3 ⟨rfl, hb⟩; rw [KR.out]; have D1 : Hid (Box V3 (w.heap.size) (.bool s1) (.slice a1 n1 c1)) := D1.out.below hb D1.out.lt; have Dr : Hid (Box V3 (W4.heap.size + 1) (.bool sr) (.slice ar nr cr)) := Dr.out.below hb Dr.out.lt; have Dy : Hid (Box V3 (W8.heap.size) (.bool ss) (.slice ay ny cy)) := Dy.out.below hb Dy.out.lt; have Do : Hid (Box V3 (W10.heap.size) (.bool so) (.slice ao no co)) := Do.out.below hb Do.out.lt; have Dt : Hid (Box V3 (W10.heap.size + 1) (.bool s2) (.slice a2 n2 c2)) := Dt.out.below hb Dt.out.lt; have Dz : Hid (Box V3 (W12.heap.size) (.bool sr) (.slice ar nr cr)) := Dz.out.below hb Dz.out.lt; have Jy : Hid (Sl V3 ay ny cy ly) := Jy.out.below hb (Nat.le_refl _); have J1 : Hid (Sl V3 a1 n1 c1 l1) := J1.out.below hb (Nat.le_refl _); have Jr : Hid (Sl V3 ar nr cr lr) := Jr.out.below hb (Nat.le_refl _); have Jo : Hid (Sl V3 ao no co lo) := Jo.out.below hb (Nat.le_refl _); have J2 : Hid (Sl V3 a2 n2 c2 l2) := J2.out.below hb (Nat.le_refl _); have HBD : Hid (Below w.heap.size w V3) := HBD.out.trans (hb.mono HBD.out.size); clear kS; have kS : V3.cell? ⟨w.heap.size, 0, none⟩ = some (.bool s1) ∧ V3.cell? ⟨w.heap.size, 1, none⟩ = some (.slice a1 n1 c1) ∧ V3.cell? ⟨W4.heap.size + 1, 0, none⟩ = some (.bool sr) ∧ V3.cell? ⟨W4.heap.size + 1, 1, none⟩ = some (.slice ar nr cr) ∧ V3.cell? ⟨W8.heap.size, 0, none⟩ = some (.bool ss) ∧ V3.cell? ⟨W8.heap.size, 1, none⟩ = some (.slice ay ny cy) ∧ V3.cell? ⟨W10.heap.size, 0, none⟩ = some (.bool so) ∧ V3.cell? ⟨W10.heap.size, 1, none⟩ = some (.slice ao no co) ∧ V3.cell? ⟨W10.heap.size + 1, 0, none⟩ = some (.bool s2) ∧ V3.cell? ⟨W10.heap.size + 1, 1, none⟩ = some (.slice a2 n2 c2) ∧ V3.cell? ⟨W12.heap.size, 0, none⟩ = some (.bool sr) ∧ V3.cell? ⟨W12.heap.size, 1, none⟩ = some (.slice ar nr cr) := ⟨D1.out.z0, D1.out.z1, Dr.out.z0, Dr.out.z1, Dy.out.z0, Dy.out.z1, Do.out.z0, Do.out.z1, Dt.out.z0, Dt.out.z1, Dz.out.z0, Dz.out.z1⟩; clear hb)
       go_wp2_with fail
       refine hK.out _ _ (by exact kS) (fun hH => ?_)
       clear hK K hH
       try simp only [Act.put, List.setIfInBounds_toArray, List.set_cons_zero, List.set_cons_succ]
       refine wpAnyH_take (i := 22) (oi := { dst := some 83, op := Op.binOp BinOp.eql 3 (Operand.tmp 82) (Operand.const (Value.int IntKind.i64 0)) 3, type := 4, pos := "law.go:112", after := #[{ on := 21, ground := Ground.data }, { on := 18, ground := Ground.guard }], guard := some (18, true) }) (v := ?_) rfl (by kernel_rfl) (by kernel_rfl) (by kernel_rfl) (fun _ _ _ h => h) (Or.inl ⟨by rfl, ?_⟩) (by exact kS) ?_
       rotate_left
       · intro w h; (try dsimp only at h); (go_simp <;> with_reducible rfl)
       try simp only [Act.put, List.setIfInBounds_toArray, List.set_cons_zero, List.set_cons_succ]
       refine wpAnyH_take (i := 23) (oi := { dst := some 84, op := Op.move (Operand.tmp 83), type := 4, pos := "law.go:112", after := #[{ on := 22, ground := Ground.data }, { on := 21, ground := Ground.chain }, { on := 18, ground := Ground.guard }], guard := some (18, true) }) (v := ?_) rfl (by kernel_rfl) (by kernel_rfl) (by kernel_rfl) (fun _ _ _ h => h) (Or.inl ⟨by rfl, ?_⟩) (by exact kS) ?_
       rotate_left
       · intro w h; (try dsimp only at h); (go_simp <;> with_reducible rfl)
       try simp only [Act.put, List.setIfInBounds_toArray, List.set_cons_zero, List.set_cons_succ]
       refine wpAnyH_take (i := 24) (oi := { dst := some 85, op := Op.load 24 (Operand.tmp 6), type := 24, pos := "law.go:112", after := #[{ on := 23, ground := Ground.guard }], guard := some (23, false) }) (v := undef) rfl (by kernel_rfl) (by kernel_rfl) (by kernel_rfl) (fun _ _ _ h => h) (Or.inr ⟨by rfl, rfl⟩) (by exact kS) ?_
       try simp only [Act.put, List.setIfInBounds_toArray, List.set_cons_zero, List.set_cons_succ]
       refine wpAnyH_take (i := 25) (oi := { dst := some 86, op := Op.load 24 (Operand.tmp 12), type := 24, pos := "law.go:112", after := #[{ on := 23, ground := Ground.guard }], guard := some (23, false) }) (v := undef) rfl (by kernel_rfl) (by kernel_rfl) (by kernel_rfl) (fun _ _ _ h => h) (Or.inr ⟨by rfl, rfl⟩) (by exact kS) ?_
       try simp only [Act.put, List.setIfInBounds_toArray, List.set_cons_zero, List.set_cons_succ]
       refine wpAnyH_take (i := 28) (oi := { dst := some 89, op := Op.load 24 (Operand.tmp 2), type := 24, pos := "law.go:112", after := #[{ on := 23, ground := Ground.guard }], guard := some (23, false) }) (v := undef) rfl (by kernel_rfl) (by kernel_rfl) (by kernel_rfl) (fun _ _ _ h => h) (Or.inr ⟨by rfl, rfl⟩) (by exact kS) ?_
       try simp only [Act.put, List.setIfInBounds_toArray, List.set_cons_zero, List.set_cons_succ]
       refine wpAnyH_take (i := 29) (oi := { dst := some 90, op := Op.load 24 (Operand.tmp 12), type := 24, pos := "law.go:112", after := #[{ on := 23, ground := Ground.guard }], guard := some (23, false) }) (v := undef) rfl (by kernel_rfl) (by kernel_rfl) (by kernel_rfl) (fun _ _ _ h => h) (Or.inr ⟨by rfl, rfl⟩) (by exact kS) ?_
       try simp only [Act.put, List.setIfInBounds_toArray, List.set_cons_zero, List.set_cons_succ]
       refine wpAnyH_ready (rs := [26]) (by kernel_rfl) (by simp) ?_
       refine AllReadyH.cons (o := { dst := some 87, op := Op.call { callee := Callee.value (Operand.func 17), args := #[Operand.tmp 85, Operand.tmp 86], argTypes := #[24, 24] }, type := 3, pos := "law.go:112", after := #[{ on := 24, ground := Ground.data }, { on := 25, ground := Ground.data }, { on := 23, ground := Ground.chain }, { on := 23, ground := Ground.guard }], guard := some (23, false) }) rfl (fun K hK => ?_) AllReadyH.nil
       go_simp
       refine hK.out _ _ (by exact kS) (fun hH => ?_)
       clear hK K hH
       try simp only [Act.put, List.setIfInBounds_toArray, List.set_cons_zero, List.set_cons_succ]
       refine wpAnyH_take (i := 27) (oi := { dst := some 88, op := Op.binOp BinOp.lss 3 (Operand.tmp 87) (Operand.const (Value.int IntKind.i64 0)) 3, type := 4, pos := "law.go:112", after := #[{ on := 26, ground := Ground.data }, { on := 23, ground := Ground.guard }], guard := some (23, false) }) (v := undef) rfl (by kernel_rfl) (by kernel_rfl) (by kernel_rfl) (fun _ _ _ h => h) (Or.inr ⟨by rfl, rfl⟩) (by exact kS) ?_
       try simp only [Act.put, List.setIfInBounds_toArray, List.set_cons_zero, List.set_cons_succ]
       refine wpAnyH_ready (rs := [30]) (by kernel_rfl) (by simp) ?_
       refine AllReadyH.cons (o := { dst := some 91, op := Op.call { callee := Callee.value (Operand.func 17), args := #[Operand.tmp 89, Operand.tmp 90], argTypes := #[24, 24] }, type := 3, pos := "law.go:112", after := #[{ on := 28, ground := Ground.data }, { on := 29, ground := Ground.data }, { on := 26, ground := Ground.chain }, { on := 23, ground := Ground.guard }], guard := some (23, false) }) rfl (fun K hK => ?_) AllReadyH.nil
       go_simp
       refine hK.out _ _ (by exact kS) (fun hH => ?_)
       clear hK K hH
       try simp only [Act.put, List.setIfInBounds_toArray, List.set_cons_zero, List.set_cons_succ]
       refine wpAnyH_take (i := 31) (oi := { dst := some 92, op := Op.binOp BinOp.lss 3 (Operand.tmp 91) (Operand.const (Value.int IntKind.i64 0)) 3, type := 4, pos := "law.go:112", after := #[{ on := 30, ground := Ground.data }, { on := 23, ground := Ground.guard }], guard := some (23, false) }) (v := undef) rfl (by kernel_rfl) (by kernel_rfl) (by kernel_rfl) (fun _ _ _ h => h) (Or.inr ⟨by rfl, rfl⟩) (by exact kS) ?_
       try simp only [Act.put, List.setIfInBounds_toArray, List.set_cons_zero, List.set_cons_succ]
       refine wpAnyH_take (i := 32) (oi := { dst := some 93, op := Op.binOp BinOp.eql 4 (Operand.tmp 88) (Operand.tmp 92) 4, type := 4, pos := "law.go:112", after := #[{ on := 27, ground := Ground.data }, { on := 31, ground := Ground.data }, { on := 23, ground := Ground.guard }], guard := some (23, false) }) (v := undef) rfl (by kernel_rfl) (by kernel_rfl) (by kernel_rfl) (fun _ _ _ h => h) (Or.inr ⟨by rfl, rfl⟩) (by exact kS) ?_
       try simp only [Act.put, List.setIfInBounds_toArray, List.set_cons_zero, List.set_cons_succ]
       refine wpAnyH_take (i := 33) (oi := { dst := some 94, op := Op.pick (Operand.tmp 84) (Operand.const (Value.bool true)) (Operand.tmp 93), type := 4, pos := "law.go:112", after := #[{ on := 23, ground := Ground.data }, { on := 32, ground := Ground.data }, { on := 18, ground := Ground.guard }], guard := some (18, true) }) (v := ?_) rfl (by kernel_rfl) (by kernel_rfl) (by kernel_rfl) (fun _ _ _ h => h) (Or.inl ⟨by rfl, ?_⟩) (by exact kS) ?_
       rotate_left
       · intro w h; (try dsimp only at h); (go_simp <;> with_reducible rfl)
       try simp only [Act.put, List.setIfInBounds_toArray, List.set_cons_zero, List.set_cons_succ]
       refine wpAnyH_take (i := 34) (oi := { dst := some 95, op := Op.pick (Operand.tmp 79) (Operand.tmp 94) (Operand.const (Value.bool false)), type := 4, pos := "law.go:112", after := #[{ on := 18, ground := Ground.data }, { on := 33, ground := Ground.data }], guard := none }) (v := ?_) rfl (by kernel_rfl) (by kernel_rfl) (by kernel_rfl) (fun _ _ _ h => h) (Or.inl ⟨by rfl, ?_⟩) (by exact kS) ?_
       rotate_left
       · intro w h; (try dsimp only at h); (go_simp <;> with_reducible rfl)
       try simp only [Act.put, List.setIfInBounds_toArray, List.set_cons_zero, List.set_cons_succ]
       refine wpAnyH_take (i := 35) (oi := { dst := some 96, op := Op.move (Operand.tmp 95), type := 4, pos := "law.go:112", after := #[{ on := 34, ground := Ground.data }, { on := 30, ground := Ground.chain }], guard := none }) (v := ?_) rfl (by kernel_rfl) (by kernel_rfl) (by kernel_rfl) (fun _ _ _ h => h) (Or.inl ⟨by rfl, ?_⟩) (by exact kS) ?_
       rotate_left
       · intro w h; (try dsimp only at h); (go_simp <;> with_reducible rfl)
       try simp only [Act.put, List.setIfInBounds_toArray, List.set_cons_zero, List.set_cons_succ]
       refine wpAnyH_ready (rs := [36]) (by kernel_rfl) (by simp) ?_
       refine AllReadyH.cons (o := { dst := some 97, op := Op.call { callee := Callee.value (Operand.func 10), args := #[], argTypes := #[] }, type := 4, pos := "law.go:112", after := #[{ on := 35, ground := Ground.chain }, { on := 35, ground := Ground.guard }], guard := some (35, true) }) rfl (fun K hK => ?_) AllReadyH.nil
       go_simp
       (refine (awake_any _).mono ?_; rintro e V4 ⟨rfl, hb⟩; have D1 : Hid (Box V4 (w.heap.size) (.bool s1) (.slice a1 n1 c1)) := D1.out.below hb D1.out.lt; have Dr : Hid (Box V4 (W4.heap.size + 1) (.bool sr) (.slice ar nr cr)) := Dr.out.below hb Dr.out.lt; have Dy : Hid (Box V4 (W8.heap.size) (.bool ss) (.slice ay ny cy)) := Dy.out.below hb Dy.out.lt; have Do : Hid (Box V4 (W10.heap.size) (.bool so) (.slice ao no co)) := Do.out.below hb Do.out.lt; have Dt : Hid (Box V4 (W10.heap.size + 1) (.bool s2) (.slice a2 n2 c2)) := Dt.out.below hb Dt.out.lt; have Dz : Hid (Box V4 (W12.heap.size) (.bool sr) (.slice ar nr cr)) := Dz.out.below hb Dz.out.lt; have Jy : Hid (Sl V4 ay ny cy ly) := Jy.out.below hb (Nat.le_refl _); have J1 : Hid (Sl V4 a1 n1 c1 l1) := J1.out.below hb (Nat.le_refl _); have Jr : Hid (Sl V4 ar nr cr lr) := Jr.out.below hb (Nat.le_refl _); have Jo : Hid (Sl V4 ao no co lo) := Jo.out.below hb (Nat.le_refl _); have J2 : Hid (Sl V4 a2 n2 c2 l2) := J2.out.below hb (Nat.le_refl _); have HBD : Hid (Below w.heap.size w V4) := HBD.out.trans (hb.mono HBD.out.size); clear kS; have kS : V4.cell? ⟨w.heap.size, 0, none⟩ = some (.bool s1) ∧ V4.cell? ⟨w.heap.size, 1, none⟩ = some (.slice a1 n1 c1) ∧ V4.cell? ⟨W4.heap.size + 1, 0, none⟩ = some (.bool sr) ∧ V4.cell? ⟨W4.heap.size + 1, 1, none⟩ = some (.slice ar nr cr) ∧ V4.cell? ⟨W8.heap.size, 0, none⟩ = some (.bool ss) ∧ V4.cell? ⟨W8.heap.size, 1, none⟩ = some (.slice ay ny cy) ∧ V4.cell? ⟨W10.heap.size, 0, none⟩ = some (.bool so) ∧ V4.cell? ⟨W10.heap.size, 1, none⟩ = some (.slice ao no co) ∧ V4.cell? ⟨W10.heap.size + 1, 0, none⟩ = some (.bool s2) ∧ V4.cell? ⟨W10.heap.size + 1, 1, none⟩ = some (.slice a2 n2 c2) ∧ V4.cell? ⟨W12.heap.size, 0, none⟩ = some (.bool sr) ∧ V4.cell? ⟨W12.heap.size, 1, none⟩ = some (.slice ar nr cr) := ⟨D1.out.z0, D1.out.z1, Dr.out.z0, Dr.out.z1, Dy.out.z0, Dy.out.z1, Do.out.z0, Do.out.z1, Dt.out.z0, Dt.out.z1, Dz.out.z0, Dz.out.z1⟩; clear hb)
       go_wp2_with fail
       refine hK.out _ _ (by exact kS) (fun hH => ?_)
       clear hK K hH
       try simp only [Act.put, List.setIfInBounds_toArray, List.set_cons_zero, List.set_cons_succ]
       refine wpAnyH_take (i := 37) (oi := { dst := some 98, op := Op.pick (Operand.tmp 96) (Operand.tmp 97) (Operand.const (Value.bool false)), type := 4, pos := "law.go:112", after := #[{ on := 35, ground := Ground.data }, { on := 36, ground := Ground.data }], guard := none }) (v := ?_) rfl (by kernel_rfl) (by kernel_rfl) (by kernel_rfl) (fun _ _ _ h => h) (Or.inl ⟨by rfl, ?_⟩) (by exact kS) ?_
       rotate_left
       · intro w h; (try dsimp only at h); (go_simp <;> with_reducible rfl)
       try simp only [Act.put, List.setIfInBounds_toArray, List.set_cons_zero, List.set_cons_succ]
       refine wpAnyH_take (i := 38) (oi := { dst := some 4, op := Op.assign (Operand.tmp 98), type := 4, pos := "law.go:112", after := #[{ on := 37, ground := Ground.data }, { on := 36, ground := Ground.chain }, { on := 0, ground := Ground.phase }, { on := 1, ground := Ground.phase }, { on := 2, ground := Ground.phase }, { on := 3, ground := Ground.phase }, { on := 4, ground := Ground.phase }, { on := 5, ground := Ground.phase }, { on := 6, ground := Ground.phase }, { on := 7, ground := Ground.phase }, { on := 8, ground := Ground.phase }, { on := 9, ground := Ground.phase }, { on := 10, ground := Ground.phase }, { on := 11, ground := Ground.phase }, { on := 12, ground := Ground.phase }, { on := 13, ground := Ground.phase }, { on := 14, ground := Ground.phase }, { on := 15, ground := Ground.phase }, { on := 16, ground := Ground.phase }, { on := 17, ground := Ground.phase }, { on := 18, ground := Ground.phase }, { on := 19, ground := Ground.phase }, { on := 20, ground := Ground.phase }, { on := 21, ground := Ground.phase }, { on := 22, ground := Ground.phase }, { on := 23, ground := Ground.phase }, { on := 24, ground := Ground.phase }, { on := 25, ground := Ground.phase }, { on := 26, ground := Ground.phase }, { on := 27, ground := Ground.phase }, { on := 28, ground := Ground.phase }, { on := 29, ground := Ground.phase }, { on := 30, ground := Ground.phase }, { on := 31, ground := Ground.phase }, { on := 32, ground := Ground.phase }, { on := 33, ground := Ground.phase }, { on := 34, ground := Ground.phase }, { on := 35, ground := Ground.phase }, { on := 36, ground := Ground.phase }, { on := 37, ground := Ground.phase }], guard := none }) (v := ?_) rfl (by kernel_rfl) (by kernel_rfl) (by kernel_rfl) (fun _ _ _ h => h) (Or.inl ⟨by rfl, ?_⟩) (by exact kS) ?_
       rotate_left
       · intro w h; (try dsimp only at h); (go_simp <;> with_reducible rfl)
       try simp only [Act.put, List.setIfInBounds_toArray, List.set_cons_zero, List.set_cons_succ]
       refine wpAnyH_done (by kernel_rfl) ?_ _
       go_wp2_with fail
       go_ret
       exact ⟨rfl, HBD.out⟩
     · have Z3 : Hid (sr = false ∧ vr ≠ 0) := ⟨zr, zr2⟩
       clear zr zr2
       go_wp2_with fail
       have RL : Hid (vr < vl 4294967296 l2) := by show _ < _; rw [← VR.out, (back_open EQ.out).2.2.2.2]; exact Nat.mod_lt _ (Nat.pos_of_ne_zero K1.out)
       have HA0 : Hid (cmpV ss (vl 4294967296 ly) s1 (vl 4294967296 l1) = 0) := by show _ = _; rw [cmpV_eq, Ey.out, ← SS.out, zi_sg]; exact cmpI_self _
       have HSZ : Hid (cmpV sr (vl 4294967296 lr) s2 (vl 4294967296 l2) = -1) := by
         show _ = _
         have h1 := RL.out
         have h2 : zi sr (vl 4294967296 lr) = (vr : Int) := by
           rw [Er.out, Z3.out.1]; rfl
         have h3 : zi s2 (vl 4294967296 l2) = (vl 4294967296 l2 : Int) := by
           rw [Z2.out]; rfl
         rw [cmpV_eq, h2, h3]
         exact cmpI_lt (by omega)
       have KA : Hid (cmpV s1 (vl 4294967296 l1) so (vl 4294967296 lo) = 1) := by
         show _ = _
         have h1 := Z3.out
         have h2 : sr = s1 := by rw [← SR.out]; exact sgB_pos h1.2
         have h3 : vl 4294967296 l1 ≠ 0 := fun h => h1.2 (by rw [← VR.out, (back_open EQ.out).2.2.2.2, h]; exact Nat.zero_mod _)
         rw [cmpV_eq, Eo.out, zi_zero, ← h2, h1.1]
         exact cmpI_gt (by simp [zi]; omega)
       clear p10 p11 t1 p20 p21 t2 pq0 pq1 tq pr0 pr1 tr pp0 pp1 tp py0 py1 ty po0 po1 to pt0 pt1 tt pz0 pz1 tz
       have D1 : Hid (Box W14.drew (w.heap.size) (.bool s1) (.slice a1 n1 c1)) := X1.out.below (Below.refl _ _).drew X1.out.lt
       have Dr : Hid (Box W14.drew (W4.heap.size + 1) (.bool sr) (.slice ar nr cr)) := Xr.out.below (Below.refl _ _).drew Xr.out.lt
       have Dy : Hid (Box W14.drew (W8.heap.size) (.bool ss) (.slice ay ny cy)) := Xy.out.below (Below.refl _ _).drew Xy.out.lt
       have Do : Hid (Box W14.drew (W10.heap.size) (.bool so) (.slice ao no co)) := Xo.out.below (Below.refl _ _).drew Xo.out.lt
       have Dt : Hid (Box W14.drew (W10.heap.size + 1) (.bool s2) (.slice a2 n2 c2)) := Xt.out.below (Below.refl _ _).drew Xt.out.lt
       have Dz : Hid (Box W14.drew (W12.heap.size) (.bool sr) (.slice ar nr cr)) := Xz.out.below (Below.refl _ _).drew Xz.out.lt
       have Jy : Hid (Sl W14.drew ay ny cy ly) := Hy.out.below (Below.refl _ _).drew (Nat.le_refl _)
       have J1 : Hid (Sl W14.drew a1 n1 c1 l1) := H1.out.below (Below.refl _ _).drew (Nat.le_refl _)
       have Jr : Hid (Sl W14.drew ar nr cr lr) := Hr.out.below (Below.refl _ _).drew (Nat.le_refl _)
       have Jo : Hid (Sl W14.drew ao no co lo) := Ho.out.below (Below.refl _ _).drew (Nat.le_refl _)
       have J2 : Hid (Sl W14.drew a2 n2 c2 l2) := H2.out.below (Below.refl _ _).drew (Nat.le_refl _)
       have HBD : Hid (Below w.heap.size w W14.drew) := HB.out.drew
       have kS : W14.drew.cell? ⟨w.heap.size, 0, none⟩ = some (.bool s1) ∧ W14.drew.cell? ⟨w.heap.size, 1, none⟩ = some (.slice a1 n1 c1) ∧ W14.drew.cell? ⟨W4.heap.size + 1, 0, none⟩ = some (.bool sr) ∧ W14.drew.cell? ⟨W4.heap.size + 1, 1, none⟩ = some (.slice ar nr cr) ∧ W14.drew.cell? ⟨W8.heap.size, 0, none⟩ = some (.bool ss) ∧ W14.drew.cell? ⟨W8.heap.size, 1, none⟩ = some (.slice ay ny cy) ∧ W14.drew.cell? ⟨W10.heap.size, 0, none⟩ = some (.bool so) ∧ W14.drew.cell? ⟨W10.heap.size, 1, none⟩ = some (.slice ao no co) ∧ W14.drew.cell? ⟨W10.heap.size + 1, 0, none⟩ = some (.bool s2) ∧ W14.drew.cell? ⟨W10.heap.size + 1, 1, none⟩ = some (.slice a2 n2 c2) ∧ W14.drew.cell? ⟨W12.heap.size, 0, none⟩ = some (.bool sr) ∧ W14.drew.cell? ⟨W12.heap.size, 1, none⟩ = some (.slice ar nr cr) := ⟨D1.out.z0, D1.out.z1, Dr.out.z0, Dr.out.z1, Dy.out.z0, Dy.out.z1, Do.out.z0, Do.out.z1, Dt.out.z0, Dt.out.z1, Dz.out.z0, Dz.out.z1⟩
       clear X1 X2 Xq Xr Xp Xy Xo Xt Xz H1 H2 Hq Hr Hp Hy Ho T1 T2 Tq Tr Tp Ty To HB BT
       refine wp_region_held_drew (S := fun w' => w'.cell? ⟨w.heap.size, 0, none⟩ = some (.bool s1) ∧ w'.cell? ⟨w.heap.size, 1, none⟩ = some (.slice a1 n1 c1) ∧ w'.cell? ⟨W4.heap.size + 1, 0, none⟩ = some (.bool sr) ∧ w'.cell? ⟨W4.heap.size + 1, 1, none⟩ = some (.slice ar nr cr) ∧ w'.cell? ⟨W8.heap.size, 0, none⟩ = some (.bool ss) ∧ w'.cell? ⟨W8.heap.size, 1, none⟩ = some (.slice ay ny cy) ∧ w'.cell? ⟨W10.heap.size, 0, none⟩ = some (.bool so) ∧ w'.cell? ⟨W10.heap.size, 1, none⟩ = some (.slice ao no co) ∧ w'.cell? ⟨W10.heap.size + 1, 0, none⟩ = some (.bool s2) ∧ w'.cell? ⟨W10.heap.size + 1, 1, none⟩ = some (.slice a2 n2 c2) ∧ w'.cell? ⟨W12.heap.size, 0, none⟩ = some (.bool sr) ∧ w'.cell? ⟨W12.heap.size, 1, none⟩ = some (.slice ar nr cr)) (by kernel_rfl) (by exact kS) (fun hH => ?_)
       clear hH
       refine wpAnyH_take (i := 0) (oi := { dst := some 61, op := Op.move (Operand.tmp 9), type := 28, pos := "law.go:112", after := #[], guard := none }) (v := ?_) rfl (by kernel_rfl) (by kernel_rfl) (by kernel_rfl) (fun _ _ _ h => h) (Or.inl ⟨by rfl, ?_⟩) (by exact kS) ?_
       rotate_left
       · intro w h; (try dsimp only at h); (go_simp <;> with_reducible rfl)
       try simp only [Act.put, List.setIfInBounds_toArray, List.set_cons_zero, List.set_cons_succ]
       refine wpAnyH_take (i := 1) (oi := { dst := some 62, op := Op.binOp BinOp.eql 28 (Operand.tmp 61) (Operand.const (Value.int IntKind.i64 0)) 28, type := 4, pos := "law.go:112", after := #[{ on := 0, ground := Ground.data }], guard := none }) (v := ?_) rfl (by kernel_rfl) (by kernel_rfl) (by kernel_rfl) (fun _ _ _ h => h) (Or.inl ⟨by rfl, ?_⟩) (by exact kS) ?_
       rotate_left
       · intro w h; (try dsimp only at h); (go_simp <;> with_reducible rfl)
       try simp only [Act.put, List.setIfInBounds_toArray, List.set_cons_zero, List.set_cons_succ]
       refine wpAnyH_take (i := 2) (oi := { dst := some 63, op := Op.move (Operand.tmp 62), type := 4, pos := "law.go:112", after := #[{ on := 1, ground := Ground.data }], guard := none }) (v := ?_) rfl (by kernel_rfl) (by kernel_rfl) (by kernel_rfl) (fun _ _ _ h => h) (Or.inl ⟨by rfl, ?_⟩) (by exact kS) ?_
       rotate_left
       · intro w h; (try dsimp only at h); (go_simp <;> with_reducible rfl)
       try simp only [Act.put, List.setIfInBounds_toArray, List.set_cons_zero, List.set_cons_succ]
       refine wpAnyH_take (i := 3) (oi := { dst := some 64, op := Op.move (Operand.tmp 11), type := 28, pos := "law.go:112", after := #[{ on := 2, ground := Ground.guard }], guard := some (2, true) }) (v := ?_) rfl (by kernel_rfl) (by kernel_rfl) (by kernel_rfl) (fun _ _ _ h => h) (Or.inl ⟨by rfl, ?_⟩) (by exact kS) ?_
       rotate_left
       · intro w h; (try dsimp only at h); (go_simp <;> with_reducible rfl)
       try simp only [Act.put, List.setIfInBounds_toArray, List.set_cons_zero, List.set_cons_succ]
       refine wpAnyH_take (i := 4) (oi := { dst := some 65, op := Op.binOp BinOp.eql 28 (Operand.tmp 64) (Operand.const (Value.int IntKind.i64 0)) 28, type := 4, pos := "law.go:112", after := #[{ on := 3, ground := Ground.data }, { on := 2, ground := Ground.guard }], guard := some (2, true) }) (v := ?_) rfl (by kernel_rfl) (by kernel_rfl) (by kernel_rfl) (fun _ _ _ h => h) (Or.inl ⟨by rfl, ?_⟩) (by exact kS) ?_
       rotate_left
       · intro w h; (try dsimp only at h); (go_simp <;> with_reducible rfl)
       try simp only [Act.put, List.setIfInBounds_toArray, List.set_cons_zero, List.set_cons_succ]
       refine wpAnyH_take (i := 5) (oi := { dst := some 66, op := Op.pick (Operand.tmp 63) (Operand.tmp 65) (Operand.const (Value.bool false)), type := 4, pos := "law.go:112", after := #[{ on := 2, ground := Ground.data }, { on := 4, ground := Ground.data }], guard := none }) (v := ?_) rfl (by kernel_rfl) (by kernel_rfl) (by kernel_rfl) (fun _ _ _ h => h) (Or.inl ⟨by rfl, ?_⟩) (by exact kS) ?_
       rotate_left
       · intro w h; (try dsimp only at h); (go_simp <;> with_reducible rfl)
       try simp only [Act.put, List.setIfInBounds_toArray, List.set_cons_zero, List.set_cons_succ]
       refine wpAnyH_take (i := 6) (oi := { dst := some 67, op := Op.move (Operand.tmp 66), type := 4, pos := "law.go:112", after := #[{ on := 5, ground := Ground.data }, { on := 2, ground := Ground.chain }], guard := none }) (v := ?_) rfl (by kernel_rfl) (by kernel_rfl) (by kernel_rfl) (fun _ _ _ h => h) (Or.inl ⟨by rfl, ?_⟩) (by exact kS) ?_
       rotate_left
       · intro w h; (try dsimp only at h); (go_simp <;> with_reducible rfl)
       try simp only [Act.put, List.setIfInBounds_toArray, List.set_cons_zero, List.set_cons_succ]
       refine wpAnyH_take (i := 7) (oi := { dst := some 68, op := Op.load 24 (Operand.tmp 10), type := 24, pos := "law.go:112", after := #[{ on := 6, ground := Ground.guard }], guard := some (6, true) }) (v := ?_) rfl (by kernel_rfl) (by kernel_rfl) (by kernel_rfl) (fun _ _ _ h => h) (Or.inl ⟨by rfl, ?_⟩) (by exact kS) ?_
       rotate_left
       · intro w h; (try dsimp only at h); (go_simp <;> with_reducible rfl)
       try simp only [Act.put, List.setIfInBounds_toArray, List.set_cons_zero, List.set_cons_succ]
       refine wpAnyH_take (i := 8) (oi := { dst := some 69, op := Op.load 24 (Operand.tmp 2), type := 24, pos := "law.go:112", after := #[{ on := 6, ground := Ground.guard }], guard := some (6, true) }) (v := ?_) rfl (by kernel_rfl) (by kernel_rfl) (by kernel_rfl) (fun _ _ _ h => h) (Or.inl ⟨by rfl, ?_⟩) (by exact kS) ?_
       rotate_left
       · intro w h; (try dsimp only at h); (go_simp <;> with_reducible rfl)
       try simp only [Act.put, List.setIfInBounds_toArray, List.set_cons_zero, List.set_cons_succ]
       refine wpAnyH_ready (rs := [9]) (by kernel_rfl) (by simp) ?_
       refine AllReadyH.cons (o := { dst := some 70, op := Op.call { callee := Callee.value (Operand.func 17), args := #[Operand.tmp 68, Operand.tmp 69], argTypes := #[24, 24] }, type := 3, pos := "law.go:112", after := #[{ on := 7, ground := Ground.data }, { on := 8, ground := Ground.data }, { on := 6, ground := Ground.chain }, { on := 6, ground := Ground.guard }], guard := some (6, true) }) rfl (fun K hK => ?_) AllReadyH.nil
       go_simp
       (refine (compare_any ss s1 ay ny cy ly a1 n1 c1 l1 _ (by exact Jy.out) (by exact J1.out) (by omega) (by omega)).mono ?_; rintro e V1 ⟨rfl, hb⟩; rw [HA0.out]; have D1 : Hid (Box V1 (w.heap.size) (.bool s1) (.slice a1 n1 c1)) := D1.out.below hb D1.out.lt; have Dr : Hid (Box V1 (W4.heap.size + 1) (.bool sr) (.slice ar nr cr)) := Dr.out.below hb Dr.out.lt; have Dy : Hid (Box V1 (W8.heap.size) (.bool ss) (.slice ay ny cy)) := Dy.out.below hb Dy.out.lt; have Do : Hid (Box V1 (W10.heap.size) (.bool so) (.slice ao no co)) := Do.out.below hb Do.out.lt; have Dt : Hid (Box V1 (W10.heap.size + 1) (.bool s2) (.slice a2 n2 c2)) := Dt.out.below hb Dt.out.lt; have Dz : Hid (Box V1 (W12.heap.size) (.bool sr) (.slice ar nr cr)) := Dz.out.below hb Dz.out.lt; have Jy : Hid (Sl V1 ay ny cy ly) := Jy.out.below hb (Nat.le_refl _); have J1 : Hid (Sl V1 a1 n1 c1 l1) := J1.out.below hb (Nat.le_refl _); have Jr : Hid (Sl V1 ar nr cr lr) := Jr.out.below hb (Nat.le_refl _); have Jo : Hid (Sl V1 ao no co lo) := Jo.out.below hb (Nat.le_refl _); have J2 : Hid (Sl V1 a2 n2 c2 l2) := J2.out.below hb (Nat.le_refl _); have HBD : Hid (Below w.heap.size w V1) := HBD.out.trans (hb.mono HBD.out.size); clear kS; have kS : V1.cell? ⟨w.heap.size, 0, none⟩ = some (.bool s1) ∧ V1.cell? ⟨w.heap.size, 1, none⟩ = some (.slice a1 n1 c1) ∧ V1.cell? ⟨W4.heap.size + 1, 0, none⟩ = some (.bool sr) ∧ V1.cell? ⟨W4.heap.size + 1, 1, none⟩ = some (.slice ar nr cr) ∧ V1.cell? ⟨W8.heap.size, 0, none⟩ = some (.bool ss) ∧ V1.cell? ⟨W8.heap.size, 1, none⟩ = some (.slice ay ny cy) ∧ V1.cell? ⟨W10.heap.size, 0, none⟩ = some (.bool so) ∧ V1.cell? ⟨W10.heap.size, 1, none⟩ = some (.slice ao no co) ∧ V1.cell? ⟨W10.heap.size + 1, 0, none⟩ = some (.bool s2) ∧ V1.cell? ⟨W10.heap.size + 1, 1, none⟩ = some (.slice a2 n2 c2) ∧ V1.cell? ⟨W12.heap.size, 0, none⟩ = some (.bool sr) ∧ V1.cell? ⟨W12.heap.size, 1, none⟩ = some (.slice ar nr cr) := ⟨D1.out.z0, D1.out.z1, Dr.out.z0, Dr.out.z1, Dy.out.z0, Dy.out.z1, Do.out.z0, Do.out.z1, Dt.out.z0, Dt.out.z1, Dz.out.z0, Dz.out.z1⟩; clear hb)
       go_wp2_with fail
       refine hK.out _ _ (by exact kS) (fun hH => ?_)
       clear hK K hH
       try simp only [Act.put, List.setIfInBounds_toArray, List.set_cons_zero, List.set_cons_succ]
       refine wpAnyH_take (i := 10) (oi := { dst := some 71, op := Op.binOp BinOp.eql 3 (Operand.tmp 70) (Operand.const (Value.int IntKind.i64 0)) 3, type := 4, pos := "law.go:112", after := #[{ on := 9, ground := Ground.data }, { on := 6, ground := Ground.guard }], guard := some (6, true) }) (v := ?_) rfl (by kernel_rfl) (by kernel_rfl) (by kernel_rfl) (fun _ _ _ h => h) (Or.inl ⟨by rfl, ?_⟩) (by exact kS) ?_
       rotate_left
       · intro w h; (try dsimp only at h); (go_simp <;> with_reducible rfl)
       try simp only [Act.put, List.setIfInBounds_toArray, List.set_cons_zero, List.set_cons_succ]
       refine wpAnyH_take (i := 11) (oi := { dst := some 72, op := Op.pick (Operand.tmp 67) (Operand.tmp 71) (Operand.const (Value.bool false)), type := 4, pos := "law.go:112", after := #[{ on := 6, ground := Ground.data }, { on := 10, ground := Ground.data }], guard := none }) (v := ?_) rfl (by kernel_rfl) (by kernel_rfl) (by kernel_rfl) (fun _ _ _ h => h) (Or.inl ⟨by rfl, ?_⟩) (by exact kS) ?_
       rotate_left
       · intro w h; (try dsimp only at h); (go_simp <;> with_reducible rfl)
       try simp only [Act.put, List.setIfInBounds_toArray, List.set_cons_zero, List.set_cons_succ]
       refine wpAnyH_take (i := 12) (oi := { dst := some 73, op := Op.move (Operand.tmp 72), type := 4, pos := "law.go:112", after := #[{ on := 11, ground := Ground.data }, { on := 9, ground := Ground.chain }], guard := none }) (v := ?_) rfl (by kernel_rfl) (by kernel_rfl) (by kernel_rfl) (fun _ _ _ h => h) (Or.inl ⟨by rfl, ?_⟩) (by exact kS) ?_
       rotate_left
       · intro w h; (try dsimp only at h); (go_simp <;> with_reducible rfl)
       try simp only [Act.put, List.setIfInBounds_toArray, List.set_cons_zero, List.set_cons_succ]
       refine wpAnyH_take (i := 13) (oi := { dst := some 74, op := Op.load 24 (Operand.tmp 14), type := 24, pos := "law.go:112", after := #[{ on := 12, ground := Ground.guard }], guard := some (12, true) }) (v := ?_) rfl (by kernel_rfl) (by kernel_rfl) (by kernel_rfl) (fun _ _ _ h => h) (Or.inl ⟨by rfl, ?_⟩) (by exact kS) ?_
       rotate_left
       · intro w h; (try dsimp only at h); (go_simp <;> with_reducible rfl)
       try simp only [Act.put, List.setIfInBounds_toArray, List.set_cons_zero, List.set_cons_succ]
       refine wpAnyH_take (i := 14) (oi := { dst := some 75, op := Op.load 24 (Operand.tmp 13), type := 24, pos := "law.go:112", after := #[{ on := 12, ground := Ground.guard }], guard := some (12, true) }) (v := ?_) rfl (by kernel_rfl) (by kernel_rfl) (by kernel_rfl) (fun _ _ _ h => h) (Or.inl ⟨by rfl, ?_⟩) (by exact kS) ?_
       rotate_left
       · intro w h; (try dsimp only at h); (go_simp <;> with_reducible rfl)
       try simp only [Act.put, List.setIfInBounds_toArray, List.set_cons_zero, List.set_cons_succ]
       refine wpAnyH_ready (rs := [15]) (by kernel_rfl) (by simp) ?_
       refine AllReadyH.cons (o := { dst := some 76, op := Op.call { callee := Callee.value (Operand.func 17), args := #[Operand.tmp 74, Operand.tmp 75], argTypes := #[24, 24] }, type := 3, pos := "law.go:112", after := #[{ on := 13, ground := Ground.data }, { on := 14, ground := Ground.data }, { on := 12, ground := Ground.chain }, { on := 12, ground := Ground.guard }], guard := some (12, true) }) rfl (fun K hK => ?_) AllReadyH.nil
       go_simp
       (refine (compare_any sr s2 ar nr cr lr a2 n2 c2 l2 _ (by exact Jr.out) (by exact J2.out) (by omega) (by omega)).mono ?_; rintro e V2 ⟨rfl, hb⟩; rw [HSZ.out]; have D1 : Hid (Box V2 (w.heap.size) (.bool s1) (.slice a1 n1 c1)) := D1.out.below hb D1.out.lt; have Dr : Hid (Box V2 (W4.heap.size + 1) (.bool sr) (.slice ar nr cr)) := Dr.out.below hb Dr.out.lt; have Dy : Hid (Box V2 (W8.heap.size) (.bool ss) (.slice ay ny cy)) := Dy.out.below hb Dy.out.lt; have Do : Hid (Box V2 (W10.heap.size) (.bool so) (.slice ao no co)) := Do.out.below hb Do.out.lt; have Dt : Hid (Box V2 (W10.heap.size + 1) (.bool s2) (.slice a2 n2 c2)) := Dt.out.below hb Dt.out.lt; have Dz : Hid (Box V2 (W12.heap.size) (.bool sr) (.slice ar nr cr)) := Dz.out.below hb Dz.out.lt; have Jy : Hid (Sl V2 ay ny cy ly) := Jy.out.below hb (Nat.le_refl _); have J1 : Hid (Sl V2 a1 n1 c1 l1) := J1.out.below hb (Nat.le_refl _); have Jr : Hid (Sl V2 ar nr cr lr) := Jr.out.below hb (Nat.le_refl _); have Jo : Hid (Sl V2 ao no co lo) := Jo.out.below hb (Nat.le_refl _); have J2 : Hid (Sl V2 a2 n2 c2 l2) := J2.out.below hb (Nat.le_refl _); have HBD : Hid (Below w.heap.size w V2) := HBD.out.trans (hb.mono HBD.out.size); clear kS; have kS : V2.cell? ⟨w.heap.size, 0, none⟩ = some (.bool s1) ∧ V2.cell? ⟨w.heap.size, 1, none⟩ = some (.slice a1 n1 c1) ∧ V2.cell? ⟨W4.heap.size + 1, 0, none⟩ = some (.bool sr) ∧ V2.cell? ⟨W4.heap.size + 1, 1, none⟩ = some (.slice ar nr cr) ∧ V2.cell? ⟨W8.heap.size, 0, none⟩ = some (.bool ss) ∧ V2.cell? ⟨W8.heap.size, 1, none⟩ = some (.slice ay ny cy) ∧ V2.cell? ⟨W10.heap.size, 0, none⟩ = some (.bool so) ∧ V2.cell? ⟨W10.heap.size, 1, none⟩ = some (.slice ao no co) ∧ V2.cell? ⟨W10.heap.size + 1, 0, none⟩ = some (.bool s2) ∧ V2.cell? ⟨W10.heap.size + 1, 1, none⟩ = some (.slice a2 n2 c2) ∧ V2.cell? ⟨W12.heap.size, 0, none⟩ = some (.bool sr) ∧ V2.cell? ⟨W12.heap.size, 1, none⟩ = some (.slice ar nr cr) := ⟨D1.out.z0, D1.out.z1, Dr.out.z0, Dr.out.z1, Dy.out.z0, Dy.out.z1, Do.out.z0, Do.out.z1, Dt.out.z0, Dt.out.z1, Dz.out.z0, Dz.out.z1⟩; clear hb)
       go_wp2_with fail
       refine hK.out _ _ (by exact kS) (fun hH => ?_)
       clear hK K hH
       try simp only [Act.put, List.setIfInBounds_toArray, List.set_cons_zero, List.set_cons_succ]
       refine wpAnyH_take (i := 16) (oi := { dst := some 77, op := Op.binOp BinOp.lss 3 (Operand.tmp 76) (Operand.const (Value.int IntKind.i64 0)) 3, type := 4, pos := "law.go:112", after := #[{ on := 15, ground := Ground.data }, { on := 12, ground := Ground.guard }], guard := some (12, true) }) (v := ?_) rfl (by kernel_rfl) (by kernel_rfl) (by kernel_rfl) (fun _ _ _ h => h) (Or.inl ⟨by rfl, ?_⟩) (by exact kS) ?_
       rotate_left
       · intro w h; (try dsimp only at h); (go_simp <;> with_reducible rfl)
       try simp only [Act.put, List.setIfInBounds_toArray, List.set_cons_zero, List.set_cons_succ]
       refine wpAnyH_take (i := 17) (oi := { dst := some 78, op := Op.pick (Operand.tmp 73) (Operand.tmp 77) (Operand.const (Value.bool false)), type := 4, pos := "law.go:112", after := #[{ on := 12, ground := Ground.data }, { on := 16, ground := Ground.data }], guard := none }) (v := ?_) rfl (by kernel_rfl) (by kernel_rfl) (by kernel_rfl) (fun _ _ _ h => h) (Or.inl ⟨by rfl, ?_⟩) (by exact kS) ?_
       rotate_left
       · intro w h; (try dsimp only at h); (go_simp <;> with_reducible rfl)
       try simp only [Act.put, List.setIfInBounds_toArray, List.set_cons_zero, List.set_cons_succ]
       refine wpAnyH_take (i := 18) (oi := { dst := some 79, op := Op.move (Operand.tmp 78), type := 4, pos := "law.go:112", after := #[{ on := 17, ground := Ground.data }, { on := 15, ground := Ground.chain }], guard := none }) (v := ?_) rfl (by kernel_rfl) (by kernel_rfl) (by kernel_rfl) (fun _ _ _ h => h) (Or.inl ⟨by rfl, ?_⟩) (by exact kS) ?_
       rotate_left
       · intro w h; (try dsimp only at h); (go_simp <;> with_reducible rfl)
       try simp only [Act.put, List.setIfInBounds_toArray, List.set_cons_zero, List.set_cons_succ]
       refine wpAnyH_take (i := 19) (oi := { dst := some 80, op := Op.load 24 (Operand.tmp 6), type := 24, pos := "law.go:112", after := #[{ on := 18, ground := Ground.guard }], guard := some (18, true) }) (v := ?_) rfl (by kernel_rfl) (by kernel_rfl) (by kernel_rfl) (fun _ _ _ h => h) (Or.inl ⟨by rfl, ?_⟩) (by exact kS) ?_
       rotate_left
       · intro w h; (try dsimp only at h); (go_simp <;> with_reducible rfl)
       try simp only [Act.put, List.setIfInBounds_toArray, List.set_cons_zero, List.set_cons_succ]
       refine wpAnyH_take (i := 20) (oi := { dst := some 81, op := Op.load 24 (Operand.tmp 12), type := 24, pos := "law.go:112", after := #[{ on := 18, ground := Ground.guard }], guard := some (18, true) }) (v := ?_) rfl (by kernel_rfl) (by kernel_rfl) (by kernel_rfl) (fun _ _ _ h => h) (Or.inl ⟨by rfl, ?_⟩) (by exact kS) ?_
       rotate_left
       · intro w h; (try dsimp only at h); (go_simp <;> with_reducible rfl)
       try simp only [Act.put, List.setIfInBounds_toArray, List.set_cons_zero, List.set_cons_succ]
       refine wpAnyH_ready (rs := [21]) (by kernel_rfl) (by simp) ?_
       refine AllReadyH.cons (o := { dst := some 82, op := Op.call { callee := Callee.value (Operand.func 17), args := #[Operand.tmp 80, Operand.tmp 81], argTypes := #[24, 24] }, type := 3, pos := "law.go:112", after := #[{ on := 19, ground := Ground.data }, { on := 20, ground := Ground.data }, { on := 18, ground := Ground.chain }, { on := 18, ground := Ground.guard }], guard := some (18, true) }) rfl (fun K hK => ?_) AllReadyH.nil
       go_simp
       (refine (compare_any sr so ar nr cr lr ao no co lo _ (by exact Jr.out) (by exact Jo.out) (by omega) (by omega)).mono ?_; rintro e V3 ⟨rfl, hb⟩; rw [KR.out]; have D1 : Hid (Box V3 (w.heap.size) (.bool s1) (.slice a1 n1 c1)) := D1.out.below hb D1.out.lt; have Dr : Hid (Box V3 (W4.heap.size + 1) (.bool sr) (.slice ar nr cr)) := Dr.out.below hb Dr.out.lt; have Dy : Hid (Box V3 (W8.heap.size) (.bool ss) (.slice ay ny cy)) := Dy.out.below hb Dy.out.lt; have Do : Hid (Box V3 (W10.heap.size) (.bool so) (.slice ao no co)) := Do.out.below hb Do.out.lt; have Dt : Hid (Box V3 (W10.heap.size + 1) (.bool s2) (.slice a2 n2 c2)) := Dt.out.below hb Dt.out.lt; have Dz : Hid (Box V3 (W12.heap.size) (.bool sr) (.slice ar nr cr)) := Dz.out.below hb Dz.out.lt; have Jy : Hid (Sl V3 ay ny cy ly) := Jy.out.below hb (Nat.le_refl _); have J1 : Hid (Sl V3 a1 n1 c1 l1) := J1.out.below hb (Nat.le_refl _); have Jr : Hid (Sl V3 ar nr cr lr) := Jr.out.below hb (Nat.le_refl _); have Jo : Hid (Sl V3 ao no co lo) := Jo.out.below hb (Nat.le_refl _); have J2 : Hid (Sl V3 a2 n2 c2 l2) := J2.out.below hb (Nat.le_refl _); have HBD : Hid (Below w.heap.size w V3) := HBD.out.trans (hb.mono HBD.out.size); clear kS; have kS : V3.cell? ⟨w.heap.size, 0, none⟩ = some (.bool s1) ∧ V3.cell? ⟨w.heap.size, 1, none⟩ = some (.slice a1 n1 c1) ∧ V3.cell? ⟨W4.heap.size + 1, 0, none⟩ = some (.bool sr) ∧ V3.cell? ⟨W4.heap.size + 1, 1, none⟩ = some (.slice ar nr cr) ∧ V3.cell? ⟨W8.heap.size, 0, none⟩ = some (.bool ss) ∧ V3.cell? ⟨W8.heap.size, 1, none⟩ = some (.slice ay ny cy) ∧ V3.cell? ⟨W10.heap.size, 0, none⟩ = some (.bool so) ∧ V3.cell? ⟨W10.heap.size, 1, none⟩ = some (.slice ao no co) ∧ V3.cell? ⟨W10.heap.size + 1, 0, none⟩ = some (.bool s2) ∧ V3.cell? ⟨W10.heap.size + 1, 1, none⟩ = some (.slice a2 n2 c2) ∧ V3.cell? ⟨W12.heap.size, 0, none⟩ = some (.bool sr) ∧ V3.cell? ⟨W12.heap.size, 1, none⟩ = some (.slice ar nr cr) := ⟨D1.out.z0, D1.out.z1, Dr.out.z0, Dr.out.z1, Dy.out.z0, Dy.out.z1, Do.out.z0, Do.out.z1, Dt.out.z0, Dt.out.z1, Dz.out.z0, Dz.out.z1⟩; clear hb)
       go_wp2_with fail
       refine hK.out _ _ (by exact kS) (fun hH => ?_)
       clear hK K hH
       try simp only [Act.put, List.setIfInBounds_toArray, List.set_cons_zero, List.set_cons_succ]
       refine wpAnyH_take (i := 22) (oi := { dst := some 83, op := Op.binOp BinOp.eql 3 (Operand.tmp 82) (Operand.const (Value.int IntKind.i64 0)) 3, type := 4, pos := "law.go:112", after := #[{ on := 21, ground := Ground.data }, { on := 18, ground := Ground.guard }], guard := some (18, true) }) (v := ?_) rfl (by kernel_rfl) (by kernel_rfl) (by kernel_rfl) (fun _ _ _ h => h) (Or.inl ⟨by rfl, ?_⟩) (by exact kS) ?_
       rotate_left
       · intro w h; (try dsimp only at h); (go_simp <;> with_reducible rfl)
       try simp only [Act.put, List.setIfInBounds_toArray, List.set_cons_zero, List.set_cons_succ]
       refine wpAnyH_take (i := 23) (oi := { dst := some 84, op := Op.move (Operand.tmp 83), type := 4, pos := "law.go:112", after := #[{ on := 22, ground := Ground.data }, { on := 21, ground := Ground.chain }, { on := 18, ground := Ground.guard }], guard := some (18, true) }) (v := ?_) rfl (by kernel_rfl) (by kernel_rfl) (by kernel_rfl) (fun _ _ _ h => h) (Or.inl ⟨by rfl, ?_⟩) (by exact kS) ?_
       rotate_left
       · intro w h; (try dsimp only at h); (go_simp <;> with_reducible rfl)
       try simp only [Act.put, List.setIfInBounds_toArray, List.set_cons_zero, List.set_cons_succ]
       refine wpAnyH_take (i := 24) (oi := { dst := some 85, op := Op.load 24 (Operand.tmp 6), type := 24, pos := "law.go:112", after := #[{ on := 23, ground := Ground.guard }], guard := some (23, false) }) (v := ?_) rfl (by kernel_rfl) (by kernel_rfl) (by kernel_rfl) (fun _ _ _ h => h) (Or.inl ⟨by rfl, ?_⟩) (by exact kS) ?_
       rotate_left
       · intro w h; (try dsimp only at h); (go_simp <;> with_reducible rfl)
       try simp only [Act.put, List.setIfInBounds_toArray, List.set_cons_zero, List.set_cons_succ]
       refine wpAnyH_take (i := 25) (oi := { dst := some 86, op := Op.load 24 (Operand.tmp 12), type := 24, pos := "law.go:112", after := #[{ on := 23, ground := Ground.guard }], guard := some (23, false) }) (v := ?_) rfl (by kernel_rfl) (by kernel_rfl) (by kernel_rfl) (fun _ _ _ h => h) (Or.inl ⟨by rfl, ?_⟩) (by exact kS) ?_
       rotate_left
       · intro w h; (try dsimp only at h); (go_simp <;> with_reducible rfl)
       try simp only [Act.put, List.setIfInBounds_toArray, List.set_cons_zero, List.set_cons_succ]
       refine wpAnyH_take (i := 28) (oi := { dst := some 89, op := Op.load 24 (Operand.tmp 2), type := 24, pos := "law.go:112", after := #[{ on := 23, ground := Ground.guard }], guard := some (23, false) }) (v := ?_) rfl (by kernel_rfl) (by kernel_rfl) (by kernel_rfl) (fun _ _ _ h => h) (Or.inl ⟨by rfl, ?_⟩) (by exact kS) ?_
       rotate_left
       · intro w h; (try dsimp only at h); (go_simp <;> with_reducible rfl)
       try simp only [Act.put, List.setIfInBounds_toArray, List.set_cons_zero, List.set_cons_succ]
       refine wpAnyH_take (i := 29) (oi := { dst := some 90, op := Op.load 24 (Operand.tmp 12), type := 24, pos := "law.go:112", after := #[{ on := 23, ground := Ground.guard }], guard := some (23, false) }) (v := ?_) rfl (by kernel_rfl) (by kernel_rfl) (by kernel_rfl) (fun _ _ _ h => h) (Or.inl ⟨by rfl, ?_⟩) (by exact kS) ?_
       rotate_left
       · intro w h; (try dsimp only at h); (go_simp <;> with_reducible rfl)
       try simp only [Act.put, List.setIfInBounds_toArray, List.set_cons_zero, List.set_cons_succ]
       refine wpAnyH_ready (rs := [26]) (by kernel_rfl) (by simp) ?_
       refine AllReadyH.cons (o := { dst := some 87, op := Op.call { callee := Callee.value (Operand.func 17), args := #[Operand.tmp 85, Operand.tmp 86], argTypes := #[24, 24] }, type := 3, pos := "law.go:112", after := #[{ on := 24, ground := Ground.data }, { on := 25, ground := Ground.data }, { on := 23, ground := Ground.chain }, { on := 23, ground := Ground.guard }], guard := some (23, false) }) rfl (fun K hK => ?_) AllReadyH.nil
       go_simp
       (refine (compare_any sr so ar nr cr lr ao no co lo _ (by exact Jr.out) (by exact Jo.out) (by omega) (by omega)).mono ?_; rintro e V4 ⟨rfl, hb⟩; rw [KR.out]; have D1 : Hid (Box V4 (w.heap.size) (.bool s1) (.slice a1 n1 c1)) := D1.out.below hb D1.out.lt; have Dr : Hid (Box V4 (W4.heap.size + 1) (.bool sr) (.slice ar nr cr)) := Dr.out.below hb Dr.out.lt; have Dy : Hid (Box V4 (W8.heap.size) (.bool ss) (.slice ay ny cy)) := Dy.out.below hb Dy.out.lt; have Do : Hid (Box V4 (W10.heap.size) (.bool so) (.slice ao no co)) := Do.out.below hb Do.out.lt; have Dt : Hid (Box V4 (W10.heap.size + 1) (.bool s2) (.slice a2 n2 c2)) := Dt.out.below hb Dt.out.lt; have Dz : Hid (Box V4 (W12.heap.size) (.bool sr) (.slice ar nr cr)) := Dz.out.below hb Dz.out.lt; have Jy : Hid (Sl V4 ay ny cy ly) := Jy.out.below hb (Nat.le_refl _); have J1 : Hid (Sl V4 a1 n1 c1 l1) := J1.out.below hb (Nat.le_refl _); have Jr : Hid (Sl V4 ar nr cr lr) := Jr.out.below hb (Nat.le_refl _); have Jo : Hid (Sl V4 ao no co lo) := Jo.out.below hb (Nat.le_refl _); have J2 : Hid (Sl V4 a2 n2 c2 l2) := J2.out.below hb (Nat.le_refl _); have HBD : Hid (Below w.heap.size w V4) := HBD.out.trans (hb.mono HBD.out.size); clear kS; have kS : V4.cell? ⟨w.heap.size, 0, none⟩ = some (.bool s1) ∧ V4.cell? ⟨w.heap.size, 1, none⟩ = some (.slice a1 n1 c1) ∧ V4.cell? ⟨W4.heap.size + 1, 0, none⟩ = some (.bool sr) ∧ V4.cell? ⟨W4.heap.size + 1, 1, none⟩ = some (.slice ar nr cr) ∧ V4.cell? ⟨W8.heap.size, 0, none⟩ = some (.bool ss) ∧ V4.cell? ⟨W8.heap.size, 1, none⟩ = some (.slice ay ny cy) ∧ V4.cell? ⟨W10.heap.size, 0, none⟩ = some (.bool so) ∧ V4.cell? ⟨W10.heap.size, 1, none⟩ = some (.slice ao no co) ∧ V4.cell? ⟨W10.heap.size + 1, 0, none⟩ = some (.bool s2) ∧ V4.cell? ⟨W10.heap.size + 1, 1, none⟩ = some (.slice a2 n2 c2) ∧ V4.cell? ⟨W12.heap.size, 0, none⟩ = some (.bool sr) ∧ V4.cell? ⟨W12.heap.size, 1, none⟩ = some (.slice ar nr cr) := ⟨D1.out.z0, D1.out.z1, Dr.out.z0, Dr.out.z1, Dy.out.z0, Dy.out.z1, Do.out.z0, Do.out.z1, Dt.out.z0, Dt.out.z1, Dz.out.z0, Dz.out.z1⟩; clear hb)
       go_wp2_with fail
       refine hK.out _ _ (by exact kS) (fun hH => ?_)
       clear hK K hH
       try simp only [Act.put, List.setIfInBounds_toArray, List.set_cons_zero, List.set_cons_succ]
       refine wpAnyH_take (i := 27) (oi := { dst := some 88, op := Op.binOp BinOp.lss 3 (Operand.tmp 87) (Operand.const (Value.int IntKind.i64 0)) 3, type := 4, pos := "law.go:112", after := #[{ on := 26, ground := Ground.data }, { on := 23, ground := Ground.guard }], guard := some (23, false) }) (v := ?_) rfl (by kernel_rfl) (by kernel_rfl) (by kernel_rfl) (fun _ _ _ h => h) (Or.inl ⟨by rfl, ?_⟩) (by exact kS) ?_
       rotate_left
       · intro w h; (try dsimp only at h); (go_simp <;> with_reducible rfl)
       try simp only [Act.put, List.setIfInBounds_toArray, List.set_cons_zero, List.set_cons_succ]
       refine wpAnyH_ready (rs := [30]) (by kernel_rfl) (by simp) ?_
       refine AllReadyH.cons (o := { dst := some 91, op := Op.call { callee := Callee.value (Operand.func 17), args := #[Operand.tmp 89, Operand.tmp 90], argTypes := #[24, 24] }, type := 3, pos := "law.go:112", after := #[{ on := 28, ground := Ground.data }, { on := 29, ground := Ground.data }, { on := 26, ground := Ground.chain }, { on := 23, ground := Ground.guard }], guard := some (23, false) }) rfl (fun K hK => ?_) AllReadyH.nil
       go_simp
       (refine (compare_any s1 so a1 n1 c1 l1 ao no co lo _ (by exact J1.out) (by exact Jo.out) (by omega) (by omega)).mono ?_; rintro e V5 ⟨rfl, hb⟩; rw [KA.out]; have D1 : Hid (Box V5 (w.heap.size) (.bool s1) (.slice a1 n1 c1)) := D1.out.below hb D1.out.lt; have Dr : Hid (Box V5 (W4.heap.size + 1) (.bool sr) (.slice ar nr cr)) := Dr.out.below hb Dr.out.lt; have Dy : Hid (Box V5 (W8.heap.size) (.bool ss) (.slice ay ny cy)) := Dy.out.below hb Dy.out.lt; have Do : Hid (Box V5 (W10.heap.size) (.bool so) (.slice ao no co)) := Do.out.below hb Do.out.lt; have Dt : Hid (Box V5 (W10.heap.size + 1) (.bool s2) (.slice a2 n2 c2)) := Dt.out.below hb Dt.out.lt; have Dz : Hid (Box V5 (W12.heap.size) (.bool sr) (.slice ar nr cr)) := Dz.out.below hb Dz.out.lt; have Jy : Hid (Sl V5 ay ny cy ly) := Jy.out.below hb (Nat.le_refl _); have J1 : Hid (Sl V5 a1 n1 c1 l1) := J1.out.below hb (Nat.le_refl _); have Jr : Hid (Sl V5 ar nr cr lr) := Jr.out.below hb (Nat.le_refl _); have Jo : Hid (Sl V5 ao no co lo) := Jo.out.below hb (Nat.le_refl _); have J2 : Hid (Sl V5 a2 n2 c2 l2) := J2.out.below hb (Nat.le_refl _); have HBD : Hid (Below w.heap.size w V5) := HBD.out.trans (hb.mono HBD.out.size); clear kS; have kS : V5.cell? ⟨w.heap.size, 0, none⟩ = some (.bool s1) ∧ V5.cell? ⟨w.heap.size, 1, none⟩ = some (.slice a1 n1 c1) ∧ V5.cell? ⟨W4.heap.size + 1, 0, none⟩ = some (.bool sr) ∧ V5.cell? ⟨W4.heap.size + 1, 1, none⟩ = some (.slice ar nr cr) ∧ V5.cell? ⟨W8.heap.size, 0, none⟩ = some (.bool ss) ∧ V5.cell? ⟨W8.heap.size, 1, none⟩ = some (.slice ay ny cy) ∧ V5.cell? ⟨W10.heap.size, 0, none⟩ = some (.bool so) ∧ V5.cell? ⟨W10.heap.size, 1, none⟩ = some (.slice ao no co) ∧ V5.cell? ⟨W10.heap.size + 1, 0, none⟩ = some (.bool s2) ∧ V5.cell? ⟨W10.heap.size + 1, 1, none⟩ = some (.slice a2 n2 c2) ∧ V5.cell? ⟨W12.heap.size, 0, none⟩ = some (.bool sr) ∧ V5.cell? ⟨W12.heap.size, 1, none⟩ = some (.slice ar nr cr) := ⟨D1.out.z0, D1.out.z1, Dr.out.z0, Dr.out.z1, Dy.out.z0, Dy.out.z1, Do.out.z0, Do.out.z1, Dt.out.z0, Dt.out.z1, Dz.out.z0, Dz.out.z1⟩; clear hb)
       go_wp2_with fail
       refine hK.out _ _ (by exact kS) (fun hH => ?_)
       clear hK K hH
       try simp only [Act.put, List.setIfInBounds_toArray, List.set_cons_zero, List.set_cons_succ]
       refine wpAnyH_take (i := 31) (oi := { dst := some 92, op := Op.binOp BinOp.lss 3 (Operand.tmp 91) (Operand.const (Value.int IntKind.i64 0)) 3, type := 4, pos := "law.go:112", after := #[{ on := 30, ground := Ground.data }, { on := 23, ground := Ground.guard }], guard := some (23, false) }) (v := ?_) rfl (by kernel_rfl) (by kernel_rfl) (by kernel_rfl) (fun _ _ _ h => h) (Or.inl ⟨by rfl, ?_⟩) (by exact kS) ?_
       rotate_left
       · intro w h; (try dsimp only at h); (go_simp <;> with_reducible rfl)
       try simp only [Act.put, List.setIfInBounds_toArray, List.set_cons_zero, List.set_cons_succ]
       refine wpAnyH_take (i := 32) (oi := { dst := some 93, op := Op.binOp BinOp.eql 4 (Operand.tmp 88) (Operand.tmp 92) 4, type := 4, pos := "law.go:112", after := #[{ on := 27, ground := Ground.data }, { on := 31, ground := Ground.data }, { on := 23, ground := Ground.guard }], guard := some (23, false) }) (v := ?_) rfl (by kernel_rfl) (by kernel_rfl) (by kernel_rfl) (fun _ _ _ h => h) (Or.inl ⟨by rfl, ?_⟩) (by exact kS) ?_
       rotate_left
       · intro w h; (try dsimp only at h); (go_simp <;> with_reducible rfl)
       try simp only [Act.put, List.setIfInBounds_toArray, List.set_cons_zero, List.set_cons_succ]
       refine wpAnyH_take (i := 33) (oi := { dst := some 94, op := Op.pick (Operand.tmp 84) (Operand.const (Value.bool true)) (Operand.tmp 93), type := 4, pos := "law.go:112", after := #[{ on := 23, ground := Ground.data }, { on := 32, ground := Ground.data }, { on := 18, ground := Ground.guard }], guard := some (18, true) }) (v := ?_) rfl (by kernel_rfl) (by kernel_rfl) (by kernel_rfl) (fun _ _ _ h => h) (Or.inl ⟨by rfl, ?_⟩) (by exact kS) ?_
       rotate_left
       · intro w h; (try dsimp only at h); (go_simp <;> with_reducible rfl)
       try simp only [Act.put, List.setIfInBounds_toArray, List.set_cons_zero, List.set_cons_succ]
       refine wpAnyH_take (i := 34) (oi := { dst := some 95, op := Op.pick (Operand.tmp 79) (Operand.tmp 94) (Operand.const (Value.bool false)), type := 4, pos := "law.go:112", after := #[{ on := 18, ground := Ground.data }, { on := 33, ground := Ground.data }], guard := none }) (v := ?_) rfl (by kernel_rfl) (by kernel_rfl) (by kernel_rfl) (fun _ _ _ h => h) (Or.inl ⟨by rfl, ?_⟩) (by exact kS) ?_
       rotate_left
       · intro w h; (try dsimp only at h); (go_simp <;> with_reducible rfl)
       try simp only [Act.put, List.setIfInBounds_toArray, List.set_cons_zero, List.set_cons_succ]
       refine wpAnyH_take (i := 35) (oi := { dst := some 96, op := Op.move (Operand.tmp 95), type := 4, pos := "law.go:112", after := #[{ on := 34, ground := Ground.data }, { on := 30, ground := Ground.chain }], guard := none }) (v := ?_) rfl (by kernel_rfl) (by kernel_rfl) (by kernel_rfl) (fun _ _ _ h => h) (Or.inl ⟨by rfl, ?_⟩) (by exact kS) ?_
       rotate_left
       · intro w h; (try dsimp only at h); (go_simp <;> with_reducible rfl)
       try simp only [Act.put, List.setIfInBounds_toArray, List.set_cons_zero, List.set_cons_succ]
       refine wpAnyH_ready (rs := [36]) (by kernel_rfl) (by simp) ?_
       refine AllReadyH.cons (o := { dst := some 97, op := Op.call { callee := Callee.value (Operand.func 10), args := #[], argTypes := #[] }, type := 4, pos := "law.go:112", after := #[{ on := 35, ground := Ground.chain }, { on := 35, ground := Ground.guard }], guard := some (35, true) }) rfl (fun K hK => ?_) AllReadyH.nil
       go_simp
       (refine (awake_any _).mono ?_; rintro e V6 ⟨rfl, hb⟩; have D1 : Hid (Box V6 (w.heap.size) (.bool s1) (.slice a1 n1 c1)) := D1.out.below hb D1.out.lt; have Dr : Hid (Box V6 (W4.heap.size + 1) (.bool sr) (.slice ar nr cr)) := Dr.out.below hb Dr.out.lt; have Dy : Hid (Box V6 (W8.heap.size) (.bool ss) (.slice ay ny cy)) := Dy.out.below hb Dy.out.lt; have Do : Hid (Box V6 (W10.heap.size) (.bool so) (.slice ao no co)) := Do.out.below hb Do.out.lt; have Dt : Hid (Box V6 (W10.heap.size + 1) (.bool s2) (.slice a2 n2 c2)) := Dt.out.below hb Dt.out.lt; have Dz : Hid (Box V6 (W12.heap.size) (.bool sr) (.slice ar nr cr)) := Dz.out.below hb Dz.out.lt; have Jy : Hid (Sl V6 ay ny cy ly) := Jy.out.below hb (Nat.le_refl _); have J1 : Hid (Sl V6 a1 n1 c1 l1) := J1.out.below hb (Nat.le_refl _); have Jr : Hid (Sl V6 ar nr cr lr) := Jr.out.below hb (Nat.le_refl _); have Jo : Hid (Sl V6 ao no co lo) := Jo.out.below hb (Nat.le_refl _); have J2 : Hid (Sl V6 a2 n2 c2 l2) := J2.out.below hb (Nat.le_refl _); have HBD : Hid (Below w.heap.size w V6) := HBD.out.trans (hb.mono HBD.out.size); clear kS; have kS : V6.cell? ⟨w.heap.size, 0, none⟩ = some (.bool s1) ∧ V6.cell? ⟨w.heap.size, 1, none⟩ = some (.slice a1 n1 c1) ∧ V6.cell? ⟨W4.heap.size + 1, 0, none⟩ = some (.bool sr) ∧ V6.cell? ⟨W4.heap.size + 1, 1, none⟩ = some (.slice ar nr cr) ∧ V6.cell? ⟨W8.heap.size, 0, none⟩ = some (.bool ss) ∧ V6.cell? ⟨W8.heap.size, 1, none⟩ = some (.slice ay ny cy) ∧ V6.cell? ⟨W10.heap.size, 0, none⟩ = some (.bool so) ∧ V6.cell? ⟨W10.heap.size, 1, none⟩ = some (.slice ao no co) ∧ V6.cell? ⟨W10.heap.size + 1, 0, none⟩ = some (.bool s2) ∧ V6.cell? ⟨W10.heap.size + 1, 1, none⟩ = some (.slice a2 n2 c2) ∧ V6.cell? ⟨W12.heap.size, 0, none⟩ = some (.bool sr) ∧ V6.cell? ⟨W12.heap.size, 1, none⟩ = some (.slice ar nr cr) := ⟨D1.out.z0, D1.out.z1, Dr.out.z0, Dr.out.z1, Dy.out.z0, Dy.out.z1, Do.out.z0, Do.out.z1, Dt.out.z0, Dt.out.z1, Dz.out.z0, Dz.out.z1⟩; clear hb)
       go_wp2_with fail
       refine hK.out _ _ (by exact kS) (fun hH => ?_)
       clear hK K hH
       try simp only [Act.put, List.setIfInBounds_toArray, List.set_cons_zero, List.set_cons_succ]
       refine wpAnyH_take (i := 37) (oi := { dst := some 98, op := Op.pick (Operand.tmp 96) (Operand.tmp 97) (Operand.const (Value.bool false)), type := 4, pos := "law.go:112", after := #[{ on := 35, ground := Ground.data }, { on := 36, ground := Ground.data }], guard := none }) (v := ?_) rfl (by kernel_rfl) (by kernel_rfl) (by kernel_rfl) (fun _ _ _ h => h) (Or.inl ⟨by rfl, ?_⟩) (by exact kS) ?_
       rotate_left
       · intro w h; (try dsimp only at h); (go_simp <;> with_reducible rfl)
       try simp only [Act.put, List.setIfInBounds_toArray, List.set_cons_zero, List.set_cons_succ]
       refine wpAnyH_take (i := 38) (oi := { dst := some 4, op := Op.assign (Operand.tmp 98), type := 4, pos := "law.go:112", after := #[{ on := 37, ground := Ground.data }, { on := 36, ground := Ground.chain }, { on := 0, ground := Ground.phase }, { on := 1, ground := Ground.phase }, { on := 2, ground := Ground.phase }, { on := 3, ground := Ground.phase }, { on := 4, ground := Ground.phase }, { on := 5, ground := Ground.phase }, { on := 6, ground := Ground.phase }, { on := 7, ground := Ground.phase }, { on := 8, ground := Ground.phase }, { on := 9, ground := Ground.phase }, { on := 10, ground := Ground.phase }, { on := 11, ground := Ground.phase }, { on := 12, ground := Ground.phase }, { on := 13, ground := Ground.phase }, { on := 14, ground := Ground.phase }, { on := 15, ground := Ground.phase }, { on := 16, ground := Ground.phase }, { on := 17, ground := Ground.phase }, { on := 18, ground := Ground.phase }, { on := 19, ground := Ground.phase }, { on := 20, ground := Ground.phase }, { on := 21, ground := Ground.phase }, { on := 22, ground := Ground.phase }, { on := 23, ground := Ground.phase }, { on := 24, ground := Ground.phase }, { on := 25, ground := Ground.phase }, { on := 26, ground := Ground.phase }, { on := 27, ground := Ground.phase }, { on := 28, ground := Ground.phase }, { on := 29, ground := Ground.phase }, { on := 30, ground := Ground.phase }, { on := 31, ground := Ground.phase }, { on := 32, ground := Ground.phase }, { on := 33, ground := Ground.phase }, { on := 34, ground := Ground.phase }, { on := 35, ground := Ground.phase }, { on := 36, ground := Ground.phase }, { on := 37, ground := Ground.phase }], guard := none }) (v := ?_) rfl (by kernel_rfl) (by kernel_rfl) (by kernel_rfl) (fun _ _ _ h => h) (Or.inl ⟨by rfl, ?_⟩) (by exact kS) ?_
       rotate_left
       · intro w h; (try dsimp only at h); (go_simp <;> with_reducible rfl)
       try simp only [Act.put, List.setIfInBounds_toArray, List.set_cons_zero, List.set_cons_succ]
       refine wpAnyH_done (by kernel_rfl) ?_ _
       go_wp2_with fail
       go_ret
       exact ⟨rfl, HBD.out⟩
 · have e1 : (eq != 0) = true := by simpa using e0
   go_wp2_with fail
   generalize hW : (World.alloc _ _) = W5
   obtain ⟨x1, x2, hb, hz⟩ := boxes2 W4 (.bool sq) (.slice aq nq cq) (.bool sr) (.slice ar nr cr) 24 24 0 hW
   have Xq : Hid (Box W5 (W4.heap.size) (.bool sq) (.slice aq nq cq)) := x1
   have Xr : Hid (Box W5 (W4.heap.size + 1) (.bool sr) (.slice ar nr cr)) := x2
   clear hW x1 x2 hz
   clear p10 p11 t1 p20 p21 t2
   have X1 : Hid (Box W5 (w.heap.size) (.bool s1) (.slice a1 n1 c1)) := X1.out.below hb X1.out.lt
   have X2 : Hid (Box W5 (w.heap.size + 1) (.bool s2) (.slice a2 n2 c2)) := X2.out.below hb X2.out.lt
   have H1 : Hid (Sl W5 a1 n1 c1 l1) := H1.out.below hb (Nat.le_refl _)
   have H2 : Hid (Sl W5 a2 n2 c2 l2) := H2.out.below hb (Nat.le_refl _)
   have Hq : Hid (Sl W5 aq nq cq lq) := Hq.out.below hb (Nat.le_refl _)
   have Hr : Hid (Sl W5 ar nr cr lr) := Hr.out.below hb (Nat.le_refl _)
   have HB : Hid (Below w.heap.size w W5) := HB.out.trans (hb.mono HB.out.size)
   clear hb
   have p10 := X1.out.z0
   have p11 := X1.out.z1
   have t1 := X1.out.lt
   have p20 := X2.out.z0
   have p21 := X2.out.z1
   have t2 := X2.out.lt
   have pq0 := Xq.out.z0
   have pq1 := Xq.out.z1
   have tq := Xq.out.lt
   have pr0 := Xr.out.z0
   have pr1 := Xr.out.z1
   have tr := Xr.out.lt
   refine (awake_any _).mono ?_
   rintro e W6 ⟨rfl, hb⟩
   clear p10 p11 t1 p20 p21 t2 pq0 pq1 tq pr0 pr1 tr
   have X1 : Hid (Box W6 (w.heap.size) (.bool s1) (.slice a1 n1 c1)) := X1.out.below hb X1.out.lt
   have X2 : Hid (Box W6 (w.heap.size + 1) (.bool s2) (.slice a2 n2 c2)) := X2.out.below hb X2.out.lt
   have Xq : Hid (Box W6 (W4.heap.size) (.bool sq) (.slice aq nq cq)) := Xq.out.below hb Xq.out.lt
   have Xr : Hid (Box W6 (W4.heap.size + 1) (.bool sr) (.slice ar nr cr)) := Xr.out.below hb Xr.out.lt
   have H1 : Hid (Sl W6 a1 n1 c1 l1) := H1.out.below hb (Nat.le_refl _)
   have H2 : Hid (Sl W6 a2 n2 c2 l2) := H2.out.below hb (Nat.le_refl _)
   have Hq : Hid (Sl W6 aq nq cq lq) := Hq.out.below hb (Nat.le_refl _)
   have Hr : Hid (Sl W6 ar nr cr lr) := Hr.out.below hb (Nat.le_refl _)
   have HB : Hid (Below w.heap.size w W6) := HB.out.trans (hb.mono HB.out.size)
   clear hb
   have p10 := X1.out.z0
   have p11 := X1.out.z1
   have t1 := X1.out.lt
   have p20 := X2.out.z0
   have p21 := X2.out.z1
   have t2 := X2.out.lt
   have pq0 := Xq.out.z0
   have pq1 := Xq.out.z1
   have tq := Xq.out.lt
   have pr0 := Xr.out.z0
   have pr1 := Xr.out.z1
   have tr := Xr.out.lt
   go_wp2_with fail
   go_ret
   exact ⟨rfl, HB.out⟩
theorem back_any (s1 s2 : Bool) (a1 a2 : Option Addr) (n1 n2 c1 c2 : Nat) (l1 l2 : List Nat) (w : World) (h1 : Sl w a1 n1 c1 l1) (h2 : Sl w a2 n2 c2 l2) :
    Calls Tryd.prog 8 #[.agg #[.bool s1, .slice a1 n1 c1], .agg #[.bool s2, .slice a2 n2 c2]] w fun e w' => e = .returned (.bool true) ∧ Below w.heap.size w w' := by
  by_cases b1 : 40 < n1
  · exact back_out1 s1 s2 a1 a2 n1 n2 c1 c2 l1 l2 w h1 h2 b1
  by_cases b2 : 40 < n2
  · exact back_out2 s1 s2 a1 a2 n1 n2 c1 c2 l1 l2 w h1 h2 (by omega)
  exact back_in s1 s2 a1 a2 n1 n2 c1 c2 l1 l2 w h1 h2 (by omega) (by omega)
end Go.Proofs.YtimjafgaadafdaaDoor
