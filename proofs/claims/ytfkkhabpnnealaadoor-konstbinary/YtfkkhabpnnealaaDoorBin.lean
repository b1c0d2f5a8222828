/-
  KonstBinary: for all constants the law answers true.
-/
import Derived.Test.YtfkkhabpnnealaaDoorKpG
import Derived.Test.YtfkkhabpnnealaaDoorKpF
namespace Go.Proofs.YtfkkhabpnnealaaDoor
open Go.RowKit
attribute [local go_sem ↓] Go.wp_at_zero Go.wp_at_succ
set_option maxRecDepth 100000 in
set_option maxHeartbeats 8000000 in
/-- two constants that are answered and read the same are alike -/
theorem consts_any {w : World} {B1 B2 : Nat} {v1 v2 : Value} {k : Int} {s : Bool} {N : Nat} {t : ByteArray} {b : Bool} (h1 : CnR w B1 v1 k s N t b) (h2 : CnR w B2 v2 k s N t b) :
    Calls Tryd.prog 11 #[v1, v2] w fun e w' => e = .returned (.bool true) ∧ Below w.heap.size w w' := by
  obtain ⟨a1, n1, c1, rfl, i1⟩ := h1.ex
  obtain ⟨a2, n2, c2, rfl, i2⟩ := h2.ex
  have HW : Hid (∀ W, Below w.heap.size w W → Calls Tryd.prog 32 #[.agg #[.bool s, .slice a1 n1 c1], .agg #[.bool s, .slice a2 n2 c2]] W fun e w' => e = .returned (.bool true) ∧ Below W.heap.size W w') := fun W hb => whole_any (i1.below hb (Nat.le_refl _)) (i2.below hb (Nat.le_refl _))
  clear h1 h2 i1 i2
  have z1 : (k == k) = true := by simp
  have z2 : (t.toList == t.toList) = true := by simp
  have z3 : (b == b) = true := by simp
  go_enter Tryd.func11, Tryd.ntmps11
  go_wp2_with (go_at_call 32; refine (HW.out _ (two_below _ _ _)).mono ?_; rintro e x1 ⟨rfl, hb⟩; have HB : Hid (Below w.heap.size w x1) := (two_below _ _ _).trans (hb.mono (two_below _ _ _).size); clear hb)
  go_ret
  exact ⟨rfl, HB.out⟩
set_option maxRecDepth 100000 in
set_option maxHeartbeats 8000000 in
theorem binary_any (op : ByteArray) (k1 k2 : Int) (s1 s2 : Bool) (a1 a2 : Option Addr) (n1 n2 c1 c2 : Nat) (l1 l2 : List Nat) (t1 t2 : ByteArray) (b1 b2 : Bool) (w : World) (S1 : Sl w a1 n1 c1 l1) (S2 : Sl w a2 n2 c2 l2) (g1 : a1 = none → c1 = 0) (g2 : a2 = none → c2 = 0) (ho : op.size ≤ 9223372036854775807) (z1 : t1.size ≤ 9223372036854775807) (z2 : t2.size ≤ 9223372036854775807) :
    Calls Tryd.prog 3 #[.string op, cnV k1 s1 a1 n1 c1 t1 b1, cnV k2 s2 a2 n2 c2 t2 b2] w fun e w' => e = .returned (.bool true) ∧ Below w.heap.size w w' := by
  have m1 := S1.mx
  have m2 := S2.mx
  have q1 := S1.lec
  have q2 := S2.lec
  have HH : Hid (Sl w a1 n1 c1 l1 ∧ Sl w a2 n2 c2 l2 ∧ (a1 = none → c1 = 0) ∧ (a2 = none → c2 = 0)) := ⟨S1, S2, g1, g2⟩
  have HI1 : Hid (∀ W U, decide (n1 ≤ 20 ∧ t1.size ≤ 300 ∧ (k1 = 1 ∨ k1 = 2 ∨ k1 = 3)) = U → Calls Tryd.prog 7 #[cnV k1 s1 a1 n1 c1 t1 b1] W fun e w' => e = .returned (.bool U) ∧ Below W.heap.size W w') := fun W U hU => hU ▸ in_any k1 s1 a1 n1 c1 t1 b1 W (by omega) z1
  have HI2 : Hid (∀ W U, decide (n2 ≤ 20 ∧ t2.size ≤ 300 ∧ (k2 = 1 ∨ k2 = 2 ∨ k2 = 3)) = U → Calls Tryd.prog 7 #[cnV k2 s2 a2 n2 c2 t2 b2] W fun e w' => e = .returned (.bool U) ∧ Below W.heap.size W w') := fun W U hU => hU ▸ in_any k2 s2 a2 n2 c2 t2 b2 W (by omega) z2
  have HB2 : Hid (Below w.heap.size w ((w.alloc (.cells #[.int .i64 k1, .bool s1, .slice a1 n1 c1, .string t1, .bool b1] 26)).alloc (.cells #[.int .i64 k2, .bool s2, .slice a2 n2 c2, .string t2, .bool b2] 26))) := two_below w _ _
  have HA2 : Hid (((w.alloc (.cells #[.int .i64 k1, .bool s1, .slice a1 n1 c1, .string t1, .bool b1] 26)).alloc (.cells #[.int .i64 k2, .bool s2, .slice a2 n2 c2, .string t2, .bool b2] 26)).heap[w.heap.size]? = some (.cells #[.int .i64 k1, .bool s1, .slice a1 n1 c1, .string t1, .bool b1] 26 (0, 0)) ∧ ((w.alloc (.cells #[.int .i64 k1, .bool s1, .slice a1 n1 c1, .string t1, .bool b1] 26)).alloc (.cells #[.int .i64 k2, .bool s2, .slice a2 n2 c2, .string t2, .bool b2] 26)).heap[w.heap.size + 1]? = some (.cells #[.int .i64 k2, .bool s2, .slice a2 n2 c2, .string t2, .bool b2] 26 (0, 0))) := ⟨kept5 ((Below.refl _ _).alloc (Nat.le_refl _) _) (new_blk w _), two_new _ _⟩
  clear S1 S2 g1 g2 m1 m2 q1 q2 z1 z2
  cases d1 : decide (n1 ≤ 20 ∧ t1.size ≤ 300 ∧ (k1 = 1 ∨ k1 = 2 ∨ k1 = 3))
  · have D1 : Hid (decide (n1 ≤ 20 ∧ t1.size ≤ 300 ∧ (k1 = 1 ∨ k1 = 2 ∨ k1 = 3)) = false) := d1
    clear d1
    go_enter Tryd.func3, Tryd.ntmps3
    go_wp2_with fail
    refine (HI1.out _ false D1.out).mono ?_
    rintro e x1 ⟨rfl, hb⟩
    have HB : Hid (Below w.heap.size w x1) := HB2.out.trans (hb.mono HB2.out.size)
    clear hb
    go_wp2_with fail
    refine (awake_any _).mono ?_
    rintro e x2 ⟨rfl, hb⟩
    have HBZ : Hid (Below w.heap.size w x2) := HB.out.trans (hb.mono HB.out.size)
    clear hb
    go_wp2_with fail
    go_ret
    exact ⟨rfl, HBZ.out⟩
  have D1 : Hid (decide (n1 ≤ 20 ∧ t1.size ≤ 300 ∧ (k1 = 1 ∨ k1 = 2 ∨ k1 = 3)) = true) := d1
  clear d1
  cases d2 : decide (n2 ≤ 20 ∧ t2.size ≤ 300 ∧ (k2 = 1 ∨ k2 = 2 ∨ k2 = 3))
  · have D2 : Hid (decide (n2 ≤ 20 ∧ t2.size ≤ 300 ∧ (k2 = 1 ∨ k2 = 2 ∨ k2 = 3)) = false) := d2
    clear d2
    go_enter Tryd.func3, Tryd.ntmps3
    go_wp2_with fail
    refine (HI1.out _ true D1.out).mono ?_
    rintro e x1 ⟨rfl, hb⟩
    have HBA : Hid (Below w.heap.size w x1) := HB2.out.trans (hb.mono HB2.out.size)
    have H0A : Hid (x1.heap[w.heap.size]? = some (.cells #[.int .i64 k1, .bool s1, .slice a1 n1 c1, .string t1, .bool b1] 26 (0, 0))) := kept5 hb HA2.out.1
    have H1A : Hid (x1.heap[w.heap.size + 1]? = some (.cells #[.int .i64 k2, .bool s2, .slice a2 n2 c2, .string t2, .bool b2] 26 (0, 0))) := kept5 hb HA2.out.2
    clear hb
    have c5 := bx5 H1A.out
    go_wp2_with fail
    refine (HI2.out _ false D2.out).mono ?_
    rintro e x2 ⟨rfl, hb⟩
    have HBB : Hid (Below w.heap.size w x2) := HBA.out.trans (hb.mono HBA.out.size)
    have H0B : Hid (x2.heap[w.heap.size]? = some (.cells #[.int .i64 k1, .bool s1, .slice a1 n1 c1, .string t1, .bool b1] 26 (0, 0))) := kept5 hb H0A.out
    have H1B : Hid (x2.heap[w.heap.size + 1]? = some (.cells #[.int .i64 k2, .bool s2, .slice a2 n2 c2, .string t2, .bool b2] 26 (0, 0))) := kept5 hb H1A.out
    clear hb c5
    have a5 := bx5 H0B.out
    have c5 := bx5 H1B.out
    go_wp2_with fail
    refine (awake_any _).mono ?_
    rintro e x3 ⟨rfl, hb⟩
    have HBZ : Hid (Below w.heap.size w x3) := HBB.out.trans (hb.mono HBB.out.size)
    clear hb
    go_wp2_with fail
    go_ret
    exact ⟨rfl, HBZ.out⟩
  have D2 : Hid (decide (n2 ≤ 20 ∧ t2.size ≤ 300 ∧ (k2 = 1 ∨ k2 = 2 ∨ k2 = 3)) = true) := d2
  clear d2
  by_cases h20 : 20 < op.size
  · have q20 : (20 : Int) < (op.size : Int) := by omega
    go_enter Tryd.func3, Tryd.ntmps3
    go_wp2_with fail
    refine (HI1.out _ true D1.out).mono ?_
    rintro e x1 ⟨rfl, hb⟩
    have HBA : Hid (Below w.heap.size w x1) := HB2.out.trans (hb.mono HB2.out.size)
    have H0A : Hid (x1.heap[w.heap.size]? = some (.cells #[.int .i64 k1, .bool s1, .slice a1 n1 c1, .string t1, .bool b1] 26 (0, 0))) := kept5 hb HA2.out.1
    have H1A : Hid (x1.heap[w.heap.size + 1]? = some (.cells #[.int .i64 k2, .bool s2, .slice a2 n2 c2, .string t2, .bool b2] 26 (0, 0))) := kept5 hb HA2.out.2
    clear hb
    have c5 := bx5 H1A.out
    go_wp2_with fail
    refine (HI2.out _ true D2.out).mono ?_
    rintro e x2 ⟨rfl, hb⟩
    have HBB : Hid (Below w.heap.size w x2) := HBA.out.trans (hb.mono HBA.out.size)
    have H0B : Hid (x2.heap[w.heap.size]? = some (.cells #[.int .i64 k1, .bool s1, .slice a1 n1 c1, .string t1, .bool b1] 26 (0, 0))) := kept5 hb H0A.out
    have H1B : Hid (x2.heap[w.heap.size + 1]? = some (.cells #[.int .i64 k2, .bool s2, .slice a2 n2 c2, .string t2, .bool b2] 26 (0, 0))) := kept5 hb H1A.out
    clear hb c5
    have a5 := bx5 H0B.out
    have c5 := bx5 H1B.out
    go_wp2_with fail
    refine (awake_any _).mono ?_
    rintro e x3 ⟨rfl, hb⟩
    have HBZ : Hid (Below w.heap.size w x3) := HBB.out.trans (hb.mono HBB.out.size)
    clear hb
    go_wp2_with fail
    go_ret
    exact ⟨rfl, HBZ.out⟩
  have q20 : ¬ (20 : Int) < (op.size : Int) := by omega
  obtain ⟨p1, p2, p3⟩ := of_decide_eq_true D1.out
  obtain ⟨r1, r2, r3⟩ := of_decide_eq_true D2.out
  obtain ⟨U, hU⟩ : ∃ U, bnK op k1 s1 (vl 4294967296 l1) t1 b1 k2 s2 (vl 4294967296 l2) t2 b2 = U := ⟨_, rfl⟩
  have HK : Hid (∀ W, Below w.heap.size w W → Calls Tryd.prog 9 #[.string op, cnV k1 s1 a1 n1 c1 t1 b1, cnV k2 s2 a2 n2 c2 t2 b2] W (AnsQ W U)) := fun W hb => hU ▸ kbin_any op k1 k2 s1 s2 a1 n1 c1 l1 a2 n2 c2 l2 t1 t2 b1 b2 W (HH.out.1.below hb (Nat.le_refl _)) (HH.out.2.1.below hb (Nat.le_refl _)) (by omega) (by omega) (by omega) (by omega)
  have HR : Hid (∀ W, Below w.heap.size w W → Calls Tryd.prog 10 #[.string op, cnV k1 s1 a1 n1 c1 t1 b1, cnV k2 s2 a2 n2 c2 t2 b2] W (AnsQ W U)) := fun W hb => hU ▸ rbin_any op k1 k2 p3 s1 s2 a1 n1 c1 l1 a2 n2 c2 l2 t1 t2 b1 b2 W (HH.out.1.below hb (Nat.le_refl _)) (HH.out.2.1.below hb (Nat.le_refl _)) HH.out.2.2.1 HH.out.2.2.2 (by omega) (by omega) (by omega)
  clear p1 p2 p3 r1 r2 r3 h20 HH hU
  go_enter Tryd.func3, Tryd.ntmps3
  go_wp2_with fail
  refine (HI1.out _ true D1.out).mono ?_
  rintro e x1 ⟨rfl, hb⟩
  have HBA : Hid (Below w.heap.size w x1) := HB2.out.trans (hb.mono HB2.out.size)
  have H0A : Hid (x1.heap[w.heap.size]? = some (.cells #[.int .i64 k1, .bool s1, .slice a1 n1 c1, .string t1, .bool b1] 26 (0, 0))) := kept5 hb HA2.out.1
  have H1A : Hid (x1.heap[w.heap.size + 1]? = some (.cells #[.int .i64 k2, .bool s2, .slice a2 n2 c2, .string t2, .bool b2] 26 (0, 0))) := kept5 hb HA2.out.2
  clear hb
  have c5 := bx5 H1A.out
  go_wp2_with fail
  refine (HI2.out _ true D2.out).mono ?_
  rintro e x2 ⟨rfl, hb⟩
  have HBB : Hid (Below w.heap.size w x2) := HBA.out.trans (hb.mono HBA.out.size)
  have H0B : Hid (x2.heap[w.heap.size]? = some (.cells #[.int .i64 k1, .bool s1, .slice a1 n1 c1, .string t1, .bool b1] 26 (0, 0))) := kept5 hb H0A.out
  have H1B : Hid (x2.heap[w.heap.size + 1]? = some (.cells #[.int .i64 k2, .bool s2, .slice a2 n2 c2, .string t2, .bool b2] 26 (0, 0))) := kept5 hb H1A.out
  clear hb c5
  have a5 := bx5 H0B.out
  have c5 := bx5 H1B.out
  go_wp2_with fail
  refine (HK.out _ HBB.out).mono ?_
  rintro e x3 ⟨⟨v, rfl, aq, nq, cq, rfl, hi⟩, hb⟩
  have H0C : Hid (x3.heap[w.heap.size]? = some (.cells #[.int .i64 k1, .bool s1, .slice a1 n1 c1, .string t1, .bool b1] 26 (0, 0))) := kept5 hb H0B.out
  have H1C : Hid (x3.heap[w.heap.size + 1]? = some (.cells #[.int .i64 k2, .bool s2, .slice a2 n2 c2, .string t2, .bool b2] 26 (0, 0))) := kept5 hb H1B.out
  have HBC : Hid (Below w.heap.size w x3) := HBB.out.trans (hb.mono HBB.out.size)
  have HIC : Hid (IntR x3 x2.heap.size (.agg #[.bool U.s, .slice aq nq cq]) U.s U.N) := hi
  clear hb hi a5 c5
  have hq := (Below.refl x3.heap.size x3).alloc (Nat.le_refl _) (.cells #[.int .i64 U.k, .bool U.s, .slice aq nq cq, .string U.t, .bool U.b] 26)
  have H0D : Hid ((x3.alloc (.cells #[.int .i64 U.k, .bool U.s, .slice aq nq cq, .string U.t, .bool U.b] 26)).heap[w.heap.size]? = some (.cells #[.int .i64 k1, .bool s1, .slice a1 n1 c1, .string t1, .bool b1] 26 (0, 0))) := kept5 hq H0C.out
  have H1D : Hid ((x3.alloc (.cells #[.int .i64 U.k, .bool U.s, .slice aq nq cq, .string U.t, .bool U.b] 26)).heap[w.heap.size + 1]? = some (.cells #[.int .i64 k2, .bool s2, .slice a2 n2 c2, .string t2, .bool b2] 26 (0, 0))) := kept5 hq H1C.out
  have HXD : Hid ((x3.alloc (.cells #[.int .i64 U.k, .bool U.s, .slice aq nq cq, .string U.t, .bool U.b] 26)).heap[x3.heap.size]? = some (.cells #[.int .i64 U.k, .bool U.s, .slice aq nq cq, .string U.t, .bool U.b] 26 (0, 0))) := new_blk x3 _
  have HBD : Hid (Below w.heap.size w (x3.alloc (.cells #[.int .i64 U.k, .bool U.s, .slice aq nq cq, .string U.t, .bool U.b] 26))) := HBC.out.trans (hq.mono HBC.out.size)
  have HID : Hid (IntR (x3.alloc (.cells #[.int .i64 U.k, .bool U.s, .slice aq nq cq, .string U.t, .bool U.b] 26)) x2.heap.size (.agg #[.bool U.s, .slice aq nq cq]) U.s U.N) := HIC.out.below hq (Nat.le_refl _)
  clear hq H0C H1C HBC HIC
  have a5 := bx5 H0D.out
  have c5 := bx5 H1D.out
  go_wp2_with fail
  refine (HR.out _ HBD.out).mono ?_
  rintro e x4 ⟨⟨v, rfl, ar, nr, cr, rfl, hi⟩, hb⟩
  have HXE : Hid (x4.heap[x3.heap.size]? = some (.cells #[.int .i64 U.k, .bool U.s, .slice aq nq cq, .string U.t, .bool U.b] 26 (0, 0))) := kept5 hb HXD.out
  have HBE : Hid (Below w.heap.size w x4) := HBD.out.trans (hb.mono HBD.out.size)
  have HIE : Hid (IntR x4 x2.heap.size (.agg #[.bool U.s, .slice aq nq cq]) U.s U.N) := HID.out.below hb (Nat.le_refl _)
  have HIF : Hid (IntR x4 0 (.agg #[.bool U.s, .slice ar nr cr]) U.s U.N) := hi.mono (Nat.zero_le _)
  clear hb hi a5 c5
  have hq := (Below.refl x4.heap.size x4).alloc (Nat.le_refl _) (.cells #[.int .i64 U.k, .bool U.s, .slice ar nr cr, .string U.t, .bool U.b] 26)
  have HXG : Hid ((x4.alloc (.cells #[.int .i64 U.k, .bool U.s, .slice ar nr cr, .string U.t, .bool U.b] 26)).heap[x3.heap.size]? = some (.cells #[.int .i64 U.k, .bool U.s, .slice aq nq cq, .string U.t, .bool U.b] 26 (0, 0))) := kept5 hq HXE.out
  have HBG : Hid (Below w.heap.size w (x4.alloc (.cells #[.int .i64 U.k, .bool U.s, .slice ar nr cr, .string U.t, .bool U.b] 26))) := HBE.out.trans (hq.mono HBE.out.size)
  have HIG : Hid (IntR (x4.alloc (.cells #[.int .i64 U.k, .bool U.s, .slice ar nr cr, .string U.t, .bool U.b] 26)) x2.heap.size (.agg #[.bool U.s, .slice aq nq cq]) U.s U.N) := HIE.out.below hq (Nat.le_refl _)
  have HJG : Hid (IntR (x4.alloc (.cells #[.int .i64 U.k, .bool U.s, .slice ar nr cr, .string U.t, .bool U.b] 26)) 0 (.agg #[.bool U.s, .slice ar nr cr]) U.s U.N) := HIF.out.below hq (Nat.le_refl _)
  clear hq HXE HBE HIE HIF
  have a5 := bx5 HXG.out
  go_wp2_with fail
  refine (consts_any (k := U.k) (s := U.s) (N := U.N) (t := U.t) (b := U.b) (B1 := x2.heap.size) (B2 := 0) ⟨aq, nq, cq, rfl, HIG.out⟩ ⟨ar, nr, cr, rfl, HJG.out⟩).mono ?_
  rintro e x5 ⟨rfl, hb⟩
  have HBH : Hid (Below w.heap.size w x5) := HBG.out.trans (hb.mono HBG.out.size)
  clear hb
  have ze : (U.e == U.e) = true := by simp
  go_wp2_with fail
  refine (awake_any _).mono ?_
  rintro e x6 ⟨rfl, hb⟩
  have HBZ : Hid (Below w.heap.size w x6) := HBH.out.trans (hb.mono HBH.out.size)
  clear hb
  go_wp2_with fail
  go_ret
  exact ⟨rfl, HBZ.out⟩
end Go.Proofs.YtfkkhabpnnealaaDoor

