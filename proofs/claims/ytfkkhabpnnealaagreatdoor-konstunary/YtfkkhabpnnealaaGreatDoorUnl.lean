/-
  KonstUnary: for all constants, ints and texts the law answers true.
-/
import Derived.Test.YtfkkhabpnnealaaGreatDoorKqA
import Derived.Test.YtfkkhabpnnealaaGreatDoorKqB
import Derived.Test.YtfkkhabpnnealaaGreatDoorKqC
import Derived.Test.YtfkkhabpnnealaaGreatDoorKonC
import Derived.Deep.RegionHeld3
namespace Go.Proofs.YtfkkhabpnnealaaGreatDoor
open Go.RowKit
attribute [local go_sem ↓] Go.wp_at_zero Go.wp_at_succ
theorem CnR.below {w w' : World} {base : Nat} {v : Value} {k : Int} {s : Bool} {N : Nat} {t : ByteArray} {b : Bool} (h : CnR w base v k s N t b) {B : Nat} (hb : Below B w w') (hB : w.heap.size ≤ B) : CnR w' base v k s N t b := by
  obtain ⟨ao, n, cap, e, hi⟩ := h.ex
  exact ⟨ao, n, cap, e, hi.below hb hB⟩
set_option maxRecDepth 100000 in
set_option maxHeartbeats 16000000 in
theorem unl_o1 (op : ByteArray) (k1 k2 : Int) (s1 s2 : Bool) (a1 a2 : Option Addr) (n1 n2 c1 c2 : Nat) (t1 t2 : ByteArray) (b1 b2 : Bool) (m : Int) (t : ByteArray) (w : World) (hi1 : ∀ W, Calls Tryz.prog 4 #[cnV k1 s1 a1 n1 c1 t1 b1] W fun e w' => e = .returned (.bool false) ∧ Below W.heap.size W w') :
    Calls Tryz.prog 3 #[.string op, cnV k1 s1 a1 n1 c1 t1 b1, cnV k2 s2 a2 n2 c2 t2 b2, .int .i64 m, .string t] w fun e w' => e = .returned (.bool true) ∧ Below w.heap.size w w' := by
  have HI1 : Hid (∀ W, Calls Tryz.prog 4 #[cnV k1 s1 a1 n1 c1 t1 b1] W fun e w' => e = .returned (.bool false) ∧ Below W.heap.size W w') := hi1
  have HB2 : Hid (Below w.heap.size w ((w.alloc (.cells #[.int .i64 k1, .bool s1, .slice a1 n1 c1, .string t1, .bool b1] 26)).alloc (.cells #[.int .i64 k2, .bool s2, .slice a2 n2 c2, .string t2, .bool b2] 26))) := two_below w _ _
  have HA2 : Hid (((w.alloc (.cells #[.int .i64 k1, .bool s1, .slice a1 n1 c1, .string t1, .bool b1] 26)).alloc (.cells #[.int .i64 k2, .bool s2, .slice a2 n2 c2, .string t2, .bool b2] 26)).heap[w.heap.size]? = some (.cells #[.int .i64 k1, .bool s1, .slice a1 n1 c1, .string t1, .bool b1] 26 (0, 0)) ∧ ((w.alloc (.cells #[.int .i64 k1, .bool s1, .slice a1 n1 c1, .string t1, .bool b1] 26)).alloc (.cells #[.int .i64 k2, .bool s2, .slice a2 n2 c2, .string t2, .bool b2] 26)).heap[w.heap.size + 1]? = some (.cells #[.int .i64 k2, .bool s2, .slice a2 n2 c2, .string t2, .bool b2] 26 (0, 0))) := ⟨kept5 ((Below.refl _ _).alloc (Nat.le_refl _) _) (new_blk w _), two_new _ _⟩
  clear hi1
  go_enter Tryz.func3, Tryz.ntmps3
  go_wp2_with fail
  refine (HI1.out _).mono ?_
  rintro e x1 ⟨rfl, hb⟩
  have HBA : Hid (Below w.heap.size w x1) := HB2.out.trans (hb.mono HB2.out.size)
  clear hb HA2
  go_wp2_with fail
  refine (awake_any _).mono ?_
  rintro e x9 ⟨rfl, hb⟩
  have HBZ : Hid (Below w.heap.size w x9) := HBA.out.trans (hb.mono HBA.out.size)
  clear hb
  go_wp2_with fail
  go_ret
  exact ⟨rfl, HBZ.out⟩
set_option maxRecDepth 100000 in
set_option maxHeartbeats 16000000 in
theorem unl_o2 (op : ByteArray) (k1 k2 : Int) (s1 s2 : Bool) (a1 a2 : Option Addr) (n1 n2 c1 c2 : Nat) (t1 t2 : ByteArray) (b1 b2 : Bool) (m : Int) (t : ByteArray) (w : World) (hi1 : ∀ W, Calls Tryz.prog 4 #[cnV k1 s1 a1 n1 c1 t1 b1] W fun e w' => e = .returned (.bool true) ∧ Below W.heap.size W w') (hi2 : ∀ W, Calls Tryz.prog 4 #[cnV k2 s2 a2 n2 c2 t2 b2] W fun e w' => e = .returned (.bool false) ∧ Below W.heap.size W w') :
    Calls Tryz.prog 3 #[.string op, cnV k1 s1 a1 n1 c1 t1 b1, cnV k2 s2 a2 n2 c2 t2 b2, .int .i64 m, .string t] w fun e w' => e = .returned (.bool true) ∧ Below w.heap.size w w' := by
  have HI1 : Hid (∀ W, Calls Tryz.prog 4 #[cnV k1 s1 a1 n1 c1 t1 b1] W fun e w' => e = .returned (.bool true) ∧ Below W.heap.size W w') := hi1
  have HI2 : Hid (∀ W, Calls Tryz.prog 4 #[cnV k2 s2 a2 n2 c2 t2 b2] W fun e w' => e = .returned (.bool false) ∧ Below W.heap.size W w') := hi2
  have HB2 : Hid (Below w.heap.size w ((w.alloc (.cells #[.int .i64 k1, .bool s1, .slice a1 n1 c1, .string t1, .bool b1] 26)).alloc (.cells #[.int .i64 k2, .bool s2, .slice a2 n2 c2, .string t2, .bool b2] 26))) := two_below w _ _
  have HA2 : Hid (((w.alloc (.cells #[.int .i64 k1, .bool s1, .slice a1 n1 c1, .string t1, .bool b1] 26)).alloc (.cells #[.int .i64 k2, .bool s2, .slice a2 n2 c2, .string t2, .bool b2] 26)).heap[w.heap.size]? = some (.cells #[.int .i64 k1, .bool s1, .slice a1 n1 c1, .string t1, .bool b1] 26 (0, 0)) ∧ ((w.alloc (.cells #[.int .i64 k1, .bool s1, .slice a1 n1 c1, .string t1, .bool b1] 26)).alloc (.cells #[.int .i64 k2, .bool s2, .slice a2 n2 c2, .string t2, .bool b2] 26)).heap[w.heap.size + 1]? = some (.cells #[.int .i64 k2, .bool s2, .slice a2 n2 c2, .string t2, .bool b2] 26 (0, 0))) := ⟨kept5 ((Below.refl _ _).alloc (Nat.le_refl _) _) (new_blk w _), two_new _ _⟩
  clear hi1 hi2
  go_enter Tryz.func3, Tryz.ntmps3
  go_wp2_with fail
  refine (HI1.out _).mono ?_
  rintro e x1 ⟨rfl, hb⟩
  have HBA : Hid (Below w.heap.size w x1) := HB2.out.trans (hb.mono HB2.out.size)
  have H0A : Hid (x1.heap[w.heap.size]? = some (.cells #[.int .i64 k1, .bool s1, .slice a1 n1 c1, .string t1, .bool b1] 26 (0, 0))) := kept5 hb HA2.out.1
  have H1A : Hid (x1.heap[w.heap.size + 1]? = some (.cells #[.int .i64 k2, .bool s2, .slice a2 n2 c2, .string t2, .bool b2] 26 (0, 0))) := kept5 hb HA2.out.2
  clear hb
  have c5 := bx5 H1A.out
  go_wp2_with fail
  refine (HI2.out _).mono ?_
  rintro e x2 ⟨rfl, hb⟩
  have HBB : Hid (Below w.heap.size w x2) := HBA.out.trans (hb.mono HBA.out.size)
  have H0B : Hid (x2.heap[w.heap.size]? = some (.cells #[.int .i64 k1, .bool s1, .slice a1 n1 c1, .string t1, .bool b1] 26 (0, 0))) := kept5 hb H0A.out
  have H1B : Hid (x2.heap[w.heap.size + 1]? = some (.cells #[.int .i64 k2, .bool s2, .slice a2 n2 c2, .string t2, .bool b2] 26 (0, 0))) := kept5 hb H1A.out
  clear hb c5 HBA H0A H1A
  have a5 := bx5 H0B.out
  have c5 := bx5 H1B.out
  go_wp2_with fail
  refine (awake_any _).mono ?_
  rintro e x9 ⟨rfl, hb⟩
  have HBZ : Hid (Below w.heap.size w x9) := HBB.out.trans (hb.mono HBB.out.size)
  clear hb
  go_wp2_with fail
  go_ret
  exact ⟨rfl, HBZ.out⟩
set_option maxRecDepth 100000 in
set_option maxHeartbeats 16000000 in
theorem unl_o3 (op : ByteArray) (k1 k2 : Int) (s1 s2 : Bool) (a1 a2 : Option Addr) (n1 n2 c1 c2 : Nat) (t1 t2 : ByteArray) (b1 b2 : Bool) (m : Int) (t : ByteArray) (w : World) (hi1 : ∀ W, Calls Tryz.prog 4 #[cnV k1 s1 a1 n1 c1 t1 b1] W fun e w' => e = .returned (.bool true) ∧ Below W.heap.size W w') (hi2 : ∀ W, Calls Tryz.prog 4 #[cnV k2 s2 a2 n2 c2 t2 b2] W fun e w' => e = .returned (.bool true) ∧ Below W.heap.size W w') (h : 20 < op.size) (ho : op.size ≤ 9223372036854775807) :
    Calls Tryz.prog 3 #[.string op, cnV k1 s1 a1 n1 c1 t1 b1, cnV k2 s2 a2 n2 c2 t2 b2, .int .i64 m, .string t] w fun e w' => e = .returned (.bool true) ∧ Below w.heap.size w w' := by
  have q20 : (20 : Int) < (op.size : Int) := by omega
  have HI1 : Hid (∀ W, Calls Tryz.prog 4 #[cnV k1 s1 a1 n1 c1 t1 b1] W fun e w' => e = .returned (.bool true) ∧ Below W.heap.size W w') := hi1
  have HI2 : Hid (∀ W, Calls Tryz.prog 4 #[cnV k2 s2 a2 n2 c2 t2 b2] W fun e w' => e = .returned (.bool true) ∧ Below W.heap.size W w') := hi2
  have HB2 : Hid (Below w.heap.size w ((w.alloc (.cells #[.int .i64 k1, .bool s1, .slice a1 n1 c1, .string t1, .bool b1] 26)).alloc (.cells #[.int .i64 k2, .bool s2, .slice a2 n2 c2, .string t2, .bool b2] 26))) := two_below w _ _
  have HA2 : Hid (((w.alloc (.cells #[.int .i64 k1, .bool s1, .slice a1 n1 c1, .string t1, .bool b1] 26)).alloc (.cells #[.int .i64 k2, .bool s2, .slice a2 n2 c2, .string t2, .bool b2] 26)).heap[w.heap.size]? = some (.cells #[.int .i64 k1, .bool s1, .slice a1 n1 c1, .string t1, .bool b1] 26 (0, 0)) ∧ ((w.alloc (.cells #[.int .i64 k1, .bool s1, .slice a1 n1 c1, .string t1, .bool b1] 26)).alloc (.cells #[.int .i64 k2, .bool s2, .slice a2 n2 c2, .string t2, .bool b2] 26)).heap[w.heap.size + 1]? = some (.cells #[.int .i64 k2, .bool s2, .slice a2 n2 c2, .string t2, .bool b2] 26 (0, 0))) := ⟨kept5 ((Below.refl _ _).alloc (Nat.le_refl _) _) (new_blk w _), two_new _ _⟩
  clear hi1 hi2
  go_enter Tryz.func3, Tryz.ntmps3
  go_wp2_with fail
  refine (HI1.out _).mono ?_
  rintro e x1 ⟨rfl, hb⟩
  have HBA : Hid (Below w.heap.size w x1) := HB2.out.trans (hb.mono HB2.out.size)
  have H0A : Hid (x1.heap[w.heap.size]? = some (.cells #[.int .i64 k1, .bool s1, .slice a1 n1 c1, .string t1, .bool b1] 26 (0, 0))) := kept5 hb HA2.out.1
  have H1A : Hid (x1.heap[w.heap.size + 1]? = some (.cells #[.int .i64 k2, .bool s2, .slice a2 n2 c2, .string t2, .bool b2] 26 (0, 0))) := kept5 hb HA2.out.2
  clear hb
  have c5 := bx5 H1A.out
  go_wp2_with fail
  refine (HI2.out _).mono ?_
  rintro e x2 ⟨rfl, hb⟩
  have HBB : Hid (Below w.heap.size w x2) := HBA.out.trans (hb.mono HBA.out.size)
  have H0B : Hid (x2.heap[w.heap.size]? = some (.cells #[.int .i64 k1, .bool s1, .slice a1 n1 c1, .string t1, .bool b1] 26 (0, 0))) := kept5 hb H0A.out
  have H1B : Hid (x2.heap[w.heap.size + 1]? = some (.cells #[.int .i64 k2, .bool s2, .slice a2 n2 c2, .string t2, .bool b2] 26 (0, 0))) := kept5 hb H1A.out
  clear hb c5 HBA H0A H1A
  have a5 := bx5 H0B.out
  have c5 := bx5 H1B.out
  go_wp2_with fail
  refine (awake_any _).mono ?_
  rintro e x9 ⟨rfl, hb⟩
  have HBZ : Hid (Below w.heap.size w x9) := HBB.out.trans (hb.mono HBB.out.size)
  clear hb
  go_wp2_with fail
  go_ret
  exact ⟨rfl, HBZ.out⟩
set_option maxRecDepth 100000 in
set_option maxHeartbeats 16000000 in
theorem unl_o4 (op : ByteArray) (k1 k2 : Int) (s1 s2 : Bool) (a1 a2 : Option Addr) (n1 n2 c1 c2 : Nat) (t1 t2 : ByteArray) (b1 b2 : Bool) (m : Int) (t : ByteArray) (w : World) (hi1 : ∀ W, Calls Tryz.prog 4 #[cnV k1 s1 a1 n1 c1 t1 b1] W fun e w' => e = .returned (.bool true) ∧ Below W.heap.size W w') (hi2 : ∀ W, Calls Tryz.prog 4 #[cnV k2 s2 a2 n2 c2 t2 b2] W fun e w' => e = .returned (.bool true) ∧ Below W.heap.size W w') (h : ¬ 20 < op.size) (h2 : 300 < t.size) (ho : t.size ≤ 9223372036854775807) :
    Calls Tryz.prog 3 #[.string op, cnV k1 s1 a1 n1 c1 t1 b1, cnV k2 s2 a2 n2 c2 t2 b2, .int .i64 m, .string t] w fun e w' => e = .returned (.bool true) ∧ Below w.heap.size w w' := by
  have q20 : ¬ (20 : Int) < (op.size : Int) := by omega
  have q300 : (300 : Int) < (t.size : Int) := by omega
  have HI1 : Hid (∀ W, Calls Tryz.prog 4 #[cnV k1 s1 a1 n1 c1 t1 b1] W fun e w' => e = .returned (.bool true) ∧ Below W.heap.size W w') := hi1
  have HI2 : Hid (∀ W, Calls Tryz.prog 4 #[cnV k2 s2 a2 n2 c2 t2 b2] W fun e w' => e = .returned (.bool true) ∧ Below W.heap.size W w') := hi2
  have HB2 : Hid (Below w.heap.size w ((w.alloc (.cells #[.int .i64 k1, .bool s1, .slice a1 n1 c1, .string t1, .bool b1] 26)).alloc (.cells #[.int .i64 k2, .bool s2, .slice a2 n2 c2, .string t2, .bool b2] 26))) := two_below w _ _
  have HA2 : Hid (((w.alloc (.cells #[.int .i64 k1, .bool s1, .slice a1 n1 c1, .string t1, .bool b1] 26)).alloc (.cells #[.int .i64 k2, .bool s2, .slice a2 n2 c2, .string t2, .bool b2] 26)).heap[w.heap.size]? = some (.cells #[.int .i64 k1, .bool s1, .slice a1 n1 c1, .string t1, .bool b1] 26 (0, 0)) ∧ ((w.alloc (.cells #[.int .i64 k1, .bool s1, .slice a1 n1 c1, .string t1, .bool b1] 26)).alloc (.cells #[.int .i64 k2, .bool s2, .slice a2 n2 c2, .string t2, .bool b2] 26)).heap[w.heap.size + 1]? = some (.cells #[.int .i64 k2, .bool s2, .slice a2 n2 c2, .string t2, .bool b2] 26 (0, 0))) := ⟨kept5 ((Below.refl _ _).alloc (Nat.le_refl _) _) (new_blk w _), two_new _ _⟩
  clear hi1 hi2
  go_enter Tryz.func3, Tryz.ntmps3
  go_wp2_with fail
  refine (HI1.out _).mono ?_
  rintro e x1 ⟨rfl, hb⟩
  have HBA : Hid (Below w.heap.size w x1) := HB2.out.trans (hb.mono HB2.out.size)
  have H0A : Hid (x1.heap[w.heap.size]? = some (.cells #[.int .i64 k1, .bool s1, .slice a1 n1 c1, .string t1, .bool b1] 26 (0, 0))) := kept5 hb HA2.out.1
  have H1A : Hid (x1.heap[w.heap.size + 1]? = some (.cells #[.int .i64 k2, .bool s2, .slice a2 n2 c2, .string t2, .bool b2] 26 (0, 0))) := kept5 hb HA2.out.2
  clear hb
  have c5 := bx5 H1A.out
  go_wp2_with fail
  refine (HI2.out _).mono ?_
  rintro e x2 ⟨rfl, hb⟩
  have HBB : Hid (Below w.heap.size w x2) := HBA.out.trans (hb.mono HBA.out.size)
  have H0B : Hid (x2.heap[w.heap.size]? = some (.cells #[.int .i64 k1, .bool s1, .slice a1 n1 c1, .string t1, .bool b1] 26 (0, 0))) := kept5 hb H0A.out
  have H1B : Hid (x2.heap[w.heap.size + 1]? = some (.cells #[.int .i64 k2, .bool s2, .slice a2 n2 c2, .string t2, .bool b2] 26 (0, 0))) := kept5 hb H1A.out
  clear hb c5 HBA H0A H1A
  have a5 := bx5 H0B.out
  have c5 := bx5 H1B.out
  go_wp2_with fail
  refine (awake_any _).mono ?_
  rintro e x9 ⟨rfl, hb⟩
  have HBZ : Hid (Below w.heap.size w x9) := HBB.out.trans (hb.mono HBB.out.size)
  clear hb
  go_wp2_with fail
  go_ret
  exact ⟨rfl, HBZ.out⟩
set_option maxRecDepth 100000 in
set_option maxHeartbeats 16000000 in
theorem unl_in (op : ByteArray) (k1 k2 : Int) (s1 s2 : Bool) (a1 a2 : Option Addr) (n1 n2 c1 c2 : Nat) (t1 t2 : ByteArray) (b1 b2 : Bool) (m : Int) (t : ByteArray) (w : World) (U : Ans) (E : Bool) (N1 : Nat) (q : Int) (h20 : ¬ 20 < op.size) (h300 : ¬ 300 < t.size) (hm0 : -9223372036854775808 ≤ m) (hm1 : m ≤ 9223372036854775807) (hi1 : ∀ W, Calls Tryz.prog 4 #[cnV k1 s1 a1 n1 c1 t1 b1] W fun e w' => e = .returned (.bool true) ∧ Below W.heap.size W w') (hi2 : ∀ W, Calls Tryz.prog 4 #[cnV k2 s2 a2 n2 c2 t2 b2] W fun e w' => e = .returned (.bool true) ∧ Below W.heap.size W w')
    (huk : ∀ W, Below w.heap.size w W → Calls Tryz.prog 6 #[.string op, cnV k1 s1 a1 n1 c1 t1 b1] W (AnsQ W U))
    (hur : ∀ W, Below w.heap.size w W → Calls Tryz.prog 7 #[.string op, cnV k1 s1 a1 n1 c1 t1 b1] W (AnsQ W U))
    (hek : ∀ W, Below w.heap.size w W → Calls Tryz.prog 9 #[cnV k1 s1 a1 n1 c1 t1 b1, cnV k2 s2 a2 n2 c2 t2 b2] W fun e w' => e = .returned (.bool E) ∧ Below W.heap.size W w')
    (her : ∀ W, Below w.heap.size w W → Calls Tryz.prog 10 #[cnV k1 s1 a1 n1 c1 t1 b1, cnV k2 s2 a2 n2 c2 t2 b2] W fun e w' => e = .returned (.bool E) ∧ Below W.heap.size W w')
    (htk : ∀ W, Below w.heap.size w W → Calls Tryz.prog 11 #[cnV k1 s1 a1 n1 c1 t1 b1] W fun e w' => ∃ u, e = .returned (.string u) ∧ TxT k1 s1 N1 t1 b1 u ∧ Below W.heap.size W w')
    (htr : ∀ W, Below w.heap.size w W → Calls Tryz.prog 12 #[cnV k1 s1 a1 n1 c1 t1 b1] W fun e w' => ∃ u, e = .returned (.string u) ∧ TxT k1 s1 N1 t1 b1 u ∧ Below W.heap.size W w')
    (hyk : ∀ W, Calls Tryz.prog 14 #[cnV k1 s1 a1 n1 c1 t1 b1] W fun e w' => (∃ an cn am cm ak ck, e = .returned (t0V q an cn am cm ak ck)) ∧ Below W.heap.size W w')
    (hyr : ∀ W, Calls Tryz.prog 15 #[cnV k1 s1 a1 n1 c1 t1 b1] W fun e w' => (∃ an cn am cm ak ck, e = .returned (t0V q an cn am cm ak ck)) ∧ Below W.heap.size W w') :
    Calls Tryz.prog 3 #[.string op, cnV k1 s1 a1 n1 c1 t1 b1, cnV k2 s2 a2 n2 c2 t2 b2, .int .i64 m, .string t] w fun e w' => e = .returned (.bool true) ∧ Below w.heap.size w w' := by
  have q20 : ¬ (20 : Int) < (op.size : Int) := by omega
  have q300 : ¬ (300 : Int) < (t.size : Int) := by omega
  have HI1 : Hid (∀ W, Calls Tryz.prog 4 #[cnV k1 s1 a1 n1 c1 t1 b1] W fun e w' => e = .returned (.bool true) ∧ Below W.heap.size W w') := hi1
  have HI2 : Hid (∀ W, Calls Tryz.prog 4 #[cnV k2 s2 a2 n2 c2 t2 b2] W fun e w' => e = .returned (.bool true) ∧ Below W.heap.size W w') := hi2
  have HUK : Hid (∀ W, Below w.heap.size w W → Calls Tryz.prog 6 #[.string op, cnV k1 s1 a1 n1 c1 t1 b1] W (AnsQ W U)) := huk
  have HUR : Hid (∀ W, Below w.heap.size w W → Calls Tryz.prog 7 #[.string op, cnV k1 s1 a1 n1 c1 t1 b1] W (AnsQ W U)) := hur
  have HEK : Hid (∀ W, Below w.heap.size w W → Calls Tryz.prog 9 #[cnV k1 s1 a1 n1 c1 t1 b1, cnV k2 s2 a2 n2 c2 t2 b2] W fun e w' => e = .returned (.bool E) ∧ Below W.heap.size W w') := hek
  have HER : Hid (∀ W, Below w.heap.size w W → Calls Tryz.prog 10 #[cnV k1 s1 a1 n1 c1 t1 b1, cnV k2 s2 a2 n2 c2 t2 b2] W fun e w' => e = .returned (.bool E) ∧ Below W.heap.size W w') := her
  have HTK : Hid (∀ W, Below w.heap.size w W → Calls Tryz.prog 11 #[cnV k1 s1 a1 n1 c1 t1 b1] W fun e w' => ∃ u, e = .returned (.string u) ∧ TxT k1 s1 N1 t1 b1 u ∧ Below W.heap.size W w') := htk
  have HTR : Hid (∀ W, Below w.heap.size w W → Calls Tryz.prog 12 #[cnV k1 s1 a1 n1 c1 t1 b1] W fun e w' => ∃ u, e = .returned (.string u) ∧ TxT k1 s1 N1 t1 b1 u ∧ Below W.heap.size W w') := htr
  have HYK : Hid (∀ W, Calls Tryz.prog 14 #[cnV k1 s1 a1 n1 c1 t1 b1] W fun e w' => (∃ an cn am cm ak ck, e = .returned (t0V q an cn am cm ak ck)) ∧ Below W.heap.size W w') := hyk
  have HYR : Hid (∀ W, Calls Tryz.prog 15 #[cnV k1 s1 a1 n1 c1 t1 b1] W fun e w' => (∃ an cn am cm ak ck, e = .returned (t0V q an cn am cm ak ck)) ∧ Below W.heap.size W w') := hyr
  have HMB : Hid (-9223372036854775808 ≤ m ∧ m ≤ 9223372036854775807) := ⟨hm0, hm1⟩
  have HB2 : Hid (Below w.heap.size w ((w.alloc (.cells #[.int .i64 k1, .bool s1, .slice a1 n1 c1, .string t1, .bool b1] 26)).alloc (.cells #[.int .i64 k2, .bool s2, .slice a2 n2 c2, .string t2, .bool b2] 26))) := two_below w _ _
  have HA2 : Hid (((w.alloc (.cells #[.int .i64 k1, .bool s1, .slice a1 n1 c1, .string t1, .bool b1] 26)).alloc (.cells #[.int .i64 k2, .bool s2, .slice a2 n2 c2, .string t2, .bool b2] 26)).heap[w.heap.size]? = some (.cells #[.int .i64 k1, .bool s1, .slice a1 n1 c1, .string t1, .bool b1] 26 (0, 0)) ∧ ((w.alloc (.cells #[.int .i64 k1, .bool s1, .slice a1 n1 c1, .string t1, .bool b1] 26)).alloc (.cells #[.int .i64 k2, .bool s2, .slice a2 n2 c2, .string t2, .bool b2] 26)).heap[w.heap.size + 1]? = some (.cells #[.int .i64 k2, .bool s2, .slice a2 n2 c2, .string t2, .bool b2] 26 (0, 0))) := ⟨kept5 ((Below.refl _ _).alloc (Nat.le_refl _) _) (new_blk w _), two_new _ _⟩
  clear hi1 hi2 hm0 hm1 huk hur hek her htk htr hyk hyr
  go_enter Tryz.func3, Tryz.ntmps3
  go_wp2_with fail
  refine (HI1.out _).mono ?_
  rintro e x1 ⟨rfl, hb⟩
  have HBA : Hid (Below w.heap.size w x1) := HB2.out.trans (hb.mono HB2.out.size)
  have H0A : Hid (x1.heap[w.heap.size]? = some (.cells #[.int .i64 k1, .bool s1, .slice a1 n1 c1, .string t1, .bool b1] 26 (0, 0))) := kept5 hb HA2.out.1
  have H1A : Hid (x1.heap[w.heap.size + 1]? = some (.cells #[.int .i64 k2, .bool s2, .slice a2 n2 c2, .string t2, .bool b2] 26 (0, 0))) := kept5 hb HA2.out.2
  clear hb
  have c5 := bx5 H1A.out
  go_wp2_with fail
  refine (HI2.out _).mono ?_
  rintro e x2 ⟨rfl, hb⟩
  have HBB : Hid (Below w.heap.size w x2) := HBA.out.trans (hb.mono HBA.out.size)
  have H0B : Hid (x2.heap[w.heap.size]? = some (.cells #[.int .i64 k1, .bool s1, .slice a1 n1 c1, .string t1, .bool b1] 26 (0, 0))) := kept5 hb H0A.out
  have H1B : Hid (x2.heap[w.heap.size + 1]? = some (.cells #[.int .i64 k2, .bool s2, .slice a2 n2 c2, .string t2, .bool b2] 26 (0, 0))) := kept5 hb H1A.out
  clear hb c5 HBA H0A H1A
  have a5 := bx5 H0B.out
  have c5 := bx5 H1B.out
  go_wp2_with fail
  refine (HUK.out _ HBB.out).mono ?_
  rintro e x3 ⟨⟨v, rfl, aq, nq, cq, rfl, hi⟩, hb⟩
  have hq := hb.trans (((Below.refl x3.heap.size x3).alloc (Nat.le_refl _) (.cells #[.int .i64 U.k, .bool U.s, .slice aq nq cq, .string U.t, .bool U.b] 26)).mono hb.size)
  have hp := (Below.refl x3.heap.size x3).alloc (Nat.le_refl _) (.cells #[.int .i64 U.k, .bool U.s, .slice aq nq cq, .string U.t, .bool U.b] 26)
  have H0D : Hid ((x3.alloc (.cells #[.int .i64 U.k, .bool U.s, .slice aq nq cq, .string U.t, .bool U.b] 26)).heap[w.heap.size]? = some (.cells #[.int .i64 k1, .bool s1, .slice a1 n1 c1, .string t1, .bool b1] 26 (0, 0))) := kept5 hq H0B.out
  have H1D : Hid ((x3.alloc (.cells #[.int .i64 U.k, .bool U.s, .slice aq nq cq, .string U.t, .bool U.b] 26)).heap[w.heap.size + 1]? = some (.cells #[.int .i64 k2, .bool s2, .slice a2 n2 c2, .string t2, .bool b2] 26 (0, 0))) := kept5 hq H1B.out
  have HXD : Hid ((x3.alloc (.cells #[.int .i64 U.k, .bool U.s, .slice aq nq cq, .string U.t, .bool U.b] 26)).heap[x3.heap.size]? = some (.cells #[.int .i64 U.k, .bool U.s, .slice aq nq cq, .string U.t, .bool U.b] 26 (0, 0))) := new_blk x3 _
  have HBD : Hid (Below w.heap.size w (x3.alloc (.cells #[.int .i64 U.k, .bool U.s, .slice aq nq cq, .string U.t, .bool U.b] 26))) := HBB.out.trans (hq.mono HBB.out.size)
  have HID : Hid (IntR (x3.alloc (.cells #[.int .i64 U.k, .bool U.s, .slice aq nq cq, .string U.t, .bool U.b] 26)) x2.heap.size (.agg #[.bool U.s, .slice aq nq cq]) U.s U.N) := hi.below hp (Nat.le_refl _)
  clear hq hp hb hi a5 c5 HBB H0B H1B
  have a5 := bx5 H0D.out
  have c5 := bx5 H1D.out
  go_wp2_with fail
  refine (HUR.out _ HBD.out).mono ?_
  rintro e x4 ⟨⟨v, rfl, ar, nr, cr, rfl, hi⟩, hb⟩
  have hq := hb.trans (((Below.refl x4.heap.size x4).alloc (Nat.le_refl _) (.cells #[.int .i64 U.k, .bool U.s, .slice ar nr cr, .string U.t, .bool U.b] 26)).mono hb.size)
  have hp := (Below.refl x4.heap.size x4).alloc (Nat.le_refl _) (.cells #[.int .i64 U.k, .bool U.s, .slice ar nr cr, .string U.t, .bool U.b] 26)
  have H0G : Hid ((x4.alloc (.cells #[.int .i64 U.k, .bool U.s, .slice ar nr cr, .string U.t, .bool U.b] 26)).heap[w.heap.size]? = some (.cells #[.int .i64 k1, .bool s1, .slice a1 n1 c1, .string t1, .bool b1] 26 (0, 0))) := kept5 hq H0D.out
  have H1G : Hid ((x4.alloc (.cells #[.int .i64 U.k, .bool U.s, .slice ar nr cr, .string U.t, .bool U.b] 26)).heap[w.heap.size + 1]? = some (.cells #[.int .i64 k2, .bool s2, .slice a2 n2 c2, .string t2, .bool b2] 26 (0, 0))) := kept5 hq H1D.out
  have HXG : Hid ((x4.alloc (.cells #[.int .i64 U.k, .bool U.s, .slice ar nr cr, .string U.t, .bool U.b] 26)).heap[x3.heap.size]? = some (.cells #[.int .i64 U.k, .bool U.s, .slice aq nq cq, .string U.t, .bool U.b] 26 (0, 0))) := kept5 hq HXD.out
  have HYG : Hid ((x4.alloc (.cells #[.int .i64 U.k, .bool U.s, .slice ar nr cr, .string U.t, .bool U.b] 26)).heap[x4.heap.size]? = some (.cells #[.int .i64 U.k, .bool U.s, .slice ar nr cr, .string U.t, .bool U.b] 26 (0, 0))) := new_blk x4 _
  have HBG : Hid (Below w.heap.size w (x4.alloc (.cells #[.int .i64 U.k, .bool U.s, .slice ar nr cr, .string U.t, .bool U.b] 26))) := HBD.out.trans (hq.mono HBD.out.size)
  have HIG : Hid (IntR (x4.alloc (.cells #[.int .i64 U.k, .bool U.s, .slice ar nr cr, .string U.t, .bool U.b] 26)) 0 (.agg #[.bool U.s, .slice aq nq cq]) U.s U.N) := (HID.out.below hq (Nat.le_refl _)).mono (Nat.zero_le _)
  have HJG : Hid (IntR (x4.alloc (.cells #[.int .i64 U.k, .bool U.s, .slice ar nr cr, .string U.t, .bool U.b] 26)) 0 (.agg #[.bool U.s, .slice ar nr cr]) U.s U.N) := (hi.below hp (Nat.le_refl _)).mono (Nat.zero_le _)
  clear hq hp hb hi a5 c5 HBD H0D H1D HXD HID HUK HUR
  go_wp2_with fail
  obtain ⟨wr, hwr⟩ : ∃ wr, (x4.alloc (.cells #[.int .i64 U.k, .bool U.s, .slice ar nr cr, .string U.t, .bool U.b] 26)) = wr := ⟨_, rfl⟩
  rw [hwr] at H0G H1G HXG HYG HBG HIG HJG ⊢
  clear hwr
  have HKP : Hid (∀ W', Below wr.heap.size wr W' → W'.cell? ⟨w.heap.size, 0, none⟩ = some (.int .i64 k1) ∧ W'.cell? ⟨w.heap.size, 1, none⟩ = some (.bool s1) ∧ W'.cell? ⟨w.heap.size, 2, none⟩ = some (.slice a1 n1 c1) ∧ W'.cell? ⟨w.heap.size, 3, none⟩ = some (.string t1) ∧ W'.cell? ⟨w.heap.size, 4, none⟩ = some (.bool b1) ∧ W'.cell? ⟨w.heap.size + 1, 0, none⟩ = some (.int .i64 k2) ∧ W'.cell? ⟨w.heap.size + 1, 1, none⟩ = some (.bool s2) ∧ W'.cell? ⟨w.heap.size + 1, 2, none⟩ = some (.slice a2 n2 c2) ∧ W'.cell? ⟨w.heap.size + 1, 3, none⟩ = some (.string t2) ∧ W'.cell? ⟨w.heap.size + 1, 4, none⟩ = some (.bool b2) ∧ W'.cell? ⟨x3.heap.size, 0, none⟩ = some (.int .i64 U.k) ∧ W'.cell? ⟨x3.heap.size, 1, none⟩ = some (.bool U.s) ∧ W'.cell? ⟨x3.heap.size, 2, none⟩ = some (.slice aq nq cq) ∧ W'.cell? ⟨x3.heap.size, 3, none⟩ = some (.string U.t) ∧ W'.cell? ⟨x3.heap.size, 4, none⟩ = some (.bool U.b) ∧ W'.cell? ⟨x4.heap.size, 0, none⟩ = some (.int .i64 U.k) ∧ W'.cell? ⟨x4.heap.size, 1, none⟩ = some (.bool U.s) ∧ W'.cell? ⟨x4.heap.size, 2, none⟩ = some (.slice ar nr cr) ∧ W'.cell? ⟨x4.heap.size, 3, none⟩ = some (.string U.t) ∧ W'.cell? ⟨x4.heap.size, 4, none⟩ = some (.bool U.b)) := fun W' hb => by
    obtain ⟨p00, p01, p02, p03, p04⟩ := bx5 (kept5 hb H0G.out)
    obtain ⟨p10, p11, p12, p13, p14⟩ := bx5 (kept5 hb H1G.out)
    obtain ⟨p20, p21, p22, p23, p24⟩ := bx5 (kept5 hb HXG.out)
    obtain ⟨p30, p31, p32, p33, p34⟩ := bx5 (kept5 hb HYG.out)
    exact ⟨p00, p01, p02, p03, p04, p10, p11, p12, p13, p14, p20, p21, p22, p23, p24, p30, p31, p32, p33, p34⟩
  have HGO : Hid (∀ W', Below wr.heap.size wr W' → Below w.heap.size w W') := fun W' h => HBG.out.trans (h.mono HBG.out.size)
  have kS := HKP.out wr (Below.refl _ _)
  have ze : (U.e == U.e) = true := by simp
  have zE : (E == E) = true := by simp
  refine wp_region_held_drew (S := fun w' => w'.cell? ⟨w.heap.size, 0, none⟩ = some (.int .i64 k1) ∧ w'.cell? ⟨w.heap.size, 1, none⟩ = some (.bool s1) ∧ w'.cell? ⟨w.heap.size, 2, none⟩ = some (.slice a1 n1 c1) ∧ w'.cell? ⟨w.heap.size, 3, none⟩ = some (.string t1) ∧ w'.cell? ⟨w.heap.size, 4, none⟩ = some (.bool b1) ∧ w'.cell? ⟨w.heap.size + 1, 0, none⟩ = some (.int .i64 k2) ∧ w'.cell? ⟨w.heap.size + 1, 1, none⟩ = some (.bool s2) ∧ w'.cell? ⟨w.heap.size + 1, 2, none⟩ = some (.slice a2 n2 c2) ∧ w'.cell? ⟨w.heap.size + 1, 3, none⟩ = some (.string t2) ∧ w'.cell? ⟨w.heap.size + 1, 4, none⟩ = some (.bool b2) ∧ w'.cell? ⟨x3.heap.size, 0, none⟩ = some (.int .i64 U.k) ∧ w'.cell? ⟨x3.heap.size, 1, none⟩ = some (.bool U.s) ∧ w'.cell? ⟨x3.heap.size, 2, none⟩ = some (.slice aq nq cq) ∧ w'.cell? ⟨x3.heap.size, 3, none⟩ = some (.string U.t) ∧ w'.cell? ⟨x3.heap.size, 4, none⟩ = some (.bool U.b) ∧ w'.cell? ⟨x4.heap.size, 0, none⟩ = some (.int .i64 U.k) ∧ w'.cell? ⟨x4.heap.size, 1, none⟩ = some (.bool U.s) ∧ w'.cell? ⟨x4.heap.size, 2, none⟩ = some (.slice ar nr cr) ∧ w'.cell? ⟨x4.heap.size, 3, none⟩ = some (.string U.t) ∧ w'.cell? ⟨x4.heap.size, 4, none⟩ = some (.bool U.b)) (by kernel_rfl) (by exact kS) (fun hHeld => ?_)
  clear hHeld
  refine wpAnyH_take (i := 0) (oi := { dst := some 46, op := Op.load 26 (Operand.tmp 11), type := 26, pos := "law.go:40", after := #[], guard := none }) (v := ?_) rfl (by kernel_rfl) (by kernel_rfl) (by kernel_rfl) (fun _ _ _ h => h) (Or.inl ⟨by rfl, ?_⟩) (by exact kS) ?_
  rotate_left
  · intro w hSw; (try dsimp only at hSw); (go_simp <;> with_reducible rfl)
  try simp only [Act.put, List.setIfInBounds_toArray, List.set_cons_zero, List.set_cons_succ]
  refine wpAnyH_take (i := 1) (oi := { dst := some 47, op := Op.load 26 (Operand.tmp 13), type := 26, pos := "law.go:40", after := #[], guard := none }) (v := ?_) rfl (by kernel_rfl) (by kernel_rfl) (by kernel_rfl) (fun _ _ _ h => h) (Or.inl ⟨by rfl, ?_⟩) (by exact kS) ?_
  rotate_left
  · intro w hSw; (try dsimp only at hSw); (go_simp <;> with_reducible rfl)
  try simp only [Act.put, List.setIfInBounds_toArray, List.set_cons_zero, List.set_cons_succ]
  refine wpAnyH_ready (rs := [2]) (by kernel_rfl) (by simp) ?_
  refine AllReadyH.cons (o := { dst := some 48, op := Op.call { callee := Callee.value (Operand.func 8), args := #[Operand.tmp 46, Operand.tmp 47], argTypes := #[26, 26] }, type := 4, pos := "law.go:40", after := #[{ on := 0, ground := Ground.data }, { on := 1, ground := Ground.data }], guard := none }) rfl (fun K hK => ?_) AllReadyH.nil
  go_simp
  go_at_call 8; refine (consts_any (k := U.k) (s := U.s) (N := U.N) (t := U.t) (b := U.b) (B1 := 0) (B2 := 0) ⟨aq, nq, cq, rfl, HIG.out.below ((Below.refl _ wr).drew) (Nat.le_refl _)⟩ ⟨ar, nr, cr, rfl, HJG.out.below ((Below.refl _ wr).drew) (Nat.le_refl _)⟩).mono ?_; rintro e z1 ⟨rfl, hb⟩; have HD1 : Hid (Below wr.heap.size wr z1) := ((Below.refl wr.heap.size wr).drew).trans (hb.mono ((Below.refl wr.heap.size wr).drew).size); have kS := HKP.out z1 HD1.out; clear hb
  go_wp2_with fail
  refine hK.out _ _ (by exact kS) (fun hHeld => ?_)
  clear hK K hHeld
  try simp only [Act.put, List.setIfInBounds_toArray, List.set_cons_zero, List.set_cons_succ]
  refine wpAnyH_take (i := 3) (oi := { dst := some 49, op := Op.move (Operand.tmp 48), type := 4, pos := "law.go:40", after := #[{ on := 2, ground := Ground.data }, { on := 2, ground := Ground.chain }], guard := none }) (v := ?_) rfl (by kernel_rfl) (by kernel_rfl) (by kernel_rfl) (fun _ _ _ h => h) (Or.inl ⟨by rfl, ?_⟩) (by exact kS) ?_
  rotate_left
  · intro w hSw; (try dsimp only at hSw); (go_simp <;> with_reducible rfl)
  try simp only [Act.put, List.setIfInBounds_toArray, List.set_cons_zero, List.set_cons_succ]
  refine wpAnyH_take (i := 4) (oi := { dst := some 50, op := Op.move (Operand.tmp 12), type := 29, pos := "law.go:40", after := #[{ on := 3, ground := Ground.guard }], guard := some (3, true) }) (v := ?_) rfl (by kernel_rfl) (by kernel_rfl) (by kernel_rfl) (fun _ _ _ h => h) (Or.inl ⟨by rfl, ?_⟩) (by exact kS) ?_
  rotate_left
  · intro w hSw; (try dsimp only at hSw); (go_simp <;> with_reducible rfl)
  try simp only [Act.put, List.setIfInBounds_toArray, List.set_cons_zero, List.set_cons_succ]
  refine wpAnyH_take (i := 5) (oi := { dst := some 51, op := Op.move (Operand.tmp 14), type := 3, pos := "law.go:40", after := #[{ on := 3, ground := Ground.guard }], guard := some (3, true) }) (v := ?_) rfl (by kernel_rfl) (by kernel_rfl) (by kernel_rfl) (fun _ _ _ h => h) (Or.inl ⟨by rfl, ?_⟩) (by exact kS) ?_
  rotate_left
  · intro w hSw; (try dsimp only at hSw); (go_simp <;> with_reducible rfl)
  try simp only [Act.put, List.setIfInBounds_toArray, List.set_cons_zero, List.set_cons_succ]
  refine wpAnyH_take (i := 6) (oi := { dst := some 52, op := Op.binOp BinOp.eql 3 (Operand.tmp 50) (Operand.tmp 51) 3, type := 4, pos := "law.go:40", after := #[{ on := 4, ground := Ground.data }, { on := 5, ground := Ground.data }, { on := 3, ground := Ground.guard }], guard := some (3, true) }) (v := ?_) rfl (by kernel_rfl) (by kernel_rfl) (by kernel_rfl) (fun _ _ _ h => h) (Or.inl ⟨by rfl, ?_⟩) (by exact kS) ?_
  rotate_left
  · intro w hSw; (try dsimp only at hSw); (go_simp <;> with_reducible rfl)
  try simp only [Act.put, List.setIfInBounds_toArray, List.set_cons_zero, List.set_cons_succ]
  refine wpAnyH_take (i := 7) (oi := { dst := some 53, op := Op.pick (Operand.tmp 49) (Operand.tmp 52) (Operand.const (Value.bool false)), type := 4, pos := "law.go:40", after := #[{ on := 3, ground := Ground.data }, { on := 6, ground := Ground.data }], guard := none }) (v := ?_) rfl (by kernel_rfl) (by kernel_rfl) (by kernel_rfl) (fun _ _ _ h => h) (Or.inl ⟨by rfl, ?_⟩) (by exact kS) ?_
  rotate_left
  · intro w hSw; (try dsimp only at hSw); (go_simp <;> with_reducible rfl)
  try simp only [Act.put, List.setIfInBounds_toArray, List.set_cons_zero, List.set_cons_succ]
  refine wpAnyH_take (i := 8) (oi := { dst := some 54, op := Op.move (Operand.tmp 53), type := 4, pos := "law.go:40", after := #[{ on := 7, ground := Ground.data }, { on := 3, ground := Ground.chain }], guard := none }) (v := ?_) rfl (by kernel_rfl) (by kernel_rfl) (by kernel_rfl) (fun _ _ _ h => h) (Or.inl ⟨by rfl, ?_⟩) (by exact kS) ?_
  rotate_left
  · intro w hSw; (try dsimp only at hSw); (go_simp <;> with_reducible rfl)
  try simp only [Act.put, List.setIfInBounds_toArray, List.set_cons_zero, List.set_cons_succ]
  refine wpAnyH_take (i := 9) (oi := { dst := some 55, op := Op.load 26 (Operand.tmp 6), type := 26, pos := "law.go:40", after := #[{ on := 8, ground := Ground.guard }], guard := some (8, true) }) (v := ?_) rfl (by kernel_rfl) (by kernel_rfl) (by kernel_rfl) (fun _ _ _ h => h) (Or.inl ⟨by rfl, ?_⟩) (by exact kS) ?_
  rotate_left
  · intro w hSw; (try dsimp only at hSw); (go_simp <;> with_reducible rfl)
  try simp only [Act.put, List.setIfInBounds_toArray, List.set_cons_zero, List.set_cons_succ]
  refine wpAnyH_take (i := 10) (oi := { dst := some 56, op := Op.load 26 (Operand.tmp 7), type := 26, pos := "law.go:40", after := #[{ on := 8, ground := Ground.guard }], guard := some (8, true) }) (v := ?_) rfl (by kernel_rfl) (by kernel_rfl) (by kernel_rfl) (fun _ _ _ h => h) (Or.inl ⟨by rfl, ?_⟩) (by exact kS) ?_
  rotate_left
  · intro w hSw; (try dsimp only at hSw); (go_simp <;> with_reducible rfl)
  try simp only [Act.put, List.setIfInBounds_toArray, List.set_cons_zero, List.set_cons_succ]
  refine wpAnyH_take (i := 12) (oi := { dst := some 58, op := Op.load 26 (Operand.tmp 6), type := 26, pos := "law.go:40", after := #[{ on := 8, ground := Ground.guard }], guard := some (8, true) }) (v := ?_) rfl (by kernel_rfl) (by kernel_rfl) (by kernel_rfl) (fun _ _ _ h => h) (Or.inl ⟨by rfl, ?_⟩) (by exact kS) ?_
  rotate_left
  · intro w hSw; (try dsimp only at hSw); (go_simp <;> with_reducible rfl)
  try simp only [Act.put, List.setIfInBounds_toArray, List.set_cons_zero, List.set_cons_succ]
  refine wpAnyH_take (i := 13) (oi := { dst := some 59, op := Op.load 26 (Operand.tmp 7), type := 26, pos := "law.go:40", after := #[{ on := 8, ground := Ground.guard }], guard := some (8, true) }) (v := ?_) rfl (by kernel_rfl) (by kernel_rfl) (by kernel_rfl) (fun _ _ _ h => h) (Or.inl ⟨by rfl, ?_⟩) (by exact kS) ?_
  rotate_left
  · intro w hSw; (try dsimp only at hSw); (go_simp <;> with_reducible rfl)
  try simp only [Act.put, List.setIfInBounds_toArray, List.set_cons_zero, List.set_cons_succ]
  refine wpAnyH_ready (rs := [11]) (by kernel_rfl) (by simp) ?_
  refine AllReadyH.cons (o := { dst := some 57, op := Op.call { callee := Callee.value (Operand.func 9), args := #[Operand.tmp 55, Operand.tmp 56], argTypes := #[26, 26] }, type := 4, pos := "law.go:40", after := #[{ on := 9, ground := Ground.data }, { on := 10, ground := Ground.data }, { on := 8, ground := Ground.chain }, { on := 8, ground := Ground.guard }], guard := some (8, true) }) rfl (fun K hK => ?_) AllReadyH.nil
  go_simp
  go_at_call 9; refine (HEK.out _ (HGO.out _ HD1.out)).mono ?_; rintro e z2 ⟨rfl, hb⟩; have HD2 : Hid (Below wr.heap.size wr z2) := HD1.out.trans (hb.mono HD1.out.size); have kS := HKP.out z2 HD2.out; clear hb
  go_wp2_with fail
  refine hK.out _ _ (by exact kS) (fun hHeld => ?_)
  clear hK K hHeld
  try simp only [Act.put, List.setIfInBounds_toArray, List.set_cons_zero, List.set_cons_succ]
  refine wpAnyH_ready (rs := [14]) (by kernel_rfl) (by simp) ?_
  refine AllReadyH.cons (o := { dst := some 60, op := Op.call { callee := Callee.value (Operand.func 10), args := #[Operand.tmp 58, Operand.tmp 59], argTypes := #[26, 26] }, type := 4, pos := "law.go:40", after := #[{ on := 12, ground := Ground.data }, { on := 13, ground := Ground.data }, { on := 11, ground := Ground.chain }, { on := 8, ground := Ground.guard }], guard := some (8, true) }) rfl (fun K hK => ?_) AllReadyH.nil
  go_simp
  go_at_call 10; refine (HER.out _ (HGO.out _ HD2.out)).mono ?_; rintro e z3 ⟨rfl, hb⟩; have HD3 : Hid (Below wr.heap.size wr z3) := HD2.out.trans (hb.mono HD2.out.size); have kS := HKP.out z3 HD3.out; clear hb
  go_wp2_with fail
  refine hK.out _ _ (by exact kS) (fun hHeld => ?_)
  clear hK K hHeld
  try simp only [Act.put, List.setIfInBounds_toArray, List.set_cons_zero, List.set_cons_succ]
  refine wpAnyH_take (i := 15) (oi := { dst := some 61, op := Op.binOp BinOp.eql 4 (Operand.tmp 57) (Operand.tmp 60) 4, type := 4, pos := "law.go:40", after := #[{ on := 11, ground := Ground.data }, { on := 14, ground := Ground.data }, { on := 8, ground := Ground.guard }], guard := some (8, true) }) (v := ?_) rfl (by kernel_rfl) (by kernel_rfl) (by kernel_rfl) (fun _ _ _ h => h) (Or.inl ⟨by rfl, ?_⟩) (by exact kS) ?_
  rotate_left
  · intro w hSw; (try dsimp only at hSw); (go_simp <;> with_reducible rfl)
  try simp only [Act.put, List.setIfInBounds_toArray, List.set_cons_zero, List.set_cons_succ]
  refine wpAnyH_take (i := 16) (oi := { dst := some 62, op := Op.pick (Operand.tmp 54) (Operand.tmp 61) (Operand.const (Value.bool false)), type := 4, pos := "law.go:40", after := #[{ on := 8, ground := Ground.data }, { on := 15, ground := Ground.data }], guard := none }) (v := ?_) rfl (by kernel_rfl) (by kernel_rfl) (by kernel_rfl) (fun _ _ _ h => h) (Or.inl ⟨by rfl, ?_⟩) (by exact kS) ?_
  rotate_left
  · intro w hSw; (try dsimp only at hSw); (go_simp <;> with_reducible rfl)
  try simp only [Act.put, List.setIfInBounds_toArray, List.set_cons_zero, List.set_cons_succ]
  refine wpAnyH_take (i := 17) (oi := { dst := some 63, op := Op.move (Operand.tmp 62), type := 4, pos := "law.go:40", after := #[{ on := 16, ground := Ground.data }, { on := 14, ground := Ground.chain }], guard := none }) (v := ?_) rfl (by kernel_rfl) (by kernel_rfl) (by kernel_rfl) (fun _ _ _ h => h) (Or.inl ⟨by rfl, ?_⟩) (by exact kS) ?_
  rotate_left
  · intro w hSw; (try dsimp only at hSw); (go_simp <;> with_reducible rfl)
  try simp only [Act.put, List.setIfInBounds_toArray, List.set_cons_zero, List.set_cons_succ]
  refine wpAnyH_take (i := 18) (oi := { dst := some 64, op := Op.load 26 (Operand.tmp 6), type := 26, pos := "law.go:40", after := #[{ on := 17, ground := Ground.guard }], guard := some (17, true) }) (v := ?_) rfl (by kernel_rfl) (by kernel_rfl) (by kernel_rfl) (fun _ _ _ h => h) (Or.inl ⟨by rfl, ?_⟩) (by exact kS) ?_
  rotate_left
  · intro w hSw; (try dsimp only at hSw); (go_simp <;> with_reducible rfl)
  try simp only [Act.put, List.setIfInBounds_toArray, List.set_cons_zero, List.set_cons_succ]
  refine wpAnyH_take (i := 20) (oi := { dst := some 66, op := Op.load 26 (Operand.tmp 6), type := 26, pos := "law.go:40", after := #[{ on := 17, ground := Ground.guard }], guard := some (17, true) }) (v := ?_) rfl (by kernel_rfl) (by kernel_rfl) (by kernel_rfl) (fun _ _ _ h => h) (Or.inl ⟨by rfl, ?_⟩) (by exact kS) ?_
  rotate_left
  · intro w hSw; (try dsimp only at hSw); (go_simp <;> with_reducible rfl)
  try simp only [Act.put, List.setIfInBounds_toArray, List.set_cons_zero, List.set_cons_succ]
  refine wpAnyH_ready (rs := [19]) (by kernel_rfl) (by simp) ?_
  refine AllReadyH.cons (o := { dst := some 65, op := Op.call { callee := Callee.value (Operand.func 11), args := #[Operand.tmp 64], argTypes := #[26] }, type := 9, pos := "law.go:40", after := #[{ on := 18, ground := Ground.data }, { on := 17, ground := Ground.chain }, { on := 17, ground := Ground.guard }], guard := some (17, true) }) rfl (fun K hK => ?_) AllReadyH.nil
  go_simp
  go_at_call 11; refine (HTK.out _ (HGO.out _ HD3.out)).mono ?_; rintro e z4 ⟨u, rfl, hu, hb⟩; have HD4 : Hid (Below wr.heap.size wr z4) := HD3.out.trans (hb.mono HD3.out.size); have kS := HKP.out z4 HD4.out; have HU1 : Hid (TxT k1 s1 N1 t1 b1 u) := hu; clear hu; clear hb
  go_wp2_with fail
  refine hK.out _ _ (by exact kS) (fun hHeld => ?_)
  clear hK K hHeld
  try simp only [Act.put, List.setIfInBounds_toArray, List.set_cons_zero, List.set_cons_succ]
  refine wpAnyH_ready (rs := [21]) (by kernel_rfl) (by simp) ?_
  refine AllReadyH.cons (o := { dst := some 67, op := Op.call { callee := Callee.value (Operand.func 12), args := #[Operand.tmp 66], argTypes := #[26] }, type := 9, pos := "law.go:40", after := #[{ on := 20, ground := Ground.data }, { on := 19, ground := Ground.chain }, { on := 17, ground := Ground.guard }], guard := some (17, true) }) rfl (fun K hK => ?_) AllReadyH.nil
  go_simp
  go_at_call 12; refine (HTR.out _ (HGO.out _ HD4.out)).mono ?_; rintro e z5 ⟨u2, rfl, hu, hb⟩; obtain rfl := HU1.out.uniq hu; clear hu; have zu : (u.toList == u.toList) = true := (by simp); have HD5 : Hid (Below wr.heap.size wr z5) := HD4.out.trans (hb.mono HD4.out.size); have kS := HKP.out z5 HD5.out; clear hb
  go_wp2_with fail
  refine hK.out _ _ (by exact kS) (fun hHeld => ?_)
  clear hK K hHeld
  try simp only [Act.put, List.setIfInBounds_toArray, List.set_cons_zero, List.set_cons_succ]
  refine wpAnyH_take (i := 22) (oi := { dst := some 68, op := Op.binOp BinOp.eql 9 (Operand.tmp 65) (Operand.tmp 67) 9, type := 4, pos := "law.go:40", after := #[{ on := 19, ground := Ground.data }, { on := 21, ground := Ground.data }, { on := 17, ground := Ground.guard }], guard := some (17, true) }) (v := ?_) rfl (by kernel_rfl) (by kernel_rfl) (by kernel_rfl) (fun _ _ _ h => h) (Or.inl ⟨by rfl, ?_⟩) (by exact kS) ?_
  rotate_left
  · intro w hSw; (try dsimp only at hSw); (go_simp <;> with_reducible rfl)
  try simp only [Act.put, List.setIfInBounds_toArray, List.set_cons_zero, List.set_cons_succ]
  refine wpAnyH_take (i := 23) (oi := { dst := some 69, op := Op.pick (Operand.tmp 63) (Operand.tmp 68) (Operand.const (Value.bool false)), type := 4, pos := "law.go:40", after := #[{ on := 17, ground := Ground.data }, { on := 22, ground := Ground.data }], guard := none }) (v := ?_) rfl (by kernel_rfl) (by kernel_rfl) (by kernel_rfl) (fun _ _ _ h => h) (Or.inl ⟨by rfl, ?_⟩) (by exact kS) ?_
  rotate_left
  · intro w hSw; (try dsimp only at hSw); (go_simp <;> with_reducible rfl)
  try simp only [Act.put, List.setIfInBounds_toArray, List.set_cons_zero, List.set_cons_succ]
  refine wpAnyH_take (i := 24) (oi := { dst := some 70, op := Op.move (Operand.tmp 69), type := 4, pos := "law.go:40", after := #[{ on := 23, ground := Ground.data }, { on := 21, ground := Ground.chain }], guard := none }) (v := ?_) rfl (by kernel_rfl) (by kernel_rfl) (by kernel_rfl) (fun _ _ _ h => h) (Or.inl ⟨by rfl, ?_⟩) (by exact kS) ?_
  rotate_left
  · intro w hSw; (try dsimp only at hSw); (go_simp <;> with_reducible rfl)
  try simp only [Act.put, List.setIfInBounds_toArray, List.set_cons_zero, List.set_cons_succ]
  refine wpAnyH_take (i := 25) (oi := { dst := some 71, op := Op.load 26 (Operand.tmp 6), type := 26, pos := "law.go:40", after := #[{ on := 24, ground := Ground.guard }], guard := some (24, true) }) (v := ?_) rfl (by kernel_rfl) (by kernel_rfl) (by kernel_rfl) (fun _ _ _ h => h) (Or.inl ⟨by rfl, ?_⟩) (by exact kS) ?_
  rotate_left
  · intro w hSw; (try dsimp only at hSw); (go_simp <;> with_reducible rfl)
  try simp only [Act.put, List.setIfInBounds_toArray, List.set_cons_zero, List.set_cons_succ]
  refine wpAnyH_take (i := 27) (oi := { dst := some 73, op := Op.load 26 (Operand.tmp 6), type := 26, pos := "law.go:40", after := #[{ on := 24, ground := Ground.guard }], guard := some (24, true) }) (v := ?_) rfl (by kernel_rfl) (by kernel_rfl) (by kernel_rfl) (fun _ _ _ h => h) (Or.inl ⟨by rfl, ?_⟩) (by exact kS) ?_
  rotate_left
  · intro w hSw; (try dsimp only at hSw); (go_simp <;> with_reducible rfl)
  try simp only [Act.put, List.setIfInBounds_toArray, List.set_cons_zero, List.set_cons_succ]
  refine wpAnyH_ready (rs := [26]) (by kernel_rfl) (by simp) ?_
  refine AllReadyH.cons (o := { dst := some 72, op := Op.call { callee := Callee.value (Operand.func 14), args := #[Operand.tmp 71], argTypes := #[26] }, type := 41, pos := "law.go:40", after := #[{ on := 25, ground := Ground.data }, { on := 24, ground := Ground.chain }, { on := 24, ground := Ground.guard }], guard := some (24, true) }) rfl (fun K hK => ?_) AllReadyH.nil
  go_simp
  go_at_call 14; refine (HYK.out _).mono ?_; rintro e z6 ⟨⟨pn, qn, pm, qm, pk, qk, rfl⟩, hb⟩; have HD6 : Hid (Below wr.heap.size wr z6) := HD5.out.trans (hb.mono HD5.out.size); have kS := HKP.out z6 HD6.out; clear hb
  go_wp2_with fail
  refine hK.out _ _ (by exact kS) (fun hHeld => ?_)
  clear hK K hHeld
  try simp only [Act.put, List.setIfInBounds_toArray, List.set_cons_zero, List.set_cons_succ]
  refine wpAnyH_ready (rs := [28]) (by kernel_rfl) (by simp) ?_
  refine AllReadyH.cons (o := { dst := some 74, op := Op.call { callee := Callee.value (Operand.func 15), args := #[Operand.tmp 73], argTypes := #[26] }, type := 41, pos := "law.go:40", after := #[{ on := 27, ground := Ground.data }, { on := 26, ground := Ground.chain }, { on := 24, ground := Ground.guard }], guard := some (24, true) }) rfl (fun K hK => ?_) AllReadyH.nil
  go_simp
  go_at_call 15; refine (HYR.out _).mono ?_; rintro e z7 ⟨⟨pn2, qn2, pm2, qm2, pk2, qk2, rfl⟩, hb⟩; have HD7 : Hid (Below wr.heap.size wr z7) := HD6.out.trans (hb.mono HD6.out.size); have kS := HKP.out z7 HD7.out; clear hb
  go_wp2_with fail
  refine hK.out _ _ (by exact kS) (fun hHeld => ?_)
  clear hK K hHeld
  try simp only [Act.put, List.setIfInBounds_toArray, List.set_cons_zero, List.set_cons_succ]
  refine wpAnyH_ready (rs := [29]) (by kernel_rfl) (by simp) ?_
  refine AllReadyH.cons (o := { dst := some 75, op := Op.call { callee := Callee.value (Operand.func 13), args := #[Operand.tmp 72, Operand.tmp 74], argTypes := #[41, 41] }, type := 4, pos := "law.go:40", after := #[{ on := 26, ground := Ground.data }, { on := 28, ground := Ground.data }, { on := 28, ground := Ground.chain }, { on := 24, ground := Ground.guard }], guard := some (24, true) }) rfl (fun K hK => ?_) AllReadyH.nil
  go_simp
  go_at_call 13; refine (ttypes_any q pn qn pm qm pk qk pn2 qn2 pm2 qm2 pk2 qk2 _).mono ?_; rintro e z8 ⟨rfl, hb⟩; have HD8 : Hid (Below wr.heap.size wr z8) := HD7.out.trans (hb.mono HD7.out.size); have kS := HKP.out z8 HD8.out; clear hb
  go_wp2_with fail
  refine hK.out _ _ (by exact kS) (fun hHeld => ?_)
  clear hK K hHeld
  try simp only [Act.put, List.setIfInBounds_toArray, List.set_cons_zero, List.set_cons_succ]
  refine wpAnyH_take (i := 30) (oi := { dst := some 76, op := Op.pick (Operand.tmp 70) (Operand.tmp 75) (Operand.const (Value.bool false)), type := 4, pos := "law.go:40", after := #[{ on := 24, ground := Ground.data }, { on := 29, ground := Ground.data }], guard := none }) (v := ?_) rfl (by kernel_rfl) (by kernel_rfl) (by kernel_rfl) (fun _ _ _ h => h) (Or.inl ⟨by rfl, ?_⟩) (by exact kS) ?_
  rotate_left
  · intro w hSw; (try dsimp only at hSw); (go_simp <;> with_reducible rfl)
  try simp only [Act.put, List.setIfInBounds_toArray, List.set_cons_zero, List.set_cons_succ]
  refine wpAnyH_take (i := 31) (oi := { dst := some 77, op := Op.move (Operand.tmp 76), type := 4, pos := "law.go:40", after := #[{ on := 30, ground := Ground.data }, { on := 29, ground := Ground.chain }], guard := none }) (v := ?_) rfl (by kernel_rfl) (by kernel_rfl) (by kernel_rfl) (fun _ _ _ h => h) (Or.inl ⟨by rfl, ?_⟩) (by exact kS) ?_
  rotate_left
  · intro w hSw; (try dsimp only at hSw); (go_simp <;> with_reducible rfl)
  try simp only [Act.put, List.setIfInBounds_toArray, List.set_cons_zero, List.set_cons_succ]
  refine wpAnyH_take (i := 32) (oi := { dst := some 78, op := Op.move (Operand.tmp 3), type := 3, pos := "law.go:40", after := #[{ on := 31, ground := Ground.guard }], guard := some (31, true) }) (v := ?_) rfl (by kernel_rfl) (by kernel_rfl) (by kernel_rfl) (fun _ _ _ h => h) (Or.inl ⟨by rfl, ?_⟩) (by exact kS) ?_
  rotate_left
  · intro w hSw; (try dsimp only at hSw); (go_simp <;> with_reducible rfl)
  try simp only [Act.put, List.setIfInBounds_toArray, List.set_cons_zero, List.set_cons_succ]
  refine wpAnyH_take (i := 34) (oi := { dst := some 80, op := Op.move (Operand.tmp 3), type := 3, pos := "law.go:40", after := #[{ on := 31, ground := Ground.guard }], guard := some (31, true) }) (v := ?_) rfl (by kernel_rfl) (by kernel_rfl) (by kernel_rfl) (fun _ _ _ h => h) (Or.inl ⟨by rfl, ?_⟩) (by exact kS) ?_
  rotate_left
  · intro w hSw; (try dsimp only at hSw); (go_simp <;> with_reducible rfl)
  try simp only [Act.put, List.setIfInBounds_toArray, List.set_cons_zero, List.set_cons_succ]
  refine wpAnyH_ready (rs := [33]) (by kernel_rfl) (by simp) ?_
  refine AllReadyH.cons (o := { dst := some 79, op := Op.call { callee := Callee.value (Operand.func 16), args := #[Operand.tmp 78], argTypes := #[3] }, type := 26, pos := "law.go:40", after := #[{ on := 32, ground := Ground.data }, { on := 31, ground := Ground.chain }, { on := 31, ground := Ground.guard }], guard := some (31, true) }) rfl (fun K hK => ?_) AllReadyH.nil
  go_simp
  go_at_call 16; refine (kint_any m _ HMB.out.1 HMB.out.2).mono ?_; rintro e z9 ⟨⟨v1, rfl, hv⟩, hb⟩; obtain ⟨ai, ni, ci, rfl, hj⟩ := hv.ex; have HD9 : Hid (Below wr.heap.size wr z9) := HD8.out.trans (hb.mono HD8.out.size); have kS := HKP.out z9 HD9.out; have HJ1 : Hid (IntR z9 0 (.agg #[.bool (sgB (decide (m < 0)) m.natAbs), .slice ai ni ci]) (sgB (decide (m < 0)) m.natAbs) m.natAbs) := hj.mono (Nat.zero_le _); clear hj hv; clear hb
  go_wp2_with fail
  refine hK.out _ _ (by exact kS) (fun hHeld => ?_)
  clear hK K hHeld
  try simp only [Act.put, List.setIfInBounds_toArray, List.set_cons_zero, List.set_cons_succ]
  refine wpAnyH_ready (rs := [35]) (by kernel_rfl) (by simp) ?_
  refine AllReadyH.cons (o := { dst := some 81, op := Op.call { callee := Callee.value (Operand.func 17), args := #[Operand.tmp 80], argTypes := #[3] }, type := 26, pos := "law.go:40", after := #[{ on := 34, ground := Ground.data }, { on := 33, ground := Ground.chain }, { on := 31, ground := Ground.guard }], guard := some (31, true) }) rfl (fun K hK => ?_) AllReadyH.nil
  go_simp
  go_at_call 17; refine (rint_any m _ HMB.out.1 HMB.out.2).mono ?_; rintro e z10 ⟨⟨v2, rfl, hv⟩, hb⟩; obtain ⟨ai2, ni2, ci2, rfl, hj⟩ := hv.ex; have HD10 : Hid (Below wr.heap.size wr z10) := HD9.out.trans (hb.mono HD9.out.size); have kS := HKP.out z10 HD10.out; have HJ2 : Hid (IntR z10 0 (.agg #[.bool (sgB (decide (m < 0)) m.natAbs), .slice ai2 ni2 ci2]) (sgB (decide (m < 0)) m.natAbs) m.natAbs) := hj.mono (Nat.zero_le _); have HJ3 : Hid (IntR z10 0 (.agg #[.bool (sgB (decide (m < 0)) m.natAbs), .slice ai ni ci]) (sgB (decide (m < 0)) m.natAbs) m.natAbs) := HJ1.out.below hb (Nat.le_refl _); clear hj hv HJ1; clear hb
  go_wp2_with fail
  refine hK.out _ _ (by exact kS) (fun hHeld => ?_)
  clear hK K hHeld
  try simp only [Act.put, List.setIfInBounds_toArray, List.set_cons_zero, List.set_cons_succ]
  refine wpAnyH_ready (rs := [36]) (by kernel_rfl) (by simp) ?_
  refine AllReadyH.cons (o := { dst := some 82, op := Op.call { callee := Callee.value (Operand.func 8), args := #[Operand.tmp 79, Operand.tmp 81], argTypes := #[26, 26] }, type := 4, pos := "law.go:40", after := #[{ on := 33, ground := Ground.data }, { on := 35, ground := Ground.data }, { on := 35, ground := Ground.chain }, { on := 31, ground := Ground.guard }], guard := some (31, true) }) rfl (fun K hK => ?_) AllReadyH.nil
  go_simp
  go_at_call 8; refine (consts_any (k := 1) (s := sgB (decide (m < 0)) m.natAbs) (N := m.natAbs) (t := ⟨#[]⟩) (b := false) (B1 := 0) (B2 := 0) ⟨ai, ni, ci, rfl, HJ3.out⟩ ⟨ai2, ni2, ci2, rfl, HJ2.out⟩).mono ?_; rintro e z11 ⟨rfl, hb⟩; have HD11 : Hid (Below wr.heap.size wr z11) := HD10.out.trans (hb.mono HD10.out.size); have kS := HKP.out z11 HD11.out; clear hb
  go_wp2_with fail
  refine hK.out _ _ (by exact kS) (fun hHeld => ?_)
  clear hK K hHeld
  try simp only [Act.put, List.setIfInBounds_toArray, List.set_cons_zero, List.set_cons_succ]
  refine wpAnyH_take (i := 37) (oi := { dst := some 83, op := Op.pick (Operand.tmp 77) (Operand.tmp 82) (Operand.const (Value.bool false)), type := 4, pos := "law.go:40", after := #[{ on := 31, ground := Ground.data }, { on := 36, ground := Ground.data }], guard := none }) (v := ?_) rfl (by kernel_rfl) (by kernel_rfl) (by kernel_rfl) (fun _ _ _ h => h) (Or.inl ⟨by rfl, ?_⟩) (by exact kS) ?_
  rotate_left
  · intro w hSw; (try dsimp only at hSw); (go_simp <;> with_reducible rfl)
  try simp only [Act.put, List.setIfInBounds_toArray, List.set_cons_zero, List.set_cons_succ]
  refine wpAnyH_take (i := 38) (oi := { dst := some 84, op := Op.move (Operand.tmp 83), type := 4, pos := "law.go:40", after := #[{ on := 37, ground := Ground.data }, { on := 36, ground := Ground.chain }], guard := none }) (v := ?_) rfl (by kernel_rfl) (by kernel_rfl) (by kernel_rfl) (fun _ _ _ h => h) (Or.inl ⟨by rfl, ?_⟩) (by exact kS) ?_
  rotate_left
  · intro w hSw; (try dsimp only at hSw); (go_simp <;> with_reducible rfl)
  try simp only [Act.put, List.setIfInBounds_toArray, List.set_cons_zero, List.set_cons_succ]
  refine wpAnyH_take (i := 39) (oi := { dst := some 85, op := Op.move (Operand.tmp 4), type := 9, pos := "law.go:40", after := #[{ on := 38, ground := Ground.guard }], guard := some (38, true) }) (v := ?_) rfl (by kernel_rfl) (by kernel_rfl) (by kernel_rfl) (fun _ _ _ h => h) (Or.inl ⟨by rfl, ?_⟩) (by exact kS) ?_
  rotate_left
  · intro w hSw; (try dsimp only at hSw); (go_simp <;> with_reducible rfl)
  try simp only [Act.put, List.setIfInBounds_toArray, List.set_cons_zero, List.set_cons_succ]
  refine wpAnyH_take (i := 41) (oi := { dst := some 87, op := Op.move (Operand.tmp 4), type := 9, pos := "law.go:40", after := #[{ on := 38, ground := Ground.guard }], guard := some (38, true) }) (v := ?_) rfl (by kernel_rfl) (by kernel_rfl) (by kernel_rfl) (fun _ _ _ h => h) (Or.inl ⟨by rfl, ?_⟩) (by exact kS) ?_
  rotate_left
  · intro w hSw; (try dsimp only at hSw); (go_simp <;> with_reducible rfl)
  try simp only [Act.put, List.setIfInBounds_toArray, List.set_cons_zero, List.set_cons_succ]
  refine wpAnyH_ready (rs := [40]) (by kernel_rfl) (by simp) ?_
  refine AllReadyH.cons (o := { dst := some 86, op := Op.call { callee := Callee.value (Operand.func 18), args := #[Operand.tmp 85], argTypes := #[9] }, type := 26, pos := "law.go:40", after := #[{ on := 39, ground := Ground.data }, { on := 38, ground := Ground.chain }, { on := 38, ground := Ground.guard }], guard := some (38, true) }) rfl (fun K hK => ?_) AllReadyH.nil
  go_simp
  go_at_call 18; refine (kstr_any t _).mono ?_; rintro e z12 ⟨rfl, hb⟩; have HD12 : Hid (Below wr.heap.size wr z12) := HD11.out.trans (hb.mono HD11.out.size); have kS := HKP.out z12 HD12.out; clear hb
  go_wp2_with fail
  refine hK.out _ _ (by exact kS) (fun hHeld => ?_)
  clear hK K hHeld
  try simp only [Act.put, List.setIfInBounds_toArray, List.set_cons_zero, List.set_cons_succ]
  refine wpAnyH_ready (rs := [42]) (by kernel_rfl) (by simp) ?_
  refine AllReadyH.cons (o := { dst := some 88, op := Op.call { callee := Callee.value (Operand.func 19), args := #[Operand.tmp 87], argTypes := #[9] }, type := 26, pos := "law.go:40", after := #[{ on := 41, ground := Ground.data }, { on := 40, ground := Ground.chain }, { on := 38, ground := Ground.guard }], guard := some (38, true) }) rfl (fun K hK => ?_) AllReadyH.nil
  go_simp
  go_at_call 19; refine (rstr_any t _).mono ?_; rintro e z13 ⟨rfl, hb⟩; have HD13 : Hid (Below wr.heap.size wr z13) := HD12.out.trans (hb.mono HD12.out.size); have kS := HKP.out z13 HD13.out; clear hb
  go_wp2_with fail
  refine hK.out _ _ (by exact kS) (fun hHeld => ?_)
  clear hK K hHeld
  try simp only [Act.put, List.setIfInBounds_toArray, List.set_cons_zero, List.set_cons_succ]
  refine wpAnyH_ready (rs := [43]) (by kernel_rfl) (by simp) ?_
  refine AllReadyH.cons (o := { dst := some 89, op := Op.call { callee := Callee.value (Operand.func 8), args := #[Operand.tmp 86, Operand.tmp 88], argTypes := #[26, 26] }, type := 4, pos := "law.go:40", after := #[{ on := 40, ground := Ground.data }, { on := 42, ground := Ground.data }, { on := 42, ground := Ground.chain }, { on := 38, ground := Ground.guard }], guard := some (38, true) }) rfl (fun K hK => ?_) AllReadyH.nil
  go_simp
  go_at_call 8; refine (consts_any (k := 2) (s := false) (N := 0) (t := t) (b := false) (B1 := 0) (B2 := 0) ⟨none, 0, 0, rfl, zero_num _ _⟩ ⟨none, 0, 0, rfl, zero_num _ _⟩).mono ?_; rintro e z14 ⟨rfl, hb⟩; have HD14 : Hid (Below wr.heap.size wr z14) := HD13.out.trans (hb.mono HD13.out.size); have kS := HKP.out z14 HD14.out; clear hb
  go_wp2_with fail
  refine hK.out _ _ (by exact kS) (fun hHeld => ?_)
  clear hK K hHeld
  try simp only [Act.put, List.setIfInBounds_toArray, List.set_cons_zero, List.set_cons_succ]
  refine wpAnyH_take (i := 44) (oi := { dst := some 90, op := Op.pick (Operand.tmp 84) (Operand.tmp 89) (Operand.const (Value.bool false)), type := 4, pos := "law.go:40", after := #[{ on := 38, ground := Ground.data }, { on := 43, ground := Ground.data }], guard := none }) (v := ?_) rfl (by kernel_rfl) (by kernel_rfl) (by kernel_rfl) (fun _ _ _ h => h) (Or.inl ⟨by rfl, ?_⟩) (by exact kS) ?_
  rotate_left
  · intro w hSw; (try dsimp only at hSw); (go_simp <;> with_reducible rfl)
  try simp only [Act.put, List.setIfInBounds_toArray, List.set_cons_zero, List.set_cons_succ]
  refine wpAnyH_take (i := 45) (oi := { dst := some 91, op := Op.move (Operand.tmp 90), type := 4, pos := "law.go:40", after := #[{ on := 44, ground := Ground.data }, { on := 43, ground := Ground.chain }], guard := none }) (v := ?_) rfl (by kernel_rfl) (by kernel_rfl) (by kernel_rfl) (fun _ _ _ h => h) (Or.inl ⟨by rfl, ?_⟩) (by exact kS) ?_
  rotate_left
  · intro w hSw; (try dsimp only at hSw); (go_simp <;> with_reducible rfl)
  try simp only [Act.put, List.setIfInBounds_toArray, List.set_cons_zero, List.set_cons_succ]
  refine wpAnyH_take (i := 46) (oi := { dst := some 92, op := Op.move (Operand.tmp 3), type := 3, pos := "law.go:40", after := #[{ on := 45, ground := Ground.guard }], guard := some (45, true) }) (v := ?_) rfl (by kernel_rfl) (by kernel_rfl) (by kernel_rfl) (fun _ _ _ h => h) (Or.inl ⟨by rfl, ?_⟩) (by exact kS) ?_
  rotate_left
  · intro w hSw; (try dsimp only at hSw); (go_simp <;> with_reducible rfl)
  try simp only [Act.put, List.setIfInBounds_toArray, List.set_cons_zero, List.set_cons_succ]
  refine wpAnyH_take (i := 47) (oi := { dst := some 93, op := Op.binOp BinOp.gtr 3 (Operand.tmp 92) (Operand.const (Value.int IntKind.i64 0)) 3, type := 4, pos := "law.go:40", after := #[{ on := 46, ground := Ground.data }, { on := 45, ground := Ground.guard }], guard := some (45, true) }) (v := ?_) rfl (by kernel_rfl) (by kernel_rfl) (by kernel_rfl) (fun _ _ _ h => h) (Or.inl ⟨by rfl, ?_⟩) (by exact kS) ?_
  rotate_left
  · intro w hSw; (try dsimp only at hSw); (go_simp <;> with_reducible rfl)
  try simp only [Act.put, List.setIfInBounds_toArray, List.set_cons_zero, List.set_cons_succ]
  refine wpAnyH_take (i := 49) (oi := { dst := some 95, op := Op.move (Operand.tmp 3), type := 3, pos := "law.go:40", after := #[{ on := 45, ground := Ground.guard }], guard := some (45, true) }) (v := ?_) rfl (by kernel_rfl) (by kernel_rfl) (by kernel_rfl) (fun _ _ _ h => h) (Or.inl ⟨by rfl, ?_⟩) (by exact kS) ?_
  rotate_left
  · intro w hSw; (try dsimp only at hSw); (go_simp <;> with_reducible rfl)
  try simp only [Act.put, List.setIfInBounds_toArray, List.set_cons_zero, List.set_cons_succ]
  refine wpAnyH_take (i := 50) (oi := { dst := some 96, op := Op.binOp BinOp.gtr 3 (Operand.tmp 95) (Operand.const (Value.int IntKind.i64 0)) 3, type := 4, pos := "law.go:40", after := #[{ on := 49, ground := Ground.data }, { on := 45, ground := Ground.guard }], guard := some (45, true) }) (v := ?_) rfl (by kernel_rfl) (by kernel_rfl) (by kernel_rfl) (fun _ _ _ h => h) (Or.inl ⟨by rfl, ?_⟩) (by exact kS) ?_
  rotate_left
  · intro w hSw; (try dsimp only at hSw); (go_simp <;> with_reducible rfl)
  try simp only [Act.put, List.setIfInBounds_toArray, List.set_cons_zero, List.set_cons_succ]
  refine wpAnyH_ready (rs := [48]) (by kernel_rfl) (by simp) ?_
  refine AllReadyH.cons (o := { dst := some 94, op := Op.call { callee := Callee.value (Operand.func 20), args := #[Operand.tmp 93], argTypes := #[4] }, type := 26, pos := "law.go:40", after := #[{ on := 47, ground := Ground.data }, { on := 45, ground := Ground.chain }, { on := 45, ground := Ground.guard }], guard := some (45, true) }) rfl (fun K hK => ?_) AllReadyH.nil
  go_simp
  go_at_call 20; refine (kbool_any _ _).mono ?_; rintro e z15 ⟨rfl, hb⟩; have HD15 : Hid (Below wr.heap.size wr z15) := HD14.out.trans (hb.mono HD14.out.size); have kS := HKP.out z15 HD15.out; clear hb
  go_wp2_with fail
  refine hK.out _ _ (by exact kS) (fun hHeld => ?_)
  clear hK K hHeld
  try simp only [Act.put, List.setIfInBounds_toArray, List.set_cons_zero, List.set_cons_succ]
  refine wpAnyH_ready (rs := [51]) (by kernel_rfl) (by simp) ?_
  refine AllReadyH.cons (o := { dst := some 97, op := Op.call { callee := Callee.value (Operand.func 21), args := #[Operand.tmp 96], argTypes := #[4] }, type := 26, pos := "law.go:40", after := #[{ on := 50, ground := Ground.data }, { on := 48, ground := Ground.chain }, { on := 45, ground := Ground.guard }], guard := some (45, true) }) rfl (fun K hK => ?_) AllReadyH.nil
  go_simp
  go_at_call 21; refine (rbool_any _ _).mono ?_; rintro e z16 ⟨rfl, hb⟩; have HD16 : Hid (Below wr.heap.size wr z16) := HD15.out.trans (hb.mono HD15.out.size); have kS := HKP.out z16 HD16.out; clear hb
  go_wp2_with fail
  refine hK.out _ _ (by exact kS) (fun hHeld => ?_)
  clear hK K hHeld
  try simp only [Act.put, List.setIfInBounds_toArray, List.set_cons_zero, List.set_cons_succ]
  refine wpAnyH_ready (rs := [52]) (by kernel_rfl) (by simp) ?_
  refine AllReadyH.cons (o := { dst := some 98, op := Op.call { callee := Callee.value (Operand.func 8), args := #[Operand.tmp 94, Operand.tmp 97], argTypes := #[26, 26] }, type := 4, pos := "law.go:40", after := #[{ on := 48, ground := Ground.data }, { on := 51, ground := Ground.data }, { on := 51, ground := Ground.chain }, { on := 45, ground := Ground.guard }], guard := some (45, true) }) rfl (fun K hK => ?_) AllReadyH.nil
  go_simp
  go_at_call 8; refine (consts_any (k := 3) (s := false) (N := 0) (t := ⟨#[]⟩) (B1 := 0) (B2 := 0) ⟨none, 0, 0, rfl, zero_num _ _⟩ ⟨none, 0, 0, rfl, zero_num _ _⟩).mono ?_; rintro e z17 ⟨rfl, hb⟩; have HD17 : Hid (Below wr.heap.size wr z17) := HD16.out.trans (hb.mono HD16.out.size); have kS := HKP.out z17 HD17.out; clear hb
  go_wp2_with fail
  refine hK.out _ _ (by exact kS) (fun hHeld => ?_)
  clear hK K hHeld
  try simp only [Act.put, List.setIfInBounds_toArray, List.set_cons_zero, List.set_cons_succ]
  refine wpAnyH_take (i := 53) (oi := { dst := some 99, op := Op.pick (Operand.tmp 91) (Operand.tmp 98) (Operand.const (Value.bool false)), type := 4, pos := "law.go:40", after := #[{ on := 45, ground := Ground.data }, { on := 52, ground := Ground.data }], guard := none }) (v := ?_) rfl (by kernel_rfl) (by kernel_rfl) (by kernel_rfl) (fun _ _ _ h => h) (Or.inl ⟨by rfl, ?_⟩) (by exact kS) ?_
  rotate_left
  · intro w hSw; (try dsimp only at hSw); (go_simp <;> with_reducible rfl)
  try simp only [Act.put, List.setIfInBounds_toArray, List.set_cons_zero, List.set_cons_succ]
  refine wpAnyH_take (i := 54) (oi := { dst := some 100, op := Op.move (Operand.tmp 99), type := 4, pos := "law.go:40", after := #[{ on := 53, ground := Ground.data }, { on := 52, ground := Ground.chain }], guard := none }) (v := ?_) rfl (by kernel_rfl) (by kernel_rfl) (by kernel_rfl) (fun _ _ _ h => h) (Or.inl ⟨by rfl, ?_⟩) (by exact kS) ?_
  rotate_left
  · intro w hSw; (try dsimp only at hSw); (go_simp <;> with_reducible rfl)
  try simp only [Act.put, List.setIfInBounds_toArray, List.set_cons_zero, List.set_cons_succ]
  refine wpAnyH_ready (rs := [55]) (by kernel_rfl) (by simp) ?_
  refine AllReadyH.cons (o := { dst := some 101, op := Op.call { callee := Callee.value (Operand.func 5), args := #[], argTypes := #[] }, type := 4, pos := "law.go:40", after := #[{ on := 54, ground := Ground.chain }, { on := 54, ground := Ground.guard }], guard := some (54, true) }) rfl (fun K hK => ?_) AllReadyH.nil
  go_simp
  go_at_call 5; refine (awake_any _).mono ?_; rintro e z18 ⟨rfl, hb⟩; have HD18 : Hid (Below wr.heap.size wr z18) := HD17.out.trans (hb.mono HD17.out.size); have kS := HKP.out z18 HD18.out; clear hb
  go_wp2_with fail
  refine hK.out _ _ (by exact kS) (fun hHeld => ?_)
  clear hK K hHeld
  try simp only [Act.put, List.setIfInBounds_toArray, List.set_cons_zero, List.set_cons_succ]
  refine wpAnyH_take (i := 56) (oi := { dst := some 102, op := Op.pick (Operand.tmp 100) (Operand.tmp 101) (Operand.const (Value.bool false)), type := 4, pos := "law.go:40", after := #[{ on := 54, ground := Ground.data }, { on := 55, ground := Ground.data }], guard := none }) (v := ?_) rfl (by kernel_rfl) (by kernel_rfl) (by kernel_rfl) (fun _ _ _ h => h) (Or.inl ⟨by rfl, ?_⟩) (by exact kS) ?_
  rotate_left
  · intro w hSw; (try dsimp only at hSw); (go_simp <;> with_reducible rfl)
  try simp only [Act.put, List.setIfInBounds_toArray, List.set_cons_zero, List.set_cons_succ]
  refine wpAnyH_take (i := 57) (oi := { dst := some 10, op := Op.assign (Operand.tmp 102), type := 4, pos := "law.go:40", after := #[{ on := 56, ground := Ground.data }, { on := 55, ground := Ground.chain }, { on := 0, ground := Ground.phase }, { on := 1, ground := Ground.phase }, { on := 2, ground := Ground.phase }, { on := 3, ground := Ground.phase }, { on := 4, ground := Ground.phase }, { on := 5, ground := Ground.phase }, { on := 6, ground := Ground.phase }, { on := 7, ground := Ground.phase }, { on := 8, ground := Ground.phase }, { on := 9, ground := Ground.phase }, { on := 10, ground := Ground.phase }, { on := 11, ground := Ground.phase }, { on := 12, ground := Ground.phase }, { on := 13, ground := Ground.phase }, { on := 14, ground := Ground.phase }, { on := 15, ground := Ground.phase }, { on := 16, ground := Ground.phase }, { on := 17, ground := Ground.phase }, { on := 18, ground := Ground.phase }, { on := 19, ground := Ground.phase }, { on := 20, ground := Ground.phase }, { on := 21, ground := Ground.phase }, { on := 22, ground := Ground.phase }, { on := 23, ground := Ground.phase }, { on := 24, ground := Ground.phase }, { on := 25, ground := Ground.phase }, { on := 26, ground := Ground.phase }, { on := 27, ground := Ground.phase }, { on := 28, ground := Ground.phase }, { on := 29, ground := Ground.phase }, { on := 30, ground := Ground.phase }, { on := 31, ground := Ground.phase }, { on := 32, ground := Ground.phase }, { on := 33, ground := Ground.phase }, { on := 34, ground := Ground.phase }, { on := 35, ground := Ground.phase }, { on := 36, ground := Ground.phase }, { on := 37, ground := Ground.phase }, { on := 38, ground := Ground.phase }, { on := 39, ground := Ground.phase }, { on := 40, ground := Ground.phase }, { on := 41, ground := Ground.phase }, { on := 42, ground := Ground.phase }, { on := 43, ground := Ground.phase }, { on := 44, ground := Ground.phase }, { on := 45, ground := Ground.phase }, { on := 46, ground := Ground.phase }, { on := 47, ground := Ground.phase }, { on := 48, ground := Ground.phase }, { on := 49, ground := Ground.phase }, { on := 50, ground := Ground.phase }, { on := 51, ground := Ground.phase }, { on := 52, ground := Ground.phase }, { on := 53, ground := Ground.phase }, { on := 54, ground := Ground.phase }, { on := 55, ground := Ground.phase }, { on := 56, ground := Ground.phase }], guard := none }) (v := ?_) rfl (by kernel_rfl) (by kernel_rfl) (by kernel_rfl) (fun _ _ _ h => h) (Or.inl ⟨by rfl, ?_⟩) (by exact kS) ?_
  rotate_left
  · intro w hSw; (try dsimp only at hSw); (go_simp <;> with_reducible rfl)
  try simp only [Act.put, List.setIfInBounds_toArray, List.set_cons_zero, List.set_cons_succ]
  refine wpAnyH_done (by kernel_rfl) ?_ _
  go_wp2_with fail
  go_ret
  exact ⟨rfl, HGO.out _ HD18.out⟩
end Go.Proofs.YtfkkhabpnnealaaGreatDoor

