/-
  KonstLaws: for all constants the law answers true.
-/
import Derived.Test.YtfkkhabpnnealaaDoorLws
namespace Go.Proofs.YtfkkhabpnnealaaDoor
open Go.RowKit
attribute [local go_sem ↓] Go.wp_at_zero Go.wp_at_succ
set_option maxRecDepth 100000 in
set_option maxHeartbeats 8000000 in
theorem laws_out (k1 k2 : Int) (s1 s2 : Bool) (a1 a2 : Option Addr) (n1 n2 c1 c2 : Nat) (t1 t2 : ByteArray) (b1 b2 : Bool) (w : World)
    (hi1 : ∀ W, Calls Tryd.prog 7 #[cnV k1 s1 a1 n1 c1 t1 b1] W fun e w' => e = .returned (.bool true) ∧ Below W.heap.size W w')
    (hi2 : ∀ W, Calls Tryd.prog 7 #[cnV k2 s2 a2 n2 c2 t2 b2] W fun e w' => e = .returned (.bool false) ∧ Below W.heap.size W w') :
    Calls Tryd.prog 5 #[cnV k1 s1 a1 n1 c1 t1 b1, cnV k2 s2 a2 n2 c2 t2 b2] w fun e w' => e = .returned (.bool true) ∧ Below w.heap.size w w' := by
  have HI1 : Hid (∀ W, Calls Tryd.prog 7 #[cnV k1 s1 a1 n1 c1 t1 b1] W fun e w' => e = .returned (.bool true) ∧ Below W.heap.size W w') := hi1
  have HI2 : Hid (∀ W, Calls Tryd.prog 7 #[cnV k2 s2 a2 n2 c2 t2 b2] W fun e w' => e = .returned (.bool false) ∧ Below W.heap.size W w') := hi2
  have HB2 : Hid (Below w.heap.size w ((w.alloc (.cells #[.int .i64 k1, .bool s1, .slice a1 n1 c1, .string t1, .bool b1] 26)).alloc (.cells #[.int .i64 k2, .bool s2, .slice a2 n2 c2, .string t2, .bool b2] 26))) := two_below w _ _
  have HA2 : Hid (((w.alloc (.cells #[.int .i64 k1, .bool s1, .slice a1 n1 c1, .string t1, .bool b1] 26)).alloc (.cells #[.int .i64 k2, .bool s2, .slice a2 n2 c2, .string t2, .bool b2] 26)).heap[w.heap.size + 1]? = some (.cells #[.int .i64 k2, .bool s2, .slice a2 n2 c2, .string t2, .bool b2] 26 (0, 0))) := two_new _ _
  clear hi1 hi2
  go_enter Tryd.func5, Tryd.ntmps5
  go_wp2_with fail
  refine (HI1.out _).mono ?_
  rintro e x1 ⟨rfl, hb⟩
  have HBA : Hid (Below w.heap.size w x1) := HB2.out.trans (hb.mono HB2.out.size)
  have H1A : Hid (x1.heap[w.heap.size + 1]? = some (.cells #[.int .i64 k2, .bool s2, .slice a2 n2 c2, .string t2, .bool b2] 26 (0, 0))) := kept5 hb HA2.out
  clear hb
  have c5 := bx5 H1A.out
  go_wp2_with fail
  refine (HI2.out _).mono ?_
  rintro e x2 ⟨rfl, hb⟩
  have HBB : Hid (Below w.heap.size w x2) := HBA.out.trans (hb.mono HBA.out.size)
  clear hb
  go_wp2_with (go_at_call 8; refine (awake_any _).mono ?_; rintro e z9 ⟨rfl, hb⟩; have HBZ : Hid (Below w.heap.size w z9) := HBB.out.trans (hb.mono HBB.out.size); clear hb)
  go_ret
  exact ⟨rfl, HBZ.out⟩
set_option maxRecDepth 100000 in
set_option maxHeartbeats 8000000 in
theorem laws_outA (k1 k2 : Int) (s1 s2 : Bool) (a1 a2 : Option Addr) (n1 n2 c1 c2 : Nat) (t1 t2 : ByteArray) (b1 b2 : Bool) (w : World)
    (hi1 : ∀ W, Calls Tryd.prog 7 #[cnV k1 s1 a1 n1 c1 t1 b1] W fun e w' => e = .returned (.bool false) ∧ Below W.heap.size W w') :
    Calls Tryd.prog 5 #[cnV k1 s1 a1 n1 c1 t1 b1, cnV k2 s2 a2 n2 c2 t2 b2] w fun e w' => e = .returned (.bool true) ∧ Below w.heap.size w w' := by
  have HI1 : Hid (∀ W, Calls Tryd.prog 7 #[cnV k1 s1 a1 n1 c1 t1 b1] W fun e w' => e = .returned (.bool false) ∧ Below W.heap.size W w') := hi1
  have HB2 : Hid (Below w.heap.size w ((w.alloc (.cells #[.int .i64 k1, .bool s1, .slice a1 n1 c1, .string t1, .bool b1] 26)).alloc (.cells #[.int .i64 k2, .bool s2, .slice a2 n2 c2, .string t2, .bool b2] 26))) := two_below w _ _
  clear hi1
  go_enter Tryd.func5, Tryd.ntmps5
  go_wp2_with fail
  refine (HI1.out _).mono ?_
  rintro e x1 ⟨rfl, hb⟩
  have HBA : Hid (Below w.heap.size w x1) := HB2.out.trans (hb.mono HB2.out.size)
  clear hb
  go_wp2_with (go_at_call 8; refine (awake_any _).mono ?_; rintro e z9 ⟨rfl, hb⟩; have HBZ : Hid (Below w.heap.size w z9) := HBA.out.trans (hb.mono HBA.out.size); clear hb)
  go_ret
  exact ⟨rfl, HBZ.out⟩
theorem lw_a1 (k : Int) (hk : k = 1 ∨ k = 2 ∨ k = 3) (q : Int) (R : Ans) (t1 t2 : ByteArray) (b1 b2 : Bool) : bkA ⟨#[61, 61]⟩ k q R t1 b1 t2 b2 = ⟨3, false, 0, ⟨#[]⟩, q == 0, 0⟩ := by
  rcases hk with rfl | rfl | rfl <;> simp [bkA, tkB, hoB]
theorem lw_a2 (k : Int) (hk : k = 1 ∨ k = 2 ∨ k = 3) (q : Int) (R : Ans) (t1 t2 : ByteArray) (b1 b2 : Bool) : bkA ⟨#[33, 61]⟩ k q R t1 b1 t2 b2 = ⟨3, false, 0, ⟨#[]⟩, q != 0, 0⟩ := by
  rcases hk with rfl | rfl | rfl <;> simp [bkA, tkB, hoB]
theorem lw_a3 (k : Int) (hk : k = 1 ∨ k = 2) (q : Int) (R : Ans) (t1 t2 : ByteArray) (b1 b2 : Bool) : bkA ⟨#[60]⟩ k q R t1 b1 t2 b2 = ⟨3, false, 0, ⟨#[]⟩, decide (q < 0), 0⟩ := by
  rcases hk with rfl | rfl <;> simp [bkA, tkB, hoB, cmO]
theorem lw_a4 (k : Int) (hk : k = 1 ∨ k = 2) (q : Int) (R : Ans) (t1 t2 : ByteArray) (b1 b2 : Bool) : bkA ⟨#[62]⟩ k q R t1 b1 t2 b2 = ⟨3, false, 0, ⟨#[]⟩, decide (0 < q), 0⟩ := by
  rcases hk with rfl | rfl <;> simp [bkA, tkB, hoB, cmO]
theorem lw_a3n (q : Int) (R : Ans) (t1 t2 : ByteArray) (b1 b2 : Bool) : bkA ⟨#[60]⟩ 3 q R t1 b1 t2 b2 = noA 6 := by simp [bkA, tkB]
theorem lw_a4n (q : Int) (R : Ans) (t1 t2 : ByteArray) (b1 b2 : Bool) : bkA ⟨#[62]⟩ 3 q R t1 b1 t2 b2 = noA 6 := by simp [bkA, tkB]
/-- KonstLaws -/
theorem laws_any (k1 k2 : Int) (s1 s2 : Bool) (a1 a2 : Option Addr) (n1 n2 c1 c2 : Nat) (l1 l2 : List Nat) (t1 t2 : ByteArray) (b1 b2 : Bool) (w : World) (S1 : Sl w a1 n1 c1 l1) (S2 : Sl w a2 n2 c2 l2) (z1 : t1.size ≤ 9223372036854775807) (z2 : t2.size ≤ 9223372036854775807) :
    Calls Tryd.prog 5 #[cnV k1 s1 a1 n1 c1 t1 b1, cnV k2 s2 a2 n2 c2 t2 b2] w fun e w' => e = .returned (.bool true) ∧ Below w.heap.size w w' := by
  have m1 := S1.mx
  have m2 := S2.mx
  have e1 := S1.lec
  have e2 := S2.lec
  have hi1 : ∀ W, Calls Tryd.prog 7 #[cnV k1 s1 a1 n1 c1 t1 b1] W fun e w' => e = .returned (.bool (decide (n1 ≤ 20 ∧ t1.size ≤ 300 ∧ (k1 = 1 ∨ k1 = 2 ∨ k1 = 3)))) ∧ Below W.heap.size W w' := fun W => in_any k1 s1 a1 n1 c1 t1 b1 W (by omega) z1
  have hi2 : ∀ W, Calls Tryd.prog 7 #[cnV k2 s2 a2 n2 c2 t2 b2] W fun e w' => e = .returned (.bool (decide (n2 ≤ 20 ∧ t2.size ≤ 300 ∧ (k2 = 1 ∨ k2 = 2 ∨ k2 = 3)))) ∧ Below W.heap.size W w' := fun W => in_any k2 s2 a2 n2 c2 t2 b2 W (by omega) z2
  by_cases d1 : n1 ≤ 20 ∧ t1.size ≤ 300 ∧ (k1 = 1 ∨ k1 = 2 ∨ k1 = 3)
  · rw [decide_eq_true d1] at hi1
    by_cases d2 : n2 ≤ 20 ∧ t2.size ≤ 300 ∧ (k2 = 1 ∨ k2 = 2 ∨ k2 = 3)
    · rw [decide_eq_true d2] at hi2
      have hk : ∀ op : ByteArray, ∀ W, Below w.heap.size w W → Calls Tryd.prog 9 #[.string op, cnV k1 s1 a1 n1 c1 t1 b1, cnV k2 s2 a2 n2 c2 t2 b2] W (AnsQ W (bnK op k1 s1 (vl 4294967296 l1) t1 b1 k2 s2 (vl 4294967296 l2) t2 b2)) := fun op W hb => kbin_any op k1 k2 s1 s2 a1 n1 c1 l1 a2 n2 c2 l2 t1 t2 b1 b2 W (S1.below hb (Nat.le_refl _)) (S2.below hb (Nat.le_refl _)) (by omega) (by omega) (by omega) (by omega)
      have he : ∀ W, Below w.heap.size w W → Calls Tryd.prog 13 #[cnV k1 s1 a1 n1 c1 t1 b1, cnV k2 s2 a2 n2 c2 t2 b2] W fun e w' => e = .returned (.bool (if k1 = k2 then (cmK k1 s1 (vl 4294967296 l1) t1 b1 s2 (vl 4294967296 l2) t2 b2 == 0) else false)) ∧ Below W.heap.size W w' := fun W hb => kequal_any k1 k2 s1 s2 a1 n1 c1 l1 a2 n2 c2 l2 t1 t2 b1 b2 W (S1.below hb (Nat.le_refl _)) (S2.below hb (Nat.le_refl _)) (by omega) (by omega)
      by_cases hkk : k1 = k2
      · subst hkk
        rw [if_pos rfl] at he
        have hbk : ∀ op : ByteArray, bnK op k1 s1 (vl 4294967296 l1) t1 b1 k1 s2 (vl 4294967296 l2) t2 b2 = bkA op k1 (cmK k1 s1 (vl 4294967296 l1) t1 b1 s2 (vl 4294967296 l2) t2 b2) (rkA op s1 (vl 4294967296 l1) s2 (vl 4294967296 l2)) t1 b1 t2 b2 := fun op => by unfold bnK; rw [if_pos rfl]
        simp only [hbk] at hk
        clear hbk
        generalize cmK k1 s1 (vl 4294967296 l1) t1 b1 s2 (vl 4294967296 l2) t2 b2 = q at *
        have h1 := hk ⟨#[61, 61]⟩
        have h2 := hk ⟨#[33, 61]⟩
        have h3 := hk ⟨#[60]⟩
        have h4 := hk ⟨#[62]⟩
        simp only [lw_a1 k1 d1.2.2] at h1
        simp only [lw_a2 k1 d1.2.2] at h2
        rcases d1.2.2 with hk1 | hk1 | hk1
        iterate 2
          simp only [lw_a3 k1 (by omega)] at h3
          simp only [lw_a4 k1 (by omega)] at h4
          rcases Int.lt_trichotomy q 0 with hq | hq | hq
          · have y1 : (q == 0) = false := by simp; omega
            have y2 : (q != 0) = true := by simp; omega
            have y3 : decide (q < 0) = true := by simp; omega
            have y4 : decide (0 < q) = false := by simp; omega
            simp only [y1, y2, y3, y4] at h1 h2 h3 h4 he
            exact lw_lt k1 k1 s1 s2 a1 a2 n1 n2 c1 c2 t1 t2 b1 b2 w hi1 hi2 h1 h2 h3 h4 he
          · subst hq
            exact lw_eq k1 k1 s1 s2 a1 a2 n1 n2 c1 c2 t1 t2 b1 b2 w hi1 hi2 h1 h2 h3 h4 he
          · have y1 : (q == 0) = false := by simp; omega
            have y2 : (q != 0) = true := by simp; omega
            have y3 : decide (q < 0) = false := by simp; omega
            have y4 : decide (0 < q) = true := by simp; omega
            simp only [y1, y2, y3, y4] at h1 h2 h3 h4 he
            exact lw_gt k1 k1 s1 s2 a1 a2 n1 n2 c1 c2 t1 t2 b1 b2 w hi1 hi2 h1 h2 h3 h4 he
        subst hk1
        simp only [lw_a3n] at h3
        simp only [lw_a4n] at h4
        by_cases hq : q = 0
        · subst hq
          exact lw_3t 3 3 s1 s2 a1 a2 n1 n2 c1 c2 t1 t2 b1 b2 w hi1 hi2 h1 h2 h3 h4 he
        · have y1 : (q == 0) = false := by simp; omega
          have y2 : (q != 0) = true := by simp; omega
          simp only [y1, y2] at h1 h2 he
          exact lw_3f 3 3 s1 s2 a1 a2 n1 n2 c1 c2 t1 t2 b1 b2 w hi1 hi2 h1 h2 h3 h4 he
      · have hb : ∀ op : ByteArray, bnK op k1 s1 (vl 4294967296 l1) t1 b1 k2 s2 (vl 4294967296 l2) t2 b2 = noA 6 := fun op => by unfold bnK; rw [if_neg hkk]
        simp only [hb] at hk
        rw [if_neg hkk] at he
        exact lw_ne k1 k2 s1 s2 a1 a2 n1 n2 c1 c2 t1 t2 b1 b2 w hi1 hi2 (hk _) (hk _) (hk _) (hk _) he
    · rw [decide_eq_false d2] at hi2
      exact laws_out k1 k2 s1 s2 a1 a2 n1 n2 c1 c2 t1 t2 b1 b2 w hi1 hi2
  · rw [decide_eq_false d1] at hi1
    exact laws_outA k1 k2 s1 s2 a1 a2 n1 n2 c1 c2 t1 t2 b1 b2 w hi1
end Go.Proofs.YtfkkhabpnnealaaDoor

