/-
  KonstUnary: for all constants, ints and texts the law answers true.
-/
import Derived.Test.YtfkkhabpnnealaaGreatDoorUnl
namespace Go.Proofs.YtfkkhabpnnealaaGreatDoor
open Go.RowKit
theorem equal_one (k1 k2 : Int) (hk : k1 = 1 ∨ k1 = 2 ∨ k1 = 3) (s1 : Bool) (N1 : Nat) (t1 : ByteArray) (b1 : Bool) (s2 : Bool) (N2 : Nat) (t2 : ByteArray) (b2 : Bool) : cEq k1 s1 N1 t1 b1 k2 s2 N2 t2 b2 = (if k1 = k2 then (cmK k1 s1 N1 t1 b1 s2 N2 t2 b2 == 0) else false) := by
  by_cases h : k1 = k2
  · subst h
    rw [if_pos rfl]
    exact cEq_k k1 hk s1 N1 t1 b1 s2 N2 t2 b2
  · rw [if_neg h]
    unfold cEq
    rw [if_neg h]
theorem unary_any (op : ByteArray) (k1 k2 : Int) (s1 s2 : Bool) (a1 a2 : Option Addr) (n1 n2 c1 c2 : Nat) (l1 l2 : List Nat) (t1 t2 : ByteArray) (b1 b2 : Bool) (m : Int) (t : ByteArray) (w : World) (S1 : Sl w a1 n1 c1 l1) (S2 : Sl w a2 n2 c2 l2) (g1 : a1 = none → c1 = 0) (g2 : a2 = none → c2 = 0) (ho : op.size ≤ 9223372036854775807) (z1 : t1.size ≤ 9223372036854775807) (z2 : t2.size ≤ 9223372036854775807) (hm : (Lit.int .i64 m).wf = true) (ht : t.size ≤ 9223372036854775807) :
    Calls Tryz.prog 3 #[.string op, cnV k1 s1 a1 n1 c1 t1 b1, cnV k2 s2 a2 n2 c2 t2 b2, .int .i64 m, .string t] w fun e w' => e = .returned (.bool true) ∧ Below w.heap.size w w' := by
  have m1 := S1.mx
  have m2 := S2.mx
  have e1 := S1.lec
  have e2 := S2.lec
  have hmm : -9223372036854775808 ≤ m ∧ m ≤ 9223372036854775807 := by
    simp only [Lit.wf, IntKind.min, IntKind.max, IntKind.signed, IntKind.bits, Bool.and_eq_true] at hm
    simp at hm
    omega
  have hi1 : ∀ W, Calls Tryz.prog 4 #[cnV k1 s1 a1 n1 c1 t1 b1] W fun e w' => e = .returned (.bool (decide (n1 ≤ 20 ∧ t1.size ≤ 300 ∧ (k1 = 1 ∨ k1 = 2 ∨ k1 = 3)))) ∧ Below W.heap.size W w' := fun W => in_any k1 s1 a1 n1 c1 t1 b1 W (by omega) z1
  have hi2 : ∀ W, Calls Tryz.prog 4 #[cnV k2 s2 a2 n2 c2 t2 b2] W fun e w' => e = .returned (.bool (decide (n2 ≤ 20 ∧ t2.size ≤ 300 ∧ (k2 = 1 ∨ k2 = 2 ∨ k2 = 3)))) ∧ Below W.heap.size W w' := fun W => in_any k2 s2 a2 n2 c2 t2 b2 W (by omega) z2
  by_cases d1 : n1 ≤ 20 ∧ t1.size ≤ 300 ∧ (k1 = 1 ∨ k1 = 2 ∨ k1 = 3)
  · rw [decide_eq_true d1] at hi1
    by_cases d2 : n2 ≤ 20 ∧ t2.size ≤ 300 ∧ (k2 = 1 ∨ k2 = 2 ∨ k2 = 3)
    · rw [decide_eq_true d2] at hi2
      by_cases h20 : 20 < op.size
      · exact unl_o3 op k1 k2 s1 s2 a1 a2 n1 n2 c1 c2 t1 t2 b1 b2 m t w hi1 hi2 h20 ho
      · by_cases h300 : 300 < t.size
        · exact unl_o4 op k1 k2 s1 s2 a1 a2 n1 n2 c1 c2 t1 t2 b1 b2 m t w hi1 hi2 h20 h300 ht
        · refine unl_in op k1 k2 s1 s2 a1 a2 n1 n2 c1 c2 t1 t2 b1 b2 m t w (unR op k1 s1 (vl 4294967296 l1) b1) (cEq k1 s1 (vl 4294967296 l1) t1 b1 k2 s2 (vl 4294967296 l2) t2 b2) (vl 4294967296 l1) (tyK k1) h20 h300 hmm.1 hmm.2 hi1 hi2 (fun W hb => ?_) (fun W hb => ?_) (fun W hb => ?_) (fun W hb => ?_) (fun W hb => ?_) (fun W hb => ?_) (fun W => ?_) (fun W => ?_)
          · exact kunary_any op k1 s1 a1 n1 c1 l1 t1 b1 W (S1.below hb (Nat.le_refl _)) (by omega)
          · exact runary_any op k1 s1 a1 n1 c1 l1 t1 b1 W (S1.below hb (Nat.le_refl _)) g1 (by omega)
          · rw [equal_one k1 k2 d1.2.2]
            exact kequal_any k1 k2 s1 s2 a1 n1 c1 l1 a2 n2 c2 l2 t1 t2 b1 b2 W (S1.below hb (Nat.le_refl _)) (S2.below hb (Nat.le_refl _)) (by omega) (by omega)
          · exact requal_any k1 k2 s1 s2 a1 n1 c1 l1 a2 n2 c2 l2 t1 t2 b1 b2 W (S1.below hb (Nat.le_refl _)) (S2.below hb (Nat.le_refl _)) g1 g2 (by omega) (by omega)
          · exact ktext_any k1 d1.2.2 s1 a1 n1 c1 l1 t1 b1 W (S1.below hb (Nat.le_refl _)) (by omega) (by omega)
          · exact rtextc_any k1 d1.2.2 s1 a1 n1 c1 l1 t1 b1 W (S1.below hb (Nat.le_refl _)) g1 (by omega) (by omega)
          · exact ktype_any k1 d1.2.2 s1 a1 n1 c1 t1 b1 W
          · exact rtype_any k1 d1.2.2 s1 a1 n1 c1 t1 b1 W
    · rw [decide_eq_false d2] at hi2
      exact unl_o2 op k1 k2 s1 s2 a1 a2 n1 n2 c1 c2 t1 t2 b1 b2 m t w hi1 hi2
  · rw [decide_eq_false d1] at hi1
    exact unl_o1 op k1 k2 s1 s2 a1 a2 n1 n2 c1 c2 t1 t2 b1 b2 m t w hi1
end Go.Proofs.YtfkkhabpnnealaaGreatDoor

