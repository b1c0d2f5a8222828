/-
  Two constants that read the same are alike.
-/
import Derived.Test.YtfkkhabpnnealaaGreatDoorKpG
import Derived.Test.YtfkkhabpnnealaaGreatDoorKpE
namespace Go.Proofs.YtfkkhabpnnealaaGreatDoor
open Go.RowKit
attribute [local go_sem ↓] Go.wp_at_zero Go.wp_at_succ
set_option maxRecDepth 100000 in
set_option maxHeartbeats 8000000 in
/-- two constants that are answered and read the same are alike -/
theorem consts_any {w : World} {B1 B2 : Nat} {v1 v2 : Value} {k : Int} {s : Bool} {N : Nat} {t : ByteArray} {b : Bool} (h1 : CnR w B1 v1 k s N t b) (h2 : CnR w B2 v2 k s N t b) :
    Calls Tryz.prog 8 #[v1, v2] w fun e w' => e = .returned (.bool true) ∧ Below w.heap.size w w' := by
  obtain ⟨a1, n1, c1, rfl, i1⟩ := h1.ex
  obtain ⟨a2, n2, c2, rfl, i2⟩ := h2.ex
  have HW : Hid (∀ W, Below w.heap.size w W → Calls Tryz.prog 27 #[.agg #[.bool s, .slice a1 n1 c1], .agg #[.bool s, .slice a2 n2 c2]] W fun e w' => e = .returned (.bool true) ∧ Below W.heap.size W w') := fun W hb => whole_any (i1.below hb (Nat.le_refl _)) (i2.below hb (Nat.le_refl _))
  clear h1 h2 i1 i2
  have z1 : (k == k) = true := by simp
  have z2 : (t.toList == t.toList) = true := by simp
  have z3 : (b == b) = true := by simp
  go_enter Tryz.func8, Tryz.ntmps8
  go_wp2_with (go_at_call 27; refine (HW.out _ (two_below _ _ _)).mono ?_; rintro e x1 ⟨rfl, hb⟩; have HB : Hid (Below w.heap.size w x1) := (two_below _ _ _).trans (hb.mono (two_below _ _ _).size); clear hb)
  go_ret
  exact ⟨rfl, HB.out⟩
end Go.Proofs.YtfkkhabpnnealaaGreatDoor

/-
  The document's Binary gives what konst's gives.
-/
namespace Go.Proofs.YtfkkhabpnnealaaGreatDoor
open Go.RowKit
theorem bl_self : ∀ x : List UInt8, Op.bytesLess x x = false
  | [] => rfl
  | a :: x => by simp [Op.bytesLess, bl_self x]
theorem cEq_k (k : Int) (hk : k = 1 ∨ k = 2 ∨ k = 3) (s1 : Bool) (N1 : Nat) (t1 : ByteArray) (b1 : Bool) (s2 : Bool) (N2 : Nat) (t2 : ByteArray) (b2 : Bool) : cEq k s1 N1 t1 b1 k s2 N2 t2 b2 = (cmK k s1 N1 t1 b1 s2 N2 t2 b2 == 0) := by
  unfold cEq cmK
  rw [if_pos rfl]
  rcases hk with rfl | rfl | rfl
  · simp
  · simp only [Int.reduceEq, if_false, if_true]
    by_cases h : t1.toList = t2.toList
    · rw [h]
      have := bl_self t2.toList
      simp [this]
    · have h2 : (t1.toList == t2.toList) = false := by simpa using h
      rw [h2]
      by_cases hb : Op.bytesLess t1.toList t2.toList = true
      · simp [hb]
      · simp [hb, h]
  · simp only [Int.reduceEq, if_false, if_true]
    cases b1 <;> cases b2 <;> rfl
theorem ans_1 (op : ByteArray) (q : Int) (t1 t2 : ByteArray) (b1 b2 : Bool) (s1 : Bool) (N1 : Nat) (s2 : Bool) (N2 : Nat) :
    biB op (q == 0) (cmA op 1 q) (addE s1 N1 s2 N2) (addE s1 N1 (!s2) N2) (mulE N1 N2) (quoE N1 N2) (addS s1 N1 s2 N2) (addS s1 N1 (!s2) N2) (mulS s1 N1 s2 N2) (sgB (s1 != s2) (quoQ N1 N2)) (sgB s1 (quoR N1 N2)) (addV s1 N1 s2 N2) (addV s1 N1 (!s2) N2) (mulV N1 N2) (quoQ N1 N2) (quoR N1 N2) = bkA op 1 q (rkA op s1 N1 s2 N2) t1 b1 t2 b2 := by
  unfold biB bkA tkB hoB cmA cmO rkA
  by_cases h_eq : op.toList = [61, 61]
  · simp [h_eq]
  by_cases h_ne : op.toList = [33, 61]
  · simp [h_ne, bne]
  by_cases h_an : op.toList = [38, 38]
  · simp [h_an]
  by_cases h_or : op.toList = [124, 124]
  · simp [h_or]
  by_cases h_lt : op.toList = [60]
  · simp [h_lt]
  by_cases h_le : op.toList = [60, 61]
  · simp [h_le]
  by_cases h_gt : op.toList = [62]
  · simp [h_gt]
  by_cases h_ge : op.toList = [62, 61]
  · simp [h_ge]
  by_cases h_ad : op.toList = [43]
  · simp [h_ad]
  by_cases h_su : op.toList = [45]
  · simp [h_su]
  by_cases h_mu : op.toList = [42]
  · simp [h_mu]
  by_cases h_di : op.toList = [47]
  · simp [h_di]
  by_cases h_re : op.toList = [37]
  · simp [h_re]
  simp [h_eq, h_ne, h_an, h_or, h_lt, h_le, h_gt, h_ge, h_ad, h_su, h_mu, h_di, h_re]
theorem ans_2 (op : ByteArray) (q : Int) (R : Ans) (t1 t2 : ByteArray) (b1 b2 : Bool) (s1 : Bool) (N1 : Nat) (s2 : Bool) (N2 : Nat) :
    biA op 2 (q == 0) (cmA op 2 q) s1 N1 t1 b1 s2 N2 t2 b2 = bkA op 2 q R t1 b1 t2 b2 := by
  unfold biA bkA tkB hoB cmA cmO
  by_cases h_eq : op.toList = [61, 61]
  · simp [h_eq]
  by_cases h_ne : op.toList = [33, 61]
  · simp [h_ne, bne]
  by_cases h_an : op.toList = [38, 38]
  · simp [h_an]
  by_cases h_or : op.toList = [124, 124]
  · simp [h_or]
  by_cases h_lt : op.toList = [60]
  · simp [h_lt]
  by_cases h_le : op.toList = [60, 61]
  · simp [h_le]
  by_cases h_gt : op.toList = [62]
  · simp [h_gt]
  by_cases h_ge : op.toList = [62, 61]
  · simp [h_ge]
  by_cases h_ad : op.toList = [43]
  · simp [h_ad]
  by_cases h_su : op.toList = [45]
  · simp [h_su]
  by_cases h_mu : op.toList = [42]
  · simp [h_mu]
  by_cases h_di : op.toList = [47]
  · simp [h_di]
  by_cases h_re : op.toList = [37]
  · simp [h_re]
  simp [h_eq, h_ne, h_an, h_or, h_lt, h_le, h_gt, h_ge, h_ad, h_su, h_mu, h_di, h_re]
theorem ans_3 (op : ByteArray) (q : Int) (R : Ans) (t1 t2 : ByteArray) (b1 b2 : Bool) (s1 : Bool) (N1 : Nat) (s2 : Bool) (N2 : Nat) :
    biA op 3 (q == 0) (cmA op 3 q) s1 N1 t1 b1 s2 N2 t2 b2 = bkA op 3 q R t1 b1 t2 b2 := by
  unfold biA bkA tkB hoB cmA
  by_cases h_eq : op.toList = [61, 61]
  · simp [h_eq]
  by_cases h_ne : op.toList = [33, 61]
  · simp [h_ne, bne]
  by_cases h_an : op.toList = [38, 38]
  · simp [h_an]
  by_cases h_or : op.toList = [124, 124]
  · simp [h_or]
  by_cases h_lt : op.toList = [60]
  · simp [h_lt]
  by_cases h_le : op.toList = [60, 61]
  · simp [h_le]
  by_cases h_gt : op.toList = [62]
  · simp [h_gt]
  by_cases h_ge : op.toList = [62, 61]
  · simp [h_ge]
  by_cases h_ad : op.toList = [43]
  · simp [h_ad]
  by_cases h_su : op.toList = [45]
  · simp [h_su]
  by_cases h_mu : op.toList = [42]
  · simp [h_mu]
  by_cases h_di : op.toList = [47]
  · simp [h_di]
  by_cases h_re : op.toList = [37]
  · simp [h_re]
  simp [h_eq, h_ne, h_an, h_or, h_lt, h_le, h_gt, h_ge, h_ad, h_su, h_mu, h_di, h_re]
end Go.Proofs.YtfkkhabpnnealaaGreatDoor

