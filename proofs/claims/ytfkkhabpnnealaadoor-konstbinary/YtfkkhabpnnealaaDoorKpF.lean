/-
  The document's Binary gives what konst's gives.
-/
import Derived.Test.YtfkkhabpnnealaaDoorKpE
namespace Go.Proofs.YtfkkhabpnnealaaDoor
open Go.RowKit
theorem bl_self : ∀ x : List UInt8, Op.bytesLess x x = false
  | [] => rfl
  | a :: x => by simp [Op.bytesLess, bl_self x]
theorem cEq_k (k : Int) (hk : k = 1 ∨ k = 2 ∨ k = 3) (s1 : Bool) (N1 : Nat) (t1 : ByteArray) (b1 : Bool) (s2 : Bool) (N2 : Nat) (t2 : ByteArray) (b2 : Bool) : cEq k s1 N1 t1 b1 k s2 N2 t2 b2 = (cmK k s1 N1 t1 b1 s2 N2 t2 b2 == 0) := by
  unfold cEq cmK
  rw [if_pos rfl]
  rcases hk with rfl | rfl | rfl
  · simp
  · simp only [Int.reduceEq, if_false, if_true]
    by_cases h : t1.toList = t2.toList
    · rw [h]
      have := bl_self t2.toList
      simp [this]
    · have h2 : (t1.toList == t2.toList) = false := by simpa using h
      rw [h2]
      by_cases hb : Op.bytesLess t1.toList t2.toList = true
      · simp [hb]
      · simp [hb, h]
  · simp only [Int.reduceEq, if_false, if_true]
    cases b1 <;> cases b2 <;> rfl
theorem ans_1 (op : ByteArray) (q : Int) (t1 t2 : ByteArray) (b1 b2 : Bool) (s1 : Bool) (N1 : Nat) (s2 : Bool) (N2 : Nat) :
    biB op (q == 0) (cmA op 1 q) (addE s1 N1 s2 N2) (addE s1 N1 (!s2) N2) (mulE N1 N2) (quoE N1 N2) (addS s1 N1 s2 N2) (addS s1 N1 (!s2) N2) (mulS s1 N1 s2 N2) (sgB (s1 != s2) (quoQ N1 N2)) (sgB s1 (quoR N1 N2)) (addV s1 N1 s2 N2) (addV s1 N1 (!s2) N2) (mulV N1 N2) (quoQ N1 N2) (quoR N1 N2) = bkA op 1 q (rkA op s1 N1 s2 N2) t1 b1 t2 b2 := by
  unfold biB bkA tkB hoB cmA cmO rkA
  by_cases h_eq : op.toList = [61, 61]
  · simp [h_eq]
  by_cases h_ne : op.toList = [33, 61]
  · simp [h_ne, bne]
  by_cases h_an : op.toList = [38, 38]
  · simp [h_an]
  by_cases h_or : op.toList = [124, 124]
  · simp [h_or]
  by_cases h_lt : op.toList = [60]
  · simp [h_lt]
  by_cases h_le : op.toList = [60, 61]
  · simp [h_le]
  by_cases h_gt : op.toList = [62]
  · simp [h_gt]
  by_cases h_ge : op.toList = [62, 61]
  · simp [h_ge]
  by_cases h_ad : op.toList = [43]
  · simp [h_ad]
  by_cases h_su : op.toList = [45]
  · simp [h_su]
  by_cases h_mu : op.toList = [42]
  · simp [h_mu]
  by_cases h_di : op.toList = [47]
  · simp [h_di]
  by_cases h_re : op.toList = [37]
  · simp [h_re]
  simp [h_eq, h_ne, h_an, h_or, h_lt, h_le, h_gt, h_ge, h_ad, h_su, h_mu, h_di, h_re]
theorem ans_2 (op : ByteArray) (q : Int) (R : Ans) (t1 t2 : ByteArray) (b1 b2 : Bool) (s1 : Bool) (N1 : Nat) (s2 : Bool) (N2 : Nat) :
    biA op 2 (q == 0) (cmA op 2 q) s1 N1 t1 b1 s2 N2 t2 b2 = bkA op 2 q R t1 b1 t2 b2 := by
  unfold biA bkA tkB hoB cmA cmO
  by_cases h_eq : op.toList = [61, 61]
  · simp [h_eq]
  by_cases h_ne : op.toList = [33, 61]
  · simp [h_ne, bne]
  by_cases h_an : op.toList = [38, 38]
  · simp [h_an]
  by_cases h_or : op.toList = [124, 124]
  · simp [h_or]
  by_cases h_lt : op.toList = [60]
  · simp [h_lt]
  by_cases h_le : op.toList = [60, 61]
  · simp [h_le]
  by_cases h_gt : op.toList = [62]
  · simp [h_gt]
  by_cases h_ge : op.toList = [62, 61]
  · simp [h_ge]
  by_cases h_ad : op.toList = [43]
  · simp [h_ad]
  by_cases h_su : op.toList = [45]
  · simp [h_su]
  by_cases h_mu : op.toList = [42]
  · simp [h_mu]
  by_cases h_di : op.toList = [47]
  · simp [h_di]
  by_cases h_re : op.toList = [37]
  · simp [h_re]
  simp [h_eq, h_ne, h_an, h_or, h_lt, h_le, h_gt, h_ge, h_ad, h_su, h_mu, h_di, h_re]
theorem ans_3 (op : ByteArray) (q : Int) (R : Ans) (t1 t2 : ByteArray) (b1 b2 : Bool) (s1 : Bool) (N1 : Nat) (s2 : Bool) (N2 : Nat) :
    biA op 3 (q == 0) (cmA op 3 q) s1 N1 t1 b1 s2 N2 t2 b2 = bkA op 3 q R t1 b1 t2 b2 := by
  unfold biA bkA tkB hoB cmA
  by_cases h_eq : op.toList = [61, 61]
  · simp [h_eq]
  by_cases h_ne : op.toList = [33, 61]
  · simp [h_ne, bne]
  by_cases h_an : op.toList = [38, 38]
  · simp [h_an]
  by_cases h_or : op.toList = [124, 124]
  · simp [h_or]
  by_cases h_lt : op.toList = [60]
  · simp [h_lt]
  by_cases h_le : op.toList = [60, 61]
  · simp [h_le]
  by_cases h_gt : op.toList = [62]
  · simp [h_gt]
  by_cases h_ge : op.toList = [62, 61]
  · simp [h_ge]
  by_cases h_ad : op.toList = [43]
  · simp [h_ad]
  by_cases h_su : op.toList = [45]
  · simp [h_su]
  by_cases h_mu : op.toList = [42]
  · simp [h_mu]
  by_cases h_di : op.toList = [47]
  · simp [h_di]
  by_cases h_re : op.toList = [37]
  · simp [h_re]
  simp [h_eq, h_ne, h_an, h_or, h_lt, h_le, h_gt, h_ge, h_ad, h_su, h_mu, h_di, h_re]
/-- the document's Binary -/
theorem rbin_any (op : ByteArray) (k1 k2 : Int) (hk1 : k1 = 1 ∨ k1 = 2 ∨ k1 = 3) (s1 s2 : Bool) (ao : Option Addr) (n cap : Nat) (l : List Nat) (ap : Option Addr) (m capb : Nat) (p : List Nat) (t1 t2 : ByteArray) (b1 b2 : Bool) (w : World) (hl : Sl w ao n cap l) (hp : Sl w ap m capb p) (g1 : ao = none → cap = 0) (g2 : ap = none → capb = 0) (hn : n ≤ 1000) (hm : m ≤ 1000) (z2 : t2.size ≤ 1000000) :
    Calls Tryd.prog 10 #[.string op, cnV k1 s1 ao n cap t1 b1, cnV k2 s2 ap m capb t2 b2] w (AnsQ w (bnK op k1 s1 (vl 4294967296 l) t1 b1 k2 s2 (vl 4294967296 p) t2 b2)) := by
  unfold bnK
  by_cases hk : k1 = k2
  · subst hk
    rw [if_pos rfl]
    have heq : ∀ W, Below w.heap.size w W → Calls Tryd.prog 25 #[cnV k1 s1 ao n cap t1 b1, cnV k1 s2 ap m capb t2 b2] W fun e w' => e = .returned (.bool (cmK k1 s1 (vl 4294967296 l) t1 b1 s2 (vl 4294967296 p) t2 b2 == 0)) ∧ Below W.heap.size W w' := fun W hb => by
      rw [← cEq_k k1 hk1]
      exact requal_any k1 k1 s1 s2 ao n cap l ap m capb p t1 t2 b1 b2 W (hl.below hb (Nat.le_refl _)) (hp.below hb (Nat.le_refl _)) g1 g2 hn hm
    rcases hk1 with rfl | rfl | rfl
    · rw [← ans_1]
      refine rbin_1 op _ _ s1 s2 ao n cap ap m capb t1 t2 b1 b2 _ _ _ _ _ _ _ _ _ _ _ _ _ _ _ w rfl heq (fun W hb => ?_) (fun W hb => ?_) (fun W hb => ?_) (fun W hb => ?_) (fun W hb => ?_)
      · exact rcm_1 op s1 s2 ao n cap l ap m capb p t1 t2 b1 b2 W (hl.below hb (Nat.le_refl _)) (hp.below hb (Nat.le_refl _)) g1 g2 hn hm
      · exact (radd_any s1 s2 ao n cap l ap m capb p W (hl.below hb (Nat.le_refl _)) (hp.below hb (Nat.le_refl _)) g1 g2 hn hm).mono fun _ _ h => h.get
      · exact (rsub_any s1 s2 ao n cap l ap m capb p W (hl.below hb (Nat.le_refl _)) (hp.below hb (Nat.le_refl _)) g1 g2 hn hm).mono fun _ _ h => h.get
      · exact (rmul_any s1 s2 ao n cap l ap m capb p W (hl.below hb (Nat.le_refl _)) (hp.below hb (Nat.le_refl _)) g1 g2 hn hm).mono fun _ _ h => h.get
      · exact (rquo_any s1 s2 ao n cap l ap m capb p W (hl.below hb (Nat.le_refl _)) (hp.below hb (Nat.le_refl _)) g1 g2 hn hm).mono fun _ _ h => h.get
    · rw [← ans_2 op _ _ t1 t2 b1 b2 s1 0 s2 0]
      refine rbin_2 op _ _ s1 s2 ao n cap ap m capb t1 t2 b1 b2 0 0 w z2 heq (fun W hb => ?_)
      show Calls _ _ _ _ (AnsQ W (cmA op 2 (if Op.bytesLess t1.toList t2.toList = true then -1 else if t1.toList = t2.toList then 0 else 1)))
      by_cases h : Op.bytesLess t1.toList t2.toList = true
      · rw [if_pos h]
        exact rcm_2a op s1 s2 ao n cap ap m capb t1 t2 b1 b2 W h
      · rw [if_neg h]
        rw [Bool.not_eq_true] at h
        by_cases h2 : t1.toList = t2.toList
        · rw [if_pos h2]
          exact rcm_2b op s1 s2 ao n cap ap m capb t1 t2 b1 b2 W h h2
        · rw [if_neg h2]
          exact rcm_2c op s1 s2 ao n cap ap m capb t1 t2 b1 b2 W h h2
    · rw [← ans_3 op _ _ t1 t2 b1 b2 s1 0 s2 0]
      exact rbin_3 op _ _ s1 s2 ao n cap ap m capb t1 t2 b1 b2 0 0 w heq (fun W _ => rcm_3 op s1 s2 ao n cap ap m capb t1 t2 b1 b2 W _)
  · rw [if_neg hk]
    exact rbin_ne op k1 k2 s1 s2 ao n cap ap m capb t1 t2 b1 b2 w hk
end Go.Proofs.YtfkkhabpnnealaaDoor

