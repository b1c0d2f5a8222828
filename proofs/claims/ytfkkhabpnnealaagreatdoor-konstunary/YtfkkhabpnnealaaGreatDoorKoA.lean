/-
  Constants in plain Lean; the document's Equal, walked.
-/
import Derived.Test.YtfkkhabpnnealaaGreatDoorRefF
namespace Go.Proofs.YtfkkhabpnnealaaGreatDoor
open Go.RowKit
attribute [local go_sem ↓] Go.wp_at_zero Go.wp_at_succ
/-- a constant as a value -/
abbrev cnV (k : Int) (s : Bool) (ao : Option Addr) (n cap : Nat) (t : ByteArray) (b : Bool) : Value := .agg #[.int .i64 k, .bool s, .slice ao n cap, .string t, .bool b]
/-- are two constants equal? -/
def cEq (k1 : Int) (s1 : Bool) (N1 : Nat) (t1 : ByteArray) (b1 : Bool) (k2 : Int) (s2 : Bool) (N2 : Nat) (t2 : ByteArray) (b2 : Bool) : Bool :=
  if k1 = k2 then (if k1 = 1 then (cmpV s1 N1 s2 N2 == 0) else if k1 = 2 then (t1.toList == t2.toList) else if k1 = 3 then (b1 == b2) else true) else false
set_option maxRecDepth 100000 in
set_option maxHeartbeats 4000000 in
theorem requal_any (k1 k2 : Int) (s1 s2 : Bool) (ao : Option Addr) (n cap : Nat) (l : List Nat) (ap : Option Addr) (m capb : Nat) (p : List Nat) (t1 t2 : ByteArray) (b1 b2 : Bool) (w : World) (hl : Sl w ao n cap l) (hp : Sl w ap m capb p) (hz1 : ao = none → cap = 0) (hz2 : ap = none → capb = 0) (hn : n ≤ 1000) (hm : m ≤ 1000) :
    Calls Tryz.prog 10 #[cnV k1 s1 ao n cap t1 b1, cnV k2 s2 ap m capb t2 b2] w fun e w' => e = .returned (.bool (cEq k1 s1 (vl 4294967296 l) t1 b1 k2 s2 (vl 4294967296 p) t2 b2)) ∧ Below w.heap.size w w' := by
  have HC : Hid (∀ W, Below w.heap.size w W → Calls Tryz.prog 29 #[.agg #[.bool s1, .slice ao n cap], .agg #[.bool s2, .slice ap m capb]] W fun e w' => e = .returned (.int .i64 (cmpV s1 (vl 4294967296 l) s2 (vl 4294967296 p))) ∧ Below W.heap.size W w') := fun W hb => rcompare_any s1 s2 ao n cap l ap m capb p W (hl.below hb (Nat.le_refl _)) (hp.below hb (Nat.le_refl _)) hz1 hz2 hn hm
  have HB2 : Hid (∀ a b : Obj, Below w.heap.size w ((w.alloc a).alloc b)) := fun a b => ((Below.refl _ w).alloc (Nat.le_refl _) _).alloc (by simp) _
  generalize hQ : cmpV s1 (vl 4294967296 l) s2 (vl 4294967296 p) = q at *
  have HR : Hid (cEq k1 s1 (vl 4294967296 l) t1 b1 k2 s2 (vl 4294967296 p) t2 b2 = if k1 = k2 then (if k1 = 1 then (q == 0) else if k1 = 2 then (t1.toList == t2.toList) else if k1 = 3 then (b1 == b2) else true) else false) := by show _ = _; unfold cEq; rw [hQ]
  generalize cEq k1 s1 (vl 4294967296 l) t1 b1 k2 s2 (vl 4294967296 p) t2 b2 = R at *
  clear hl hp hz1 hz2 hn hm hQ
  by_cases e : k1 = k2
  · subst e
    by_cases e1 : k1 = 1
    · subst e1
      go_enter Tryz.func10, Tryz.ntmps10
      go_wp2_with (go_at_call 29; refine (HC.out _ (HB2.out _ _)).mono ?_; rintro e x1 ⟨rfl, hb⟩; have HB : Hid (Below w.heap.size w x1) := (HB2.out _ _).trans (hb.mono (HB2.out _ _).size); clear hb)
      go_ret
      exact ⟨by rw [HR.out]; simp, HB.out⟩
    have z1 : (k1 == 1) = false := by simpa using e1
    by_cases e2 : k1 = 2
    · subst e2
      go_enter Tryz.func10, Tryz.ntmps10
      go_wp2_with fail
      go_ret
      exact ⟨by rw [HR.out]; simp, HB2.out _ _⟩
    have z2 : (k1 == 2) = false := by simpa using e2
    by_cases e3 : k1 = 3
    · subst e3
      go_enter Tryz.func10, Tryz.ntmps10
      go_wp2_with fail
      go_ret
      exact ⟨by rw [HR.out]; simp, HB2.out _ _⟩
    have z3 : (k1 == 3) = false := by simpa using e3
    have HN : Hid (R = true) := by show _ = _; rw [HR.out]; simp [e1, e2, e3]
    clear HR
    go_enter Tryz.func10, Tryz.ntmps10
    go_wp2_with fail
    go_ret
    exact ⟨by rw [HN.out]; rfl, HB2.out _ _⟩
  · have z : (k1 != k2) = true := by simpa using e
    have HN : Hid (R = false) := by show _ = _; rw [HR.out, if_neg e]
    clear HR
    go_enter Tryz.func10, Tryz.ntmps10
    go_wp2_with fail
    go_ret
    exact ⟨by rw [HN.out]; rfl, HB2.out _ _⟩
end Go.Proofs.YtfkkhabpnnealaaGreatDoor

