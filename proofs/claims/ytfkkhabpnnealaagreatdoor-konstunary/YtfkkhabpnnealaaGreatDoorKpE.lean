/-
  konst's Binary and the document's: one answer; konst's Equal.
-/
import Derived.Test.YtfkkhabpnnealaaGreatDoorKpD
namespace Go.Proofs.YtfkkhabpnnealaaGreatDoor
open Go.RowKit
attribute [local go_sem ↓] Go.wp_at_zero Go.wp_at_succ
/-- what reckoning gives -/
def rkA (op : ByteArray) (s1 : Bool) (N1 : Nat) (s2 : Bool) (N2 : Nat) : Ans :=
  if op.toList = [43] then arA (addE s1 N1 s2 N2) (addS s1 N1 s2 N2) (addV s1 N1 s2 N2) else if op.toList = [45] then arA (addE s1 N1 (!s2) N2) (addS s1 N1 (!s2) N2) (addV s1 N1 (!s2) N2)
  else if op.toList = [42] then arA (mulE N1 N2) (mulS s1 N1 s2 N2) (mulV N1 N2) else if op.toList = [47] then arA (quoE N1 N2) (sgB (s1 != s2) (quoQ N1 N2)) (quoQ N1 N2) else if op.toList = [37] then arA (quoE N1 N2) (sgB s1 (quoR N1 N2)) (quoR N1 N2) else noA 6
/-- what Binary gives -/
def bnK (op : ByteArray) (k1 : Int) (s1 : Bool) (N1 : Nat) (t1 : ByteArray) (b1 : Bool) (k2 : Int) (s2 : Bool) (N2 : Nat) (t2 : ByteArray) (b2 : Bool) : Ans :=
  if k1 = k2 then bkA op k1 (cmK k1 s1 N1 t1 b1 s2 N2 t2 b2) (rkA op s1 N1 s2 N2) t1 b1 t2 b2 else noA 6
theorem AddP.get {w w' : World} {e : Ending} {s t : Bool} {N M : Nat} (h : AddP w w' e s N t M) : (∃ v, e = .returned (.tuple #[v, .int .i64 (addE s N t M)]) ∧ IntR w' w.heap.size v (addS s N t M) (addV s N t M)) ∧ Below w.heap.size w w' := ⟨h.ex, h.below⟩
theorem MulP.get {w w' : World} {e : Ending} {s t : Bool} {N M : Nat} (h : MulP w w' e s N t M) : (∃ v, e = .returned (.tuple #[v, .int .i64 (mulE N M)]) ∧ IntR w' w.heap.size v (mulS s N t M) (mulV N M)) ∧ Below w.heap.size w w' := ⟨h.ex, h.below⟩
theorem QuoP.get {w w' : World} {e : Ending} {s t : Bool} {N M : Nat} (h : QuoP w w' e s N t M) : (∃ v1 v2, e = .returned (.tuple #[v1, v2, .int .i64 (quoE N M)]) ∧ IntR w' w.heap.size v1 (sgB (s != t) (quoQ N M)) (quoQ N M) ∧ IntR w' w.heap.size v2 (sgB s (quoR N M)) (quoR N M)) ∧ Below w.heap.size w w' := ⟨h.ex, h.below⟩
theorem reckoned_any (op : ByteArray) (s1 s2 : Bool) (ao : Option Addr) (n cap : Nat) (l : List Nat) (ap : Option Addr) (m capb : Nat) (p : List Nat) (w : World) (hl : Sl w ao n cap l) (hp : Sl w ap m capb p) (hn : n ≤ 1000) (hm : m ≤ 1000)
    (ho : op.toList = [43] ∨ op.toList = [45] ∨ op.toList = [42] ∨ op.toList = [47] ∨ op.toList = [37]) :
    Calls Tryz.prog 44 #[.string op, .agg #[.bool s1, .slice ao n cap], .agg #[.bool s2, .slice ap m capb]] w (AnsQ w (rkA op s1 (vl 4294967296 l) s2 (vl 4294967296 p))) := by
  unfold rkA
  rcases ho with h | h | h | h | h
  · rw [if_pos h]
    exact rk_ad op s1 s2 ao n cap ap m capb _ _ _ w h fun W hb => (add_any s1 s2 ao n cap l ap m capb p W (hl.below hb (Nat.le_refl _)) (hp.below hb (Nat.le_refl _)) hn hm).mono fun _ _ h => h.get
  · rw [if_neg (by rw [h]; simp), if_pos h]
    exact rk_su op s1 s2 ao n cap ap m capb _ _ _ w h fun W hb => (sub_any s1 s2 ao n cap l ap m capb p W (hl.below hb (Nat.le_refl _)) (hp.below hb (Nat.le_refl _)) hn hm).mono fun _ _ h => h.get
  · rw [if_neg (by rw [h]; simp), if_neg (by rw [h]; simp), if_pos h]
    exact rk_mu op s1 s2 ao n cap ap m capb _ _ _ w h fun W hb => (mul_any s1 s2 ao n cap l ap m capb p W (hl.below hb (Nat.le_refl _)) (hp.below hb (Nat.le_refl _)) hn hm).mono fun _ _ h => h.get
  · rw [if_neg (by rw [h]; simp), if_neg (by rw [h]; simp), if_neg (by rw [h]; simp), if_pos h]
    exact rk_di op s1 s2 ao n cap ap m capb _ _ _ _ _ w h fun W hb => (quo_any s1 s2 ao n cap l ap m capb p W (hl.below hb (Nat.le_refl _)) (hp.below hb (Nat.le_refl _)) hn hm).mono fun _ _ h => h.get
  · rw [if_neg (by rw [h]; simp), if_neg (by rw [h]; simp), if_neg (by rw [h]; simp), if_neg (by rw [h]; simp), if_pos h]
    exact rk_re op s1 s2 ao n cap ap m capb _ _ _ _ _ w h fun W hb => (quo_any s1 s2 ao n cap l ap m capb p W (hl.below hb (Nat.le_refl _)) (hp.below hb (Nat.le_refl _)) hn hm).mono fun _ _ h => h.get
/-- konst.Binary -/
theorem kbin_any (op : ByteArray) (k1 k2 : Int) (s1 s2 : Bool) (ao : Option Addr) (n cap : Nat) (l : List Nat) (ap : Option Addr) (m capb : Nat) (p : List Nat) (t1 t2 : ByteArray) (b1 b2 : Bool) (w : World) (hl : Sl w ao n cap l) (hp : Sl w ap m capb p) (hn : n ≤ 1000) (hm : m ≤ 1000) (z1 : t1.size ≤ 1000000) (z2 : t2.size ≤ 1000000) :
    Calls Tryz.prog 22 #[.string op, cnV k1 s1 ao n cap t1 b1, cnV k2 s2 ap m capb t2 b2] w (AnsQ w (bnK op k1 s1 (vl 4294967296 l) t1 b1 k2 s2 (vl 4294967296 p) t2 b2)) := by
  unfold bnK
  by_cases hk : k1 = k2
  · subst hk
    rw [if_pos rfl]
    exact kbin_eq op k1 _ _ s1 s2 ao n cap ap m capb t1 t2 b1 b2 w z1 z2 (fun W hb => compared_k k1 s1 s2 ao n cap l ap m capb p t1 t2 b1 b2 W (hl.below hb (Nat.le_refl _)) (hp.below hb (Nat.le_refl _)) hn hm) (fun _ ho W hb => reckoned_any op s1 s2 ao n cap l ap m capb p W (hl.below hb (Nat.le_refl _)) (hp.below hb (Nat.le_refl _)) hn hm ho)
  · rw [if_neg hk]
    exact kbin_ne op k1 k2 s1 s2 ao n cap ap m capb t1 t2 b1 b2 w hk
set_option maxRecDepth 100000 in
set_option maxHeartbeats 4000000 in
/-- konst.Equal -/
theorem kequal_any (k1 k2 : Int) (s1 s2 : Bool) (ao : Option Addr) (n cap : Nat) (l : List Nat) (ap : Option Addr) (m capb : Nat) (p : List Nat) (t1 t2 : ByteArray) (b1 b2 : Bool) (w : World) (hl : Sl w ao n cap l) (hp : Sl w ap m capb p) (hn : n ≤ 1000) (hm : m ≤ 1000) :
    Calls Tryz.prog 9 #[cnV k1 s1 ao n cap t1 b1, cnV k2 s2 ap m capb t2 b2] w fun e w' => e = .returned (.bool (if k1 = k2 then (cmK k1 s1 (vl 4294967296 l) t1 b1 s2 (vl 4294967296 p) t2 b2 == 0) else false)) ∧ Below w.heap.size w w' := by
  by_cases hk : k1 = k2
  · subst hk
    rw [if_pos rfl]
    obtain ⟨q, hq⟩ : ∃ q, cmK k1 s1 (vl 4294967296 l) t1 b1 s2 (vl 4294967296 p) t2 b2 = q := ⟨_, rfl⟩
    have HC : Hid (∀ W, Below w.heap.size w W → Calls Tryz.prog 28 #[cnV k1 s1 ao n cap t1 b1, cnV k1 s2 ap m capb t2 b2] W fun e w' => e = .returned (.int .i64 q) ∧ Below W.heap.size W w') := fun W hb => by
      have := compared_k k1 s1 s2 ao n cap l ap m capb p t1 t2 b1 b2 W (hl.below hb (Nat.le_refl _)) (hp.below hb (Nat.le_refl _)) hn hm
      rwa [hq] at this
    rw [hq]
    clear hl hp hn hm hq
    have z : (k1 == k1) = true := by simp
    go_enter Tryz.func9, Tryz.ntmps9
    go_wp2_with (go_at_call 28; refine (HC.out _ (two_below _ _ _)).mono ?_; rintro e x1 ⟨rfl, hb⟩; have HB : Hid (Below w.heap.size w x1) := (two_below _ _ _).trans (hb.mono (two_below _ _ _).size); clear hb)
    go_ret
    exact ⟨rfl, HB.out⟩
  · rw [if_neg hk]
    have z : (k1 == k2) = false := by simpa using hk
    clear hl hp hn hm hk
    go_enter Tryz.func9, Tryz.ntmps9
    go_wp2_with fail
    go_ret
    exact ⟨rfl, two_below _ _ _⟩
end Go.Proofs.YtfkkhabpnnealaaGreatDoor

