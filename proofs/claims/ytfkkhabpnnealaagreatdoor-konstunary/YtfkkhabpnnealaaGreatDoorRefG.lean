/-
  The contracts of the document's own Neg, Add, Sub at every argument.
-/
import Derived.Test.YtfkkhabpnnealaaGreatDoorRefF
import Derived.Test.YtfkkhabpnnealaaGreatDoorRefCD
namespace Go.Proofs.YtfkkhabpnnealaaGreatDoor
open Go.RowKit
attribute [local go_sem ↓] Go.wp_at_zero Go.wp_at_succ
set_option maxRecDepth 100000 in
set_option maxHeartbeats 1000000 in
theorem rneg_any (s : Bool) (ao : Option Addr) (n cap : Nat) (l : List Nat) (w : World) (hl : Sl w ao n cap l) (hz : ao = none → cap = 0) (hn : n ≤ 1000) :
    Calls Tryz.prog 26 #[.agg #[.bool s, .slice ao n cap]] w fun e w' => ∃ v, e = .returned v ∧ IntR w' w.heap.size v (sgB (!s) (vl 4294967296 l)) (vl 4294967296 l) ∧ Below w.heap.size w w' := by
  have HL : Hid (Sl w ao n cap l) := hl
  have HZ : Hid (ao = none → cap = 0) := hz
  have K1 := tk_le hl
  clear hl hz
  go_enter Tryz.func26, Tryz.ntmps26
  go_wp2_with fail
  generalize hW : (World.alloc _ _) = W
  obtain ⟨_, x2, hbW, hzW⟩ := boxes2 w _ _ _ _ _ _ 0 hW
  clear hW
  have HBW : Hid (Below w.heap.size w W) := hbW
  have X2 : Hid (Box W (w.heap.size + 1) _ _) := x2
  have HS : Hid (w.heap.size + 1 + 1 ≤ W.heap.size) := Nat.le_of_eq hzW.symm
  clear hbW hzW x2
  refine (rform_any (!s) ao n cap l _ (HL.out.below HBW.out (Nat.le_refl _)) HZ.out (by omega)).mono ?_
  rintro e V ⟨a1, c1, rfl, ho, hnc, hb⟩
  have O1 : Hid (Own V (w.heap.size + 1 + 1) a1 (tk l) c1 (l.take (tk l))) := ho.mono (by have := HS.out; omega)
  have x2 := X2.out.below hb X2.out.lt
  have z0 := x2.z0
  have z1 := x2.z1
  have f0 := x2.f0
  have f1 := x2.f1
  have HB : Hid (Below w.heap.size w V) := HBW.out.trans (hb.mono HBW.out.size)
  clear ho hnc hb x2 X2 HBW
  go_wp2_with fail
  have ho2 := (O1.out.setCell (a := ⟨w.heap.size + 1, 0, none⟩) (by show w.heap.size + 1 < w.heap.size + 1 + 1; omega) (.bool (sgB (!s) (vl 4294967296 l)))).setCell (a := ⟨w.heap.size + 1, 1, none⟩) (by show w.heap.size + 1 < w.heap.size + 1 + 1; omega) (.slice a1 (tk l) c1)
  refine bodyPost_ret (v := .agg #[.bool (sgB (!s) (vl 4294967296 l)), .slice a1 (tk l) c1]) (by simp [results, Tryz.results26, go_sem, z0, z1]) rfl ⟨_, rfl, ⟨a1, tk l, c1, l.take (tk l), rfl, ho2.sl, trim_form HL.out.wd, trim_val l, (ho2.mono (by omega)).base⟩, ?_⟩
  exact (HB.out.setCell (p := ⟨w.heap.size + 1, 0, none⟩) (by show w.heap.size ≤ w.heap.size + 1; omega) _).setCell (p := ⟨w.heap.size + 1, 1, none⟩) (by show w.heap.size ≤ w.heap.size + 1; omega) _
/-- what end answers, the large and the small in one -/
structure EndR (s : Bool) (ao : Option Addr) (n cap : Nat) (R : Nat) (s' : Bool) (ao' : Option Addr) (n' cap' : Nat) : Prop where
  ex : (bigN R = true ∧ s' = false ∧ ao' = none ∧ n' = 0 ∧ cap' = 0) ∨ (bigN R = false ∧ s' = s ∧ ao' = ao ∧ n' = n ∧ cap' = cap)
theorem EndR.int {s : Bool} {ao : Option Addr} {n cap R : Nat} {s' : Bool} {ao' : Option Addr} {n' cap' : Nat} (h : EndR (sgB s R) ao n cap R s' ao' n' cap') {w : World} {base : Nat} {r : List Nat} (ho : Own w base ao n cap r) (hf : Form 4294967296 r) (hv : vl 4294967296 r = R) :
    IntR w base (.agg #[.bool s', .slice ao' n' cap']) (sgB s (cutN R)) (cutN R) := by
  rcases h.ex with ⟨h1, rfl, rfl, rfl, rfl⟩ | ⟨h1, rfl, rfl, rfl, rfl⟩
  · rw [show cutN R = 0 from by simp [cutN, h1], sgB_zero]; exact IntR.zero _ _
  · rw [show cutN R = R from by simp [cutN, h1]]; exact ⟨ao', n', cap', r, rfl, ho.sl, hf, hv, ho.base⟩
theorem addR_same {s t b : Bool} {N M : Nat} (h1 : sgB s N = b) (h2 : sgB t M = b) : (addR s N t M).2 = N + M ∧ sgB (addR s N t M).1 (cutN (N + M)) = sgB b (cutN (N + M)) := by
  unfold sgB at h1 h2
  unfold addR sgB cutN
  cases s <;> cases t <;> cases b <;> by_cases e1 : N = 0 <;> by_cases e2 : M = 0 <;> simp_all <;> (try split) <;> simp_all
theorem addR_ge {s t b c : Bool} {N M : Nat} (h1 : sgB s N = b) (h2 : sgB t M = c) (hne : b ≠ c) (hc : M ≤ N) : (addR s N t M).2 = N - M ∧ sgB (addR s N t M).1 (cutN (N - M)) = sgB b (cutN (N - M)) := by
  unfold sgB at h1 h2
  unfold addR sgB cutN
  cases s <;> cases t <;> cases b <;> cases c <;> by_cases e1 : N = 0 <;> by_cases e2 : M = 0 <;> simp_all <;> (rw [if_neg (by omega)]; simp)
theorem addR_lt {s t b c : Bool} {N M : Nat} (h1 : sgB s N = b) (h2 : sgB t M = c) (hne : b ≠ c) (hc : N < M) : (addR s N t M).2 = M - N ∧ sgB (addR s N t M).1 (cutN (M - N)) = sgB c (cutN (M - N)) := by
  unfold sgB at h1 h2
  unfold addR sgB cutN
  cases s <;> cases t <;> cases b <;> cases c <;> by_cases e1 : N = 0 <;> by_cases e2 : M = 0 <;> simp_all <;> omega
theorem AddP.at {w w' : World} {e : Ending} {s t b : Bool} {N M R : Nat} {v : Value} (h1 : bigN N = false) (h2 : bigN M = false) (hr : (addR s N t M).2 = R ∧ sgB (addR s N t M).1 (cutN R) = sgB b (cutN R)) (he : e = .returned (.tuple #[v, .int .i64 (eBig R)])) (hi : IntR w' w.heap.size v (sgB b (cutN R)) (cutN R)) (hb : Below w.heap.size w w') : AddP w w' e s N t M := by
  have hv : addV s N t M = cutN R := by simp [addV, h1, h2, hr.1]
  refine ⟨⟨v, ?_, ?_⟩, hb⟩
  · rw [he]; simp [addE, h1, h2, hr.1]
  · rw [addS, hv, hr.2]; exact hi
end Go.Proofs.YtfkkhabpnnealaaGreatDoor

