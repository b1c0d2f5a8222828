/-
  The contracts of the document's own Neg, Add, Sub at every argument.
-/
import Derived.Test.YtfkkhabpnnealaaDoorRefF
import Derived.Test.YtfkkhabpnnealaaDoorRefD
namespace Go.Proofs.YtfkkhabpnnealaaDoor
open Go.RowKit
attribute [local go_sem ↓] Go.wp_at_zero Go.wp_at_succ
/-- what end answers, the large and the small in one -/
structure EndR (s : Bool) (ao : Option Addr) (n cap : Nat) (R : Nat) (s' : Bool) (ao' : Option Addr) (n' cap' : Nat) : Prop where
  ex : (bigN R = true ∧ s' = false ∧ ao' = none ∧ n' = 0 ∧ cap' = 0) ∨ (bigN R = false ∧ s' = s ∧ ao' = ao ∧ n' = n ∧ cap' = cap)
theorem rend_get (s : Bool) (ao : Option Addr) (n cap : Nat) (l : List Nat) (R : Nat) (w : World) (hl : Sl w ao n cap l) (hz : ao = none → cap = 0) (hn : n ≤ 1000000) (hR : vl 4294967296 l = R) :
    Calls Tryd.prog 48 #[.agg #[.bool s, .slice ao n cap]] w fun e w' => ∃ s' ao' n' cap', e = .returned (.tuple #[.agg #[.bool s', .slice ao' n' cap'], .int .i64 (eBig R)]) ∧ EndR s ao n cap R s' ao' n' cap' ∧ Below w.heap.size w w' := by
  subst hR
  cases hb : bigN (vl 4294967296 l)
  · exact (rend_any s ao n cap l w hl hz hn).mono fun e w' ⟨he, h⟩ => ⟨s, ao, n, cap, by rw [he]; simp [hb], ⟨.inr ⟨hb, rfl, rfl, rfl, rfl⟩⟩, h⟩
  · exact (rend_any s ao n cap l w hl hz hn).mono fun e w' ⟨he, h⟩ => ⟨false, none, 0, 0, by rw [he]; simp [hb], ⟨.inl ⟨hb, rfl, rfl, rfl, rfl⟩⟩, h⟩
theorem EndR.int {s : Bool} {ao : Option Addr} {n cap R : Nat} {s' : Bool} {ao' : Option Addr} {n' cap' : Nat} (h : EndR (sgB s R) ao n cap R s' ao' n' cap') {w : World} {base : Nat} {r : List Nat} (ho : Own w base ao n cap r) (hf : Form 4294967296 r) (hv : vl 4294967296 r = R) :
    IntR w base (.agg #[.bool s', .slice ao' n' cap']) (sgB s (cutN R)) (cutN R) := by
  rcases h.ex with ⟨h1, rfl, rfl, rfl, rfl⟩ | ⟨h1, rfl, rfl, rfl, rfl⟩
  · rw [show cutN R = 0 from by simp [cutN, h1], sgB_zero]; exact IntR.zero _ _
  · rw [show cutN R = R from by simp [cutN, h1]]; exact ⟨ao', n', cap', r, rfl, ho.sl, hf, hv, ho.base⟩
theorem addR_same {s t b : Bool} {N M : Nat} (h1 : sgB s N = b) (h2 : sgB t M = b) : (addR s N t M).2 = N + M ∧ sgB (addR s N t M).1 (cutN (N + M)) = sgB b (cutN (N + M)) := by
  unfold sgB at h1 h2
  unfold addR sgB cutN
  cases s <;> cases t <;> cases b <;> by_cases e1 : N = 0 <;> by_cases e2 : M = 0 <;> simp_all <;> (try split) <;> simp_all
theorem addR_ge {s t b c : Bool} {N M : Nat} (h1 : sgB s N = b) (h2 : sgB t M = c) (hne : b ≠ c) (hc : M ≤ N) : (addR s N t M).2 = N - M ∧ sgB (addR s N t M).1 (cutN (N - M)) = sgB b (cutN (N - M)) := by
  unfold sgB at h1 h2
  unfold addR sgB cutN
  cases s <;> cases t <;> cases b <;> cases c <;> by_cases e1 : N = 0 <;> by_cases e2 : M = 0 <;> simp_all <;> (rw [if_neg (by omega)]; simp)
theorem addR_lt {s t b c : Bool} {N M : Nat} (h1 : sgB s N = b) (h2 : sgB t M = c) (hne : b ≠ c) (hc : N < M) : (addR s N t M).2 = M - N ∧ sgB (addR s N t M).1 (cutN (M - N)) = sgB c (cutN (M - N)) := by
  unfold sgB at h1 h2
  unfold addR sgB cutN
  cases s <;> cases t <;> cases b <;> cases c <;> by_cases e1 : N = 0 <;> by_cases e2 : M = 0 <;> simp_all <;> omega
theorem AddP.at {w w' : World} {e : Ending} {s t b : Bool} {N M R : Nat} {v : Value} (h1 : bigN N = false) (h2 : bigN M = false) (hr : (addR s N t M).2 = R ∧ sgB (addR s N t M).1 (cutN R) = sgB b (cutN R)) (he : e = .returned (.tuple #[v, .int .i64 (eBig R)])) (hi : IntR w' w.heap.size v (sgB b (cutN R)) (cutN R)) (hb : Below w.heap.size w w') : AddP w w' e s N t M := by
  have hv : addV s N t M = cutN R := by simp [addV, h1, h2, hr.1]
  refine ⟨⟨v, ?_, ?_⟩, hb⟩
  · rw [he]; simp [addE, h1, h2, hr.1]
  · rw [addS, hv, hr.2]; exact hi
set_option maxRecDepth 100000 in
set_option maxHeartbeats 2000000 in
theorem radd_big1 (s t : Bool) (ao : Option Addr) (n cap : Nat) (l : List Nat) (ap : Option Addr) (m capb : Nat) (p : List Nat) (w : World) (hl : Sl w ao n cap l) (hp : Sl w ap m capb p) (hz1 : ao = none → cap = 0) (hz2 : ap = none → capb = 0) (hn : n ≤ 1000) (hb1 : bigN (vl 4294967296 l) = true) :
    Calls Tryd.prog 28 #[.agg #[.bool s, .slice ao n cap], .agg #[.bool t, .slice ap m capb]] w fun e w' => e = .returned (.tuple #[.agg #[.bool false, .slice none 0 0], .int .i64 2]) ∧ Below w.heap.size w w' := by
  have HL : Hid (Sl w ao n cap l) := hl
  have HP : Hid (Sl w ap m capb p) := hp
  have HZ1 : Hid (ao = none → cap = 0) := hz1
  have HZ2 : Hid (ap = none → capb = 0) := hz2
  have K1 := tk_le hl
  have K2 := tk_le hp
  clear hl hp hz1 hz2
  have B1 : Hid (bigN (vl 4294967296 l) = true) := hb1
  clear hb1
  go_enter Tryd.func28, Tryd.ntmps28
  go_wp2_with fail
  generalize hW : (World.alloc _ _) = W
  obtain ⟨x1, x2, x3, hbW, hzW⟩ := boxes3 w (.bool s) (.slice ao n cap) (.bool t) (.slice ap m capb) (.bool false) (.slice none 0 0) 24 24 24 0 hW
  clear hW
  have X1 : Hid (Box W (w.heap.size) (.bool s) (.slice ao n cap)) := x1
  have X2 : Hid (Box W (w.heap.size + 1) (.bool t) (.slice ap m capb)) := x2
  have X3 : Hid (Box W (w.heap.size + 1 + 1) (.bool false) (.slice none 0 0)) := x3
  have HB : Hid (Below w.heap.size w W) := hbW
  have HS : Hid (w.heap.size + 1 + 1 + 1 ≤ W.heap.size) := Nat.le_of_eq hzW.symm
  clear hbW hzW x1 x2 x3
  refine (rlarge_any s ao n cap l _ (HL.out.below HB.out (Nat.le_refl _)) HZ1.out (by omega)).mono ?_
  rintro e V1 ⟨rfl, hb⟩
  rw [B1.out]
  have X1 : Hid (Box V1 (w.heap.size) (.bool s) (.slice ao n cap)) := X1.out.below hb X1.out.lt
  have X2 : Hid (Box V1 (w.heap.size + 1) (.bool t) (.slice ap m capb)) := X2.out.below hb X2.out.lt
  have X3 : Hid (Box V1 (w.heap.size + 1 + 1) (.bool false) (.slice none 0 0)) := X3.out.below hb X3.out.lt
  have HB : Hid (Below w.heap.size w V1) := HB.out.trans (hb.mono HB.out.size)
  have HS : Hid (w.heap.size + 1 + 1 + 1 ≤ V1.heap.size) := Nat.le_trans HS.out hb.size
  clear hb
  have x1z0 := X1.out.z0
  have x1z1 := X1.out.z1
  have x1f0 := X1.out.f0
  have x1f1 := X1.out.f1
  have x2z0 := X2.out.z0
  have x2z1 := X2.out.z1
  have x2f0 := X2.out.f0
  have x2f1 := X2.out.f1
  have x3z0 := X3.out.z0
  have x3z1 := X3.out.z1
  have x3f0 := X3.out.f0
  have x3f1 := X3.out.f1
  go_wp2_with fail
  refine bodyPost_ret (v := .tuple #[.agg #[.bool false, .slice none 0 0], .int .i64 2]) (by simp [results, Tryd.results28, go_sem, x3z0, x3z1]) rfl ⟨rfl, ?_⟩
  exact (HB.out.setCell (p := ⟨w.heap.size + 1 + 1, 0, none⟩) (by show w.heap.size ≤ w.heap.size + 1 + 1; omega) _).setCell (p := ⟨w.heap.size + 1 + 1, 1, none⟩) (by show w.heap.size ≤ w.heap.size + 1 + 1; omega) _
set_option maxRecDepth 100000 in
set_option maxHeartbeats 2000000 in
theorem radd_big2 (s t : Bool) (ao : Option Addr) (n cap : Nat) (l : List Nat) (ap : Option Addr) (m capb : Nat) (p : List Nat) (w : World) (hl : Sl w ao n cap l) (hp : Sl w ap m capb p) (hz1 : ao = none → cap = 0) (hz2 : ap = none → capb = 0) (hn : n ≤ 1000) (hm : m ≤ 1000) (hb1 : bigN (vl 4294967296 l) = false) (hb2 : bigN (vl 4294967296 p) = true) :
    Calls Tryd.prog 28 #[.agg #[.bool s, .slice ao n cap], .agg #[.bool t, .slice ap m capb]] w fun e w' => e = .returned (.tuple #[.agg #[.bool false, .slice none 0 0], .int .i64 2]) ∧ Below w.heap.size w w' := by
  have HL : Hid (Sl w ao n cap l) := hl
  have HP : Hid (Sl w ap m capb p) := hp
  have HZ1 : Hid (ao = none → cap = 0) := hz1
  have HZ2 : Hid (ap = none → capb = 0) := hz2
  have K1 := tk_le hl
  have K2 := tk_le hp
  clear hl hp hz1 hz2
  have B1 : Hid (bigN (vl 4294967296 l) = false) := hb1
  have B2 : Hid (bigN (vl 4294967296 p) = true) := hb2
  clear hb1 hb2
  go_enter Tryd.func28, Tryd.ntmps28
  go_wp2_with fail
  generalize hW : (World.alloc _ _) = W
  obtain ⟨x1, x2, x3, hbW, hzW⟩ := boxes3 w (.bool s) (.slice ao n cap) (.bool t) (.slice ap m capb) (.bool false) (.slice none 0 0) 24 24 24 0 hW
  clear hW
  have X1 : Hid (Box W (w.heap.size) (.bool s) (.slice ao n cap)) := x1
  have X2 : Hid (Box W (w.heap.size + 1) (.bool t) (.slice ap m capb)) := x2
  have X3 : Hid (Box W (w.heap.size + 1 + 1) (.bool false) (.slice none 0 0)) := x3
  have HB : Hid (Below w.heap.size w W) := hbW
  have HS : Hid (w.heap.size + 1 + 1 + 1 ≤ W.heap.size) := Nat.le_of_eq hzW.symm
  clear hbW hzW x1 x2 x3
  refine (rlarge_any s ao n cap l _ (HL.out.below HB.out (Nat.le_refl _)) HZ1.out (by omega)).mono ?_
  rintro e V1 ⟨rfl, hb⟩
  rw [B1.out]
  have X1 : Hid (Box V1 (w.heap.size) (.bool s) (.slice ao n cap)) := X1.out.below hb X1.out.lt
  have X2 : Hid (Box V1 (w.heap.size + 1) (.bool t) (.slice ap m capb)) := X2.out.below hb X2.out.lt
  have X3 : Hid (Box V1 (w.heap.size + 1 + 1) (.bool false) (.slice none 0 0)) := X3.out.below hb X3.out.lt
  have HB : Hid (Below w.heap.size w V1) := HB.out.trans (hb.mono HB.out.size)
  have HS : Hid (w.heap.size + 1 + 1 + 1 ≤ V1.heap.size) := Nat.le_trans HS.out hb.size
  clear hb
  have x1z0 := X1.out.z0
  have x1z1 := X1.out.z1
  have x1f0 := X1.out.f0
  have x1f1 := X1.out.f1
  have x2z0 := X2.out.z0
  have x2z1 := X2.out.z1
  have x2f0 := X2.out.f0
  have x2f1 := X2.out.f1
  have x3z0 := X3.out.z0
  have x3z1 := X3.out.z1
  have x3f0 := X3.out.f0
  have x3f1 := X3.out.f1
  go_wp2_with fail
  refine (rlarge_any t ap m capb p _ (HP.out.below HB.out (Nat.le_refl _)) HZ2.out (by omega)).mono ?_
  rintro e V2 ⟨rfl, hb⟩
  rw [B2.out]
  clear x1z0 x1z1 x1f0 x1f1 x2z0 x2z1 x2f0 x2f1 x3z0 x3z1 x3f0 x3f1
  have X1 : Hid (Box V2 (w.heap.size) (.bool s) (.slice ao n cap)) := X1.out.below hb X1.out.lt
  have X2 : Hid (Box V2 (w.heap.size + 1) (.bool t) (.slice ap m capb)) := X2.out.below hb X2.out.lt
  have X3 : Hid (Box V2 (w.heap.size + 1 + 1) (.bool false) (.slice none 0 0)) := X3.out.below hb X3.out.lt
  have HB : Hid (Below w.heap.size w V2) := HB.out.trans (hb.mono HB.out.size)
  have HS : Hid (w.heap.size + 1 + 1 + 1 ≤ V2.heap.size) := Nat.le_trans HS.out hb.size
  clear hb
  have x1z0 := X1.out.z0
  have x1z1 := X1.out.z1
  have x1f0 := X1.out.f0
  have x1f1 := X1.out.f1
  have x2z0 := X2.out.z0
  have x2z1 := X2.out.z1
  have x2f0 := X2.out.f0
  have x2f1 := X2.out.f1
  have x3z0 := X3.out.z0
  have x3z1 := X3.out.z1
  have x3f0 := X3.out.f0
  have x3f1 := X3.out.f1
  go_wp2_with fail
  refine bodyPost_ret (v := .tuple #[.agg #[.bool false, .slice none 0 0], .int .i64 2]) (by simp [results, Tryd.results28, go_sem, x3z0, x3z1]) rfl ⟨rfl, ?_⟩
  exact (HB.out.setCell (p := ⟨w.heap.size + 1 + 1, 0, none⟩) (by show w.heap.size ≤ w.heap.size + 1 + 1; omega) _).setCell (p := ⟨w.heap.size + 1 + 1, 1, none⟩) (by show w.heap.size ≤ w.heap.size + 1 + 1; omega) _
set_option maxRecDepth 100000 in
set_option maxHeartbeats 8000000 in
theorem radd_at (s t : Bool) (ao : Option Addr) (n cap : Nat) (l : List Nat) (ap : Option Addr) (m capb : Nat) (p : List Nat) (w : World) (hl : Sl w ao n cap l) (hp : Sl w ap m capb p) (hz1 : ao = none → cap = 0) (hz2 : ap = none → capb = 0) (hn : n ≤ 1000) (hm : m ≤ 1000) (hb1 : bigN (vl 4294967296 l) = false) (hb2 : bigN (vl 4294967296 p) = false) (s1 s2 : Bool) (e1 : sgB s (vl 4294967296 l) = s1) (e2 : sgB t (vl 4294967296 p) = s2) :
    Calls Tryd.prog 28 #[.agg #[.bool s, .slice ao n cap], .agg #[.bool t, .slice ap m capb]] w fun e w' => AddP w w' e s (vl 4294967296 l) t (vl 4294967296 p) := by
  have HL : Hid (Sl w ao n cap l) := hl
  have HP : Hid (Sl w ap m capb p) := hp
  have HZ1 : Hid (ao = none → cap = 0) := hz1
  have HZ2 : Hid (ap = none → capb = 0) := hz2
  have K1 := tk_le hl
  have K2 := tk_le hp
  clear hl hp hz1 hz2
  have B1 : Hid (bigN (vl 4294967296 l) = false) := hb1
  have B2 : Hid (bigN (vl 4294967296 p) = false) := hb2
  have S1 : Hid (sgB s (vl 4294967296 l) = s1) := e1
  have S2 : Hid (sgB t (vl 4294967296 p) = s2) := e2
  clear hb1 hb2 e1 e2
  go_enter Tryd.func28, Tryd.ntmps28
  go_wp2_with fail
  generalize hW : (World.alloc _ _) = W
  obtain ⟨x1, x2, x3, hbW, hzW⟩ := boxes3 w (.bool s) (.slice ao n cap) (.bool t) (.slice ap m capb) (.bool false) (.slice none 0 0) 24 24 24 0 hW
  clear hW
  have X1 : Hid (Box W (w.heap.size) (.bool s) (.slice ao n cap)) := x1
  have X2 : Hid (Box W (w.heap.size + 1) (.bool t) (.slice ap m capb)) := x2
  have X3 : Hid (Box W (w.heap.size + 1 + 1) (.bool false) (.slice none 0 0)) := x3
  have HB : Hid (Below w.heap.size w W) := hbW
  have HS : Hid (w.heap.size + 1 + 1 + 1 ≤ W.heap.size) := Nat.le_of_eq hzW.symm
  clear hbW hzW x1 x2 x3
  refine (rlarge_any s ao n cap l _ (HL.out.below HB.out (Nat.le_refl _)) HZ1.out (by omega)).mono ?_
  rintro e V1 ⟨rfl, hb⟩
  rw [B1.out]
  have X1 : Hid (Box V1 (w.heap.size) (.bool s) (.slice ao n cap)) := X1.out.below hb X1.out.lt
  have X2 : Hid (Box V1 (w.heap.size + 1) (.bool t) (.slice ap m capb)) := X2.out.below hb X2.out.lt
  have X3 : Hid (Box V1 (w.heap.size + 1 + 1) (.bool false) (.slice none 0 0)) := X3.out.below hb X3.out.lt
  have HB : Hid (Below w.heap.size w V1) := HB.out.trans (hb.mono HB.out.size)
  have HS : Hid (w.heap.size + 1 + 1 + 1 ≤ V1.heap.size) := Nat.le_trans HS.out hb.size
  clear hb
  have x2z0 := X2.out.z0
  have x2z1 := X2.out.z1
  have x2f0 := X2.out.f0
  have x2f1 := X2.out.f1
  go_wp2_with fail
  refine (rlarge_any t ap m capb p _ (HP.out.below HB.out (Nat.le_refl _)) HZ2.out (by omega)).mono ?_
  rintro e V2 ⟨rfl, hb⟩
  rw [B2.out]
  clear x2z0 x2z1 x2f0 x2f1
  have X1 : Hid (Box V2 (w.heap.size) (.bool s) (.slice ao n cap)) := X1.out.below hb X1.out.lt
  have X2 : Hid (Box V2 (w.heap.size + 1) (.bool t) (.slice ap m capb)) := X2.out.below hb X2.out.lt
  have X3 : Hid (Box V2 (w.heap.size + 1 + 1) (.bool false) (.slice none 0 0)) := X3.out.below hb X3.out.lt
  have HB : Hid (Below w.heap.size w V2) := HB.out.trans (hb.mono HB.out.size)
  have HS : Hid (w.heap.size + 1 + 1 + 1 ≤ V2.heap.size) := Nat.le_trans HS.out hb.size
  clear hb
  have x1z0 := X1.out.z0
  have x1z1 := X1.out.z1
  have x1f0 := X1.out.f0
  have x1f1 := X1.out.f1
  go_wp2_with fail
  refine (rform_any s ao n cap l _ (HL.out.below HB.out (Nat.le_refl _)) HZ1.out (by omega)).mono ?_
  rintro e V3 ⟨a1, c1, rfl, ho, hnc, hb⟩
  rw [S1.out]
  have O1 : Hid (Own V3 (w.heap.size + 1 + 1 + 1) a1 (tk l) c1 (l.take (tk l))) := ho.mono (by have := HS.out; omega)
  have N1 : Hid (a1 = none → c1 = 0) := hnc
  clear ho hnc
  clear x1z0 x1z1 x1f0 x1f1
  have X1 : Hid (Box V3 (w.heap.size) (.bool s) (.slice ao n cap)) := X1.out.below hb X1.out.lt
  have X2 : Hid (Box V3 (w.heap.size + 1) (.bool t) (.slice ap m capb)) := X2.out.below hb X2.out.lt
  have X3 : Hid (Box V3 (w.heap.size + 1 + 1) (.bool false) (.slice none 0 0)) := X3.out.below hb X3.out.lt
  have HB : Hid (Below w.heap.size w V3) := HB.out.trans (hb.mono HB.out.size)
  have HS : Hid (w.heap.size + 1 + 1 + 1 ≤ V3.heap.size) := Nat.le_trans HS.out hb.size
  clear hb
  have x1z0 := X1.out.z0
  have x1z1 := X1.out.z1
  have x1f0 := X1.out.f0
  have x1f1 := X1.out.f1
  have y20 : ((V3.setCell ⟨w.heap.size, 0, none⟩ (.bool s1)).setCell ⟨w.heap.size, 1, none⟩ (.slice a1 (tk l) c1)).cell? ⟨w.heap.size + 1, 0, none⟩ = some (.bool t) := (set2_other (by omega)).trans X2.out.z0
  have y21 : ((V3.setCell ⟨w.heap.size, 0, none⟩ (.bool s1)).setCell ⟨w.heap.size, 1, none⟩ (.slice a1 (tk l) c1)).cell? ⟨w.heap.size + 1, 1, none⟩ = some (.slice ap m capb) := (set2_other (by omega)).trans X2.out.z1
  have y30 : ((V3.setCell ⟨w.heap.size, 0, none⟩ (.bool s1)).setCell ⟨w.heap.size, 1, none⟩ (.slice a1 (tk l) c1)).cell? ⟨w.heap.size + 1 + 1, 0, none⟩ = some (.bool false) := (set2_other (by omega)).trans X3.out.z0
  have y31 : ((V3.setCell ⟨w.heap.size, 0, none⟩ (.bool s1)).setCell ⟨w.heap.size, 1, none⟩ (.slice a1 (tk l) c1)).cell? ⟨w.heap.size + 1 + 1, 1, none⟩ = some (.slice none 0 0) := (set2_other (by omega)).trans X3.out.z1
  go_wp2_with fail
  generalize hV : ((V3.setCell ⟨w.heap.size, 0, none⟩ (.bool s1)).setCell ⟨w.heap.size, 1, none⟩ (.slice a1 (tk l) c1)) = V4 at *
  clear x1z0 x1z1 x1f0 x1f1 y20 y21 y30 y31
  obtain ⟨xt, d3, d4, d5, d6⟩ := set_own hV X1.out
  clear hV
  have X2 : Hid (Box V4 (w.heap.size + 1) (.bool t) (.slice ap m capb)) := d3 _ _ _ (by omega) X2.out
  have X3 : Hid (Box V4 (w.heap.size + 1 + 1) (.bool false) (.slice none 0 0)) := d3 _ _ _ (by omega) X3.out
  have X1 : Hid (Box V4 (w.heap.size) (.bool s1) (.slice a1 (tk l) c1)) := xt
  have O1 : Hid (Own V4 (w.heap.size + 1 + 1 + 1) a1 (tk l) c1 (l.take (tk l))) := d5 _ _ _ _ _ O1.out (by omega)
  have HB : Hid (Below w.heap.size w V4) := d4 _ _ HB.out (by omega)
  have HS : Hid (w.heap.size + 1 + 1 + 1 ≤ V4.heap.size) := by have := HS.out; show _ ≤ _; omega
  clear xt d3 d4 d5 d6
  refine (rform_any t ap m capb p _ (HP.out.below HB.out (Nat.le_refl _)) HZ2.out (by omega)).mono ?_
  rintro e V5 ⟨a2, c2, rfl, ho, hnc, hb⟩
  rw [S2.out]
  have O2 : Hid (Own V5 (w.heap.size + 1 + 1 + 1) a2 (tk p) c2 (p.take (tk p))) := ho.mono (by have := HS.out; omega)
  have N2 : Hid (a2 = none → c2 = 0) := hnc
  clear ho hnc
  have X1 : Hid (Box V5 (w.heap.size) (.bool s1) (.slice a1 (tk l) c1)) := X1.out.below hb X1.out.lt
  have X2 : Hid (Box V5 (w.heap.size + 1) (.bool t) (.slice ap m capb)) := X2.out.below hb X2.out.lt
  have X3 : Hid (Box V5 (w.heap.size + 1 + 1) (.bool false) (.slice none 0 0)) := X3.out.below hb X3.out.lt
  have O1 : Hid (Own V5 (w.heap.size + 1 + 1 + 1) a1 (tk l) c1 (l.take (tk l))) := O1.out.below hb (Nat.le_refl _)
  have HB : Hid (Below w.heap.size w V5) := HB.out.trans (hb.mono HB.out.size)
  have HS : Hid (w.heap.size + 1 + 1 + 1 ≤ V5.heap.size) := Nat.le_trans HS.out hb.size
  clear hb
  rcases s1 with _ | _ <;> rcases s2 with _ | _
  · have x2z0 := X2.out.z0
    have x2z1 := X2.out.z1
    have x2f0 := X2.out.f0
    have x2f1 := X2.out.f1
    have y10 : ((V5.setCell ⟨w.heap.size + 1, 0, none⟩ (.bool false)).setCell ⟨w.heap.size + 1, 1, none⟩ (.slice a2 (tk p) c2)).cell? ⟨w.heap.size, 0, none⟩ = some (.bool false) := (set2_other (by omega)).trans X1.out.z0
    have y11 : ((V5.setCell ⟨w.heap.size + 1, 0, none⟩ (.bool false)).setCell ⟨w.heap.size + 1, 1, none⟩ (.slice a2 (tk p) c2)).cell? ⟨w.heap.size, 1, none⟩ = some (.slice a1 (tk l) c1) := (set2_other (by omega)).trans X1.out.z1
    have y30 : ((V5.setCell ⟨w.heap.size + 1, 0, none⟩ (.bool false)).setCell ⟨w.heap.size + 1, 1, none⟩ (.slice a2 (tk p) c2)).cell? ⟨w.heap.size + 1 + 1, 0, none⟩ = some (.bool false) := (set2_other (by omega)).trans X3.out.z0
    have y31 : ((V5.setCell ⟨w.heap.size + 1, 0, none⟩ (.bool false)).setCell ⟨w.heap.size + 1, 1, none⟩ (.slice a2 (tk p) c2)).cell? ⟨w.heap.size + 1 + 1, 1, none⟩ = some (.slice none 0 0) := (set2_other (by omega)).trans X3.out.z1
    go_wp2_with fail
    generalize hV : ((V5.setCell ⟨w.heap.size + 1, 0, none⟩ (.bool false)).setCell ⟨w.heap.size + 1, 1, none⟩ (.slice a2 (tk p) c2)) = V6 at *
    clear x2z0 x2z1 x2f0 x2f1 y10 y11 y30 y31
    obtain ⟨xt, d3, d4, d5, d6⟩ := set_own hV X2.out
    clear hV
    have X1 : Hid (Box V6 (w.heap.size) (.bool false) (.slice a1 (tk l) c1)) := d3 _ _ _ (by omega) X1.out
    have X3 : Hid (Box V6 (w.heap.size + 1 + 1) (.bool false) (.slice none 0 0)) := d3 _ _ _ (by omega) X3.out
    have X2 : Hid (Box V6 (w.heap.size + 1) (.bool false) (.slice a2 (tk p) c2)) := xt
    have O1 : Hid (Own V6 (w.heap.size + 1 + 1 + 1) a1 (tk l) c1 (l.take (tk l))) := d5 _ _ _ _ _ O1.out (by omega)
    have O2 : Hid (Own V6 (w.heap.size + 1 + 1 + 1) a2 (tk p) c2 (p.take (tk p))) := d5 _ _ _ _ _ O2.out (by omega)
    have HB : Hid (Below w.heap.size w V6) := d4 _ _ HB.out (by omega)
    have HS : Hid (w.heap.size + 1 + 1 + 1 ≤ V6.heap.size) := by have := HS.out; show _ ≤ _; omega
    clear xt d3 d4 d5 d6
    have hb : Below V6.heap.size V6 V6.drew := (Below.refl _ _).drew
    have X1 : Hid (Box V6.drew (w.heap.size) (.bool false) (.slice a1 (tk l) c1)) := X1.out.below hb X1.out.lt
    have X2 : Hid (Box V6.drew (w.heap.size + 1) (.bool false) (.slice a2 (tk p) c2)) := X2.out.below hb X2.out.lt
    have X3 : Hid (Box V6.drew (w.heap.size + 1 + 1) (.bool false) (.slice none 0 0)) := X3.out.below hb X3.out.lt
    have O1 : Hid (Own V6.drew (w.heap.size + 1 + 1 + 1) a1 (tk l) c1 (l.take (tk l))) := O1.out.below hb (Nat.le_refl _)
    have O2 : Hid (Own V6.drew (w.heap.size + 1 + 1 + 1) a2 (tk p) c2 (p.take (tk p))) := O2.out.below hb (Nat.le_refl _)
    have HB : Hid (Below w.heap.size w V6.drew) := HB.out.trans (hb.mono HB.out.size)
    have HS : Hid (w.heap.size + 1 + 1 + 1 ≤ V6.drew.heap.size) := Nat.le_trans HS.out hb.size
    clear hb
    have kS : V6.drew.cell? ⟨w.heap.size, 0, none⟩ = some (.bool false) ∧ V6.drew.cell? ⟨w.heap.size, 1, none⟩ = some (.slice a1 (tk l) c1) ∧ V6.drew.cell? ⟨w.heap.size + 1, 0, none⟩ = some (.bool false) ∧ V6.drew.cell? ⟨w.heap.size + 1, 1, none⟩ = some (.slice a2 (tk p) c2) := ⟨X1.out.z0, X1.out.z1, X2.out.z0, X2.out.z1⟩
    go_region_held3 (fun w' => w'.cell? ⟨w.heap.size, 0, none⟩ = some (.bool false) ∧ w'.cell? ⟨w.heap.size, 1, none⟩ = some (.slice a1 (tk l) c1) ∧ w'.cell? ⟨w.heap.size + 1, 0, none⟩ = some (.bool false) ∧ w'.cell? ⟨w.heap.size + 1, 1, none⟩ = some (.slice a2 (tk p) c2))
      (first | exact kS | exact ⟨(set2_other (ne_boxes _)).trans kS.1, (set2_other (ne_boxes _)).trans kS.2.1, (set2_other (ne_boxes2 _)).trans kS.2.2.1, (set2_other (ne_boxes2 _)).trans kS.2.2.2⟩)
      (first | (go_at_call 49; refine (rplus_any a1 (tk l) c1 (l.take (tk l)) a2 (tk p) c2 (p.take (tk p)) _ (by exact O1.out.sl) (by exact O2.out.sl) (by omega) (by omega)).mono ?_; rintro e w4 ⟨a4, k4, c4, r4, rfl, ho, hn4, hk4, hv, hb⟩; rw [trim_val, trim_val] at hv; have V4 : Hid (vl 4294967296 r4 = (vl 4294967296 l + vl 4294967296 p)) := hv; have N4 : Hid (a4 = none → c4 = 0) := hn4; have O4 : Hid (Own w4 (w.heap.size + 1 + 1 + 1) a4 k4 c4 r4) := ho.mono HS.out; have K4 := tk_le ho.sl; clear ho hn4 hv; have X1 : Hid (Box w4 (w.heap.size) (.bool false) (.slice a1 (tk l) c1)) := X1.out.below hb X1.out.lt; have X2 : Hid (Box w4 (w.heap.size + 1) (.bool false) (.slice a2 (tk p) c2)) := X2.out.below hb X2.out.lt; have X3 : Hid (Box w4 (w.heap.size + 1 + 1) (.bool false) (.slice none 0 0)) := X3.out.below hb X3.out.lt; have O1 : Hid (Own w4 (w.heap.size + 1 + 1 + 1) a1 (tk l) c1 (l.take (tk l))) := O1.out.below hb (Nat.le_refl _); have O2 : Hid (Own w4 (w.heap.size + 1 + 1 + 1) a2 (tk p) c2 (p.take (tk p))) := O2.out.below hb (Nat.le_refl _); have HB : Hid (Below w.heap.size w w4) := HB.out.trans (hb.mono HB.out.size); have HS : Hid (w.heap.size + 1 + 1 + 1 ≤ w4.heap.size) := Nat.le_trans HS.out hb.size; clear hb; clear kS; have kS : w4.cell? ⟨w.heap.size, 0, none⟩ = some (.bool false) ∧ w4.cell? ⟨w.heap.size, 1, none⟩ = some (.slice a1 (tk l) c1) ∧ w4.cell? ⟨w.heap.size + 1, 0, none⟩ = some (.bool false) ∧ w4.cell? ⟨w.heap.size + 1, 1, none⟩ = some (.slice a2 (tk p) c2) := ⟨X1.out.z0, X1.out.z1, X2.out.z0, X2.out.z1⟩) | (go_at_call 47; refine (rform_any false a4 k4 c4 r4 w4 O4.out.sl N4.out (by omega)).mono ?_; rintro e w5 ⟨a5, c5, rfl, ho, hn5, hb⟩; rw [V4.out]; have N5 : Hid (a5 = none → c5 = 0) := hn5; have O5 : Hid (Own w5 (w.heap.size + 1 + 1 + 1) a5 (tk r4) c5 (r4.take (tk r4))) := ho.mono (by have := HS.out; omega); clear ho hn5; have X1 : Hid (Box w5 (w.heap.size) (.bool false) (.slice a1 (tk l) c1)) := X1.out.below hb X1.out.lt; have X2 : Hid (Box w5 (w.heap.size + 1) (.bool false) (.slice a2 (tk p) c2)) := X2.out.below hb X2.out.lt; have X3 : Hid (Box w5 (w.heap.size + 1 + 1) (.bool false) (.slice none 0 0)) := X3.out.below hb X3.out.lt; have O1 : Hid (Own w5 (w.heap.size + 1 + 1 + 1) a1 (tk l) c1 (l.take (tk l))) := O1.out.below hb (Nat.le_refl _); have O2 : Hid (Own w5 (w.heap.size + 1 + 1 + 1) a2 (tk p) c2 (p.take (tk p))) := O2.out.below hb (Nat.le_refl _); have O4 : Hid (Own w5 (w.heap.size + 1 + 1 + 1) a4 k4 c4 r4) := O4.out.below hb (Nat.le_refl _); have HB : Hid (Below w.heap.size w w5) := HB.out.trans (hb.mono HB.out.size); have HS : Hid (w.heap.size + 1 + 1 + 1 ≤ w5.heap.size) := Nat.le_trans HS.out hb.size; clear hb; clear kS; have kS : w5.cell? ⟨w.heap.size, 0, none⟩ = some (.bool false) ∧ w5.cell? ⟨w.heap.size, 1, none⟩ = some (.slice a1 (tk l) c1) ∧ w5.cell? ⟨w.heap.size + 1, 0, none⟩ = some (.bool false) ∧ w5.cell? ⟨w.heap.size + 1, 1, none⟩ = some (.slice a2 (tk p) c2) := ⟨X1.out.z0, X1.out.z1, X2.out.z0, X2.out.z1⟩) | (go_at_call 48; refine (rend_get _ a5 (tk r4) c5 (r4.take (tk r4)) (vl 4294967296 l + vl 4294967296 p) w5 O5.out.sl N5.out (by omega) (by rw [trim_val, V4.out])).mono ?_; rintro e w6 ⟨s6, a6, k6, c6, rfl, he6, hb⟩; have E6 : Hid (EndR _ _ _ _ _ s6 a6 k6 c6) := he6; clear he6; have X1 : Hid (Box w6 (w.heap.size) (.bool false) (.slice a1 (tk l) c1)) := X1.out.below hb X1.out.lt; have X2 : Hid (Box w6 (w.heap.size + 1) (.bool false) (.slice a2 (tk p) c2)) := X2.out.below hb X2.out.lt; have X3 : Hid (Box w6 (w.heap.size + 1 + 1) (.bool false) (.slice none 0 0)) := X3.out.below hb X3.out.lt; have O1 : Hid (Own w6 (w.heap.size + 1 + 1 + 1) a1 (tk l) c1 (l.take (tk l))) := O1.out.below hb (Nat.le_refl _); have O2 : Hid (Own w6 (w.heap.size + 1 + 1 + 1) a2 (tk p) c2 (p.take (tk p))) := O2.out.below hb (Nat.le_refl _); have O4 : Hid (Own w6 (w.heap.size + 1 + 1 + 1) a4 k4 c4 r4) := O4.out.below hb (Nat.le_refl _); have O5 : Hid (Own w6 (w.heap.size + 1 + 1 + 1) a5 (tk r4) c5 (r4.take (tk r4))) := O5.out.below hb (Nat.le_refl _); have HB : Hid (Below w.heap.size w w6) := HB.out.trans (hb.mono HB.out.size); have HS : Hid (w.heap.size + 1 + 1 + 1 ≤ w6.heap.size) := Nat.le_trans HS.out hb.size; clear hb; clear kS; have kS : w6.cell? ⟨w.heap.size, 0, none⟩ = some (.bool false) ∧ w6.cell? ⟨w.heap.size, 1, none⟩ = some (.slice a1 (tk l) c1) ∧ w6.cell? ⟨w.heap.size + 1, 0, none⟩ = some (.bool false) ∧ w6.cell? ⟨w.heap.size + 1, 1, none⟩ = some (.slice a2 (tk p) c2) := ⟨X1.out.z0, X1.out.z1, X2.out.z0, X2.out.z1⟩; have z0 := X3.out.z0; have z1 := X3.out.z1; have f0 := X3.out.f0; have f1 := X3.out.f1))
    all_goals
      go_wp2_with fail
      have ho2 := (O5.out.setCell (a := ⟨w.heap.size + 1 + 1, 0, none⟩) (by show w.heap.size + 1 + 1 < w.heap.size + 1 + 1 + 1; omega) (.bool s6)).setCell (a := ⟨w.heap.size + 1 + 1, 1, none⟩) (by show w.heap.size + 1 + 1 < w.heap.size + 1 + 1 + 1; omega) (.slice a6 k6 c6)
      refine bodyPost_ret (v := .tuple #[.agg #[.bool s6, .slice a6 k6 c6], .int .i64 (eBig (vl 4294967296 l + vl 4294967296 p))]) (by simp [results, Tryd.results28, go_sem, z0, z1]) rfl (AddP.at B1.out B2.out (addR_same S1.out S2.out) rfl (E6.out.int (ho2.mono (by omega)) (trim_form O4.out.sl.wd) (by rw [trim_val, V4.out])) ?_)
      exact (HB.out.setCell (p := ⟨w.heap.size + 1 + 1, 0, none⟩) (by show w.heap.size ≤ w.heap.size + 1 + 1; omega) _).setCell (p := ⟨w.heap.size + 1 + 1, 1, none⟩) (by show w.heap.size ≤ w.heap.size + 1 + 1; omega) _
  · have x2z0 := X2.out.z0
    have x2z1 := X2.out.z1
    have x2f0 := X2.out.f0
    have x2f1 := X2.out.f1
    have y10 : ((V5.setCell ⟨w.heap.size + 1, 0, none⟩ (.bool true)).setCell ⟨w.heap.size + 1, 1, none⟩ (.slice a2 (tk p) c2)).cell? ⟨w.heap.size, 0, none⟩ = some (.bool false) := (set2_other (by omega)).trans X1.out.z0
    have y11 : ((V5.setCell ⟨w.heap.size + 1, 0, none⟩ (.bool true)).setCell ⟨w.heap.size + 1, 1, none⟩ (.slice a2 (tk p) c2)).cell? ⟨w.heap.size, 1, none⟩ = some (.slice a1 (tk l) c1) := (set2_other (by omega)).trans X1.out.z1
    have y30 : ((V5.setCell ⟨w.heap.size + 1, 0, none⟩ (.bool true)).setCell ⟨w.heap.size + 1, 1, none⟩ (.slice a2 (tk p) c2)).cell? ⟨w.heap.size + 1 + 1, 0, none⟩ = some (.bool false) := (set2_other (by omega)).trans X3.out.z0
    have y31 : ((V5.setCell ⟨w.heap.size + 1, 0, none⟩ (.bool true)).setCell ⟨w.heap.size + 1, 1, none⟩ (.slice a2 (tk p) c2)).cell? ⟨w.heap.size + 1 + 1, 1, none⟩ = some (.slice none 0 0) := (set2_other (by omega)).trans X3.out.z1
    go_wp2_with fail
    generalize hV : ((V5.setCell ⟨w.heap.size + 1, 0, none⟩ (.bool true)).setCell ⟨w.heap.size + 1, 1, none⟩ (.slice a2 (tk p) c2)) = V6 at *
    clear x2z0 x2z1 x2f0 x2f1 y10 y11 y30 y31
    obtain ⟨xt, d3, d4, d5, d6⟩ := set_own hV X2.out
    clear hV
    have X1 : Hid (Box V6 (w.heap.size) (.bool false) (.slice a1 (tk l) c1)) := d3 _ _ _ (by omega) X1.out
    have X3 : Hid (Box V6 (w.heap.size + 1 + 1) (.bool false) (.slice none 0 0)) := d3 _ _ _ (by omega) X3.out
    have X2 : Hid (Box V6 (w.heap.size + 1) (.bool true) (.slice a2 (tk p) c2)) := xt
    have O1 : Hid (Own V6 (w.heap.size + 1 + 1 + 1) a1 (tk l) c1 (l.take (tk l))) := d5 _ _ _ _ _ O1.out (by omega)
    have O2 : Hid (Own V6 (w.heap.size + 1 + 1 + 1) a2 (tk p) c2 (p.take (tk p))) := d5 _ _ _ _ _ O2.out (by omega)
    have HB : Hid (Below w.heap.size w V6) := d4 _ _ HB.out (by omega)
    have HS : Hid (w.heap.size + 1 + 1 + 1 ≤ V6.heap.size) := by have := HS.out; show _ ≤ _; omega
    clear xt d3 d4 d5 d6
    have LT : tk l ≤ 1000 := by omega
    by_cases hc : vl 4294967296 p ≤ vl 4294967296 l
    · have HC : Hid (vl 4294967296 p ≤ vl 4294967296 l) := hc
      have LE : Hid (tk p ≤ tk l) := by have h1 := form_len_le (trim_form HP.out.wd) (trim_form HL.out.wd) (by rw [trim_val, trim_val]; exact hc); rw [O1.out.sl.len, O2.out.sl.len] at h1; exact h1
      clear hc
      refine (rsize_any a1 (tk l) c1 (l.take (tk l)) a2 (tk p) c2 (p.take (tk p)) _ O1.out.sl O2.out.sl (trim_form HL.out.wd) (trim_form HP.out.wd) (by omega) (by omega)).mono ?_
      rintro e V9 ⟨rfl, hb⟩
      rw [trim_val, trim_val]
      obtain ⟨cv, hcv⟩ : ∃ cv, cmpI (vl 4294967296 l) (vl 4294967296 p) = cv := ⟨_, rfl⟩
      have hcp : 0 ≤ cv := by rw [← hcv]; exact cmpI_ge (by have := HC.out; omega)
      rw [hcv]
      clear hcv
      have X1 : Hid (Box V9 (w.heap.size) (.bool false) (.slice a1 (tk l) c1)) := X1.out.below hb X1.out.lt
      have X2 : Hid (Box V9 (w.heap.size + 1) (.bool true) (.slice a2 (tk p) c2)) := X2.out.below hb X2.out.lt
      have X3 : Hid (Box V9 (w.heap.size + 1 + 1) (.bool false) (.slice none 0 0)) := X3.out.below hb X3.out.lt
      have O1 : Hid (Own V9 (w.heap.size + 1 + 1 + 1) a1 (tk l) c1 (l.take (tk l))) := O1.out.below hb (Nat.le_refl _)
      have O2 : Hid (Own V9 (w.heap.size + 1 + 1 + 1) a2 (tk p) c2 (p.take (tk p))) := O2.out.below hb (Nat.le_refl _)
      have HB : Hid (Below w.heap.size w V9) := HB.out.trans (hb.mono HB.out.size)
      have HS : Hid (w.heap.size + 1 + 1 + 1 ≤ V9.heap.size) := Nat.le_trans HS.out hb.size
      clear hb
      have x1z0 := X1.out.z0
      have x1z1 := X1.out.z1
      have x1f0 := X1.out.f0
      have x1f1 := X1.out.f1
      have x2z0 := X2.out.z0
      have x2z1 := X2.out.z1
      have x2f0 := X2.out.f0
      have x2f1 := X2.out.f1
      go_wp2_with fail
      clear x1z0 x1z1 x1f0 x1f1 x2z0 x2z1 x2f0 x2f1
      have hb : Below V9.heap.size V9 V9.drew := (Below.refl _ _).drew
      have X1 : Hid (Box V9.drew (w.heap.size) (.bool false) (.slice a1 (tk l) c1)) := X1.out.below hb X1.out.lt
      have X2 : Hid (Box V9.drew (w.heap.size + 1) (.bool true) (.slice a2 (tk p) c2)) := X2.out.below hb X2.out.lt
      have X3 : Hid (Box V9.drew (w.heap.size + 1 + 1) (.bool false) (.slice none 0 0)) := X3.out.below hb X3.out.lt
      have O1 : Hid (Own V9.drew (w.heap.size + 1 + 1 + 1) a1 (tk l) c1 (l.take (tk l))) := O1.out.below hb (Nat.le_refl _)
      have O2 : Hid (Own V9.drew (w.heap.size + 1 + 1 + 1) a2 (tk p) c2 (p.take (tk p))) := O2.out.below hb (Nat.le_refl _)
      have HB : Hid (Below w.heap.size w V9.drew) := HB.out.trans (hb.mono HB.out.size)
      have HS : Hid (w.heap.size + 1 + 1 + 1 ≤ V9.drew.heap.size) := Nat.le_trans HS.out hb.size
      clear hb
      have kS : V9.drew.cell? ⟨w.heap.size, 0, none⟩ = some (.bool false) ∧ V9.drew.cell? ⟨w.heap.size, 1, none⟩ = some (.slice a1 (tk l) c1) ∧ V9.drew.cell? ⟨w.heap.size + 1, 0, none⟩ = some (.bool true) ∧ V9.drew.cell? ⟨w.heap.size + 1, 1, none⟩ = some (.slice a2 (tk p) c2) := ⟨X1.out.z0, X1.out.z1, X2.out.z0, X2.out.z1⟩
      go_region_held3 (fun w' => w'.cell? ⟨w.heap.size, 0, none⟩ = some (.bool false) ∧ w'.cell? ⟨w.heap.size, 1, none⟩ = some (.slice a1 (tk l) c1) ∧ w'.cell? ⟨w.heap.size + 1, 0, none⟩ = some (.bool true) ∧ w'.cell? ⟨w.heap.size + 1, 1, none⟩ = some (.slice a2 (tk p) c2))
        (first | exact kS | exact ⟨(set2_other (ne_boxes _)).trans kS.1, (set2_other (ne_boxes _)).trans kS.2.1, (set2_other (ne_boxes2 _)).trans kS.2.2.1, (set2_other (ne_boxes2 _)).trans kS.2.2.2⟩)
        (first | (go_at_call 51; refine (rminus_any a1 (tk l) c1 (l.take (tk l)) a2 (tk p) c2 (p.take (tk p)) _ (by exact O1.out.sl) (by exact O2.out.sl) (by omega) (LE.out) (by rw [trim_val, trim_val]; exact HC.out)).mono ?_; rintro e w4 ⟨a4, c4, r4, rfl, ho, hn4, hv, hb⟩; rw [trim_val, trim_val] at hv; have V4 : Hid (vl 4294967296 r4 = (vl 4294967296 l - vl 4294967296 p)) := Nat.eq_sub_of_add_eq hv; have N4 : Hid (a4 = none → c4 = 0) := hn4; have O4 : Hid (Own w4 (w.heap.size + 1 + 1 + 1) a4 (tk l) c4 r4) := ho.mono HS.out; have K4 := tk_le ho.sl; clear ho hn4 hv; have X1 : Hid (Box w4 (w.heap.size) (.bool false) (.slice a1 (tk l) c1)) := X1.out.below hb X1.out.lt; have X2 : Hid (Box w4 (w.heap.size + 1) (.bool true) (.slice a2 (tk p) c2)) := X2.out.below hb X2.out.lt; have X3 : Hid (Box w4 (w.heap.size + 1 + 1) (.bool false) (.slice none 0 0)) := X3.out.below hb X3.out.lt; have O1 : Hid (Own w4 (w.heap.size + 1 + 1 + 1) a1 (tk l) c1 (l.take (tk l))) := O1.out.below hb (Nat.le_refl _); have O2 : Hid (Own w4 (w.heap.size + 1 + 1 + 1) a2 (tk p) c2 (p.take (tk p))) := O2.out.below hb (Nat.le_refl _); have HB : Hid (Below w.heap.size w w4) := HB.out.trans (hb.mono HB.out.size); have HS : Hid (w.heap.size + 1 + 1 + 1 ≤ w4.heap.size) := Nat.le_trans HS.out hb.size; clear hb; clear kS; have kS : w4.cell? ⟨w.heap.size, 0, none⟩ = some (.bool false) ∧ w4.cell? ⟨w.heap.size, 1, none⟩ = some (.slice a1 (tk l) c1) ∧ w4.cell? ⟨w.heap.size + 1, 0, none⟩ = some (.bool true) ∧ w4.cell? ⟨w.heap.size + 1, 1, none⟩ = some (.slice a2 (tk p) c2) := ⟨X1.out.z0, X1.out.z1, X2.out.z0, X2.out.z1⟩) | (go_at_call 47; refine (rform_any false a4 (tk l) c4 r4 w4 O4.out.sl N4.out (by omega)).mono ?_; rintro e w5 ⟨a5, c5, rfl, ho, hn5, hb⟩; rw [V4.out]; have N5 : Hid (a5 = none → c5 = 0) := hn5; have O5 : Hid (Own w5 (w.heap.size + 1 + 1 + 1) a5 (tk r4) c5 (r4.take (tk r4))) := ho.mono (by have := HS.out; omega); clear ho hn5; have X1 : Hid (Box w5 (w.heap.size) (.bool false) (.slice a1 (tk l) c1)) := X1.out.below hb X1.out.lt; have X2 : Hid (Box w5 (w.heap.size + 1) (.bool true) (.slice a2 (tk p) c2)) := X2.out.below hb X2.out.lt; have X3 : Hid (Box w5 (w.heap.size + 1 + 1) (.bool false) (.slice none 0 0)) := X3.out.below hb X3.out.lt; have O1 : Hid (Own w5 (w.heap.size + 1 + 1 + 1) a1 (tk l) c1 (l.take (tk l))) := O1.out.below hb (Nat.le_refl _); have O2 : Hid (Own w5 (w.heap.size + 1 + 1 + 1) a2 (tk p) c2 (p.take (tk p))) := O2.out.below hb (Nat.le_refl _); have O4 : Hid (Own w5 (w.heap.size + 1 + 1 + 1) a4 (tk l) c4 r4) := O4.out.below hb (Nat.le_refl _); have HB : Hid (Below w.heap.size w w5) := HB.out.trans (hb.mono HB.out.size); have HS : Hid (w.heap.size + 1 + 1 + 1 ≤ w5.heap.size) := Nat.le_trans HS.out hb.size; clear hb; clear kS; have kS : w5.cell? ⟨w.heap.size, 0, none⟩ = some (.bool false) ∧ w5.cell? ⟨w.heap.size, 1, none⟩ = some (.slice a1 (tk l) c1) ∧ w5.cell? ⟨w.heap.size + 1, 0, none⟩ = some (.bool true) ∧ w5.cell? ⟨w.heap.size + 1, 1, none⟩ = some (.slice a2 (tk p) c2) := ⟨X1.out.z0, X1.out.z1, X2.out.z0, X2.out.z1⟩) | (go_at_call 48; refine (rend_get _ a5 (tk r4) c5 (r4.take (tk r4)) (vl 4294967296 l - vl 4294967296 p) w5 O5.out.sl N5.out (by omega) (by rw [trim_val, V4.out])).mono ?_; rintro e w6 ⟨s6, a6, k6, c6, rfl, he6, hb⟩; have E6 : Hid (EndR _ _ _ _ _ s6 a6 k6 c6) := he6; clear he6; have X1 : Hid (Box w6 (w.heap.size) (.bool false) (.slice a1 (tk l) c1)) := X1.out.below hb X1.out.lt; have X2 : Hid (Box w6 (w.heap.size + 1) (.bool true) (.slice a2 (tk p) c2)) := X2.out.below hb X2.out.lt; have X3 : Hid (Box w6 (w.heap.size + 1 + 1) (.bool false) (.slice none 0 0)) := X3.out.below hb X3.out.lt; have O1 : Hid (Own w6 (w.heap.size + 1 + 1 + 1) a1 (tk l) c1 (l.take (tk l))) := O1.out.below hb (Nat.le_refl _); have O2 : Hid (Own w6 (w.heap.size + 1 + 1 + 1) a2 (tk p) c2 (p.take (tk p))) := O2.out.below hb (Nat.le_refl _); have O4 : Hid (Own w6 (w.heap.size + 1 + 1 + 1) a4 (tk l) c4 r4) := O4.out.below hb (Nat.le_refl _); have O5 : Hid (Own w6 (w.heap.size + 1 + 1 + 1) a5 (tk r4) c5 (r4.take (tk r4))) := O5.out.below hb (Nat.le_refl _); have HB : Hid (Below w.heap.size w w6) := HB.out.trans (hb.mono HB.out.size); have HS : Hid (w.heap.size + 1 + 1 + 1 ≤ w6.heap.size) := Nat.le_trans HS.out hb.size; clear hb; clear kS; have kS : w6.cell? ⟨w.heap.size, 0, none⟩ = some (.bool false) ∧ w6.cell? ⟨w.heap.size, 1, none⟩ = some (.slice a1 (tk l) c1) ∧ w6.cell? ⟨w.heap.size + 1, 0, none⟩ = some (.bool true) ∧ w6.cell? ⟨w.heap.size + 1, 1, none⟩ = some (.slice a2 (tk p) c2) := ⟨X1.out.z0, X1.out.z1, X2.out.z0, X2.out.z1⟩; have z0 := X3.out.z0; have z1 := X3.out.z1; have f0 := X3.out.f0; have f1 := X3.out.f1))
      all_goals
        go_wp2_with fail
        have ho2 := (O5.out.setCell (a := ⟨w.heap.size + 1 + 1, 0, none⟩) (by show w.heap.size + 1 + 1 < w.heap.size + 1 + 1 + 1; omega) (.bool s6)).setCell (a := ⟨w.heap.size + 1 + 1, 1, none⟩) (by show w.heap.size + 1 + 1 < w.heap.size + 1 + 1 + 1; omega) (.slice a6 k6 c6)
        refine bodyPost_ret (v := .tuple #[.agg #[.bool s6, .slice a6 k6 c6], .int .i64 (eBig (vl 4294967296 l - vl 4294967296 p))]) (by simp [results, Tryd.results28, go_sem, z0, z1]) rfl (AddP.at B1.out B2.out (addR_ge S1.out S2.out (by decide) HC.out) rfl (E6.out.int (ho2.mono (by omega)) (trim_form O4.out.sl.wd) (by rw [trim_val, V4.out])) ?_)
        exact (HB.out.setCell (p := ⟨w.heap.size + 1 + 1, 0, none⟩) (by show w.heap.size ≤ w.heap.size + 1 + 1; omega) _).setCell (p := ⟨w.heap.size + 1 + 1, 1, none⟩) (by show w.heap.size ≤ w.heap.size + 1 + 1; omega) _
    · have HC0 : Hid (vl 4294967296 l < vl 4294967296 p) := Nat.lt_of_not_le hc
      have HC : Hid (vl 4294967296 l ≤ vl 4294967296 p) := Nat.le_of_lt HC0.out
      have LE : Hid (tk l ≤ tk p) := by have h1 := form_len_le (trim_form HL.out.wd) (trim_form HP.out.wd) (by rw [trim_val, trim_val]; exact HC.out); rw [O1.out.sl.len, O2.out.sl.len] at h1; exact h1
      clear hc
      refine (rsize_any a1 (tk l) c1 (l.take (tk l)) a2 (tk p) c2 (p.take (tk p)) _ O1.out.sl O2.out.sl (trim_form HL.out.wd) (trim_form HP.out.wd) (by omega) (by omega)).mono ?_
      rintro e V9 ⟨rfl, hb⟩
      rw [trim_val, trim_val]
      obtain ⟨cv, hcv⟩ : ∃ cv, cmpI (vl 4294967296 l) (vl 4294967296 p) = cv := ⟨_, rfl⟩
      have hcp : cv = -1 := by rw [← hcv]; exact cmpI_lt (by have := HC0.out; omega)
      rw [hcv]
      clear hcv
      have X1 : Hid (Box V9 (w.heap.size) (.bool false) (.slice a1 (tk l) c1)) := X1.out.below hb X1.out.lt
      have X2 : Hid (Box V9 (w.heap.size + 1) (.bool true) (.slice a2 (tk p) c2)) := X2.out.below hb X2.out.lt
      have X3 : Hid (Box V9 (w.heap.size + 1 + 1) (.bool false) (.slice none 0 0)) := X3.out.below hb X3.out.lt
      have O1 : Hid (Own V9 (w.heap.size + 1 + 1 + 1) a1 (tk l) c1 (l.take (tk l))) := O1.out.below hb (Nat.le_refl _)
      have O2 : Hid (Own V9 (w.heap.size + 1 + 1 + 1) a2 (tk p) c2 (p.take (tk p))) := O2.out.below hb (Nat.le_refl _)
      have HB : Hid (Below w.heap.size w V9) := HB.out.trans (hb.mono HB.out.size)
      have HS : Hid (w.heap.size + 1 + 1 + 1 ≤ V9.heap.size) := Nat.le_trans HS.out hb.size
      clear hb
      have x1z0 := X1.out.z0
      have x1z1 := X1.out.z1
      have x1f0 := X1.out.f0
      have x1f1 := X1.out.f1
      have x2z0 := X2.out.z0
      have x2z1 := X2.out.z1
      have x2f0 := X2.out.f0
      have x2f1 := X2.out.f1
      go_wp2_with fail
      clear x1z0 x1z1 x1f0 x1f1 x2z0 x2z1 x2f0 x2f1
      have hb : Below V9.heap.size V9 V9.drew := (Below.refl _ _).drew
      have X1 : Hid (Box V9.drew (w.heap.size) (.bool false) (.slice a1 (tk l) c1)) := X1.out.below hb X1.out.lt
      have X2 : Hid (Box V9.drew (w.heap.size + 1) (.bool true) (.slice a2 (tk p) c2)) := X2.out.below hb X2.out.lt
      have X3 : Hid (Box V9.drew (w.heap.size + 1 + 1) (.bool false) (.slice none 0 0)) := X3.out.below hb X3.out.lt
      have O1 : Hid (Own V9.drew (w.heap.size + 1 + 1 + 1) a1 (tk l) c1 (l.take (tk l))) := O1.out.below hb (Nat.le_refl _)
      have O2 : Hid (Own V9.drew (w.heap.size + 1 + 1 + 1) a2 (tk p) c2 (p.take (tk p))) := O2.out.below hb (Nat.le_refl _)
      have HB : Hid (Below w.heap.size w V9.drew) := HB.out.trans (hb.mono HB.out.size)
      have HS : Hid (w.heap.size + 1 + 1 + 1 ≤ V9.drew.heap.size) := Nat.le_trans HS.out hb.size
      clear hb
      have kS : V9.drew.cell? ⟨w.heap.size, 0, none⟩ = some (.bool false) ∧ V9.drew.cell? ⟨w.heap.size, 1, none⟩ = some (.slice a1 (tk l) c1) ∧ V9.drew.cell? ⟨w.heap.size + 1, 0, none⟩ = some (.bool true) ∧ V9.drew.cell? ⟨w.heap.size + 1, 1, none⟩ = some (.slice a2 (tk p) c2) := ⟨X1.out.z0, X1.out.z1, X2.out.z0, X2.out.z1⟩
      go_region_held3 (fun w' => w'.cell? ⟨w.heap.size, 0, none⟩ = some (.bool false) ∧ w'.cell? ⟨w.heap.size, 1, none⟩ = some (.slice a1 (tk l) c1) ∧ w'.cell? ⟨w.heap.size + 1, 0, none⟩ = some (.bool true) ∧ w'.cell? ⟨w.heap.size + 1, 1, none⟩ = some (.slice a2 (tk p) c2))
        (first | exact kS | exact ⟨(set2_other (ne_boxes _)).trans kS.1, (set2_other (ne_boxes _)).trans kS.2.1, (set2_other (ne_boxes2 _)).trans kS.2.2.1, (set2_other (ne_boxes2 _)).trans kS.2.2.2⟩)
        (first | (go_at_call 51; refine (rminus_any a2 (tk p) c2 (p.take (tk p)) a1 (tk l) c1 (l.take (tk l)) _ (by exact O2.out.sl) (by exact O1.out.sl) (by omega) (LE.out) (by rw [trim_val, trim_val]; exact HC.out)).mono ?_; rintro e w4 ⟨a4, c4, r4, rfl, ho, hn4, hv, hb⟩; rw [trim_val, trim_val] at hv; have V4 : Hid (vl 4294967296 r4 = (vl 4294967296 p - vl 4294967296 l)) := Nat.eq_sub_of_add_eq hv; have N4 : Hid (a4 = none → c4 = 0) := hn4; have O4 : Hid (Own w4 (w.heap.size + 1 + 1 + 1) a4 (tk p) c4 r4) := ho.mono HS.out; have K4 := tk_le ho.sl; clear ho hn4 hv; have X1 : Hid (Box w4 (w.heap.size) (.bool false) (.slice a1 (tk l) c1)) := X1.out.below hb X1.out.lt; have X2 : Hid (Box w4 (w.heap.size + 1) (.bool true) (.slice a2 (tk p) c2)) := X2.out.below hb X2.out.lt; have X3 : Hid (Box w4 (w.heap.size + 1 + 1) (.bool false) (.slice none 0 0)) := X3.out.below hb X3.out.lt; have O1 : Hid (Own w4 (w.heap.size + 1 + 1 + 1) a1 (tk l) c1 (l.take (tk l))) := O1.out.below hb (Nat.le_refl _); have O2 : Hid (Own w4 (w.heap.size + 1 + 1 + 1) a2 (tk p) c2 (p.take (tk p))) := O2.out.below hb (Nat.le_refl _); have HB : Hid (Below w.heap.size w w4) := HB.out.trans (hb.mono HB.out.size); have HS : Hid (w.heap.size + 1 + 1 + 1 ≤ w4.heap.size) := Nat.le_trans HS.out hb.size; clear hb; clear kS; have kS : w4.cell? ⟨w.heap.size, 0, none⟩ = some (.bool false) ∧ w4.cell? ⟨w.heap.size, 1, none⟩ = some (.slice a1 (tk l) c1) ∧ w4.cell? ⟨w.heap.size + 1, 0, none⟩ = some (.bool true) ∧ w4.cell? ⟨w.heap.size + 1, 1, none⟩ = some (.slice a2 (tk p) c2) := ⟨X1.out.z0, X1.out.z1, X2.out.z0, X2.out.z1⟩) | (go_at_call 47; refine (rform_any true a4 (tk p) c4 r4 w4 O4.out.sl N4.out (by omega)).mono ?_; rintro e w5 ⟨a5, c5, rfl, ho, hn5, hb⟩; rw [V4.out]; have N5 : Hid (a5 = none → c5 = 0) := hn5; have O5 : Hid (Own w5 (w.heap.size + 1 + 1 + 1) a5 (tk r4) c5 (r4.take (tk r4))) := ho.mono (by have := HS.out; omega); clear ho hn5; have X1 : Hid (Box w5 (w.heap.size) (.bool false) (.slice a1 (tk l) c1)) := X1.out.below hb X1.out.lt; have X2 : Hid (Box w5 (w.heap.size + 1) (.bool true) (.slice a2 (tk p) c2)) := X2.out.below hb X2.out.lt; have X3 : Hid (Box w5 (w.heap.size + 1 + 1) (.bool false) (.slice none 0 0)) := X3.out.below hb X3.out.lt; have O1 : Hid (Own w5 (w.heap.size + 1 + 1 + 1) a1 (tk l) c1 (l.take (tk l))) := O1.out.below hb (Nat.le_refl _); have O2 : Hid (Own w5 (w.heap.size + 1 + 1 + 1) a2 (tk p) c2 (p.take (tk p))) := O2.out.below hb (Nat.le_refl _); have O4 : Hid (Own w5 (w.heap.size + 1 + 1 + 1) a4 (tk p) c4 r4) := O4.out.below hb (Nat.le_refl _); have HB : Hid (Below w.heap.size w w5) := HB.out.trans (hb.mono HB.out.size); have HS : Hid (w.heap.size + 1 + 1 + 1 ≤ w5.heap.size) := Nat.le_trans HS.out hb.size; clear hb; clear kS; have kS : w5.cell? ⟨w.heap.size, 0, none⟩ = some (.bool false) ∧ w5.cell? ⟨w.heap.size, 1, none⟩ = some (.slice a1 (tk l) c1) ∧ w5.cell? ⟨w.heap.size + 1, 0, none⟩ = some (.bool true) ∧ w5.cell? ⟨w.heap.size + 1, 1, none⟩ = some (.slice a2 (tk p) c2) := ⟨X1.out.z0, X1.out.z1, X2.out.z0, X2.out.z1⟩) | (go_at_call 48; refine (rend_get _ a5 (tk r4) c5 (r4.take (tk r4)) (vl 4294967296 p - vl 4294967296 l) w5 O5.out.sl N5.out (by omega) (by rw [trim_val, V4.out])).mono ?_; rintro e w6 ⟨s6, a6, k6, c6, rfl, he6, hb⟩; have E6 : Hid (EndR _ _ _ _ _ s6 a6 k6 c6) := he6; clear he6; have X1 : Hid (Box w6 (w.heap.size) (.bool false) (.slice a1 (tk l) c1)) := X1.out.below hb X1.out.lt; have X2 : Hid (Box w6 (w.heap.size + 1) (.bool true) (.slice a2 (tk p) c2)) := X2.out.below hb X2.out.lt; have X3 : Hid (Box w6 (w.heap.size + 1 + 1) (.bool false) (.slice none 0 0)) := X3.out.below hb X3.out.lt; have O1 : Hid (Own w6 (w.heap.size + 1 + 1 + 1) a1 (tk l) c1 (l.take (tk l))) := O1.out.below hb (Nat.le_refl _); have O2 : Hid (Own w6 (w.heap.size + 1 + 1 + 1) a2 (tk p) c2 (p.take (tk p))) := O2.out.below hb (Nat.le_refl _); have O4 : Hid (Own w6 (w.heap.size + 1 + 1 + 1) a4 (tk p) c4 r4) := O4.out.below hb (Nat.le_refl _); have O5 : Hid (Own w6 (w.heap.size + 1 + 1 + 1) a5 (tk r4) c5 (r4.take (tk r4))) := O5.out.below hb (Nat.le_refl _); have HB : Hid (Below w.heap.size w w6) := HB.out.trans (hb.mono HB.out.size); have HS : Hid (w.heap.size + 1 + 1 + 1 ≤ w6.heap.size) := Nat.le_trans HS.out hb.size; clear hb; clear kS; have kS : w6.cell? ⟨w.heap.size, 0, none⟩ = some (.bool false) ∧ w6.cell? ⟨w.heap.size, 1, none⟩ = some (.slice a1 (tk l) c1) ∧ w6.cell? ⟨w.heap.size + 1, 0, none⟩ = some (.bool true) ∧ w6.cell? ⟨w.heap.size + 1, 1, none⟩ = some (.slice a2 (tk p) c2) := ⟨X1.out.z0, X1.out.z1, X2.out.z0, X2.out.z1⟩; have z0 := X3.out.z0; have z1 := X3.out.z1; have f0 := X3.out.f0; have f1 := X3.out.f1))
      all_goals
        go_wp2_with fail
        have ho2 := (O5.out.setCell (a := ⟨w.heap.size + 1 + 1, 0, none⟩) (by show w.heap.size + 1 + 1 < w.heap.size + 1 + 1 + 1; omega) (.bool s6)).setCell (a := ⟨w.heap.size + 1 + 1, 1, none⟩) (by show w.heap.size + 1 + 1 < w.heap.size + 1 + 1 + 1; omega) (.slice a6 k6 c6)
        refine bodyPost_ret (v := .tuple #[.agg #[.bool s6, .slice a6 k6 c6], .int .i64 (eBig (vl 4294967296 p - vl 4294967296 l))]) (by simp [results, Tryd.results28, go_sem, z0, z1]) rfl (AddP.at B1.out B2.out (addR_lt S1.out S2.out (by decide) HC0.out) rfl (E6.out.int (ho2.mono (by omega)) (trim_form O4.out.sl.wd) (by rw [trim_val, V4.out])) ?_)
        exact (HB.out.setCell (p := ⟨w.heap.size + 1 + 1, 0, none⟩) (by show w.heap.size ≤ w.heap.size + 1 + 1; omega) _).setCell (p := ⟨w.heap.size + 1 + 1, 1, none⟩) (by show w.heap.size ≤ w.heap.size + 1 + 1; omega) _
  · have x2z0 := X2.out.z0
    have x2z1 := X2.out.z1
    have x2f0 := X2.out.f0
    have x2f1 := X2.out.f1
    have y10 : ((V5.setCell ⟨w.heap.size + 1, 0, none⟩ (.bool false)).setCell ⟨w.heap.size + 1, 1, none⟩ (.slice a2 (tk p) c2)).cell? ⟨w.heap.size, 0, none⟩ = some (.bool true) := (set2_other (by omega)).trans X1.out.z0
    have y11 : ((V5.setCell ⟨w.heap.size + 1, 0, none⟩ (.bool false)).setCell ⟨w.heap.size + 1, 1, none⟩ (.slice a2 (tk p) c2)).cell? ⟨w.heap.size, 1, none⟩ = some (.slice a1 (tk l) c1) := (set2_other (by omega)).trans X1.out.z1
    have y30 : ((V5.setCell ⟨w.heap.size + 1, 0, none⟩ (.bool false)).setCell ⟨w.heap.size + 1, 1, none⟩ (.slice a2 (tk p) c2)).cell? ⟨w.heap.size + 1 + 1, 0, none⟩ = some (.bool false) := (set2_other (by omega)).trans X3.out.z0
    have y31 : ((V5.setCell ⟨w.heap.size + 1, 0, none⟩ (.bool false)).setCell ⟨w.heap.size + 1, 1, none⟩ (.slice a2 (tk p) c2)).cell? ⟨w.heap.size + 1 + 1, 1, none⟩ = some (.slice none 0 0) := (set2_other (by omega)).trans X3.out.z1
    go_wp2_with fail
    generalize hV : ((V5.setCell ⟨w.heap.size + 1, 0, none⟩ (.bool false)).setCell ⟨w.heap.size + 1, 1, none⟩ (.slice a2 (tk p) c2)) = V6 at *
    clear x2z0 x2z1 x2f0 x2f1 y10 y11 y30 y31
    obtain ⟨xt, d3, d4, d5, d6⟩ := set_own hV X2.out
    clear hV
    have X1 : Hid (Box V6 (w.heap.size) (.bool true) (.slice a1 (tk l) c1)) := d3 _ _ _ (by omega) X1.out
    have X3 : Hid (Box V6 (w.heap.size + 1 + 1) (.bool false) (.slice none 0 0)) := d3 _ _ _ (by omega) X3.out
    have X2 : Hid (Box V6 (w.heap.size + 1) (.bool false) (.slice a2 (tk p) c2)) := xt
    have O1 : Hid (Own V6 (w.heap.size + 1 + 1 + 1) a1 (tk l) c1 (l.take (tk l))) := d5 _ _ _ _ _ O1.out (by omega)
    have O2 : Hid (Own V6 (w.heap.size + 1 + 1 + 1) a2 (tk p) c2 (p.take (tk p))) := d5 _ _ _ _ _ O2.out (by omega)
    have HB : Hid (Below w.heap.size w V6) := d4 _ _ HB.out (by omega)
    have HS : Hid (w.heap.size + 1 + 1 + 1 ≤ V6.heap.size) := by have := HS.out; show _ ≤ _; omega
    clear xt d3 d4 d5 d6
    have LT : tk l ≤ 1000 := by omega
    by_cases hc : vl 4294967296 p ≤ vl 4294967296 l
    · have HC : Hid (vl 4294967296 p ≤ vl 4294967296 l) := hc
      have LE : Hid (tk p ≤ tk l) := by have h1 := form_len_le (trim_form HP.out.wd) (trim_form HL.out.wd) (by rw [trim_val, trim_val]; exact hc); rw [O1.out.sl.len, O2.out.sl.len] at h1; exact h1
      clear hc
      refine (rsize_any a1 (tk l) c1 (l.take (tk l)) a2 (tk p) c2 (p.take (tk p)) _ O1.out.sl O2.out.sl (trim_form HL.out.wd) (trim_form HP.out.wd) (by omega) (by omega)).mono ?_
      rintro e V9 ⟨rfl, hb⟩
      rw [trim_val, trim_val]
      obtain ⟨cv, hcv⟩ : ∃ cv, cmpI (vl 4294967296 l) (vl 4294967296 p) = cv := ⟨_, rfl⟩
      have hcp : 0 ≤ cv := by rw [← hcv]; exact cmpI_ge (by have := HC.out; omega)
      rw [hcv]
      clear hcv
      have X1 : Hid (Box V9 (w.heap.size) (.bool true) (.slice a1 (tk l) c1)) := X1.out.below hb X1.out.lt
      have X2 : Hid (Box V9 (w.heap.size + 1) (.bool false) (.slice a2 (tk p) c2)) := X2.out.below hb X2.out.lt
      have X3 : Hid (Box V9 (w.heap.size + 1 + 1) (.bool false) (.slice none 0 0)) := X3.out.below hb X3.out.lt
      have O1 : Hid (Own V9 (w.heap.size + 1 + 1 + 1) a1 (tk l) c1 (l.take (tk l))) := O1.out.below hb (Nat.le_refl _)
      have O2 : Hid (Own V9 (w.heap.size + 1 + 1 + 1) a2 (tk p) c2 (p.take (tk p))) := O2.out.below hb (Nat.le_refl _)
      have HB : Hid (Below w.heap.size w V9) := HB.out.trans (hb.mono HB.out.size)
      have HS : Hid (w.heap.size + 1 + 1 + 1 ≤ V9.heap.size) := Nat.le_trans HS.out hb.size
      clear hb
      have x1z0 := X1.out.z0
      have x1z1 := X1.out.z1
      have x1f0 := X1.out.f0
      have x1f1 := X1.out.f1
      have x2z0 := X2.out.z0
      have x2z1 := X2.out.z1
      have x2f0 := X2.out.f0
      have x2f1 := X2.out.f1
      go_wp2_with fail
      clear x1z0 x1z1 x1f0 x1f1 x2z0 x2z1 x2f0 x2f1
      have hb : Below V9.heap.size V9 V9.drew := (Below.refl _ _).drew
      have X1 : Hid (Box V9.drew (w.heap.size) (.bool true) (.slice a1 (tk l) c1)) := X1.out.below hb X1.out.lt
      have X2 : Hid (Box V9.drew (w.heap.size + 1) (.bool false) (.slice a2 (tk p) c2)) := X2.out.below hb X2.out.lt
      have X3 : Hid (Box V9.drew (w.heap.size + 1 + 1) (.bool false) (.slice none 0 0)) := X3.out.below hb X3.out.lt
      have O1 : Hid (Own V9.drew (w.heap.size + 1 + 1 + 1) a1 (tk l) c1 (l.take (tk l))) := O1.out.below hb (Nat.le_refl _)
      have O2 : Hid (Own V9.drew (w.heap.size + 1 + 1 + 1) a2 (tk p) c2 (p.take (tk p))) := O2.out.below hb (Nat.le_refl _)
      have HB : Hid (Below w.heap.size w V9.drew) := HB.out.trans (hb.mono HB.out.size)
      have HS : Hid (w.heap.size + 1 + 1 + 1 ≤ V9.drew.heap.size) := Nat.le_trans HS.out hb.size
      clear hb
      have kS : V9.drew.cell? ⟨w.heap.size, 0, none⟩ = some (.bool true) ∧ V9.drew.cell? ⟨w.heap.size, 1, none⟩ = some (.slice a1 (tk l) c1) ∧ V9.drew.cell? ⟨w.heap.size + 1, 0, none⟩ = some (.bool false) ∧ V9.drew.cell? ⟨w.heap.size + 1, 1, none⟩ = some (.slice a2 (tk p) c2) := ⟨X1.out.z0, X1.out.z1, X2.out.z0, X2.out.z1⟩
      go_region_held3 (fun w' => w'.cell? ⟨w.heap.size, 0, none⟩ = some (.bool true) ∧ w'.cell? ⟨w.heap.size, 1, none⟩ = some (.slice a1 (tk l) c1) ∧ w'.cell? ⟨w.heap.size + 1, 0, none⟩ = some (.bool false) ∧ w'.cell? ⟨w.heap.size + 1, 1, none⟩ = some (.slice a2 (tk p) c2))
        (first | exact kS | exact ⟨(set2_other (ne_boxes _)).trans kS.1, (set2_other (ne_boxes _)).trans kS.2.1, (set2_other (ne_boxes2 _)).trans kS.2.2.1, (set2_other (ne_boxes2 _)).trans kS.2.2.2⟩)
        (first | (go_at_call 51; refine (rminus_any a1 (tk l) c1 (l.take (tk l)) a2 (tk p) c2 (p.take (tk p)) _ (by exact O1.out.sl) (by exact O2.out.sl) (by omega) (LE.out) (by rw [trim_val, trim_val]; exact HC.out)).mono ?_; rintro e w4 ⟨a4, c4, r4, rfl, ho, hn4, hv, hb⟩; rw [trim_val, trim_val] at hv; have V4 : Hid (vl 4294967296 r4 = (vl 4294967296 l - vl 4294967296 p)) := Nat.eq_sub_of_add_eq hv; have N4 : Hid (a4 = none → c4 = 0) := hn4; have O4 : Hid (Own w4 (w.heap.size + 1 + 1 + 1) a4 (tk l) c4 r4) := ho.mono HS.out; have K4 := tk_le ho.sl; clear ho hn4 hv; have X1 : Hid (Box w4 (w.heap.size) (.bool true) (.slice a1 (tk l) c1)) := X1.out.below hb X1.out.lt; have X2 : Hid (Box w4 (w.heap.size + 1) (.bool false) (.slice a2 (tk p) c2)) := X2.out.below hb X2.out.lt; have X3 : Hid (Box w4 (w.heap.size + 1 + 1) (.bool false) (.slice none 0 0)) := X3.out.below hb X3.out.lt; have O1 : Hid (Own w4 (w.heap.size + 1 + 1 + 1) a1 (tk l) c1 (l.take (tk l))) := O1.out.below hb (Nat.le_refl _); have O2 : Hid (Own w4 (w.heap.size + 1 + 1 + 1) a2 (tk p) c2 (p.take (tk p))) := O2.out.below hb (Nat.le_refl _); have HB : Hid (Below w.heap.size w w4) := HB.out.trans (hb.mono HB.out.size); have HS : Hid (w.heap.size + 1 + 1 + 1 ≤ w4.heap.size) := Nat.le_trans HS.out hb.size; clear hb; clear kS; have kS : w4.cell? ⟨w.heap.size, 0, none⟩ = some (.bool true) ∧ w4.cell? ⟨w.heap.size, 1, none⟩ = some (.slice a1 (tk l) c1) ∧ w4.cell? ⟨w.heap.size + 1, 0, none⟩ = some (.bool false) ∧ w4.cell? ⟨w.heap.size + 1, 1, none⟩ = some (.slice a2 (tk p) c2) := ⟨X1.out.z0, X1.out.z1, X2.out.z0, X2.out.z1⟩) | (go_at_call 47; refine (rform_any true a4 (tk l) c4 r4 w4 O4.out.sl N4.out (by omega)).mono ?_; rintro e w5 ⟨a5, c5, rfl, ho, hn5, hb⟩; rw [V4.out]; have N5 : Hid (a5 = none → c5 = 0) := hn5; have O5 : Hid (Own w5 (w.heap.size + 1 + 1 + 1) a5 (tk r4) c5 (r4.take (tk r4))) := ho.mono (by have := HS.out; omega); clear ho hn5; have X1 : Hid (Box w5 (w.heap.size) (.bool true) (.slice a1 (tk l) c1)) := X1.out.below hb X1.out.lt; have X2 : Hid (Box w5 (w.heap.size + 1) (.bool false) (.slice a2 (tk p) c2)) := X2.out.below hb X2.out.lt; have X3 : Hid (Box w5 (w.heap.size + 1 + 1) (.bool false) (.slice none 0 0)) := X3.out.below hb X3.out.lt; have O1 : Hid (Own w5 (w.heap.size + 1 + 1 + 1) a1 (tk l) c1 (l.take (tk l))) := O1.out.below hb (Nat.le_refl _); have O2 : Hid (Own w5 (w.heap.size + 1 + 1 + 1) a2 (tk p) c2 (p.take (tk p))) := O2.out.below hb (Nat.le_refl _); have O4 : Hid (Own w5 (w.heap.size + 1 + 1 + 1) a4 (tk l) c4 r4) := O4.out.below hb (Nat.le_refl _); have HB : Hid (Below w.heap.size w w5) := HB.out.trans (hb.mono HB.out.size); have HS : Hid (w.heap.size + 1 + 1 + 1 ≤ w5.heap.size) := Nat.le_trans HS.out hb.size; clear hb; clear kS; have kS : w5.cell? ⟨w.heap.size, 0, none⟩ = some (.bool true) ∧ w5.cell? ⟨w.heap.size, 1, none⟩ = some (.slice a1 (tk l) c1) ∧ w5.cell? ⟨w.heap.size + 1, 0, none⟩ = some (.bool false) ∧ w5.cell? ⟨w.heap.size + 1, 1, none⟩ = some (.slice a2 (tk p) c2) := ⟨X1.out.z0, X1.out.z1, X2.out.z0, X2.out.z1⟩) | (go_at_call 48; refine (rend_get _ a5 (tk r4) c5 (r4.take (tk r4)) (vl 4294967296 l - vl 4294967296 p) w5 O5.out.sl N5.out (by omega) (by rw [trim_val, V4.out])).mono ?_; rintro e w6 ⟨s6, a6, k6, c6, rfl, he6, hb⟩; have E6 : Hid (EndR _ _ _ _ _ s6 a6 k6 c6) := he6; clear he6; have X1 : Hid (Box w6 (w.heap.size) (.bool true) (.slice a1 (tk l) c1)) := X1.out.below hb X1.out.lt; have X2 : Hid (Box w6 (w.heap.size + 1) (.bool false) (.slice a2 (tk p) c2)) := X2.out.below hb X2.out.lt; have X3 : Hid (Box w6 (w.heap.size + 1 + 1) (.bool false) (.slice none 0 0)) := X3.out.below hb X3.out.lt; have O1 : Hid (Own w6 (w.heap.size + 1 + 1 + 1) a1 (tk l) c1 (l.take (tk l))) := O1.out.below hb (Nat.le_refl _); have O2 : Hid (Own w6 (w.heap.size + 1 + 1 + 1) a2 (tk p) c2 (p.take (tk p))) := O2.out.below hb (Nat.le_refl _); have O4 : Hid (Own w6 (w.heap.size + 1 + 1 + 1) a4 (tk l) c4 r4) := O4.out.below hb (Nat.le_refl _); have O5 : Hid (Own w6 (w.heap.size + 1 + 1 + 1) a5 (tk r4) c5 (r4.take (tk r4))) := O5.out.below hb (Nat.le_refl _); have HB : Hid (Below w.heap.size w w6) := HB.out.trans (hb.mono HB.out.size); have HS : Hid (w.heap.size + 1 + 1 + 1 ≤ w6.heap.size) := Nat.le_trans HS.out hb.size; clear hb; clear kS; have kS : w6.cell? ⟨w.heap.size, 0, none⟩ = some (.bool true) ∧ w6.cell? ⟨w.heap.size, 1, none⟩ = some (.slice a1 (tk l) c1) ∧ w6.cell? ⟨w.heap.size + 1, 0, none⟩ = some (.bool false) ∧ w6.cell? ⟨w.heap.size + 1, 1, none⟩ = some (.slice a2 (tk p) c2) := ⟨X1.out.z0, X1.out.z1, X2.out.z0, X2.out.z1⟩; have z0 := X3.out.z0; have z1 := X3.out.z1; have f0 := X3.out.f0; have f1 := X3.out.f1))
      all_goals
        go_wp2_with fail
        have ho2 := (O5.out.setCell (a := ⟨w.heap.size + 1 + 1, 0, none⟩) (by show w.heap.size + 1 + 1 < w.heap.size + 1 + 1 + 1; omega) (.bool s6)).setCell (a := ⟨w.heap.size + 1 + 1, 1, none⟩) (by show w.heap.size + 1 + 1 < w.heap.size + 1 + 1 + 1; omega) (.slice a6 k6 c6)
        refine bodyPost_ret (v := .tuple #[.agg #[.bool s6, .slice a6 k6 c6], .int .i64 (eBig (vl 4294967296 l - vl 4294967296 p))]) (by simp [results, Tryd.results28, go_sem, z0, z1]) rfl (AddP.at B1.out B2.out (addR_ge S1.out S2.out (by decide) HC.out) rfl (E6.out.int (ho2.mono (by omega)) (trim_form O4.out.sl.wd) (by rw [trim_val, V4.out])) ?_)
        exact (HB.out.setCell (p := ⟨w.heap.size + 1 + 1, 0, none⟩) (by show w.heap.size ≤ w.heap.size + 1 + 1; omega) _).setCell (p := ⟨w.heap.size + 1 + 1, 1, none⟩) (by show w.heap.size ≤ w.heap.size + 1 + 1; omega) _
    · have HC0 : Hid (vl 4294967296 l < vl 4294967296 p) := Nat.lt_of_not_le hc
      have HC : Hid (vl 4294967296 l ≤ vl 4294967296 p) := Nat.le_of_lt HC0.out
      have LE : Hid (tk l ≤ tk p) := by have h1 := form_len_le (trim_form HL.out.wd) (trim_form HP.out.wd) (by rw [trim_val, trim_val]; exact HC.out); rw [O1.out.sl.len, O2.out.sl.len] at h1; exact h1
      clear hc
      refine (rsize_any a1 (tk l) c1 (l.take (tk l)) a2 (tk p) c2 (p.take (tk p)) _ O1.out.sl O2.out.sl (trim_form HL.out.wd) (trim_form HP.out.wd) (by omega) (by omega)).mono ?_
      rintro e V9 ⟨rfl, hb⟩
      rw [trim_val, trim_val]
      obtain ⟨cv, hcv⟩ : ∃ cv, cmpI (vl 4294967296 l) (vl 4294967296 p) = cv := ⟨_, rfl⟩
      have hcp : cv = -1 := by rw [← hcv]; exact cmpI_lt (by have := HC0.out; omega)
      rw [hcv]
      clear hcv
      have X1 : Hid (Box V9 (w.heap.size) (.bool true) (.slice a1 (tk l) c1)) := X1.out.below hb X1.out.lt
      have X2 : Hid (Box V9 (w.heap.size + 1) (.bool false) (.slice a2 (tk p) c2)) := X2.out.below hb X2.out.lt
      have X3 : Hid (Box V9 (w.heap.size + 1 + 1) (.bool false) (.slice none 0 0)) := X3.out.below hb X3.out.lt
      have O1 : Hid (Own V9 (w.heap.size + 1 + 1 + 1) a1 (tk l) c1 (l.take (tk l))) := O1.out.below hb (Nat.le_refl _)
      have O2 : Hid (Own V9 (w.heap.size + 1 + 1 + 1) a2 (tk p) c2 (p.take (tk p))) := O2.out.below hb (Nat.le_refl _)
      have HB : Hid (Below w.heap.size w V9) := HB.out.trans (hb.mono HB.out.size)
      have HS : Hid (w.heap.size + 1 + 1 + 1 ≤ V9.heap.size) := Nat.le_trans HS.out hb.size
      clear hb
      have x1z0 := X1.out.z0
      have x1z1 := X1.out.z1
      have x1f0 := X1.out.f0
      have x1f1 := X1.out.f1
      have x2z0 := X2.out.z0
      have x2z1 := X2.out.z1
      have x2f0 := X2.out.f0
      have x2f1 := X2.out.f1
      go_wp2_with fail
      clear x1z0 x1z1 x1f0 x1f1 x2z0 x2z1 x2f0 x2f1
      have hb : Below V9.heap.size V9 V9.drew := (Below.refl _ _).drew
      have X1 : Hid (Box V9.drew (w.heap.size) (.bool true) (.slice a1 (tk l) c1)) := X1.out.below hb X1.out.lt
      have X2 : Hid (Box V9.drew (w.heap.size + 1) (.bool false) (.slice a2 (tk p) c2)) := X2.out.below hb X2.out.lt
      have X3 : Hid (Box V9.drew (w.heap.size + 1 + 1) (.bool false) (.slice none 0 0)) := X3.out.below hb X3.out.lt
      have O1 : Hid (Own V9.drew (w.heap.size + 1 + 1 + 1) a1 (tk l) c1 (l.take (tk l))) := O1.out.below hb (Nat.le_refl _)
      have O2 : Hid (Own V9.drew (w.heap.size + 1 + 1 + 1) a2 (tk p) c2 (p.take (tk p))) := O2.out.below hb (Nat.le_refl _)
      have HB : Hid (Below w.heap.size w V9.drew) := HB.out.trans (hb.mono HB.out.size)
      have HS : Hid (w.heap.size + 1 + 1 + 1 ≤ V9.drew.heap.size) := Nat.le_trans HS.out hb.size
      clear hb
      have kS : V9.drew.cell? ⟨w.heap.size, 0, none⟩ = some (.bool true) ∧ V9.drew.cell? ⟨w.heap.size, 1, none⟩ = some (.slice a1 (tk l) c1) ∧ V9.drew.cell? ⟨w.heap.size + 1, 0, none⟩ = some (.bool false) ∧ V9.drew.cell? ⟨w.heap.size + 1, 1, none⟩ = some (.slice a2 (tk p) c2) := ⟨X1.out.z0, X1.out.z1, X2.out.z0, X2.out.z1⟩
      go_region_held3 (fun w' => w'.cell? ⟨w.heap.size, 0, none⟩ = some (.bool true) ∧ w'.cell? ⟨w.heap.size, 1, none⟩ = some (.slice a1 (tk l) c1) ∧ w'.cell? ⟨w.heap.size + 1, 0, none⟩ = some (.bool false) ∧ w'.cell? ⟨w.heap.size + 1, 1, none⟩ = some (.slice a2 (tk p) c2))
        (first | exact kS | exact ⟨(set2_other (ne_boxes _)).trans kS.1, (set2_other (ne_boxes _)).trans kS.2.1, (set2_other (ne_boxes2 _)).trans kS.2.2.1, (set2_other (ne_boxes2 _)).trans kS.2.2.2⟩)
        (first | (go_at_call 51; refine (rminus_any a2 (tk p) c2 (p.take (tk p)) a1 (tk l) c1 (l.take (tk l)) _ (by exact O2.out.sl) (by exact O1.out.sl) (by omega) (LE.out) (by rw [trim_val, trim_val]; exact HC.out)).mono ?_; rintro e w4 ⟨a4, c4, r4, rfl, ho, hn4, hv, hb⟩; rw [trim_val, trim_val] at hv; have V4 : Hid (vl 4294967296 r4 = (vl 4294967296 p - vl 4294967296 l)) := Nat.eq_sub_of_add_eq hv; have N4 : Hid (a4 = none → c4 = 0) := hn4; have O4 : Hid (Own w4 (w.heap.size + 1 + 1 + 1) a4 (tk p) c4 r4) := ho.mono HS.out; have K4 := tk_le ho.sl; clear ho hn4 hv; have X1 : Hid (Box w4 (w.heap.size) (.bool true) (.slice a1 (tk l) c1)) := X1.out.below hb X1.out.lt; have X2 : Hid (Box w4 (w.heap.size + 1) (.bool false) (.slice a2 (tk p) c2)) := X2.out.below hb X2.out.lt; have X3 : Hid (Box w4 (w.heap.size + 1 + 1) (.bool false) (.slice none 0 0)) := X3.out.below hb X3.out.lt; have O1 : Hid (Own w4 (w.heap.size + 1 + 1 + 1) a1 (tk l) c1 (l.take (tk l))) := O1.out.below hb (Nat.le_refl _); have O2 : Hid (Own w4 (w.heap.size + 1 + 1 + 1) a2 (tk p) c2 (p.take (tk p))) := O2.out.below hb (Nat.le_refl _); have HB : Hid (Below w.heap.size w w4) := HB.out.trans (hb.mono HB.out.size); have HS : Hid (w.heap.size + 1 + 1 + 1 ≤ w4.heap.size) := Nat.le_trans HS.out hb.size; clear hb; clear kS; have kS : w4.cell? ⟨w.heap.size, 0, none⟩ = some (.bool true) ∧ w4.cell? ⟨w.heap.size, 1, none⟩ = some (.slice a1 (tk l) c1) ∧ w4.cell? ⟨w.heap.size + 1, 0, none⟩ = some (.bool false) ∧ w4.cell? ⟨w.heap.size + 1, 1, none⟩ = some (.slice a2 (tk p) c2) := ⟨X1.out.z0, X1.out.z1, X2.out.z0, X2.out.z1⟩) | (go_at_call 47; refine (rform_any false a4 (tk p) c4 r4 w4 O4.out.sl N4.out (by omega)).mono ?_; rintro e w5 ⟨a5, c5, rfl, ho, hn5, hb⟩; rw [V4.out]; have N5 : Hid (a5 = none → c5 = 0) := hn5; have O5 : Hid (Own w5 (w.heap.size + 1 + 1 + 1) a5 (tk r4) c5 (r4.take (tk r4))) := ho.mono (by have := HS.out; omega); clear ho hn5; have X1 : Hid (Box w5 (w.heap.size) (.bool true) (.slice a1 (tk l) c1)) := X1.out.below hb X1.out.lt; have X2 : Hid (Box w5 (w.heap.size + 1) (.bool false) (.slice a2 (tk p) c2)) := X2.out.below hb X2.out.lt; have X3 : Hid (Box w5 (w.heap.size + 1 + 1) (.bool false) (.slice none 0 0)) := X3.out.below hb X3.out.lt; have O1 : Hid (Own w5 (w.heap.size + 1 + 1 + 1) a1 (tk l) c1 (l.take (tk l))) := O1.out.below hb (Nat.le_refl _); have O2 : Hid (Own w5 (w.heap.size + 1 + 1 + 1) a2 (tk p) c2 (p.take (tk p))) := O2.out.below hb (Nat.le_refl _); have O4 : Hid (Own w5 (w.heap.size + 1 + 1 + 1) a4 (tk p) c4 r4) := O4.out.below hb (Nat.le_refl _); have HB : Hid (Below w.heap.size w w5) := HB.out.trans (hb.mono HB.out.size); have HS : Hid (w.heap.size + 1 + 1 + 1 ≤ w5.heap.size) := Nat.le_trans HS.out hb.size; clear hb; clear kS; have kS : w5.cell? ⟨w.heap.size, 0, none⟩ = some (.bool true) ∧ w5.cell? ⟨w.heap.size, 1, none⟩ = some (.slice a1 (tk l) c1) ∧ w5.cell? ⟨w.heap.size + 1, 0, none⟩ = some (.bool false) ∧ w5.cell? ⟨w.heap.size + 1, 1, none⟩ = some (.slice a2 (tk p) c2) := ⟨X1.out.z0, X1.out.z1, X2.out.z0, X2.out.z1⟩) | (go_at_call 48; refine (rend_get _ a5 (tk r4) c5 (r4.take (tk r4)) (vl 4294967296 p - vl 4294967296 l) w5 O5.out.sl N5.out (by omega) (by rw [trim_val, V4.out])).mono ?_; rintro e w6 ⟨s6, a6, k6, c6, rfl, he6, hb⟩; have E6 : Hid (EndR _ _ _ _ _ s6 a6 k6 c6) := he6; clear he6; have X1 : Hid (Box w6 (w.heap.size) (.bool true) (.slice a1 (tk l) c1)) := X1.out.below hb X1.out.lt; have X2 : Hid (Box w6 (w.heap.size + 1) (.bool false) (.slice a2 (tk p) c2)) := X2.out.below hb X2.out.lt; have X3 : Hid (Box w6 (w.heap.size + 1 + 1) (.bool false) (.slice none 0 0)) := X3.out.below hb X3.out.lt; have O1 : Hid (Own w6 (w.heap.size + 1 + 1 + 1) a1 (tk l) c1 (l.take (tk l))) := O1.out.below hb (Nat.le_refl _); have O2 : Hid (Own w6 (w.heap.size + 1 + 1 + 1) a2 (tk p) c2 (p.take (tk p))) := O2.out.below hb (Nat.le_refl _); have O4 : Hid (Own w6 (w.heap.size + 1 + 1 + 1) a4 (tk p) c4 r4) := O4.out.below hb (Nat.le_refl _); have O5 : Hid (Own w6 (w.heap.size + 1 + 1 + 1) a5 (tk r4) c5 (r4.take (tk r4))) := O5.out.below hb (Nat.le_refl _); have HB : Hid (Below w.heap.size w w6) := HB.out.trans (hb.mono HB.out.size); have HS : Hid (w.heap.size + 1 + 1 + 1 ≤ w6.heap.size) := Nat.le_trans HS.out hb.size; clear hb; clear kS; have kS : w6.cell? ⟨w.heap.size, 0, none⟩ = some (.bool true) ∧ w6.cell? ⟨w.heap.size, 1, none⟩ = some (.slice a1 (tk l) c1) ∧ w6.cell? ⟨w.heap.size + 1, 0, none⟩ = some (.bool false) ∧ w6.cell? ⟨w.heap.size + 1, 1, none⟩ = some (.slice a2 (tk p) c2) := ⟨X1.out.z0, X1.out.z1, X2.out.z0, X2.out.z1⟩; have z0 := X3.out.z0; have z1 := X3.out.z1; have f0 := X3.out.f0; have f1 := X3.out.f1))
      all_goals
        go_wp2_with fail
        have ho2 := (O5.out.setCell (a := ⟨w.heap.size + 1 + 1, 0, none⟩) (by show w.heap.size + 1 + 1 < w.heap.size + 1 + 1 + 1; omega) (.bool s6)).setCell (a := ⟨w.heap.size + 1 + 1, 1, none⟩) (by show w.heap.size + 1 + 1 < w.heap.size + 1 + 1 + 1; omega) (.slice a6 k6 c6)
        refine bodyPost_ret (v := .tuple #[.agg #[.bool s6, .slice a6 k6 c6], .int .i64 (eBig (vl 4294967296 p - vl 4294967296 l))]) (by simp [results, Tryd.results28, go_sem, z0, z1]) rfl (AddP.at B1.out B2.out (addR_lt S1.out S2.out (by decide) HC0.out) rfl (E6.out.int (ho2.mono (by omega)) (trim_form O4.out.sl.wd) (by rw [trim_val, V4.out])) ?_)
        exact (HB.out.setCell (p := ⟨w.heap.size + 1 + 1, 0, none⟩) (by show w.heap.size ≤ w.heap.size + 1 + 1; omega) _).setCell (p := ⟨w.heap.size + 1 + 1, 1, none⟩) (by show w.heap.size ≤ w.heap.size + 1 + 1; omega) _
  · have x2z0 := X2.out.z0
    have x2z1 := X2.out.z1
    have x2f0 := X2.out.f0
    have x2f1 := X2.out.f1
    have y10 : ((V5.setCell ⟨w.heap.size + 1, 0, none⟩ (.bool true)).setCell ⟨w.heap.size + 1, 1, none⟩ (.slice a2 (tk p) c2)).cell? ⟨w.heap.size, 0, none⟩ = some (.bool true) := (set2_other (by omega)).trans X1.out.z0
    have y11 : ((V5.setCell ⟨w.heap.size + 1, 0, none⟩ (.bool true)).setCell ⟨w.heap.size + 1, 1, none⟩ (.slice a2 (tk p) c2)).cell? ⟨w.heap.size, 1, none⟩ = some (.slice a1 (tk l) c1) := (set2_other (by omega)).trans X1.out.z1
    have y30 : ((V5.setCell ⟨w.heap.size + 1, 0, none⟩ (.bool true)).setCell ⟨w.heap.size + 1, 1, none⟩ (.slice a2 (tk p) c2)).cell? ⟨w.heap.size + 1 + 1, 0, none⟩ = some (.bool false) := (set2_other (by omega)).trans X3.out.z0
    have y31 : ((V5.setCell ⟨w.heap.size + 1, 0, none⟩ (.bool true)).setCell ⟨w.heap.size + 1, 1, none⟩ (.slice a2 (tk p) c2)).cell? ⟨w.heap.size + 1 + 1, 1, none⟩ = some (.slice none 0 0) := (set2_other (by omega)).trans X3.out.z1
    go_wp2_with fail
    generalize hV : ((V5.setCell ⟨w.heap.size + 1, 0, none⟩ (.bool true)).setCell ⟨w.heap.size + 1, 1, none⟩ (.slice a2 (tk p) c2)) = V6 at *
    clear x2z0 x2z1 x2f0 x2f1 y10 y11 y30 y31
    obtain ⟨xt, d3, d4, d5, d6⟩ := set_own hV X2.out
    clear hV
    have X1 : Hid (Box V6 (w.heap.size) (.bool true) (.slice a1 (tk l) c1)) := d3 _ _ _ (by omega) X1.out
    have X3 : Hid (Box V6 (w.heap.size + 1 + 1) (.bool false) (.slice none 0 0)) := d3 _ _ _ (by omega) X3.out
    have X2 : Hid (Box V6 (w.heap.size + 1) (.bool true) (.slice a2 (tk p) c2)) := xt
    have O1 : Hid (Own V6 (w.heap.size + 1 + 1 + 1) a1 (tk l) c1 (l.take (tk l))) := d5 _ _ _ _ _ O1.out (by omega)
    have O2 : Hid (Own V6 (w.heap.size + 1 + 1 + 1) a2 (tk p) c2 (p.take (tk p))) := d5 _ _ _ _ _ O2.out (by omega)
    have HB : Hid (Below w.heap.size w V6) := d4 _ _ HB.out (by omega)
    have HS : Hid (w.heap.size + 1 + 1 + 1 ≤ V6.heap.size) := by have := HS.out; show _ ≤ _; omega
    clear xt d3 d4 d5 d6
    have hb : Below V6.heap.size V6 V6.drew := (Below.refl _ _).drew
    have X1 : Hid (Box V6.drew (w.heap.size) (.bool true) (.slice a1 (tk l) c1)) := X1.out.below hb X1.out.lt
    have X2 : Hid (Box V6.drew (w.heap.size + 1) (.bool true) (.slice a2 (tk p) c2)) := X2.out.below hb X2.out.lt
    have X3 : Hid (Box V6.drew (w.heap.size + 1 + 1) (.bool false) (.slice none 0 0)) := X3.out.below hb X3.out.lt
    have O1 : Hid (Own V6.drew (w.heap.size + 1 + 1 + 1) a1 (tk l) c1 (l.take (tk l))) := O1.out.below hb (Nat.le_refl _)
    have O2 : Hid (Own V6.drew (w.heap.size + 1 + 1 + 1) a2 (tk p) c2 (p.take (tk p))) := O2.out.below hb (Nat.le_refl _)
    have HB : Hid (Below w.heap.size w V6.drew) := HB.out.trans (hb.mono HB.out.size)
    have HS : Hid (w.heap.size + 1 + 1 + 1 ≤ V6.drew.heap.size) := Nat.le_trans HS.out hb.size
    clear hb
    have kS : V6.drew.cell? ⟨w.heap.size, 0, none⟩ = some (.bool true) ∧ V6.drew.cell? ⟨w.heap.size, 1, none⟩ = some (.slice a1 (tk l) c1) ∧ V6.drew.cell? ⟨w.heap.size + 1, 0, none⟩ = some (.bool true) ∧ V6.drew.cell? ⟨w.heap.size + 1, 1, none⟩ = some (.slice a2 (tk p) c2) := ⟨X1.out.z0, X1.out.z1, X2.out.z0, X2.out.z1⟩
    go_region_held3 (fun w' => w'.cell? ⟨w.heap.size, 0, none⟩ = some (.bool true) ∧ w'.cell? ⟨w.heap.size, 1, none⟩ = some (.slice a1 (tk l) c1) ∧ w'.cell? ⟨w.heap.size + 1, 0, none⟩ = some (.bool true) ∧ w'.cell? ⟨w.heap.size + 1, 1, none⟩ = some (.slice a2 (tk p) c2))
      (first | exact kS | exact ⟨(set2_other (ne_boxes _)).trans kS.1, (set2_other (ne_boxes _)).trans kS.2.1, (set2_other (ne_boxes2 _)).trans kS.2.2.1, (set2_other (ne_boxes2 _)).trans kS.2.2.2⟩)
      (first | (go_at_call 49; refine (rplus_any a1 (tk l) c1 (l.take (tk l)) a2 (tk p) c2 (p.take (tk p)) _ (by exact O1.out.sl) (by exact O2.out.sl) (by omega) (by omega)).mono ?_; rintro e w4 ⟨a4, k4, c4, r4, rfl, ho, hn4, hk4, hv, hb⟩; rw [trim_val, trim_val] at hv; have V4 : Hid (vl 4294967296 r4 = (vl 4294967296 l + vl 4294967296 p)) := hv; have N4 : Hid (a4 = none → c4 = 0) := hn4; have O4 : Hid (Own w4 (w.heap.size + 1 + 1 + 1) a4 k4 c4 r4) := ho.mono HS.out; have K4 := tk_le ho.sl; clear ho hn4 hv; have X1 : Hid (Box w4 (w.heap.size) (.bool true) (.slice a1 (tk l) c1)) := X1.out.below hb X1.out.lt; have X2 : Hid (Box w4 (w.heap.size + 1) (.bool true) (.slice a2 (tk p) c2)) := X2.out.below hb X2.out.lt; have X3 : Hid (Box w4 (w.heap.size + 1 + 1) (.bool false) (.slice none 0 0)) := X3.out.below hb X3.out.lt; have O1 : Hid (Own w4 (w.heap.size + 1 + 1 + 1) a1 (tk l) c1 (l.take (tk l))) := O1.out.below hb (Nat.le_refl _); have O2 : Hid (Own w4 (w.heap.size + 1 + 1 + 1) a2 (tk p) c2 (p.take (tk p))) := O2.out.below hb (Nat.le_refl _); have HB : Hid (Below w.heap.size w w4) := HB.out.trans (hb.mono HB.out.size); have HS : Hid (w.heap.size + 1 + 1 + 1 ≤ w4.heap.size) := Nat.le_trans HS.out hb.size; clear hb; clear kS; have kS : w4.cell? ⟨w.heap.size, 0, none⟩ = some (.bool true) ∧ w4.cell? ⟨w.heap.size, 1, none⟩ = some (.slice a1 (tk l) c1) ∧ w4.cell? ⟨w.heap.size + 1, 0, none⟩ = some (.bool true) ∧ w4.cell? ⟨w.heap.size + 1, 1, none⟩ = some (.slice a2 (tk p) c2) := ⟨X1.out.z0, X1.out.z1, X2.out.z0, X2.out.z1⟩) | (go_at_call 47; refine (rform_any true a4 k4 c4 r4 w4 O4.out.sl N4.out (by omega)).mono ?_; rintro e w5 ⟨a5, c5, rfl, ho, hn5, hb⟩; rw [V4.out]; have N5 : Hid (a5 = none → c5 = 0) := hn5; have O5 : Hid (Own w5 (w.heap.size + 1 + 1 + 1) a5 (tk r4) c5 (r4.take (tk r4))) := ho.mono (by have := HS.out; omega); clear ho hn5; have X1 : Hid (Box w5 (w.heap.size) (.bool true) (.slice a1 (tk l) c1)) := X1.out.below hb X1.out.lt; have X2 : Hid (Box w5 (w.heap.size + 1) (.bool true) (.slice a2 (tk p) c2)) := X2.out.below hb X2.out.lt; have X3 : Hid (Box w5 (w.heap.size + 1 + 1) (.bool false) (.slice none 0 0)) := X3.out.below hb X3.out.lt; have O1 : Hid (Own w5 (w.heap.size + 1 + 1 + 1) a1 (tk l) c1 (l.take (tk l))) := O1.out.below hb (Nat.le_refl _); have O2 : Hid (Own w5 (w.heap.size + 1 + 1 + 1) a2 (tk p) c2 (p.take (tk p))) := O2.out.below hb (Nat.le_refl _); have O4 : Hid (Own w5 (w.heap.size + 1 + 1 + 1) a4 k4 c4 r4) := O4.out.below hb (Nat.le_refl _); have HB : Hid (Below w.heap.size w w5) := HB.out.trans (hb.mono HB.out.size); have HS : Hid (w.heap.size + 1 + 1 + 1 ≤ w5.heap.size) := Nat.le_trans HS.out hb.size; clear hb; clear kS; have kS : w5.cell? ⟨w.heap.size, 0, none⟩ = some (.bool true) ∧ w5.cell? ⟨w.heap.size, 1, none⟩ = some (.slice a1 (tk l) c1) ∧ w5.cell? ⟨w.heap.size + 1, 0, none⟩ = some (.bool true) ∧ w5.cell? ⟨w.heap.size + 1, 1, none⟩ = some (.slice a2 (tk p) c2) := ⟨X1.out.z0, X1.out.z1, X2.out.z0, X2.out.z1⟩) | (go_at_call 48; refine (rend_get _ a5 (tk r4) c5 (r4.take (tk r4)) (vl 4294967296 l + vl 4294967296 p) w5 O5.out.sl N5.out (by omega) (by rw [trim_val, V4.out])).mono ?_; rintro e w6 ⟨s6, a6, k6, c6, rfl, he6, hb⟩; have E6 : Hid (EndR _ _ _ _ _ s6 a6 k6 c6) := he6; clear he6; have X1 : Hid (Box w6 (w.heap.size) (.bool true) (.slice a1 (tk l) c1)) := X1.out.below hb X1.out.lt; have X2 : Hid (Box w6 (w.heap.size + 1) (.bool true) (.slice a2 (tk p) c2)) := X2.out.below hb X2.out.lt; have X3 : Hid (Box w6 (w.heap.size + 1 + 1) (.bool false) (.slice none 0 0)) := X3.out.below hb X3.out.lt; have O1 : Hid (Own w6 (w.heap.size + 1 + 1 + 1) a1 (tk l) c1 (l.take (tk l))) := O1.out.below hb (Nat.le_refl _); have O2 : Hid (Own w6 (w.heap.size + 1 + 1 + 1) a2 (tk p) c2 (p.take (tk p))) := O2.out.below hb (Nat.le_refl _); have O4 : Hid (Own w6 (w.heap.size + 1 + 1 + 1) a4 k4 c4 r4) := O4.out.below hb (Nat.le_refl _); have O5 : Hid (Own w6 (w.heap.size + 1 + 1 + 1) a5 (tk r4) c5 (r4.take (tk r4))) := O5.out.below hb (Nat.le_refl _); have HB : Hid (Below w.heap.size w w6) := HB.out.trans (hb.mono HB.out.size); have HS : Hid (w.heap.size + 1 + 1 + 1 ≤ w6.heap.size) := Nat.le_trans HS.out hb.size; clear hb; clear kS; have kS : w6.cell? ⟨w.heap.size, 0, none⟩ = some (.bool true) ∧ w6.cell? ⟨w.heap.size, 1, none⟩ = some (.slice a1 (tk l) c1) ∧ w6.cell? ⟨w.heap.size + 1, 0, none⟩ = some (.bool true) ∧ w6.cell? ⟨w.heap.size + 1, 1, none⟩ = some (.slice a2 (tk p) c2) := ⟨X1.out.z0, X1.out.z1, X2.out.z0, X2.out.z1⟩; have z0 := X3.out.z0; have z1 := X3.out.z1; have f0 := X3.out.f0; have f1 := X3.out.f1))
    all_goals
      go_wp2_with fail
      have ho2 := (O5.out.setCell (a := ⟨w.heap.size + 1 + 1, 0, none⟩) (by show w.heap.size + 1 + 1 < w.heap.size + 1 + 1 + 1; omega) (.bool s6)).setCell (a := ⟨w.heap.size + 1 + 1, 1, none⟩) (by show w.heap.size + 1 + 1 < w.heap.size + 1 + 1 + 1; omega) (.slice a6 k6 c6)
      refine bodyPost_ret (v := .tuple #[.agg #[.bool s6, .slice a6 k6 c6], .int .i64 (eBig (vl 4294967296 l + vl 4294967296 p))]) (by simp [results, Tryd.results28, go_sem, z0, z1]) rfl (AddP.at B1.out B2.out (addR_same S1.out S2.out) rfl (E6.out.int (ho2.mono (by omega)) (trim_form O4.out.sl.wd) (by rw [trim_val, V4.out])) ?_)
      exact (HB.out.setCell (p := ⟨w.heap.size + 1 + 1, 0, none⟩) (by show w.heap.size ≤ w.heap.size + 1 + 1; omega) _).setCell (p := ⟨w.heap.size + 1 + 1, 1, none⟩) (by show w.heap.size ≤ w.heap.size + 1 + 1; omega) _
theorem radd_any (s t : Bool) (ao : Option Addr) (n cap : Nat) (l : List Nat) (ap : Option Addr) (m capb : Nat) (p : List Nat) (w : World) (hl : Sl w ao n cap l) (hp : Sl w ap m capb p) (hz1 : ao = none → cap = 0) (hz2 : ap = none → capb = 0) (hn : n ≤ 1000) (hm : m ≤ 1000) :
    Calls Tryd.prog 28 #[.agg #[.bool s, .slice ao n cap], .agg #[.bool t, .slice ap m capb]] w fun e w' => AddP w w' e s (vl 4294967296 l) t (vl 4294967296 p) := by
  cases h1 : bigN (vl 4294967296 l)
  · cases h2 : bigN (vl 4294967296 p)
    · exact radd_at s t ao n cap l ap m capb p w hl hp hz1 hz2 hn hm h1 h2 _ _ rfl rfl
    · refine (radd_big2 s t ao n cap l ap m capb p w hl hp hz1 hz2 hn hm h1 h2).mono fun e w' ⟨he, hb⟩ => ⟨⟨.agg #[.bool false, .slice none 0 0], ?_, ?_⟩, hb⟩
      · rw [he]; simp [addE, h2]
      · rw [addS, show addV s (vl 4294967296 l) t (vl 4294967296 p) = 0 from by simp [addV, h2], sgB_zero]; exact IntR.zero _ _
  · refine (radd_big1 s t ao n cap l ap m capb p w hl hp hz1 hz2 hn h1).mono fun e w' ⟨he, hb⟩ => ⟨⟨.agg #[.bool false, .slice none 0 0], ?_, ?_⟩, hb⟩
    · rw [he]; simp [addE, h1]
    · rw [addS, show addV s (vl 4294967296 l) t (vl 4294967296 p) = 0 from by simp [addV, h1], sgB_zero]; exact IntR.zero _ _
set_option maxRecDepth 100000 in
set_option maxHeartbeats 2000000 in
theorem rsub_any (s t : Bool) (ao : Option Addr) (n cap : Nat) (l : List Nat) (ap : Option Addr) (m capb : Nat) (p : List Nat) (w : World) (hl : Sl w ao n cap l) (hp : Sl w ap m capb p) (hz1 : ao = none → cap = 0) (hz2 : ap = none → capb = 0) (hn : n ≤ 1000) (hm : m ≤ 1000) :
    Calls Tryd.prog 29 #[.agg #[.bool s, .slice ao n cap], .agg #[.bool t, .slice ap m capb]] w fun e w' => AddP w w' e s (vl 4294967296 l) (!t) (vl 4294967296 p) := by
  have HL : Hid (Sl w ao n cap l) := hl
  have HP : Hid (Sl w ap m capb p) := hp
  clear hl hp
  go_enter Tryd.func29, Tryd.ntmps29
  go_wp2_with fail
  have hbA : Below w.heap.size w (((w.alloc (Obj.cells #[Value.bool s, Value.slice ao n cap] 24)).alloc (Obj.cells #[Value.bool t, Value.slice ap m capb] 24)).alloc (Obj.cells #[Value.bool false, Value.slice none 0 0] 24)) := (((Below.refl _ _).alloc (Nat.le_refl _) _).alloc (by simp) _).alloc (by simp; omega) _
  obtain ⟨_, _, x3, _, hzW⟩ := boxes3 w (.bool s) (.slice ao n cap) (.bool t) (.slice ap m capb) (.bool false) (.slice none 0 0) 24 24 24 0 rfl
  have X3 : Hid (Box (((w.alloc (Obj.cells #[Value.bool s, Value.slice ao n cap] 24)).alloc (Obj.cells #[Value.bool t, Value.slice ap m capb] 24)).alloc (Obj.cells #[Value.bool false, Value.slice none 0 0] 24)) (w.heap.size + 1 + 1) (.bool false) (.slice none 0 0)) := x3
  refine (radd_any s (!t) ao n cap l ap m capb p _ (HL.out.below hbA (Nat.le_refl _)) (HP.out.below hbA (Nat.le_refl _)) hz1 hz2 hn hm).mono ?_
  rintro e w1 ⟨⟨v, rfl, hi⟩, hb⟩
  generalize hE : addE s (vl 4294967296 l) (!t) (vl 4294967296 p) = E at *
  have HE : Hid (addE s (vl 4294967296 l) (!t) (vl 4294967296 p) = E) := hE
  have x31 := X3.out.below hb X3.out.lt
  have z0 := x31.z0
  have z1 := x31.z1
  have f0 := x31.f0
  have f1 := x31.f1
  have HI : Hid (IntR w1 (w.heap.size + 1 + 1 + 1) v _ _) := hi.mono (by simp)
  obtain ⟨ao', k', cap', r', rfl, h1, h2, h3, h4⟩ := hi.ex
  have HB : Hid (Below w.heap.size w w1) := hbA.trans (hb.mono hbA.size)
  generalize hS : addS s (vl 4294967296 l) (!t) (vl 4294967296 p) = S at *
  have HS : Hid (addS s (vl 4294967296 l) (!t) (vl 4294967296 p) = S) := hS
  clear h1 h2 h3 h4 hb hi x31 x3 hzW hbA X3 hE hS
  go_wp2_with fail
  refine bodyPost_ret (v := .tuple #[.agg #[.bool S, .slice ao' k' cap'], .int .i64 E]) (by simp [results, Tryd.results29, go_sem, z0, z1]) rfl ⟨⟨.agg #[.bool S, .slice ao' k' cap'], ?_, ?_⟩, ?_⟩
  · rw [HE.out]
  · rw [HS.out]
    exact ((HI.out.setCell (a := ⟨w.heap.size + 1 + 1, 0, none⟩) (by show w.heap.size + 1 + 1 < w.heap.size + 1 + 1 + 1; omega) _).setCell (a := ⟨w.heap.size + 1 + 1, 1, none⟩) (by show w.heap.size + 1 + 1 < w.heap.size + 1 + 1 + 1; omega) _).mono (by omega)
  · exact (HB.out.setCell (p := ⟨w.heap.size + 1 + 1, 0, none⟩) (by show w.heap.size ≤ w.heap.size + 1 + 1; omega) _).setCell (p := ⟨w.heap.size + 1 + 1, 1, none⟩) (by show w.heap.size ≤ w.heap.size + 1 + 1; omega) _
end Go.Proofs.YtfkkhabpnnealaaDoor

