/-
  The contracts of the document's own Compare, Neg, Add, Sub at every argument.
-/
import Derived.Test.YtfkkhabpnnealaaGreatDoorRefE
namespace Go.Proofs.YtfkkhabpnnealaaGreatDoor
open Go.RowKit
attribute [local go_sem ↓] Go.wp_at_zero Go.wp_at_succ
theorem set_own {V W : World} {bt : Nat} {u v x y : Value} (hW : (V.setCell ⟨bt, 0, none⟩ u).setCell ⟨bt, 1, none⟩ v = W) (ht : Box V bt x y) :
    Box W bt u v ∧ (∀ b c d, b ≠ bt → Box V b c d → Box W b c d) ∧ (∀ B W0, Below B W0 V → B ≤ bt → Below B W0 W) ∧ (∀ base ao n cap l, Own V base ao n cap l → bt < base → Own W base ao n cap l) ∧ W.heap.size = V.heap.size := by
  subst hW
  refine ⟨set2_new ht, fun b c d hne hb => ?_, fun B W0 hb hB => ?_, fun base ao n cap l hi hlt2 => ?_, by simp⟩
  · exact ⟨by simpa using hb.lt, (set2_other (Ne.symm hne)).trans hb.z0, (set2_other (Ne.symm hne)).trans hb.z1, by simpa using hb.f0, by simpa using hb.f1⟩
  · exact (hb.setCell (p := ⟨bt, 0, none⟩) hB u).setCell (p := ⟨bt, 1, none⟩) hB v
  · exact (hi.setCell (a := ⟨bt, 0, none⟩) hlt2 u).setCell (a := ⟨bt, 1, none⟩) hlt2 v
theorem sgB_false {s : Bool} {N : Nat} (h : sgB s N = false) : s = false ∨ N = 0 := by
  unfold sgB at h
  cases s <;> simp at h
  · exact .inl rfl
  · exact .inr h
theorem sgB_true {s : Bool} {N : Nat} (h : sgB s N = true) : s = true ∧ N ≠ 0 := by
  unfold sgB at h
  cases s <;> simp at h
  exact ⟨rfl, h⟩
theorem cmp_signs {s t b1 b2 : Bool} {N M : Nat} (h1 : sgB s N = b1) (h2 : sgB t M = b2) (hne : b1 ≠ b2 := by decide) : (if b1 then -1 else 1) = cmpV s N t M := by
  unfold cmpV sgI
  rw [h1, h2]
  cases b1 <;> cases b2 <;> simp [cmpI] at hne ⊢
theorem cmp_pos {s t : Bool} {N M : Nat} (h1 : sgB s N = false) (h2 : sgB t M = false) : cmpI N M = cmpV s N t M := by
  unfold cmpV sgI
  rw [h1, h2]
  simp
theorem cmp_neg {s t : Bool} {N M : Nat} (h1 : sgB s N = true) (h2 : sgB t M = true) : cmpI M N = cmpV s N t M := by
  unfold cmpV sgI
  rw [h1, h2]
  unfold cmpI
  simp
  (repeat' split) <;> omega
set_option maxRecDepth 100000 in
set_option maxHeartbeats 4000000 in
theorem rcompare_at (s t : Bool) (ao : Option Addr) (n cap : Nat) (l : List Nat) (ap : Option Addr) (m capb : Nat) (p : List Nat) (w : World) (hl : Sl w ao n cap l) (hp : Sl w ap m capb p) (hz1 : ao = none → cap = 0) (hz2 : ap = none → capb = 0) (hn : n ≤ 1000) (hm : m ≤ 1000) (s1 s2 : Bool) (e1 : sgB s (vl 4294967296 l) = s1) (e2 : sgB t (vl 4294967296 p) = s2) :
    Calls Tryz.prog 29 #[.agg #[.bool s, .slice ao n cap], .agg #[.bool t, .slice ap m capb]] w fun e w' => e = .returned (.int .i64 (cmpV s (vl 4294967296 l) t (vl 4294967296 p))) ∧ Below w.heap.size w w' := by
  have HL : Hid (Sl w ao n cap l) := hl
  have HP : Hid (Sl w ap m capb p) := hp
  have HZ1 : Hid (ao = none → cap = 0) := hz1
  have HZ2 : Hid (ap = none → capb = 0) := hz2
  have K1 := tk_le hl
  have K2 := tk_le hp
  clear hl hp hz1 hz2
  have S1 : Hid (sgB s (vl 4294967296 l) = s1) := e1
  have S2 : Hid (sgB t (vl 4294967296 p) = s2) := e2
  clear e1 e2
  go_enter Tryz.func29, Tryz.ntmps29
  go_wp2_with fail
  generalize hW : (World.alloc _ _) = W
  obtain ⟨x1, x2, hbW, hzW⟩ := boxes2 w (.bool s) (.slice ao n cap) (.bool t) (.slice ap m capb) 24 24 0 hW
  clear hW
  have X1 : Hid (Box W (w.heap.size) (.bool s) (.slice ao n cap)) := x1
  have X2 : Hid (Box W (w.heap.size + 1) (.bool t) (.slice ap m capb)) := x2
  have HB : Hid (Below w.heap.size w W) := hbW
  have HS : Hid (w.heap.size + 1 + 1 ≤ W.heap.size) := Nat.le_of_eq hzW.symm
  clear hbW hzW x1 x2
  refine (rform_any s ao n cap l _ (HL.out.below HB.out (Nat.le_refl _)) HZ1.out (by omega)).mono ?_
  rintro e V1 ⟨a1, c1, rfl, ho, hnc, hb⟩
  rw [S1.out]
  have O1 : Hid (Own V1 (w.heap.size + 1 + 1) a1 (tk l) c1 (l.take (tk l))) := ho.mono (by have := HS.out; omega)
  have N1 : Hid (a1 = none → c1 = 0) := hnc
  clear ho hnc
  have X1 : Hid (Box V1 (w.heap.size) (.bool s) (.slice ao n cap)) := X1.out.below hb X1.out.lt
  have X2 : Hid (Box V1 (w.heap.size + 1) (.bool t) (.slice ap m capb)) := X2.out.below hb X2.out.lt
  have HB : Hid (Below w.heap.size w V1) := HB.out.trans (hb.mono HB.out.size)
  have HS : Hid (w.heap.size + 1 + 1 ≤ V1.heap.size) := Nat.le_trans HS.out hb.size
  clear hb
  have x1z0 := X1.out.z0
  have x1z1 := X1.out.z1
  have x1f0 := X1.out.f0
  have x1f1 := X1.out.f1
  have y20 : ((V1.setCell ⟨w.heap.size, 0, none⟩ (.bool s1)).setCell ⟨w.heap.size, 1, none⟩ (.slice a1 (tk l) c1)).cell? ⟨w.heap.size + 1, 0, none⟩ = some (.bool t) := (set2_other (by omega)).trans X2.out.z0
  have y21 : ((V1.setCell ⟨w.heap.size, 0, none⟩ (.bool s1)).setCell ⟨w.heap.size, 1, none⟩ (.slice a1 (tk l) c1)).cell? ⟨w.heap.size + 1, 1, none⟩ = some (.slice ap m capb) := (set2_other (by omega)).trans X2.out.z1
  go_wp2_with fail
  generalize hV : ((V1.setCell ⟨w.heap.size, 0, none⟩ (.bool s1)).setCell ⟨w.heap.size, 1, none⟩ (.slice a1 (tk l) c1)) = V2 at *
  clear x1z0 x1z1 x1f0 x1f1 y20 y21
  obtain ⟨xt, d3, d4, d5, d6⟩ := set_own hV X1.out
  clear hV
  have X2 : Hid (Box V2 (w.heap.size + 1) (.bool t) (.slice ap m capb)) := d3 _ _ _ (by omega) X2.out
  have X1 : Hid (Box V2 (w.heap.size) (.bool s1) (.slice a1 (tk l) c1)) := xt
  have O1 : Hid (Own V2 (w.heap.size + 1 + 1) a1 (tk l) c1 (l.take (tk l))) := d5 _ _ _ _ _ O1.out (by omega)
  have HB : Hid (Below w.heap.size w V2) := d4 _ _ HB.out (by omega)
  have HS : Hid (w.heap.size + 1 + 1 ≤ V2.heap.size) := by have := HS.out; show _ ≤ _; omega
  clear xt d3 d4 d5 d6
  have x2z0 := X2.out.z0
  have x2z1 := X2.out.z1
  have x2f0 := X2.out.f0
  have x2f1 := X2.out.f1
  go_wp2_with fail
  refine (rform_any t ap m capb p _ (HP.out.below HB.out (Nat.le_refl _)) HZ2.out (by omega)).mono ?_
  rintro e V3 ⟨a2, c2, rfl, ho, hnc, hb⟩
  rw [S2.out]
  have O2 : Hid (Own V3 (w.heap.size + 1 + 1) a2 (tk p) c2 (p.take (tk p))) := ho.mono (by have := HS.out; omega)
  have N2 : Hid (a2 = none → c2 = 0) := hnc
  clear ho hnc
  clear x2z0 x2z1 x2f0 x2f1
  have X1 : Hid (Box V3 (w.heap.size) (.bool s1) (.slice a1 (tk l) c1)) := X1.out.below hb X1.out.lt
  have X2 : Hid (Box V3 (w.heap.size + 1) (.bool t) (.slice ap m capb)) := X2.out.below hb X2.out.lt
  have O1 : Hid (Own V3 (w.heap.size + 1 + 1) a1 (tk l) c1 (l.take (tk l))) := O1.out.below hb (Nat.le_refl _)
  have HB : Hid (Below w.heap.size w V3) := HB.out.trans (hb.mono HB.out.size)
  have HS : Hid (w.heap.size + 1 + 1 ≤ V3.heap.size) := Nat.le_trans HS.out hb.size
  clear hb
  rcases s1 with _ | _ <;> rcases s2 with _ | _
  · have x1 := X1.out
    clear x1
    have x2z0 := X2.out.z0
    have x2z1 := X2.out.z1
    have x2f0 := X2.out.f0
    have x2f1 := X2.out.f1
    have y10 : ((V3.setCell ⟨w.heap.size + 1, 0, none⟩ (.bool false)).setCell ⟨w.heap.size + 1, 1, none⟩ (.slice a2 (tk p) c2)).cell? ⟨w.heap.size, 0, none⟩ = some (.bool false) := (set2_other (by omega)).trans X1.out.z0
    have y11 : ((V3.setCell ⟨w.heap.size + 1, 0, none⟩ (.bool false)).setCell ⟨w.heap.size + 1, 1, none⟩ (.slice a2 (tk p) c2)).cell? ⟨w.heap.size, 1, none⟩ = some (.slice a1 (tk l) c1) := (set2_other (by omega)).trans X1.out.z1
    go_wp2_with fail
    generalize hV : ((V3.setCell ⟨w.heap.size + 1, 0, none⟩ (.bool false)).setCell ⟨w.heap.size + 1, 1, none⟩ (.slice a2 (tk p) c2)) = V4 at *
    clear x2z0 x2z1 x2f0 x2f1 y10 y11
    obtain ⟨xt, d3, d4, d5, d6⟩ := set_own hV X2.out
    clear hV
    have X1 : Hid (Box V4 (w.heap.size) (.bool false) (.slice a1 (tk l) c1)) := d3 _ _ _ (by omega) X1.out
    have X2 : Hid (Box V4 (w.heap.size + 1) (.bool false) (.slice a2 (tk p) c2)) := xt
    have O1 : Hid (Own V4 (w.heap.size + 1 + 1) a1 (tk l) c1 (l.take (tk l))) := d5 _ _ _ _ _ O1.out (by omega)
    have O2 : Hid (Own V4 (w.heap.size + 1 + 1) a2 (tk p) c2 (p.take (tk p))) := d5 _ _ _ _ _ O2.out (by omega)
    have HB : Hid (Below w.heap.size w V4) := d4 _ _ HB.out (by omega)
    have HS : Hid (w.heap.size + 1 + 1 ≤ V4.heap.size) := by have := HS.out; show _ ≤ _; omega
    clear xt d3 d4 d5 d6
    refine (rsize_any a1 (tk l) c1 (l.take (tk l)) a2 (tk p) c2 (p.take (tk p)) _ O1.out.sl O2.out.sl (trim_form HL.out.wd) (trim_form HP.out.wd) (by omega) (by omega)).mono ?_
    rintro e V9 ⟨rfl, hb⟩
    rw [trim_val, trim_val]
    have X1 : Hid (Box V9 (w.heap.size) (.bool false) (.slice a1 (tk l) c1)) := X1.out.below hb X1.out.lt
    have X2 : Hid (Box V9 (w.heap.size + 1) (.bool false) (.slice a2 (tk p) c2)) := X2.out.below hb X2.out.lt
    have O1 : Hid (Own V9 (w.heap.size + 1 + 1) a1 (tk l) c1 (l.take (tk l))) := O1.out.below hb (Nat.le_refl _)
    have O2 : Hid (Own V9 (w.heap.size + 1 + 1) a2 (tk p) c2 (p.take (tk p))) := O2.out.below hb (Nat.le_refl _)
    have HB : Hid (Below w.heap.size w V9) := HB.out.trans (hb.mono HB.out.size)
    have HS : Hid (w.heap.size + 1 + 1 ≤ V9.heap.size) := Nat.le_trans HS.out hb.size
    clear hb
    go_wp2_with fail
    go_ret
    exact ⟨ret_int (cmp_pos S1.out S2.out), HB.out⟩
  · have x1 := X1.out
    clear x1
    have x2z0 := X2.out.z0
    have x2z1 := X2.out.z1
    have x2f0 := X2.out.f0
    have x2f1 := X2.out.f1
    have y10 : ((V3.setCell ⟨w.heap.size + 1, 0, none⟩ (.bool true)).setCell ⟨w.heap.size + 1, 1, none⟩ (.slice a2 (tk p) c2)).cell? ⟨w.heap.size, 0, none⟩ = some (.bool false) := (set2_other (by omega)).trans X1.out.z0
    have y11 : ((V3.setCell ⟨w.heap.size + 1, 0, none⟩ (.bool true)).setCell ⟨w.heap.size + 1, 1, none⟩ (.slice a2 (tk p) c2)).cell? ⟨w.heap.size, 1, none⟩ = some (.slice a1 (tk l) c1) := (set2_other (by omega)).trans X1.out.z1
    go_wp2_with fail
    generalize hV : ((V3.setCell ⟨w.heap.size + 1, 0, none⟩ (.bool true)).setCell ⟨w.heap.size + 1, 1, none⟩ (.slice a2 (tk p) c2)) = V4 at *
    clear x2z0 x2z1 x2f0 x2f1 y10 y11
    obtain ⟨xt, d3, d4, d5, d6⟩ := set_own hV X2.out
    clear hV
    have X1 : Hid (Box V4 (w.heap.size) (.bool false) (.slice a1 (tk l) c1)) := d3 _ _ _ (by omega) X1.out
    have X2 : Hid (Box V4 (w.heap.size + 1) (.bool true) (.slice a2 (tk p) c2)) := xt
    have O1 : Hid (Own V4 (w.heap.size + 1 + 1) a1 (tk l) c1 (l.take (tk l))) := d5 _ _ _ _ _ O1.out (by omega)
    have O2 : Hid (Own V4 (w.heap.size + 1 + 1) a2 (tk p) c2 (p.take (tk p))) := d5 _ _ _ _ _ O2.out (by omega)
    have HB : Hid (Below w.heap.size w V4) := d4 _ _ HB.out (by omega)
    have HS : Hid (w.heap.size + 1 + 1 ≤ V4.heap.size) := by have := HS.out; show _ ≤ _; omega
    clear xt d3 d4 d5 d6
    go_ret
    exact ⟨ret_int (cmp_signs S1.out S2.out), HB.out⟩
  · have x1 := X1.out
    clear x1
    have x2z0 := X2.out.z0
    have x2z1 := X2.out.z1
    have x2f0 := X2.out.f0
    have x2f1 := X2.out.f1
    have y10 : ((V3.setCell ⟨w.heap.size + 1, 0, none⟩ (.bool false)).setCell ⟨w.heap.size + 1, 1, none⟩ (.slice a2 (tk p) c2)).cell? ⟨w.heap.size, 0, none⟩ = some (.bool true) := (set2_other (by omega)).trans X1.out.z0
    have y11 : ((V3.setCell ⟨w.heap.size + 1, 0, none⟩ (.bool false)).setCell ⟨w.heap.size + 1, 1, none⟩ (.slice a2 (tk p) c2)).cell? ⟨w.heap.size, 1, none⟩ = some (.slice a1 (tk l) c1) := (set2_other (by omega)).trans X1.out.z1
    go_wp2_with fail
    generalize hV : ((V3.setCell ⟨w.heap.size + 1, 0, none⟩ (.bool false)).setCell ⟨w.heap.size + 1, 1, none⟩ (.slice a2 (tk p) c2)) = V4 at *
    clear x2z0 x2z1 x2f0 x2f1 y10 y11
    obtain ⟨xt, d3, d4, d5, d6⟩ := set_own hV X2.out
    clear hV
    have X1 : Hid (Box V4 (w.heap.size) (.bool true) (.slice a1 (tk l) c1)) := d3 _ _ _ (by omega) X1.out
    have X2 : Hid (Box V4 (w.heap.size + 1) (.bool false) (.slice a2 (tk p) c2)) := xt
    have O1 : Hid (Own V4 (w.heap.size + 1 + 1) a1 (tk l) c1 (l.take (tk l))) := d5 _ _ _ _ _ O1.out (by omega)
    have O2 : Hid (Own V4 (w.heap.size + 1 + 1) a2 (tk p) c2 (p.take (tk p))) := d5 _ _ _ _ _ O2.out (by omega)
    have HB : Hid (Below w.heap.size w V4) := d4 _ _ HB.out (by omega)
    have HS : Hid (w.heap.size + 1 + 1 ≤ V4.heap.size) := by have := HS.out; show _ ≤ _; omega
    clear xt d3 d4 d5 d6
    go_ret
    exact ⟨ret_int (cmp_signs S1.out S2.out), HB.out⟩
  · have x1 := X1.out
    clear x1
    have x2z0 := X2.out.z0
    have x2z1 := X2.out.z1
    have x2f0 := X2.out.f0
    have x2f1 := X2.out.f1
    have y10 : ((V3.setCell ⟨w.heap.size + 1, 0, none⟩ (.bool true)).setCell ⟨w.heap.size + 1, 1, none⟩ (.slice a2 (tk p) c2)).cell? ⟨w.heap.size, 0, none⟩ = some (.bool true) := (set2_other (by omega)).trans X1.out.z0
    have y11 : ((V3.setCell ⟨w.heap.size + 1, 0, none⟩ (.bool true)).setCell ⟨w.heap.size + 1, 1, none⟩ (.slice a2 (tk p) c2)).cell? ⟨w.heap.size, 1, none⟩ = some (.slice a1 (tk l) c1) := (set2_other (by omega)).trans X1.out.z1
    go_wp2_with fail
    generalize hV : ((V3.setCell ⟨w.heap.size + 1, 0, none⟩ (.bool true)).setCell ⟨w.heap.size + 1, 1, none⟩ (.slice a2 (tk p) c2)) = V4 at *
    clear x2z0 x2z1 x2f0 x2f1 y10 y11
    obtain ⟨xt, d3, d4, d5, d6⟩ := set_own hV X2.out
    clear hV
    have X1 : Hid (Box V4 (w.heap.size) (.bool true) (.slice a1 (tk l) c1)) := d3 _ _ _ (by omega) X1.out
    have X2 : Hid (Box V4 (w.heap.size + 1) (.bool true) (.slice a2 (tk p) c2)) := xt
    have O1 : Hid (Own V4 (w.heap.size + 1 + 1) a1 (tk l) c1 (l.take (tk l))) := d5 _ _ _ _ _ O1.out (by omega)
    have O2 : Hid (Own V4 (w.heap.size + 1 + 1) a2 (tk p) c2 (p.take (tk p))) := d5 _ _ _ _ _ O2.out (by omega)
    have HB : Hid (Below w.heap.size w V4) := d4 _ _ HB.out (by omega)
    have HS : Hid (w.heap.size + 1 + 1 ≤ V4.heap.size) := by have := HS.out; show _ ≤ _; omega
    clear xt d3 d4 d5 d6
    refine (rsize_any a2 (tk p) c2 (p.take (tk p)) a1 (tk l) c1 (l.take (tk l)) _ O2.out.sl O1.out.sl (trim_form HP.out.wd) (trim_form HL.out.wd) (by omega) (by omega)).mono ?_
    rintro e V9 ⟨rfl, hb⟩
    rw [trim_val, trim_val]
    have X1 : Hid (Box V9 (w.heap.size) (.bool true) (.slice a1 (tk l) c1)) := X1.out.below hb X1.out.lt
    have X2 : Hid (Box V9 (w.heap.size + 1) (.bool true) (.slice a2 (tk p) c2)) := X2.out.below hb X2.out.lt
    have O1 : Hid (Own V9 (w.heap.size + 1 + 1) a1 (tk l) c1 (l.take (tk l))) := O1.out.below hb (Nat.le_refl _)
    have O2 : Hid (Own V9 (w.heap.size + 1 + 1) a2 (tk p) c2 (p.take (tk p))) := O2.out.below hb (Nat.le_refl _)
    have HB : Hid (Below w.heap.size w V9) := HB.out.trans (hb.mono HB.out.size)
    have HS : Hid (w.heap.size + 1 + 1 ≤ V9.heap.size) := Nat.le_trans HS.out hb.size
    clear hb
    go_wp2_with fail
    go_ret
    exact ⟨ret_int (cmp_neg S1.out S2.out), HB.out⟩
theorem rcompare_any (s t : Bool) (ao : Option Addr) (n cap : Nat) (l : List Nat) (ap : Option Addr) (m capb : Nat) (p : List Nat) (w : World) (hl : Sl w ao n cap l) (hp : Sl w ap m capb p) (hz1 : ao = none → cap = 0) (hz2 : ap = none → capb = 0) (hn : n ≤ 1000) (hm : m ≤ 1000) :
    Calls Tryz.prog 29 #[.agg #[.bool s, .slice ao n cap], .agg #[.bool t, .slice ap m capb]] w fun e w' => e = .returned (.int .i64 (cmpV s (vl 4294967296 l) t (vl 4294967296 p))) ∧ Below w.heap.size w w' := rcompare_at s t ao n cap l ap m capb p w hl hp hz1 hz2 hn hm _ _ rfl rfl
end Go.Proofs.YtfkkhabpnnealaaGreatDoor

