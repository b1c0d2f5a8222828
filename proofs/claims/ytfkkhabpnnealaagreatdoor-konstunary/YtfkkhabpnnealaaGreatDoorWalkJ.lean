/-
  The contract of exact.Quo at every argument (2).
-/
import Derived.Test.YtfkkhabpnnealaaGreatDoorWalkI
namespace Go.Proofs.YtfkkhabpnnealaaGreatDoor
open Go.RowKit
attribute [local go_sem ↓] Go.wp_at_zero Go.wp_at_succ
open Go.Sort (Holds putRow holds_putRow putRow_self putRow_set cell?_putRow_other)
theorem quo_fin {V w3 : World} {B0 b c n cap N : Nat} {ao : Option Addr} {l : List Nat} {v u0 u1 u2 u3 : Value} {sg : Bool} {base : Nat} (ho : Own V B0 ao n cap l) (hb : Below V.heap.size V w3) (hle : V.heap.size ≤ V.heap.size) (hf : FormR ao n cap l v sg N) (h1 : b < B0 ∧ c < B0) (h2 : base ≤ B0) :
    IntR ((((w3.setCell ⟨b, 0, none⟩ u0).setCell ⟨b, 1, none⟩ u1).setCell ⟨c, 0, none⟩ u2).setCell ⟨c, 1, none⟩ u3) base v sg N := by
  have ho2 := ((((ho.below hb hle).setCell (a := ⟨b, 0, none⟩) h1.1 u0).setCell (a := ⟨b, 1, none⟩) h1.1 u1).setCell (a := ⟨c, 0, none⟩) h1.2 u2).setCell (a := ⟨c, 1, none⟩) h1.2 u3
  exact hf.int ho2.sl (ho2.mono h2).base
set_option maxRecDepth 100000 in
set_option maxHeartbeats 4000000 in
theorem quo_ok (s t : Bool) (ao : Option Addr) (n cap : Nat) (l : List Nat) (ap : Option Addr) (m capb : Nat) (p : List Nat) (w : World) (hl : Sl w ao n cap l) (hp : Sl w ap m capb p) (hn : n ≤ 1000) (hm : m ≤ 1000)
    (hb1 : bigN (vl 4294967296 l) = false) (hb2 : bigN (vl 4294967296 p) = false) (hz0 : vl 4294967296 p ≠ 0) :
    Calls Tryz.prog 65 #[.agg #[.bool s, .slice ao n cap], .agg #[.bool t, .slice ap m capb]] w fun e w' => ∃ v1 v2, e = .returned (.tuple #[v1, v2, .int .i64 0]) ∧ IntR w' w.heap.size v1 (sgB (s != t) (vl 4294967296 l / vl 4294967296 p)) (vl 4294967296 l / vl 4294967296 p) ∧ IntR w' w.heap.size v2 (sgB s (vl 4294967296 l % vl 4294967296 p)) (vl 4294967296 l % vl 4294967296 p) ∧ Below w.heap.size w w' := by
  have HL : Hid (Sl w ao n cap l) := hl
  have HP : Hid (Sl w ap m capb p) := hp
  have B1 : Hid (bigN (vl 4294967296 l) = false) := hb1
  have B2 : Hid (bigN (vl 4294967296 p) = false) := hb2
  obtain ⟨k, hk⟩ := tk_pos hz0
  have B3 : Hid (tk p = k + 1) := hk
  have K1 := tk_le hl
  have K2 := tk_le hp
  have hk2 : k + 1 ≤ m := by omega
  clear hl hp hb1 hb2 hz0 hk
  go_enter Tryz.func65, Tryz.ntmps65
  go_wp2_with fail
  have HW : Hid (Below w.heap.size w ((((w.alloc (Obj.cells #[Value.bool s, Value.slice ao n cap] 24)).alloc (Obj.cells #[Value.bool t, Value.slice ap m capb] 24)).alloc (Obj.cells #[Value.bool false, Value.slice none 0 0] 24)).alloc (Obj.cells #[Value.bool false, Value.slice none 0 0] 24))) := ((((Below.refl _ _).alloc (Nat.le_refl _) _).alloc (by simp) _).alloc (by simp; omega) _).alloc (by simp; omega) _
  go_quiet (first | (go_at_call_of 48 (Value.slice ao n cap); exact Calls.quiet_of_same (trimmed_eq ao n cap l _ (by exact (HL.out.below HW.out (Nat.le_refl _)).drewN _))) | (go_at_call_of 48 (Value.slice ap m capb); exact Calls.quiet_of_same (trimmed_eq ap m capb p _ (by exact (HP.out.below HW.out (Nat.le_refl _)).drewN _))))
  generalize hW : (World.alloc _ _).drewN _ = W
  obtain ⟨x1, x2, x3, x4, hbW, hzW⟩ := boxes4 w _ _ _ _ _ _ _ _ _ _ _ _ _ hW
  clear hW HW
  have HBW : Hid (Below w.heap.size w W) := hbW
  have X3 : Hid (Box W (w.heap.size + 1 + 1) (.bool false) (.slice none 0 0)) := x3
  have X4 : Hid (Box W (w.heap.size + 1 + 1 + 1) (.bool false) (.slice none 0 0)) := x4
  have X1 : Hid (Box W w.heap.size _ _) := x1
  have X2 : Hid (Box W (w.heap.size + 1) _ _) := x2
  have HZ : Hid (W.heap.size = w.heap.size + 1 + 1 + 1 + 1) := hzW
  clear x1 x2 x3 x4 hbW hzW
  go_wp2_with fail
  refine (large_any ao (tk l) cap (l.take (tk l)) _ (HL.out.below HBW.out (Nat.le_refl _)).trim (trim_form HL.out.wd) (by omega)).mono ?_
  rintro e W ⟨rfl, rfl⟩
  rw [trim_val, B1.out]
  go_wp2_with fail
  refine (large_any ap (tk p) capb (p.take (tk p)) _ (HP.out.below HBW.out (Nat.le_refl _)).trim (trim_form HP.out.wd) (by omega)).mono ?_
  rintro e W ⟨rfl, rfl⟩
  rw [trim_val, B2.out]
  have S2 : Hid (Sl W ap (k + 1) capb (p.take (tk p))) := by have := (HP.out.below HBW.out (Nat.le_refl _)).trim; rw [B3.out] at this ⊢; exact this
  rw [B3.out]
  go_wp2_with fail
  refine (divided_any ao (tk l) cap (l.take (tk l)) ap k capb (p.take (tk p)) _ (HL.out.below HBW.out (Nat.le_refl _)).trim S2.out (trim_form HP.out.wd) (by omega) (by omega)).mono ?_
  rintro e V ⟨aq, nq, capq, q, ar, nr, capr, r, rfl, hoq, hor, hvq, hvr, hbV⟩
  rw [trim_val, trim_val] at hvq hvr
  have L0 := HZ.out
  have HBV : Hid (Below w.heap.size w V) := HBW.out.trans (hbV.mono HBW.out.size)
  have x1 := X1.out.below hbV (by omega)
  have x2 := X2.out.below hbV (by omega)
  have x3 := X3.out.below hbV (by omega)
  have x4 := X4.out.below hbV (by omega)
  have sV := hbV.size
  have X1 : Hid (Box V w.heap.size _ _) := x1
  have X2 : Hid (Box V (w.heap.size + 1) _ _) := x2
  have X3 : Hid (Box V (w.heap.size + 1 + 1) _ _) := x3
  have X4 : Hid (Box V (w.heap.size + 1 + 1 + 1) _ _) := x4
  have HOQ : Hid (Own V (w.heap.size + 1 + 1 + 1 + 1) aq nq capq q) := by rw [← L0]; exact hoq
  have HOR : Hid (Own V (w.heap.size + 1 + 1 + 1 + 1) ar nr capr r) := by rw [← L0]; exact hor
  have HVQ : Hid (vl 4294967296 q = vl 4294967296 l / vl 4294967296 p) := hvq
  have HVR : Hid (vl 4294967296 r = vl 4294967296 l % vl 4294967296 p) := hvr
  have a0 := x1.z0
  have b0 := x2.z0
  clear x1 x2 x3 x4 hoq hor hvq hvr hbV
  have L1 : w.heap.size < V.drew.heap.size := by show _ < V.heap.size; omega
  have L2 : w.heap.size + 1 < V.drew.heap.size := by show _ < V.heap.size; omega
  have L3 : w.heap.size + 1 + 1 < V.drew.heap.size := by show _ < V.heap.size; omega
  have L4 : w.heap.size + 1 + 1 + 1 < V.drew.heap.size := by show _ < V.heap.size; omega
  go_wp2_with fail
  go_region_held3 (fun w' => w'.cell? ⟨w.heap.size, 0, none⟩ = some (.bool s) ∧ w'.cell? ⟨w.heap.size + 1, 0, none⟩ = some (.bool t))
    (exact And.intro (by first | exact (V.cell?_drew _).trans a0 | exact c0 | (rw [set2_other (by omega)]; exact c0) | (rw [set2_other (by omega), set2_other (by omega)]; exact c0)) (by first | exact (V.cell?_drew _).trans b0 | exact d0 | (rw [set2_other (by omega)]; exact d0) | (rw [set2_other (by omega), set2_other (by omega)]; exact d0)))
    (first | (go_at_call_of 46 (Value.slice aq nq capq); refine (inForm_any (s != t) aq nq capq q _ (by exact HOQ.out.sl.below (Below.refl _ _).drew (Nat.le_refl _))).mono ?_; rintro e w2 ⟨v2, rfl, hf2, hb2⟩; have x1 := X1.out.below ((Below.refl _ V).drew.trans hb2) L1; have x2 := X2.out.below ((Below.refl _ V).drew.trans hb2) L2; have c0 := x1.z0; have d0 := x2.z0; have HF2 : Hid (FormR _ _ _ _ v2 _ _) := hf2; obtain ⟨a2, k2, cap2, r2, rfl, h1, h2, h3, h4⟩ := hf2.ex; have HB2 : Hid (Below _ _ w2) := hb2; clear hf2 h1 h2 h3 h4 hb2 x1 x2) | (go_at_call_of 46 (Value.slice ar nr capr); refine (inForm_any s ar nr capr r w2 (by exact (HOR.out.sl.below (Below.refl _ _).drew (Nat.le_refl _)).below HB2.out (Nat.le_refl _))).mono ?_; rintro e w3 ⟨v3, rfl, hf3, hb3⟩; have hb23 : Below V.drew.heap.size V w3 := ((Below.refl _ V).drew.trans HB2.out).trans (hb3.mono HB2.out.size); have x1 := X1.out.below hb23 L1; have x2 := X2.out.below hb23 L2; have x3 := X3.out.below hb23 L3; have x4 := X4.out.below hb23 L4; have c0 := x1.z0; have d0 := x2.z0; have z0 := x3.z0; have z1 := x3.z1; have f0 := x3.f0; have f1 := x3.f1; have y0 := x4.z0; have y1 := x4.z1; have g0 := x4.f0; have g1 := x4.f1; have HF3 : Hid (FormR _ _ _ _ v3 _ _) := hf3; obtain ⟨a3, k3, cap3, r3, rfl, h1, h2, h3, h4⟩ := hf3.ex; have HB3 : Hid (Below V.heap.size V w3) := hb23; clear hf3 h1 h2 h3 h4 hb3 hb23 x1 x2 x3 x4))
  all_goals
    go_wp2_with fail
    refine bodyPost_ret (v := .tuple #[.agg #[.bool (sgB (s != t) (vl 4294967296 q)), .slice a2 k2 cap2], .agg #[.bool (sgB s (vl 4294967296 r)), .slice a3 k3 cap3], .int .i64 0]) (by simp [results, Tryz.results65, go_sem, z0, z1, y0, y1]) rfl ⟨_, _, rfl, ?_, ?_, ?_⟩
    · rw [← HVQ.out]; exact quo_fin HOQ.out HB3.out (Nat.le_refl _) HF2.out ⟨by omega, by omega⟩ (by omega)
    · rw [← HVR.out]; exact quo_fin HOR.out HB3.out (Nat.le_refl _) HF3.out ⟨by omega, by omega⟩ (by omega)
    · exact (((((HBV.out.trans (HB3.out.mono (by omega))).setCell (by show w.heap.size ≤ w.heap.size + 1 + 1; omega) _).setCell (by show w.heap.size ≤ w.heap.size + 1 + 1; omega) _).setCell (by show w.heap.size ≤ w.heap.size + 1 + 1 + 1; omega) _).setCell (by show w.heap.size ≤ w.heap.size + 1 + 1 + 1; omega) _)
end Go.Proofs.YtfkkhabpnnealaaGreatDoor

