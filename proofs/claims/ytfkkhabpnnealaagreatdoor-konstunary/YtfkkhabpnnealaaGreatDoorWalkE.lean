/-
  The contracts of exact.Add, Sub, Mul, Compare, Neg at every argument (2).
-/
import Derived.Test.YtfkkhabpnnealaaGreatDoorWalkD
namespace Go.Proofs.YtfkkhabpnnealaaGreatDoor
open Go.RowKit
attribute [local go_sem ↓] Go.wp_at_zero Go.wp_at_succ
open Go.Sort (Holds putRow holds_putRow putRow_self putRow_set cell?_putRow_other)
set_option maxRecDepth 100000 in
set_option maxHeartbeats 2000000 in
theorem add_big (s t : Bool) (ao : Option Addr) (n cap : Nat) (l : List Nat) (ap : Option Addr) (m capb : Nat) (p : List Nat) (w : World) (hl : Sl w ao n cap l) (hp : Sl w ap m capb p) (hn : n ≤ 1000) (hm : m ≤ 1000)
    (hbig : (bigN (vl 4294967296 l) || bigN (vl 4294967296 p)) = true) :
    Calls Tryz.prog 62 #[.agg #[.bool s, .slice ao n cap], .agg #[.bool t, .slice ap m capb]] w fun e w' => e = .returned (.tuple #[.agg #[.bool false, .slice none 0 0], .int .i64 2]) ∧ Below w.heap.size w w' := by
  have HL : Hid (Sl w ao n cap l) := hl
  have HP : Hid (Sl w ap m capb p) := hp
  have HG : Hid ((bigN (vl 4294967296 l) || bigN (vl 4294967296 p)) = true) := hbig
  have K1 := tk_le hl
  have K2 := tk_le hp
  clear hl hp hbig
  go_enter Tryz.func62, Tryz.ntmps62
  go_wp2_with fail
  have HW : Hid (Below w.heap.size w (((w.alloc (Obj.cells #[Value.bool s, Value.slice ao n cap] 24)).alloc (Obj.cells #[Value.bool t, Value.slice ap m capb] 24)).alloc (Obj.cells #[Value.bool false, Value.slice none 0 0] 24))) := (((Below.refl _ _).alloc (Nat.le_refl _) _).alloc (by simp) _).alloc (by simp; omega) _
  go_quiet (first | (go_at_call_of 48 (Value.slice ao n cap); exact Calls.quiet_of_same (trimmed_eq ao n cap l _ (by exact (HL.out.below HW.out (Nat.le_refl _)).drewN _))) | (go_at_call_of 48 (Value.slice ap m capb); exact Calls.quiet_of_same (trimmed_eq ap m capb p _ (by exact (HP.out.below HW.out (Nat.le_refl _)).drewN _))))
  generalize hW : (World.alloc _ _).drewN _ = W
  obtain ⟨_, _, x3, hbW, hzW⟩ := boxes3 w _ _ _ _ _ _ _ _ _ _ hW
  clear hW HW
  have HBW : Hid (Below w.heap.size w W) := hbW
  have z0 := x3.z0
  have z1 := x3.z1
  have f0 := x3.f0
  have f1 := x3.f1
  clear x3 hbW hzW
  go_wp2_with fail
  refine (large_any ao (tk l) cap (l.take (tk l)) _ (HL.out.below HBW.out (Nat.le_refl _)).trim (trim_form HL.out.wd) (by omega)).mono ?_
  rintro e W ⟨rfl, rfl⟩
  rw [trim_val]
  cases h1 : bigN (vl 4294967296 l)
  · have h2 : Hid (bigN (vl 4294967296 p) = true) := by have := HG.out; rw [h1] at this; simpa [Hid] using this
    clear h1
    go_wp2_with fail
    refine (large_any ap (tk p) capb (p.take (tk p)) _ (HP.out.below HBW.out (Nat.le_refl _)).trim (trim_form HP.out.wd) (by omega)).mono ?_
    rintro e W ⟨rfl, rfl⟩
    rw [trim_val, h2.out]
    go_wp2
    refine bodyPost_ret (v := .tuple #[.agg #[.bool false, .slice none 0 0], .int .i64 2]) (by simp [results, Tryz.results62, go_sem, z0, z1]) rfl ⟨rfl, ?_⟩
    exact (HBW.out.setCell (p := ⟨w.heap.size + 1 + 1, 0, none⟩) (by show w.heap.size ≤ w.heap.size + 1 + 1; omega) _).setCell (p := ⟨w.heap.size + 1 + 1, 1, none⟩) (by show w.heap.size ≤ w.heap.size + 1 + 1; omega) _
  · clear h1
    go_wp2
    refine bodyPost_ret (v := .tuple #[.agg #[.bool false, .slice none 0 0], .int .i64 2]) (by simp [results, Tryz.results62, go_sem, z0, z1]) rfl ⟨rfl, ?_⟩
    exact (HBW.out.setCell (p := ⟨w.heap.size + 1 + 1, 0, none⟩) (by show w.heap.size ≤ w.heap.size + 1 + 1; omega) _).setCell (p := ⟨w.heap.size + 1 + 1, 1, none⟩) (by show w.heap.size ≤ w.heap.size + 1 + 1; omega) _
/-- what Add answers -/
structure AddP (w w' : World) (e : Ending) (s1 : Bool) (N : Nat) (s2 : Bool) (M : Nat) : Prop where
  ex : ∃ v, e = .returned (.tuple #[v, .int .i64 (addE s1 N s2 M)]) ∧ IntR w' w.heap.size v (addS s1 N s2 M) (addV s1 N s2 M)
  below : Below w.heap.size w w'
theorem add_any (s t : Bool) (ao : Option Addr) (n cap : Nat) (l : List Nat) (ap : Option Addr) (m capb : Nat) (p : List Nat) (w : World) (hl : Sl w ao n cap l) (hp : Sl w ap m capb p) (hn : n ≤ 1000) (hm : m ≤ 1000) :
    Calls Tryz.prog 62 #[.agg #[.bool s, .slice ao n cap], .agg #[.bool t, .slice ap m capb]] w fun e w' => AddP w w' e s (vl 4294967296 l) t (vl 4294967296 p) := by
  cases hbig : (bigN (vl 4294967296 l) || bigN (vl 4294967296 p))
  · have h1 : bigN (vl 4294967296 l) = false := by cases h : bigN (vl 4294967296 l) <;> simp_all
    have h2 : bigN (vl 4294967296 p) = false := by cases h : bigN (vl 4294967296 p) <;> simp_all
    by_cases hst : s = t
    · subst hst
      refine (add_same s ao n cap l ap m capb p w hl hp hn hm h1 h2).mono fun e w' ⟨v, he, hi, hb⟩ => ⟨⟨v, ?_, ?_⟩, hb⟩
      · rw [he]; simp only [addE, addR, hbig, if_true]; rfl
      · simp only [addS, addV, addR, hbig, if_true]; exact hi
    · have ht : t = !s := by cases s <;> cases t <;> simp_all
      by_cases hc : vl 4294967296 l < vl 4294967296 p
      · refine (add_less s t ht ao n cap l ap m capb p w hl hp hn hm h1 h2 hc).mono fun e w' ⟨v, he, hi, hb⟩ => ⟨⟨v, ?_, ?_⟩, hb⟩
        · rw [he]; simp only [addE, addR, hbig, hst, hc, if_true, if_false]; rfl
        · simp only [addS, addV, addR, hbig, hst, hc, if_true, if_false]; exact hi
      · refine (add_more s t ht ao n cap l ap m capb p w hl hp hn hm h1 h2 (by omega)).mono fun e w' ⟨v, he, hi, hb⟩ => ⟨⟨v, ?_, ?_⟩, hb⟩
        · rw [he]; simp only [addE, addR, hbig, hst, hc, if_false]; rfl
        · simp only [addS, addV, addR, hbig, hst, hc, if_false]; exact hi
  · refine (add_big s t ao n cap l ap m capb p w hl hp hn hm hbig).mono fun e w' ⟨he, hb⟩ => ⟨⟨.agg #[.bool false, .slice none 0 0], ?_, ?_⟩, hb⟩
    · rw [he]; simp only [addE, hbig, if_true]
    · simp only [addS, addV, hbig, if_true, sgB_zero]; exact IntR.zero _ _
set_option maxRecDepth 100000 in
set_option maxHeartbeats 2000000 in
theorem sub_any (s t : Bool) (ao : Option Addr) (n cap : Nat) (l : List Nat) (ap : Option Addr) (m capb : Nat) (p : List Nat) (w : World) (hl : Sl w ao n cap l) (hp : Sl w ap m capb p) (hn : n ≤ 1000) (hm : m ≤ 1000) :
    Calls Tryz.prog 63 #[.agg #[.bool s, .slice ao n cap], .agg #[.bool t, .slice ap m capb]] w fun e w' => AddP w w' e s (vl 4294967296 l) (!t) (vl 4294967296 p) := by
  have HL : Hid (Sl w ao n cap l) := hl
  have HP : Hid (Sl w ap m capb p) := hp
  clear hl hp
  go_enter Tryz.func63, Tryz.ntmps63
  go_wp2_with fail
  have hbA : Below w.heap.size w (((w.alloc (Obj.cells #[Value.bool s, Value.slice ao n cap] 24)).alloc (Obj.cells #[Value.bool t, Value.slice ap m capb] 24)).alloc (Obj.cells #[Value.bool false, Value.slice none 0 0] 24)) := (((Below.refl _ _).alloc (Nat.le_refl _) _).alloc (by simp) _).alloc (by simp; omega) _
  obtain ⟨_, _, x3, _, hzW⟩ := boxes3 w (.bool s) (.slice ao n cap) (.bool t) (.slice ap m capb) (.bool false) (.slice none 0 0) 24 24 24 0 rfl
  have X3 : Hid (Box (((w.alloc (Obj.cells #[Value.bool s, Value.slice ao n cap] 24)).alloc (Obj.cells #[Value.bool t, Value.slice ap m capb] 24)).alloc (Obj.cells #[Value.bool false, Value.slice none 0 0] 24)) (w.heap.size + 1 + 1) (.bool false) (.slice none 0 0)) := x3
  refine (add_any s (!t) ao n cap l ap m capb p _ (HL.out.below hbA (Nat.le_refl _)) (HP.out.below hbA (Nat.le_refl _)) hn hm).mono ?_
  rintro e w1 ⟨⟨v, rfl, hi⟩, hb⟩
  generalize hE : addE s (vl 4294967296 l) (!t) (vl 4294967296 p) = E at *
  have HE : Hid (addE s (vl 4294967296 l) (!t) (vl 4294967296 p) = E) := hE
  have x31 := X3.out.below hb X3.out.lt
  have z0 := x31.z0
  have z1 := x31.z1
  have f0 := x31.f0
  have f1 := x31.f1
  have HI : Hid (IntR w1 (w.heap.size + 1 + 1 + 1) v _ _) := hi.mono (by simp)
  obtain ⟨ao', k', cap', r', rfl, h1, h2, h3, h4⟩ := hi.ex
  have HB : Hid (Below w.heap.size w w1) := hbA.trans (hb.mono hbA.size)
  generalize hS : addS s (vl 4294967296 l) (!t) (vl 4294967296 p) = S at *
  have HS : Hid (addS s (vl 4294967296 l) (!t) (vl 4294967296 p) = S) := hS
  clear h1 h2 h3 h4 hb hi x31 x3 hzW hbA X3 hE hS
  go_wp2_with fail
  refine bodyPost_ret (v := .tuple #[.agg #[.bool S, .slice ao' k' cap'], .int .i64 E]) (by simp [results, Tryz.results63, go_sem, z0, z1]) rfl ⟨⟨.agg #[.bool S, .slice ao' k' cap'], ?_, ?_⟩, ?_⟩
  · rw [HE.out]
  · rw [HS.out]
    exact ((HI.out.setCell (a := ⟨w.heap.size + 1 + 1, 0, none⟩) (by show w.heap.size + 1 + 1 < w.heap.size + 1 + 1 + 1; omega) _).setCell (a := ⟨w.heap.size + 1 + 1, 1, none⟩) (by show w.heap.size + 1 + 1 < w.heap.size + 1 + 1 + 1; omega) _).mono (by omega)
  · exact (HB.out.setCell (p := ⟨w.heap.size + 1 + 1, 0, none⟩) (by show w.heap.size ≤ w.heap.size + 1 + 1; omega) _).setCell (p := ⟨w.heap.size + 1 + 1, 1, none⟩) (by show w.heap.size ≤ w.heap.size + 1 + 1; omega) _
set_option maxRecDepth 100000 in
set_option maxHeartbeats 2000000 in
theorem mul_big (s t : Bool) (ao : Option Addr) (n cap : Nat) (l : List Nat) (ap : Option Addr) (m capb : Nat) (p : List Nat) (w : World) (hl : Sl w ao n cap l) (hp : Sl w ap m capb p) (hn : n ≤ 1000) (hm : m ≤ 1000)
    (hbig : (bigN (vl 4294967296 l) || bigN (vl 4294967296 p)) = true) :
    Calls Tryz.prog 64 #[.agg #[.bool s, .slice ao n cap], .agg #[.bool t, .slice ap m capb]] w fun e w' => e = .returned (.tuple #[.agg #[.bool false, .slice none 0 0], .int .i64 2]) ∧ Below w.heap.size w w' := by
  have HL : Hid (Sl w ao n cap l) := hl
  have HP : Hid (Sl w ap m capb p) := hp
  have HG : Hid ((bigN (vl 4294967296 l) || bigN (vl 4294967296 p)) = true) := hbig
  have K1 := tk_le hl
  have K2 := tk_le hp
  clear hl hp hbig
  go_enter Tryz.func64, Tryz.ntmps64
  go_wp2_with fail
  have HW : Hid (Below w.heap.size w (((w.alloc (Obj.cells #[Value.bool s, Value.slice ao n cap] 24)).alloc (Obj.cells #[Value.bool t, Value.slice ap m capb] 24)).alloc (Obj.cells #[Value.bool false, Value.slice none 0 0] 24))) := (((Below.refl _ _).alloc (Nat.le_refl _) _).alloc (by simp) _).alloc (by simp; omega) _
  go_quiet (first | (go_at_call_of 48 (Value.slice ao n cap); exact Calls.quiet_of_same (trimmed_eq ao n cap l _ (by exact (HL.out.below HW.out (Nat.le_refl _)).drewN _))) | (go_at_call_of 48 (Value.slice ap m capb); exact Calls.quiet_of_same (trimmed_eq ap m capb p _ (by exact (HP.out.below HW.out (Nat.le_refl _)).drewN _))))
  generalize hW : (World.alloc _ _).drewN _ = W
  obtain ⟨_, _, x3, hbW, hzW⟩ := boxes3 w _ _ _ _ _ _ _ _ _ _ hW
  clear hW HW
  have HBW : Hid (Below w.heap.size w W) := hbW
  have z0 := x3.z0
  have z1 := x3.z1
  have f0 := x3.f0
  have f1 := x3.f1
  clear x3 hbW hzW
  go_wp2_with fail
  refine (large_any ao (tk l) cap (l.take (tk l)) _ (HL.out.below HBW.out (Nat.le_refl _)).trim (trim_form HL.out.wd) (by omega)).mono ?_
  rintro e W ⟨rfl, rfl⟩
  rw [trim_val]
  cases h1 : bigN (vl 4294967296 l)
  · have h2 : Hid (bigN (vl 4294967296 p) = true) := by have := HG.out; rw [h1] at this; simpa [Hid] using this
    clear h1
    go_wp2_with fail
    refine (large_any ap (tk p) capb (p.take (tk p)) _ (HP.out.below HBW.out (Nat.le_refl _)).trim (trim_form HP.out.wd) (by omega)).mono ?_
    rintro e W ⟨rfl, rfl⟩
    rw [trim_val, h2.out]
    go_wp2
    refine bodyPost_ret (v := .tuple #[.agg #[.bool false, .slice none 0 0], .int .i64 2]) (by simp [results, Tryz.results64, go_sem, z0, z1]) rfl ⟨rfl, ?_⟩
    exact (HBW.out.setCell (p := ⟨w.heap.size + 1 + 1, 0, none⟩) (by show w.heap.size ≤ w.heap.size + 1 + 1; omega) _).setCell (p := ⟨w.heap.size + 1 + 1, 1, none⟩) (by show w.heap.size ≤ w.heap.size + 1 + 1; omega) _
  · clear h1
    go_wp2
    refine bodyPost_ret (v := .tuple #[.agg #[.bool false, .slice none 0 0], .int .i64 2]) (by simp [results, Tryz.results64, go_sem, z0, z1]) rfl ⟨rfl, ?_⟩
    exact (HBW.out.setCell (p := ⟨w.heap.size + 1 + 1, 0, none⟩) (by show w.heap.size ≤ w.heap.size + 1 + 1; omega) _).setCell (p := ⟨w.heap.size + 1 + 1, 1, none⟩) (by show w.heap.size ≤ w.heap.size + 1 + 1; omega) _
theorem ne_boxes (n : Nat) : n + 1 + 1 ≠ n := by omega
theorem ne_boxes2 (n : Nat) : n + 1 + 1 ≠ n + 1 := by omega
set_option maxRecDepth 100000 in
set_option maxHeartbeats 2000000 in
theorem mul_small (s t : Bool) (ao : Option Addr) (n cap : Nat) (l : List Nat) (ap : Option Addr) (m capb : Nat) (p : List Nat) (w : World) (hl : Sl w ao n cap l) (hp : Sl w ap m capb p) (hn : n ≤ 1000) (hm : m ≤ 1000)
    (hb1 : bigN (vl 4294967296 l) = false) (hb2 : bigN (vl 4294967296 p) = false) :
    Calls Tryz.prog 64 #[.agg #[.bool s, .slice ao n cap], .agg #[.bool t, .slice ap m capb]] w fun e w' => ∃ v, e = .returned (.tuple #[v, .int .i64 (eBig (vl 4294967296 l * vl 4294967296 p))]) ∧ IntR w' w.heap.size v (sgB (s != t) (cutN (vl 4294967296 l * vl 4294967296 p))) (cutN (vl 4294967296 l * vl 4294967296 p)) ∧ Below w.heap.size w w' := by
  have HL : Hid (Sl w ao n cap l) := hl
  have HP : Hid (Sl w ap m capb p) := hp
  have B1 : Hid (bigN (vl 4294967296 l) = false) := hb1
  have B2 : Hid (bigN (vl 4294967296 p) = false) := hb2
  have K1 := tk_le hl
  have K2 := tk_le hp
  clear hl hp hb1 hb2
  go_enter Tryz.func64, Tryz.ntmps64
  go_wp2_with fail
  have HW : Hid (Below w.heap.size w (((w.alloc (Obj.cells #[Value.bool s, Value.slice ao n cap] 24)).alloc (Obj.cells #[Value.bool t, Value.slice ap m capb] 24)).alloc (Obj.cells #[Value.bool false, Value.slice none 0 0] 24))) := (((Below.refl _ _).alloc (Nat.le_refl _) _).alloc (by simp) _).alloc (by simp; omega) _
  go_quiet (first | (go_at_call_of 48 (Value.slice ao n cap); exact Calls.quiet_of_same (trimmed_eq ao n cap l _ (by exact (HL.out.below HW.out (Nat.le_refl _)).drewN _))) | (go_at_call_of 48 (Value.slice ap m capb); exact Calls.quiet_of_same (trimmed_eq ap m capb p _ (by exact (HP.out.below HW.out (Nat.le_refl _)).drewN _))))
  generalize hW : (World.alloc _ _).drewN _ = W
  obtain ⟨x1, x2, x3, hbW, hzW⟩ := boxes3 w _ _ _ _ _ _ _ _ _ _ hW
  clear hW HW
  have HBW : Hid (Below w.heap.size w W) := hbW
  have X3 : Hid (Box W (w.heap.size + 1 + 1) (.bool false) (.slice none 0 0)) := x3
  have HZ : Hid (W.heap.size = w.heap.size + 1 + 1 + 1) := hzW
  have a0 := x1.z0
  have b0 := x2.z0
  clear x3 hbW hzW x1 x2
  go_wp2_with fail
  refine (large_any ao (tk l) cap (l.take (tk l)) _ (HL.out.below HBW.out (Nat.le_refl _)).trim (trim_form HL.out.wd) (by omega)).mono ?_
  rintro e W ⟨rfl, rfl⟩
  rw [trim_val, B1.out]
  go_wp2_with fail
  refine (large_any ap (tk p) capb (p.take (tk p)) _ (HP.out.below HBW.out (Nat.le_refl _)).trim (trim_form HP.out.wd) (by omega)).mono ?_
  rintro e W ⟨rfl, rfl⟩
  rw [trim_val, B2.out]
  go_wp2_with fail
  have S1 : Hid (Sl W.drew ao (tk l) cap (l.take (tk l))) := (HL.out.below HBW.out (Nat.le_refl _)).trim.below (Below.refl _ _).drew (Nat.le_refl _)
  have S2 : Hid (Sl W.drew ap (tk p) capb (p.take (tk p))) := (HP.out.below HBW.out (Nat.le_refl _)).trim.below (Below.refl _ _).drew (Nat.le_refl _)
  have L1 : w.heap.size < W.drew.heap.size := by have := HZ.out; show _ < W.heap.size; omega
  have L4 : w.heap.size + 1 < W.drew.heap.size := by have := HZ.out; show _ < W.heap.size; omega
  have L2 : w.heap.size + 1 + 1 < W.drew.heap.size := by have := HZ.out; show _ < W.heap.size; omega
  go_region_held3 (fun w' => w'.cell? ⟨w.heap.size, 0, none⟩ = some (.bool s) ∧ w'.cell? ⟨w.heap.size + 1, 0, none⟩ = some (.bool t))
    (first | exact And.intro ((set2_other (ne_boxes _)).trans j1) ((set2_other (ne_boxes2 _)).trans i1) | go_keep)
    (first | (go_at_call 87; refine (multiplied_any ao (tk l) cap (l.take (tk l)) ap (tk p) capb (p.take (tk p)) _ (by exact S1.out) (by exact S2.out) (by omega) (by omega)).mono ?_; rintro e w2 ⟨r2, rfl, ho2, hv2, _, _, hb2⟩; have i0 : w2.cell? ⟨w.heap.size + 1, 0, none⟩ = some (.bool t) := (hb2.cell (p := ⟨w.heap.size + 1, 0, none⟩) L4).trans b0; have j0 : w2.cell? ⟨w.heap.size, 0, none⟩ = some (.bool s) := (hb2.cell (p := ⟨w.heap.size, 0, none⟩) L1).trans a0; have HO2 : Hid (Own w2 _ _ _ _ _) := ho2; have HV2 : Hid (_ = _) := hv2; have HB2 : Hid (Below _ _ w2) := hb2; have X32 : Hid (Box w2 _ _ _) := X3.out.below ((Below.refl _ W).drew.trans hb2) L2; clear ho2 hv2 hb2) | (go_at_call 84; refine (limited_any (s != t) _ _ _ r2 w2 HO2.out.sl (by omega)).mono ?_; rintro e w3 ⟨v3, rfl, hf3, hb3⟩; have i1 : w3.cell? ⟨w.heap.size + 1, 0, none⟩ = some (.bool t) := (hb3.cell (p := ⟨w.heap.size + 1, 0, none⟩) (Nat.lt_of_lt_of_le L4 HB2.out.size)).trans i0; have j1 : w3.cell? ⟨w.heap.size, 0, none⟩ = some (.bool s) := (hb3.cell (p := ⟨w.heap.size, 0, none⟩) (Nat.lt_of_lt_of_le L1 HB2.out.size)).trans j0; have HF3 : Hid (FormR _ _ _ _ v3 _ _) := hf3; obtain ⟨ao', k', cap', r', rfl, h1, h2, h3, h4⟩ := hf3.ex; have HB3 : Hid (Below _ _ w3) := hb3; have X33 := X32.out.below hb3 X32.out.lt; have z0 := X33.z0; have z1 := X33.z1; have f0 := X33.f0; have f1 := X33.f1; clear hf3 h1 h2 h3 h4 hb3 X33))
  all_goals
    go_wp2_with fail
    have hv := HV2.out
    rw [trim_val, trim_val] at hv
    have L3 := HZ.out
    obtain ⟨q1, q2⟩ := end_box (R := w.heap.size + 1 + 1) (u := .bool (sgB (s != t) (cutN (vl 4294967296 r2)))) (x := .slice ao' k' cap') HBW.out ((Below.refl _ W).drew.trans HB2.out) HB3.out (by omega) (by omega) HO2.out HF3.out
    refine bodyPost_ret (v := .tuple #[.agg #[.bool (sgB (s != t) (cutN (vl 4294967296 r2))), .slice ao' k' cap'], .int .i64 (eBig (vl 4294967296 r2))]) (by simp [results, Tryz.results64, go_sem, z0, z1]) rfl ⟨.agg #[.bool (sgB (s != t) (cutN (vl 4294967296 r2))), .slice ao' k' cap'], ?_, ?_, q2⟩
    · rw [← hv]
    · rw [← hv]; exact q1
def mulE (N M : Nat) : Int := if bigN N || bigN M then 2 else eBig (N * M)
def mulV (N M : Nat) : Nat := if bigN N || bigN M then 0 else cutN (N * M)
def mulS (s1 : Bool) (N : Nat) (s2 : Bool) (M : Nat) : Bool := sgB (s1 != s2) (mulV N M)
/-- what Mul answers -/
structure MulP (w w' : World) (e : Ending) (s1 : Bool) (N : Nat) (s2 : Bool) (M : Nat) : Prop where
  ex : ∃ v, e = .returned (.tuple #[v, .int .i64 (mulE N M)]) ∧ IntR w' w.heap.size v (mulS s1 N s2 M) (mulV N M)
  below : Below w.heap.size w w'
theorem mul_any (s t : Bool) (ao : Option Addr) (n cap : Nat) (l : List Nat) (ap : Option Addr) (m capb : Nat) (p : List Nat) (w : World) (hl : Sl w ao n cap l) (hp : Sl w ap m capb p) (hn : n ≤ 1000) (hm : m ≤ 1000) :
    Calls Tryz.prog 64 #[.agg #[.bool s, .slice ao n cap], .agg #[.bool t, .slice ap m capb]] w fun e w' => MulP w w' e s (vl 4294967296 l) t (vl 4294967296 p) := by
  cases hbig : (bigN (vl 4294967296 l) || bigN (vl 4294967296 p))
  · have h1 : bigN (vl 4294967296 l) = false := by cases h : bigN (vl 4294967296 l) <;> simp_all
    have h2 : bigN (vl 4294967296 p) = false := by cases h : bigN (vl 4294967296 p) <;> simp_all
    refine (mul_small s t ao n cap l ap m capb p w hl hp hn hm h1 h2).mono fun e w' ⟨v, he, hi, hb⟩ => ⟨⟨v, ?_, ?_⟩, hb⟩
    · rw [he]; simp only [mulE, hbig]; rfl
    · simp only [mulS, mulV, hbig]; exact hi
  · refine (mul_big s t ao n cap l ap m capb p w hl hp hn hm hbig).mono fun e w' ⟨he, hb⟩ => ⟨⟨.agg #[.bool false, .slice none 0 0], ?_, ?_⟩, hb⟩
    · rw [he]; simp only [mulE, hbig, if_true]
    · simp only [mulS, mulV, hbig, if_true, sgB_zero]; exact IntR.zero _ _
def cmpV (s : Bool) (N : Nat) (t : Bool) (M : Nat) : Int := if sgI s N = sgI t M then sgI s N * cmpI N M else cmpI (sgI s N) (sgI t M)
theorem sgI_or (s : Bool) (N : Nat) : sgI s N = 1 ∨ sgI s N = -1 := by unfold sgI; split <;> simp
theorem cmpI_or (a b : Int) : cmpI a b = 1 ∨ cmpI a b = -1 ∨ cmpI a b = 0 := by unfold cmpI; split <;> (try split) <;> simp
theorem wrap_sign {a b : Int} (ha : a = 1 ∨ a = -1) (hb : b = 1 ∨ b = -1 ∨ b = 0) : IntKind.i64.wrap (a * b) = a * b := by
  rcases ha with rfl | rfl <;> rcases hb with rfl | rfl | rfl <;> rfl
set_option maxRecDepth 100000 in
set_option maxHeartbeats 2000000 in
theorem compare_any (s t : Bool) (ao : Option Addr) (n cap : Nat) (l : List Nat) (ap : Option Addr) (m capb : Nat) (p : List Nat) (w : World) (hl : Sl w ao n cap l) (hp : Sl w ap m capb p) (hn : n ≤ 1000) (hm : m ≤ 1000) :
    Calls Tryz.prog 50 #[.agg #[.bool s, .slice ao n cap], .agg #[.bool t, .slice ap m capb]] w fun e w' => e = .returned (.int .i64 (cmpV s (vl 4294967296 l) t (vl 4294967296 p))) ∧ Below w.heap.size w w' := by
  have HL : Hid (Sl w ao n cap l) := hl
  have HP : Hid (Sl w ap m capb p) := hp
  have K1 := tk_le hl
  have K2 := tk_le hp
  clear hl hp
  go_enter Tryz.func50, Tryz.ntmps50
  go_wp2_with fail
  generalize hW : (World.alloc _ _) = W
  obtain ⟨x1, x2, hbW, hzW⟩ := boxes2 w _ _ _ _ _ _ 0 hW
  clear hW
  have HBW : Hid (Below w.heap.size w W) := hbW
  have HZ : Hid (W.heap.size = w.heap.size + 1 + 1) := hzW
  have a0 := x1.z0
  have a1 := x1.z1
  have b0 := x2.z0
  have b1 := x2.z1
  have X1 : Hid (Box W w.heap.size _ _) := x1
  have X2 : Hid (Box W (w.heap.size + 1) _ _) := x2
  have L1 : w.heap.size < W.drew.heap.size := by show _ < W.heap.size; omega
  have L2 : w.heap.size + 1 < W.drew.heap.size := by show _ < W.heap.size; omega
  clear hbW hzW x1 x2
  have S1 : Hid (Sl W.drew ao n cap l) := (HL.out.below HBW.out (Nat.le_refl _)).below (Below.refl _ _).drew (Nat.le_refl _)
  have S2 : Hid (Sl W.drew ap m capb p) := (HP.out.below HBW.out (Nat.le_refl _)).below (Below.refl _ _).drew (Nat.le_refl _)
  go_region_held3 (fun w' => w'.cell? ⟨w.heap.size, 0, none⟩ = some (.bool s) ∧ w'.cell? ⟨w.heap.size, 1, none⟩ = some (.slice ao n cap) ∧ w'.cell? ⟨w.heap.size + 1, 0, none⟩ = some (.bool t) ∧ w'.cell? ⟨w.heap.size + 1, 1, none⟩ = some (.slice ap m capb))
    (go_keep)
    (first | (go_at_call_of 67 (Value.agg #[Value.bool s, Value.slice ao n cap]); refine (sign_any s ao n cap l _ (by exact S1.out)).mono ?_; rintro e w2 ⟨rfl, hb2⟩; have X12 := X1.out.below ((Below.refl _ W).drew.trans hb2) L1; have X22 := X2.out.below ((Below.refl _ W).drew.trans hb2) L2; have c0 := X12.z0; have c1 := X12.z1; have d0 := X22.z0; have d1 := X22.z1; have HB2 : Hid (Below _ _ w2) := hb2; have S22 : Hid (Sl w2 ap m capb p) := S2.out.below hb2 (Nat.le_refl _); clear hb2 X12 X22) | (go_at_call_of 67 (Value.agg #[Value.bool t, Value.slice ap m capb]); refine (sign_any t ap m capb p _ (by exact S22.out)).mono ?_; rintro e w3 ⟨rfl, hb3⟩; have X13 := (X1.out.below ((Below.refl _ W).drew.trans HB2.out) L1).below hb3 (Nat.lt_of_lt_of_le L1 HB2.out.size); have X23 := (X2.out.below ((Below.refl _ W).drew.trans HB2.out) L2).below hb3 (Nat.lt_of_lt_of_le L2 HB2.out.size); have c0 := X13.z0; have c1 := X13.z1; have d0 := X23.z0; have d1 := X23.z1; have HB3 : Hid (Below _ _ w3) := hb3; clear hb3 X13 X23))
  all_goals
    have Z2 := HB2.out.size
    have Z3 := HB3.out.size
    have HB4 : Hid (Below w.heap.size w w3) := (HBW.out.trans ((Below.refl _ W).drew.trans HB2.out |>.mono HBW.out.size)).trans (HB3.out.mono (Nat.le_trans HBW.out.size Z2))
    have HV : Hid (cmpV s (vl 4294967296 l) t (vl 4294967296 p) = if sgI s (vl 4294967296 l) = sgI t (vl 4294967296 p) then sgI s (vl 4294967296 l) * cmpI (vl 4294967296 l) (vl 4294967296 p) else cmpI (sgI s (vl 4294967296 l)) (sgI t (vl 4294967296 p))) := rfl
    have O1 := sgI_or s (vl 4294967296 l)
    have O2 := sgI_or t (vl 4294967296 p)
    generalize sgI s (vl 4294967296 l) = σ at *
    generalize sgI t (vl 4294967296 p) = τ at *
    have M1 : -1 ≤ σ ∧ σ ≤ 1 := by omega
    have M2 : -1 ≤ τ ∧ τ ≤ 1 := by omega
    have P1 : Hid (σ = 1 ∨ σ = -1) := O1
    clear O1 O2
    by_cases hst : σ = τ
    · subst hst
      go_wp2_with fail
      have T1 : Hid (Sl w3.drew ao n cap l) := (S1.out.below (HB2.out) (Nat.le_refl _)).below (HB3.out.drew) (Nat.le_refl _)
      have T2 : Hid (Sl w3.drew ap m capb p) := S22.out.below (HB3.out.drew) (Nat.le_refl _)
      go_region_held3 (fun w' => w'.cell? ⟨w.heap.size, 1, none⟩ = some (.slice ao n cap) ∧ w'.cell? ⟨w.heap.size + 1, 1, none⟩ = some (.slice ap m capb))
        (go_keep)
        (first | (go_at_call_of 48 (Value.slice ao n cap); refine (trimmed_eq ao n cap l _ (by exact T1.out)).mono ?_; rintro e w4 ⟨rfl, rfl⟩) | (go_at_call_of 48 (Value.slice ap m capb); refine (trimmed_eq ap m capb p _ (by exact T2.out)).mono ?_; rintro e w4 ⟨rfl, rfl⟩) | (go_at_call 69; refine (compared_any ao (tk l) cap (l.take (tk l)) ap (tk p) capb (p.take (tk p)) _ (by exact T1.out.trim) (by exact T2.out.trim) (trim_form HL.out.wd) (trim_form HP.out.wd) (by omega) (by omega)).mono ?_; rintro e w5 ⟨rfl, hb5⟩; rw [trim_val, trim_val]; have HB5 : Hid (Below _ _ w5) := hb5; have C1 : w5.cell? ⟨w.heap.size, 1, none⟩ = some (.slice ao n cap) := (hb5.cell (p := ⟨w.heap.size, 1, none⟩) (by show w.heap.size < w3.heap.size; omega)).trans c1; have C2 : w5.cell? ⟨w.heap.size + 1, 1, none⟩ = some (.slice ap m capb) := (hb5.cell (p := ⟨w.heap.size + 1, 1, none⟩) (by show w.heap.size + 1 < w3.heap.size; omega)).trans d1; clear hb5))
      go_wp2
      go_ret
      refine ⟨ret_int ?_, ?_⟩
      · rw [HV.out, if_pos trivial]
        exact wrap_sign P1.out (cmpI_or _ _)
      · exact HB4.out.drew.trans (HB5.out.mono (by show w.heap.size ≤ w3.heap.size; omega))
    · go_wp2_with fail
      refine (cmpInt_any _ _ _).mono ?_
      rintro e w4 ⟨rfl, rfl⟩
      have HN : Hid (¬ σ = τ) := hst
      go_wp2
      go_ret
      exact ⟨ret_int (by rw [HV.out, if_neg HN.out]), HB4.out⟩
end Go.Proofs.YtfkkhabpnnealaaGreatDoor

