/-
  The contract of the document's own Mul at every argument.
-/
import Derived.Test.YtfkkhabpnnealaaDoorRefB
import Derived.Test.YtfkkhabpnnealaaDoorRefC
namespace Go.Proofs.YtfkkhabpnnealaaDoor
open Go.RowKit
attribute [local go_sem ↓] Go.wp_at_zero Go.wp_at_succ
set_option maxRecDepth 100000 in
set_option maxHeartbeats 2000000 in
theorem rmul_big (s t : Bool) (ao : Option Addr) (n cap : Nat) (l : List Nat) (ap : Option Addr) (m capb : Nat) (p : List Nat) (w : World) (hl : Sl w ao n cap l) (hp : Sl w ap m capb p) (hz1 : ao = none → cap = 0) (hz2 : ap = none → capb = 0) (hn : n ≤ 1000) (hm : m ≤ 1000)
    (hbig : (bigN (vl 4294967296 l) || bigN (vl 4294967296 p)) = true) :
    Calls Tryd.prog 30 #[.agg #[.bool s, .slice ao n cap], .agg #[.bool t, .slice ap m capb]] w fun e w' => e = .returned (.tuple #[.agg #[.bool false, .slice none 0 0], .int .i64 2]) ∧ Below w.heap.size w w' := by
  have HL : Hid (Sl w ao n cap l) := hl
  have HP : Hid (Sl w ap m capb p) := hp
  have HZ1 : Hid (ao = none → cap = 0) := hz1
  have HZ2 : Hid (ap = none → capb = 0) := hz2
  have HG : Hid ((bigN (vl 4294967296 l) || bigN (vl 4294967296 p)) = true) := hbig
  clear hl hp hbig hz1 hz2
  go_enter Tryd.func30, Tryd.ntmps30
  go_wp2_with fail
  generalize hW : (World.alloc _ _) = W
  obtain ⟨x1, x2, x3, hbW, hzW⟩ := boxes3 w (.bool s) (.slice ao n cap) (.bool t) (.slice ap m capb) (.bool false) (.slice none 0 0) 24 24 24 0 hW
  clear hW
  have X2 : Hid (Box W (w.heap.size + 1) _ _) := x2
  have X3 : Hid (Box W (w.heap.size + 1 + 1) _ _) := x3
  have HBW : Hid (Below w.heap.size w W) := hbW
  clear x1 x2 x3 hbW hzW
  refine (rlarge_any s ao n cap l _ (HL.out.below HBW.out (Nat.le_refl _)) HZ1.out (by omega)).mono ?_
  rintro e V ⟨rfl, hb⟩
  have x2 := X2.out.below hb X2.out.lt
  have x3 := X3.out.below hb X3.out.lt
  have X3 : Hid (Box V (w.heap.size + 1 + 1) _ _) := x3
  have b0 := x2.z0
  have b1 := x2.z1
  have z0 := x3.z0
  have z1 := x3.z1
  have f0 := x3.f0
  have f1 := x3.f1
  have HP : Hid (Sl V ap m capb p) := (HP.out.below HBW.out (Nat.le_refl _)).below hb (Nat.le_refl _)
  have HB : Hid (Below w.heap.size w V) := HBW.out.trans (hb.mono HBW.out.size)
  clear x2 x3 hb X2
  cases h1 : bigN (vl 4294967296 l)
  · have h2 : Hid (bigN (vl 4294967296 p) = true) := by have := HG.out; rw [h1] at this; simpa [Hid] using this
    clear h1
    go_wp2_with fail
    refine (rlarge_any t ap m capb p _ HP.out HZ2.out (by omega)).mono ?_
    rintro e V2 ⟨rfl, hb⟩
    rw [h2.out]
    have x3 := X3.out.below hb X3.out.lt
    have z0 := x3.z0
    have z1 := x3.z1
    have f0 := x3.f0
    have f1 := x3.f1
    have HB : Hid (Below w.heap.size w V2) := HB.out.trans (hb.mono HB.out.size)
    clear hb x3
    go_wp2_with fail
    refine bodyPost_ret (v := .tuple #[.agg #[.bool false, .slice none 0 0], .int .i64 2]) (by simp [results, Tryd.results30, go_sem, z0, z1]) rfl ⟨rfl, ?_⟩
    exact (HB.out.setCell (p := ⟨w.heap.size + 1 + 1, 0, none⟩) (by show w.heap.size ≤ w.heap.size + 1 + 1; omega) _).setCell (p := ⟨w.heap.size + 1 + 1, 1, none⟩) (by show w.heap.size ≤ w.heap.size + 1 + 1; omega) _
  · clear h1
    go_wp2_with fail
    refine bodyPost_ret (v := .tuple #[.agg #[.bool false, .slice none 0 0], .int .i64 2]) (by simp [results, Tryd.results30, go_sem, z0, z1]) rfl ⟨rfl, ?_⟩
    exact (HB.out.setCell (p := ⟨w.heap.size + 1 + 1, 0, none⟩) (by show w.heap.size ≤ w.heap.size + 1 + 1; omega) _).setCell (p := ⟨w.heap.size + 1 + 1, 1, none⟩) (by show w.heap.size ≤ w.heap.size + 1 + 1; omega) _
theorem rend_small (s : Bool) (ao : Option Addr) (n cap : Nat) (l : List Nat) (w : World) (hl : Sl w ao n cap l) (hz : ao = none → cap = 0) (hn : n ≤ 1000000) (hb : bigN (vl 4294967296 l) = false) :
    Calls Tryd.prog 48 #[.agg #[.bool s, .slice ao n cap]] w fun e w' => e = .returned (.tuple #[.agg #[.bool s, .slice ao n cap], .int .i64 0]) ∧ Below w.heap.size w w' :=
  (rend_any s ao n cap l w hl hz hn).mono fun e w' ⟨he, h⟩ => ⟨by rw [he]; simp [hb, eBig], h⟩
theorem rend_large (s : Bool) (ao : Option Addr) (n cap : Nat) (l : List Nat) (w : World) (hl : Sl w ao n cap l) (hz : ao = none → cap = 0) (hn : n ≤ 1000000) (hb : bigN (vl 4294967296 l) = true) :
    Calls Tryd.prog 48 #[.agg #[.bool s, .slice ao n cap]] w fun e w' => e = .returned (.tuple #[.agg #[.bool false, .slice none 0 0], .int .i64 2]) ∧ Below w.heap.size w w' :=
  (rend_any s ao n cap l w hl hz hn).mono fun e w' ⟨he, h⟩ => ⟨by rw [he]; simp [hb, eBig], h⟩
set_option maxRecDepth 100000 in
set_option maxHeartbeats 4000000 in
theorem rmul_small (s t : Bool) (ao : Option Addr) (n cap : Nat) (l : List Nat) (ap : Option Addr) (m capb : Nat) (p : List Nat) (w : World) (hl : Sl w ao n cap l) (hp : Sl w ap m capb p) (hz1 : ao = none → cap = 0) (hz2 : ap = none → capb = 0) (hn : n ≤ 1000) (hm : m ≤ 1000)
    (hb1 : bigN (vl 4294967296 l) = false) (hb2 : bigN (vl 4294967296 p) = false) (hbg : bigN (vl 4294967296 l * vl 4294967296 p) = false) :
    Calls Tryd.prog 30 #[.agg #[.bool s, .slice ao n cap], .agg #[.bool t, .slice ap m capb]] w fun e w' => ∃ v, e = .returned (.tuple #[v, .int .i64 0]) ∧ IntR w' w.heap.size v (sgB (s != t) (vl 4294967296 l * vl 4294967296 p)) (vl 4294967296 l * vl 4294967296 p) ∧ Below w.heap.size w w' := by
  have HL : Hid (Sl w ao n cap l) := hl
  have HP : Hid (Sl w ap m capb p) := hp
  have HZ1 : Hid (ao = none → cap = 0) := hz1
  have HZ2 : Hid (ap = none → capb = 0) := hz2
  have B1 : Hid (bigN (vl 4294967296 l) = false) := hb1
  have B2 : Hid (bigN (vl 4294967296 p) = false) := hb2
  have HBG : Hid (bigN (vl 4294967296 l * vl 4294967296 p) = false) := hbg
  have K1 := tk_le hl
  have K2 := tk_le hp
  clear hl hp hbg hz1 hz2 hb1 hb2
  go_enter Tryd.func30, Tryd.ntmps30
  go_wp2_with fail
  generalize hW : (World.alloc _ _) = W
  obtain ⟨x1, x2, x3, hbW, hzW⟩ := boxes3 w (.bool s) (.slice ao n cap) (.bool t) (.slice ap m capb) (.bool false) (.slice none 0 0) 24 24 24 0 hW
  clear hW
  have X1 : Hid (Box W w.heap.size (.bool s) (.slice ao n cap)) := x1
  have X2 : Hid (Box W (w.heap.size + 1) (.bool t) (.slice ap m capb)) := x2
  have X3 : Hid (Box W (w.heap.size + 1 + 1) (.bool false) (.slice none 0 0)) := x3
  have HB : Hid (Below w.heap.size w W) := hbW
  have J1 : Hid (Sl W ao n cap l) := HL.out.below hbW (Nat.le_refl _)
  have J2 : Hid (Sl W ap m capb p) := HP.out.below hbW (Nat.le_refl _)
  clear x1 x2 x3 hbW hzW
  refine (rlarge_any s ao n cap l _ J1.out HZ1.out (by omega)).mono ?_
  rintro e V1 ⟨rfl, hb⟩
  rw [B1.out]
  have X1 : Hid (Box V1 (w.heap.size) (.bool s) (.slice ao n cap)) := X1.out.below hb X1.out.lt
  have X2 : Hid (Box V1 (w.heap.size + 1) (.bool t) (.slice ap m capb)) := X2.out.below hb X2.out.lt
  have X3 : Hid (Box V1 (w.heap.size + 1 + 1) (.bool false) (.slice none 0 0)) := X3.out.below hb X3.out.lt
  have J1 : Hid (Sl V1 ao n cap l) := J1.out.below hb (Nat.le_refl _)
  have J2 : Hid (Sl V1 ap m capb p) := J2.out.below hb (Nat.le_refl _)
  have HB : Hid (Below w.heap.size w V1) := HB.out.trans (hb.mono HB.out.size)
  clear hb
  have b0 := X2.out.z0
  have b1 := X2.out.z1
  go_wp2_with fail
  refine (rlarge_any t ap m capb p _ J2.out HZ2.out (by omega)).mono ?_
  rintro e V2 ⟨rfl, hb⟩
  rw [B2.out]
  have X1 : Hid (Box V2 (w.heap.size) (.bool s) (.slice ao n cap)) := X1.out.below hb X1.out.lt
  have X2 : Hid (Box V2 (w.heap.size + 1) (.bool t) (.slice ap m capb)) := X2.out.below hb X2.out.lt
  have X3 : Hid (Box V2 (w.heap.size + 1 + 1) (.bool false) (.slice none 0 0)) := X3.out.below hb X3.out.lt
  have J1 : Hid (Sl V2 ao n cap l) := J1.out.below hb (Nat.le_refl _)
  have J2 : Hid (Sl V2 ap m capb p) := J2.out.below hb (Nat.le_refl _)
  have HB : Hid (Below w.heap.size w V2) := HB.out.trans (hb.mono HB.out.size)
  clear hb
  clear b0 b1
  have a0 := X1.out.z0
  go_wp2_with fail
  clear a0
  have X1 : Hid (Box V2.drew (w.heap.size) (.bool s) (.slice ao n cap)) := X1.out.below (Below.refl _ _).drew X1.out.lt
  have X2 : Hid (Box V2.drew (w.heap.size + 1) (.bool t) (.slice ap m capb)) := X2.out.below (Below.refl _ _).drew X2.out.lt
  have X3 : Hid (Box V2.drew (w.heap.size + 1 + 1) (.bool false) (.slice none 0 0)) := X3.out.below (Below.refl _ _).drew X3.out.lt
  have J1 : Hid (Sl V2.drew ao n cap l) := J1.out.below (Below.refl _ _).drew (Nat.le_refl _)
  have J2 : Hid (Sl V2.drew ap m capb p) := J2.out.below (Below.refl _ _).drew (Nat.le_refl _)
  have HB : Hid (Below w.heap.size w V2.drew) := HB.out.drew
  have kS : V2.drew.cell? ⟨w.heap.size, 0, none⟩ = some (.bool s) ∧ V2.drew.cell? ⟨w.heap.size, 1, none⟩ = some (.slice ao n cap) ∧ V2.drew.cell? ⟨w.heap.size + 1, 0, none⟩ = some (.bool t) ∧ V2.drew.cell? ⟨w.heap.size + 1, 1, none⟩ = some (.slice ap m capb) := ⟨X1.out.z0, X1.out.z1, X2.out.z0, X2.out.z1⟩
  go_region_held3 (fun w' => w'.cell? ⟨w.heap.size, 0, none⟩ = some (.bool s) ∧ w'.cell? ⟨w.heap.size, 1, none⟩ = some (.slice ao n cap) ∧ w'.cell? ⟨w.heap.size + 1, 0, none⟩ = some (.bool t) ∧ w'.cell? ⟨w.heap.size + 1, 1, none⟩ = some (.slice ap m capb))
    (first | exact kS | exact ⟨(set2_other (ne_boxes _)).trans kS.1, (set2_other (ne_boxes _)).trans kS.2.1, (set2_other (ne_boxes2 _)).trans kS.2.2.1, (set2_other (ne_boxes2 _)).trans kS.2.2.2⟩)
    (first | (go_at_call_of 53 (Value.slice ao n cap); refine (rtrim_any ao n cap l _ (by exact J1.out) HZ1.out (by omega)).mono ?_; rintro e w2 ⟨a2, c2, rfl, ho, hn2, hb⟩; have O2 : Hid (Own w2 _ a2 (tk l) c2 (l.take (tk l))) := ho; have J2 : Hid (Sl w2 ap m capb p) := J2.out.below hb (Nat.le_refl _); clear ho hn2; have X1 : Hid (Box w2 (w.heap.size) (.bool s) (.slice ao n cap)) := X1.out.below hb X1.out.lt; have X2 : Hid (Box w2 (w.heap.size + 1) (.bool t) (.slice ap m capb)) := X2.out.below hb X2.out.lt; have X3 : Hid (Box w2 (w.heap.size + 1 + 1) (.bool false) (.slice none 0 0)) := X3.out.below hb X3.out.lt; have HB : Hid (Below w.heap.size w w2) := HB.out.trans (hb.mono HB.out.size); clear kS; have kS : w2.cell? ⟨w.heap.size, 0, none⟩ = some (.bool s) ∧ w2.cell? ⟨w.heap.size, 1, none⟩ = some (.slice ao n cap) ∧ w2.cell? ⟨w.heap.size + 1, 0, none⟩ = some (.bool t) ∧ w2.cell? ⟨w.heap.size + 1, 1, none⟩ = some (.slice ap m capb) := ⟨X1.out.z0, X1.out.z1, X2.out.z0, X2.out.z1⟩; clear hb) | (go_at_call_of 53 (Value.slice ap m capb); refine (rtrim_any ap m capb p _ (by exact J2.out) HZ2.out (by omega)).mono ?_; rintro e w3 ⟨a3, c3, rfl, ho, hn3, hb⟩; have O3 : Hid (Own w3 _ a3 (tk p) c3 (p.take (tk p))) := ho; have O2 : Hid (Own w3 _ a2 (tk l) c2 (l.take (tk l))) := O2.out.below hb (Nat.le_refl _); clear ho hn3; have X1 : Hid (Box w3 (w.heap.size) (.bool s) (.slice ao n cap)) := X1.out.below hb X1.out.lt; have X2 : Hid (Box w3 (w.heap.size + 1) (.bool t) (.slice ap m capb)) := X2.out.below hb X2.out.lt; have X3 : Hid (Box w3 (w.heap.size + 1 + 1) (.bool false) (.slice none 0 0)) := X3.out.below hb X3.out.lt; have HB : Hid (Below w.heap.size w w3) := HB.out.trans (hb.mono HB.out.size); clear kS; have kS : w3.cell? ⟨w.heap.size, 0, none⟩ = some (.bool s) ∧ w3.cell? ⟨w.heap.size, 1, none⟩ = some (.slice ao n cap) ∧ w3.cell? ⟨w.heap.size + 1, 0, none⟩ = some (.bool t) ∧ w3.cell? ⟨w.heap.size + 1, 1, none⟩ = some (.slice ap m capb) := ⟨X1.out.z0, X1.out.z1, X2.out.z0, X2.out.z1⟩; clear hb) | (go_at_call 52; refine (rtimes_any a2 (tk l) c2 (l.take (tk l)) a3 (tk p) c3 (p.take (tk p)) w3 O2.out.sl O3.out.sl (by omega) (by omega)).mono ?_; rintro e w4 ⟨r4, rfl, ho, hv, hb⟩; rw [trim_val, trim_val] at hv; have O4 : Hid (Own w4 _ _ _ _ r4) := ho; have V4 : Hid (vl 4294967296 r4 = vl 4294967296 l * vl 4294967296 p) := hv; clear ho hv; have X1 : Hid (Box w4 (w.heap.size) (.bool s) (.slice ao n cap)) := X1.out.below hb X1.out.lt; have X2 : Hid (Box w4 (w.heap.size + 1) (.bool t) (.slice ap m capb)) := X2.out.below hb X2.out.lt; have X3 : Hid (Box w4 (w.heap.size + 1 + 1) (.bool false) (.slice none 0 0)) := X3.out.below hb X3.out.lt; have HB : Hid (Below w.heap.size w w4) := HB.out.trans (hb.mono HB.out.size); clear kS; have kS : w4.cell? ⟨w.heap.size, 0, none⟩ = some (.bool s) ∧ w4.cell? ⟨w.heap.size, 1, none⟩ = some (.slice ao n cap) ∧ w4.cell? ⟨w.heap.size + 1, 0, none⟩ = some (.bool t) ∧ w4.cell? ⟨w.heap.size + 1, 1, none⟩ = some (.slice ap m capb) := ⟨X1.out.z0, X1.out.z1, X2.out.z0, X2.out.z1⟩; clear hb) | (go_at_call 47; refine (rform_any (s != t) _ _ _ r4 w4 O4.out.sl (fun h => by cases h) (by omega)).mono ?_; rintro e w5 ⟨a5, c5, rfl, ho, hn5, hb⟩; rw [V4.out]; have hL4 := HB.out.size; have O5 : Hid (Own w5 (w.heap.size + 1 + 1 + 1) a5 (tk r4) c5 (r4.take (tk r4))) := ho.mono (by have := X3.out.lt; omega); have N5 : Hid (a5 = none → c5 = 0) := hn5; have K4 : tk r4 ≤ tk l + tk p := (tk_le O4.out.sl); clear ho hn5 hL4; have X1 : Hid (Box w5 (w.heap.size) (.bool s) (.slice ao n cap)) := X1.out.below hb X1.out.lt; have X2 : Hid (Box w5 (w.heap.size + 1) (.bool t) (.slice ap m capb)) := X2.out.below hb X2.out.lt; have X3 : Hid (Box w5 (w.heap.size + 1 + 1) (.bool false) (.slice none 0 0)) := X3.out.below hb X3.out.lt; have HB : Hid (Below w.heap.size w w5) := HB.out.trans (hb.mono HB.out.size); clear kS; have kS : w5.cell? ⟨w.heap.size, 0, none⟩ = some (.bool s) ∧ w5.cell? ⟨w.heap.size, 1, none⟩ = some (.slice ao n cap) ∧ w5.cell? ⟨w.heap.size + 1, 0, none⟩ = some (.bool t) ∧ w5.cell? ⟨w.heap.size + 1, 1, none⟩ = some (.slice ap m capb) := ⟨X1.out.z0, X1.out.z1, X2.out.z0, X2.out.z1⟩; clear hb) | (go_at_call 48; refine (rend_small _ a5 (tk r4) c5 (r4.take (tk r4)) w5 O5.out.sl N5.out (by omega) (by rw [trim_val, V4.out]; exact HBG.out)).mono ?_; rintro e w6 ⟨rfl, hb⟩; have O5 : Hid (Own w6 (w.heap.size + 1 + 1 + 1) a5 (tk r4) c5 (r4.take (tk r4))) := O5.out.below hb (Nat.le_refl _); have X1 : Hid (Box w6 (w.heap.size) (.bool s) (.slice ao n cap)) := X1.out.below hb X1.out.lt; have X2 : Hid (Box w6 (w.heap.size + 1) (.bool t) (.slice ap m capb)) := X2.out.below hb X2.out.lt; have X3 : Hid (Box w6 (w.heap.size + 1 + 1) (.bool false) (.slice none 0 0)) := X3.out.below hb X3.out.lt; have HB : Hid (Below w.heap.size w w6) := HB.out.trans (hb.mono HB.out.size); clear kS; have kS : w6.cell? ⟨w.heap.size, 0, none⟩ = some (.bool s) ∧ w6.cell? ⟨w.heap.size, 1, none⟩ = some (.slice ao n cap) ∧ w6.cell? ⟨w.heap.size + 1, 0, none⟩ = some (.bool t) ∧ w6.cell? ⟨w.heap.size + 1, 1, none⟩ = some (.slice ap m capb) := ⟨X1.out.z0, X1.out.z1, X2.out.z0, X2.out.z1⟩; clear hb; have z0 := X3.out.z0; have z1 := X3.out.z1; have f0 := X3.out.f0; have f1 := X3.out.f1))
  all_goals
    go_wp2_with fail
    have ho2 := (O5.out.setCell (a := ⟨w.heap.size + 1 + 1, 0, none⟩) (by show w.heap.size + 1 + 1 < w.heap.size + 1 + 1 + 1; omega) (.bool (sgB (s != t) (vl 4294967296 l * vl 4294967296 p)))).setCell (a := ⟨w.heap.size + 1 + 1, 1, none⟩) (by show w.heap.size + 1 + 1 < w.heap.size + 1 + 1 + 1; omega) (.slice a5 (tk r4) c5)
    refine bodyPost_ret (v := .tuple #[.agg #[.bool (sgB (s != t) (vl 4294967296 l * vl 4294967296 p)), .slice a5 (tk r4) c5], .int .i64 0]) (by simp [results, Tryd.results30, go_sem, z0, z1]) rfl ⟨_, rfl, ⟨a5, tk r4, c5, r4.take (tk r4), rfl, ho2.sl, trim_form O4.out.sl.wd, by rw [trim_val, V4.out], (ho2.mono (by omega)).base⟩, ?_⟩
    exact (HB.out.setCell (p := ⟨w.heap.size + 1 + 1, 0, none⟩) (by show w.heap.size ≤ w.heap.size + 1 + 1; omega) _).setCell (p := ⟨w.heap.size + 1 + 1, 1, none⟩) (by show w.heap.size ≤ w.heap.size + 1 + 1; omega) _
set_option maxRecDepth 100000 in
set_option maxHeartbeats 4000000 in
theorem rmul_over (s t : Bool) (ao : Option Addr) (n cap : Nat) (l : List Nat) (ap : Option Addr) (m capb : Nat) (p : List Nat) (w : World) (hl : Sl w ao n cap l) (hp : Sl w ap m capb p) (hz1 : ao = none → cap = 0) (hz2 : ap = none → capb = 0) (hn : n ≤ 1000) (hm : m ≤ 1000)
    (hb1 : bigN (vl 4294967296 l) = false) (hb2 : bigN (vl 4294967296 p) = false) (hbg : bigN (vl 4294967296 l * vl 4294967296 p) = true) :
    Calls Tryd.prog 30 #[.agg #[.bool s, .slice ao n cap], .agg #[.bool t, .slice ap m capb]] w fun e w' => e = .returned (.tuple #[.agg #[.bool false, .slice none 0 0], .int .i64 2]) ∧ Below w.heap.size w w' := by
  have HL : Hid (Sl w ao n cap l) := hl
  have HP : Hid (Sl w ap m capb p) := hp
  have HZ1 : Hid (ao = none → cap = 0) := hz1
  have HZ2 : Hid (ap = none → capb = 0) := hz2
  have B1 : Hid (bigN (vl 4294967296 l) = false) := hb1
  have B2 : Hid (bigN (vl 4294967296 p) = false) := hb2
  have HBG : Hid (bigN (vl 4294967296 l * vl 4294967296 p) = true) := hbg
  have K1 := tk_le hl
  have K2 := tk_le hp
  clear hl hp hbg hz1 hz2 hb1 hb2
  go_enter Tryd.func30, Tryd.ntmps30
  go_wp2_with fail
  generalize hW : (World.alloc _ _) = W
  obtain ⟨x1, x2, x3, hbW, hzW⟩ := boxes3 w (.bool s) (.slice ao n cap) (.bool t) (.slice ap m capb) (.bool false) (.slice none 0 0) 24 24 24 0 hW
  clear hW
  have X1 : Hid (Box W w.heap.size (.bool s) (.slice ao n cap)) := x1
  have X2 : Hid (Box W (w.heap.size + 1) (.bool t) (.slice ap m capb)) := x2
  have X3 : Hid (Box W (w.heap.size + 1 + 1) (.bool false) (.slice none 0 0)) := x3
  have HB : Hid (Below w.heap.size w W) := hbW
  have J1 : Hid (Sl W ao n cap l) := HL.out.below hbW (Nat.le_refl _)
  have J2 : Hid (Sl W ap m capb p) := HP.out.below hbW (Nat.le_refl _)
  clear x1 x2 x3 hbW hzW
  refine (rlarge_any s ao n cap l _ J1.out HZ1.out (by omega)).mono ?_
  rintro e V1 ⟨rfl, hb⟩
  rw [B1.out]
  have X1 : Hid (Box V1 (w.heap.size) (.bool s) (.slice ao n cap)) := X1.out.below hb X1.out.lt
  have X2 : Hid (Box V1 (w.heap.size + 1) (.bool t) (.slice ap m capb)) := X2.out.below hb X2.out.lt
  have X3 : Hid (Box V1 (w.heap.size + 1 + 1) (.bool false) (.slice none 0 0)) := X3.out.below hb X3.out.lt
  have J1 : Hid (Sl V1 ao n cap l) := J1.out.below hb (Nat.le_refl _)
  have J2 : Hid (Sl V1 ap m capb p) := J2.out.below hb (Nat.le_refl _)
  have HB : Hid (Below w.heap.size w V1) := HB.out.trans (hb.mono HB.out.size)
  clear hb
  have b0 := X2.out.z0
  have b1 := X2.out.z1
  go_wp2_with fail
  refine (rlarge_any t ap m capb p _ J2.out HZ2.out (by omega)).mono ?_
  rintro e V2 ⟨rfl, hb⟩
  rw [B2.out]
  have X1 : Hid (Box V2 (w.heap.size) (.bool s) (.slice ao n cap)) := X1.out.below hb X1.out.lt
  have X2 : Hid (Box V2 (w.heap.size + 1) (.bool t) (.slice ap m capb)) := X2.out.below hb X2.out.lt
  have X3 : Hid (Box V2 (w.heap.size + 1 + 1) (.bool false) (.slice none 0 0)) := X3.out.below hb X3.out.lt
  have J1 : Hid (Sl V2 ao n cap l) := J1.out.below hb (Nat.le_refl _)
  have J2 : Hid (Sl V2 ap m capb p) := J2.out.below hb (Nat.le_refl _)
  have HB : Hid (Below w.heap.size w V2) := HB.out.trans (hb.mono HB.out.size)
  clear hb
  clear b0 b1
  have a0 := X1.out.z0
  go_wp2_with fail
  clear a0
  have X1 : Hid (Box V2.drew (w.heap.size) (.bool s) (.slice ao n cap)) := X1.out.below (Below.refl _ _).drew X1.out.lt
  have X2 : Hid (Box V2.drew (w.heap.size + 1) (.bool t) (.slice ap m capb)) := X2.out.below (Below.refl _ _).drew X2.out.lt
  have X3 : Hid (Box V2.drew (w.heap.size + 1 + 1) (.bool false) (.slice none 0 0)) := X3.out.below (Below.refl _ _).drew X3.out.lt
  have J1 : Hid (Sl V2.drew ao n cap l) := J1.out.below (Below.refl _ _).drew (Nat.le_refl _)
  have J2 : Hid (Sl V2.drew ap m capb p) := J2.out.below (Below.refl _ _).drew (Nat.le_refl _)
  have HB : Hid (Below w.heap.size w V2.drew) := HB.out.drew
  have kS : V2.drew.cell? ⟨w.heap.size, 0, none⟩ = some (.bool s) ∧ V2.drew.cell? ⟨w.heap.size, 1, none⟩ = some (.slice ao n cap) ∧ V2.drew.cell? ⟨w.heap.size + 1, 0, none⟩ = some (.bool t) ∧ V2.drew.cell? ⟨w.heap.size + 1, 1, none⟩ = some (.slice ap m capb) := ⟨X1.out.z0, X1.out.z1, X2.out.z0, X2.out.z1⟩
  go_region_held3 (fun w' => w'.cell? ⟨w.heap.size, 0, none⟩ = some (.bool s) ∧ w'.cell? ⟨w.heap.size, 1, none⟩ = some (.slice ao n cap) ∧ w'.cell? ⟨w.heap.size + 1, 0, none⟩ = some (.bool t) ∧ w'.cell? ⟨w.heap.size + 1, 1, none⟩ = some (.slice ap m capb))
    (first | exact kS | exact ⟨(set2_other (ne_boxes _)).trans kS.1, (set2_other (ne_boxes _)).trans kS.2.1, (set2_other (ne_boxes2 _)).trans kS.2.2.1, (set2_other (ne_boxes2 _)).trans kS.2.2.2⟩)
    (first | (go_at_call_of 53 (Value.slice ao n cap); refine (rtrim_any ao n cap l _ (by exact J1.out) HZ1.out (by omega)).mono ?_; rintro e w2 ⟨a2, c2, rfl, ho, hn2, hb⟩; have O2 : Hid (Own w2 _ a2 (tk l) c2 (l.take (tk l))) := ho; have J2 : Hid (Sl w2 ap m capb p) := J2.out.below hb (Nat.le_refl _); clear ho hn2; have X1 : Hid (Box w2 (w.heap.size) (.bool s) (.slice ao n cap)) := X1.out.below hb X1.out.lt; have X2 : Hid (Box w2 (w.heap.size + 1) (.bool t) (.slice ap m capb)) := X2.out.below hb X2.out.lt; have X3 : Hid (Box w2 (w.heap.size + 1 + 1) (.bool false) (.slice none 0 0)) := X3.out.below hb X3.out.lt; have HB : Hid (Below w.heap.size w w2) := HB.out.trans (hb.mono HB.out.size); clear kS; have kS : w2.cell? ⟨w.heap.size, 0, none⟩ = some (.bool s) ∧ w2.cell? ⟨w.heap.size, 1, none⟩ = some (.slice ao n cap) ∧ w2.cell? ⟨w.heap.size + 1, 0, none⟩ = some (.bool t) ∧ w2.cell? ⟨w.heap.size + 1, 1, none⟩ = some (.slice ap m capb) := ⟨X1.out.z0, X1.out.z1, X2.out.z0, X2.out.z1⟩; clear hb) | (go_at_call_of 53 (Value.slice ap m capb); refine (rtrim_any ap m capb p _ (by exact J2.out) HZ2.out (by omega)).mono ?_; rintro e w3 ⟨a3, c3, rfl, ho, hn3, hb⟩; have O3 : Hid (Own w3 _ a3 (tk p) c3 (p.take (tk p))) := ho; have O2 : Hid (Own w3 _ a2 (tk l) c2 (l.take (tk l))) := O2.out.below hb (Nat.le_refl _); clear ho hn3; have X1 : Hid (Box w3 (w.heap.size) (.bool s) (.slice ao n cap)) := X1.out.below hb X1.out.lt; have X2 : Hid (Box w3 (w.heap.size + 1) (.bool t) (.slice ap m capb)) := X2.out.below hb X2.out.lt; have X3 : Hid (Box w3 (w.heap.size + 1 + 1) (.bool false) (.slice none 0 0)) := X3.out.below hb X3.out.lt; have HB : Hid (Below w.heap.size w w3) := HB.out.trans (hb.mono HB.out.size); clear kS; have kS : w3.cell? ⟨w.heap.size, 0, none⟩ = some (.bool s) ∧ w3.cell? ⟨w.heap.size, 1, none⟩ = some (.slice ao n cap) ∧ w3.cell? ⟨w.heap.size + 1, 0, none⟩ = some (.bool t) ∧ w3.cell? ⟨w.heap.size + 1, 1, none⟩ = some (.slice ap m capb) := ⟨X1.out.z0, X1.out.z1, X2.out.z0, X2.out.z1⟩; clear hb) | (go_at_call 52; refine (rtimes_any a2 (tk l) c2 (l.take (tk l)) a3 (tk p) c3 (p.take (tk p)) w3 O2.out.sl O3.out.sl (by omega) (by omega)).mono ?_; rintro e w4 ⟨r4, rfl, ho, hv, hb⟩; rw [trim_val, trim_val] at hv; have O4 : Hid (Own w4 _ _ _ _ r4) := ho; have V4 : Hid (vl 4294967296 r4 = vl 4294967296 l * vl 4294967296 p) := hv; clear ho hv; have X1 : Hid (Box w4 (w.heap.size) (.bool s) (.slice ao n cap)) := X1.out.below hb X1.out.lt; have X2 : Hid (Box w4 (w.heap.size + 1) (.bool t) (.slice ap m capb)) := X2.out.below hb X2.out.lt; have X3 : Hid (Box w4 (w.heap.size + 1 + 1) (.bool false) (.slice none 0 0)) := X3.out.below hb X3.out.lt; have HB : Hid (Below w.heap.size w w4) := HB.out.trans (hb.mono HB.out.size); clear kS; have kS : w4.cell? ⟨w.heap.size, 0, none⟩ = some (.bool s) ∧ w4.cell? ⟨w.heap.size, 1, none⟩ = some (.slice ao n cap) ∧ w4.cell? ⟨w.heap.size + 1, 0, none⟩ = some (.bool t) ∧ w4.cell? ⟨w.heap.size + 1, 1, none⟩ = some (.slice ap m capb) := ⟨X1.out.z0, X1.out.z1, X2.out.z0, X2.out.z1⟩; clear hb) | (go_at_call 47; refine (rform_any (s != t) _ _ _ r4 w4 O4.out.sl (fun h => by cases h) (by omega)).mono ?_; rintro e w5 ⟨a5, c5, rfl, ho, hn5, hb⟩; rw [V4.out]; have hL4 := HB.out.size; have O5 : Hid (Own w5 (w.heap.size + 1 + 1 + 1) a5 (tk r4) c5 (r4.take (tk r4))) := ho.mono (by have := X3.out.lt; omega); have N5 : Hid (a5 = none → c5 = 0) := hn5; have K4 : tk r4 ≤ tk l + tk p := (tk_le O4.out.sl); clear ho hn5 hL4; have X1 : Hid (Box w5 (w.heap.size) (.bool s) (.slice ao n cap)) := X1.out.below hb X1.out.lt; have X2 : Hid (Box w5 (w.heap.size + 1) (.bool t) (.slice ap m capb)) := X2.out.below hb X2.out.lt; have X3 : Hid (Box w5 (w.heap.size + 1 + 1) (.bool false) (.slice none 0 0)) := X3.out.below hb X3.out.lt; have HB : Hid (Below w.heap.size w w5) := HB.out.trans (hb.mono HB.out.size); clear kS; have kS : w5.cell? ⟨w.heap.size, 0, none⟩ = some (.bool s) ∧ w5.cell? ⟨w.heap.size, 1, none⟩ = some (.slice ao n cap) ∧ w5.cell? ⟨w.heap.size + 1, 0, none⟩ = some (.bool t) ∧ w5.cell? ⟨w.heap.size + 1, 1, none⟩ = some (.slice ap m capb) := ⟨X1.out.z0, X1.out.z1, X2.out.z0, X2.out.z1⟩; clear hb) | (go_at_call 48; refine (rend_large _ a5 (tk r4) c5 (r4.take (tk r4)) w5 O5.out.sl N5.out (by omega) (by rw [trim_val, V4.out]; exact HBG.out)).mono ?_; rintro e w6 ⟨rfl, hb⟩; have O5 : Hid (Own w6 (w.heap.size + 1 + 1 + 1) a5 (tk r4) c5 (r4.take (tk r4))) := O5.out.below hb (Nat.le_refl _); have X1 : Hid (Box w6 (w.heap.size) (.bool s) (.slice ao n cap)) := X1.out.below hb X1.out.lt; have X2 : Hid (Box w6 (w.heap.size + 1) (.bool t) (.slice ap m capb)) := X2.out.below hb X2.out.lt; have X3 : Hid (Box w6 (w.heap.size + 1 + 1) (.bool false) (.slice none 0 0)) := X3.out.below hb X3.out.lt; have HB : Hid (Below w.heap.size w w6) := HB.out.trans (hb.mono HB.out.size); clear kS; have kS : w6.cell? ⟨w.heap.size, 0, none⟩ = some (.bool s) ∧ w6.cell? ⟨w.heap.size, 1, none⟩ = some (.slice ao n cap) ∧ w6.cell? ⟨w.heap.size + 1, 0, none⟩ = some (.bool t) ∧ w6.cell? ⟨w.heap.size + 1, 1, none⟩ = some (.slice ap m capb) := ⟨X1.out.z0, X1.out.z1, X2.out.z0, X2.out.z1⟩; clear hb; have z0 := X3.out.z0; have z1 := X3.out.z1; have f0 := X3.out.f0; have f1 := X3.out.f1))
  all_goals
    go_wp2_with fail
    refine bodyPost_ret (v := .tuple #[.agg #[.bool false, .slice none 0 0], .int .i64 2]) (by simp [results, Tryd.results30, go_sem, z0, z1]) rfl ⟨rfl, ?_⟩
    exact (HB.out.setCell (p := ⟨w.heap.size + 1 + 1, 0, none⟩) (by show w.heap.size ≤ w.heap.size + 1 + 1; omega) _).setCell (p := ⟨w.heap.size + 1 + 1, 1, none⟩) (by show w.heap.size ≤ w.heap.size + 1 + 1; omega) _
theorem rmul_any (s t : Bool) (ao : Option Addr) (n cap : Nat) (l : List Nat) (ap : Option Addr) (m capb : Nat) (p : List Nat) (w : World) (hl : Sl w ao n cap l) (hp : Sl w ap m capb p) (hz1 : ao = none → cap = 0) (hz2 : ap = none → capb = 0) (hn : n ≤ 1000) (hm : m ≤ 1000) :
    Calls Tryd.prog 30 #[.agg #[.bool s, .slice ao n cap], .agg #[.bool t, .slice ap m capb]] w fun e w' => MulP w w' e s (vl 4294967296 l) t (vl 4294967296 p) := by
  cases hbig : (bigN (vl 4294967296 l) || bigN (vl 4294967296 p))
  · have h1 : bigN (vl 4294967296 l) = false := by cases h : bigN (vl 4294967296 l) <;> simp_all
    have h2 : bigN (vl 4294967296 p) = false := by cases h : bigN (vl 4294967296 p) <;> simp_all
    cases hov : bigN (vl 4294967296 l * vl 4294967296 p)
    · refine (rmul_small s t ao n cap l ap m capb p w hl hp hz1 hz2 hn hm h1 h2 hov).mono fun e w' ⟨v, he, hi, hb⟩ => ⟨⟨v, ?_, ?_⟩, hb⟩
      · rw [he]; simp [mulE, eBig, h1, h2, hov]
      · simp only [mulS, mulV, hbig, cutN, hov]; exact hi
    · refine (rmul_over s t ao n cap l ap m capb p w hl hp hz1 hz2 hn hm h1 h2 hov).mono fun e w' ⟨he, hb⟩ => ⟨⟨.agg #[.bool false, .slice none 0 0], ?_, ?_⟩, hb⟩
      · rw [he]; simp [mulE, eBig, h1, h2, hov]
      · have e : mulV (vl 4294967296 l) (vl 4294967296 p) = 0 := by simp [mulV, cutN, h1, h2, hov]
        rw [mulS, e, sgB_zero]; exact IntR.zero _ _
  · refine (rmul_big s t ao n cap l ap m capb p w hl hp hz1 hz2 hn hm hbig).mono fun e w' ⟨he, hb⟩ => ⟨⟨.agg #[.bool false, .slice none 0 0], ?_, ?_⟩, hb⟩
    · rw [he]; simp only [mulE, hbig, if_true]
    · simp only [mulS, mulV, hbig, if_true, sgB_zero]; exact IntR.zero _ _
end Go.Proofs.YtfkkhabpnnealaaDoor

