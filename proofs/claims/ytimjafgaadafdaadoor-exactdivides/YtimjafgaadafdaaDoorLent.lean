/-
  The contracts of the law's own lent and back at every argument.
-/
import Derived.Test.YtimjafgaadafdaaDoorRefE
namespace Go.Proofs.YtimjafgaadafdaaDoor
open Go.RowKit
attribute [local go_sem ↓] Go.wp_at_zero Go.wp_at_succ
set_option maxHeartbeats 2000000 in
theorem lent_any (s : Bool) (ao : Option Addr) (n cap : Nat) (l : List Nat) (w : World) (hl : Sl w ao n cap l) (hz : ao = none → cap = 0) (hn : n ≤ 1000) :
    Calls Tryd.prog 11 #[.agg #[.bool s, .slice ao n cap]] w fun e w' => ∃ (b cap' : Nat), e = .returned (.agg #[.bool s, .slice (some ⟨b, 0, none⟩) n cap']) ∧ Own w' w.heap.size (some ⟨b, 0, none⟩) (n + 1) cap' (l ++ [77]) ∧ Below w.heap.size w w' := by
  have HL : Hid (Sl w ao n cap l) := hl
  have HZ : Hid (ao = none → cap = 0) := hz
  have HWD : Hid (Wd 4294967296 l) := hl.wd
  clear hl hz
  obtain ⟨i0, hi, hz0, hz1, hz2⟩ := info_parts Tryd.info47
  cases ao with
  | none =>
    obtain rfl := HZ.out rfl
    obtain rfl : n = 0 := by have := HL.out.lec; omega
    obtain rfl : l = [] := List.eq_nil_of_length_eq_zero HL.out.len
    go_enter Tryd.func11, Tryd.ntmps11
    go_wp2_with (first | (at_builtin; refine wpList_append_own_none rfl _ _ 22 rfl (w.heap.size + 1 + 1) 47 i0 1 Tryd.underlying22 hi _ _ _ rfl (World.ownsRow_nil _ (w.heap.size + 1 + 1) 47 1) rfl ?_; obtain ⟨x1, x2, hb, hs⟩ := boxes2 w (.bool s) (.slice none 0 0) (.bool false) (.slice none 0 0) 24 24 0 rfl; have X1 : Hid (Box _ w.heap.size (.bool s) (.slice none 0 0)) := x1; have X2 : Hid (Box _ (w.heap.size + 1) (.bool false) (.slice none 0 0)) := x2; have HB : Hid (Below w.heap.size w _) := hb; generalize hW : World.alloc (World.alloc _ _) _ = w1 at *; have hsz : w.heap.size + 1 + 1 ≤ w1.heap.size := (Nat.le_of_eq hs.symm); have HR : Hid (w1.ownsRow (w.heap.size + 1 + 1) 47 1 (.slice none 0 0) 0 (([] : List Nat).map eU)) := (World.ownsRow_nil _ _ 47 1); clear x1 x2 hb hs hW) | (at_builtin; refine wpList_append_own _ rfl _ _ 22 rfl (w.heap.size + 1 + 1) 47 i0 (.int .u32 0) 1 4 Tryd.underlying22 hi hz0 hz1 hz2 rfl (by decide) _ _ _ rfl (HR.out.alloc _) ⟨w1.heap.size, 0, none⟩ 1 1 [_] rfl rfl (news1 _ _ _) (one1 _) (by unfold maxLen; omega) (by omega) (by simp; omega) ?_; intro v2 w2 hown hgrow _; have hb2 : Below (w.heap.size + 1 + 1) w1 w2 := (((Below.refl _ w1).alloc hsz _).grown hgrow (by simp; omega) (fun k hk => (HR.out.lt k hk).1)); have X1 : Hid (Box w2 w.heap.size (.bool s) (.slice none 0 0)) := X1.out.below hb2 (by omega); have X2 : Hid (Box w2 (w.heap.size + 1) (.bool false) (.slice none 0 0)) := X2.out.below hb2 (by omega); have HB : Hid (Below w.heap.size w w2) := HB.out.trans (hb2.mono (by omega)); obtain ⟨ao', cap', rfl, ho⟩ := Own.of_row (row_put hown (t := 77) rfl) (Wd.append.2 ⟨HWD.out, (by simp [Wd])⟩); obtain ⟨b, rfl, h1, h2, h3⟩ := ho.own (by omega); have hcap' := ho.sl.lec; have hmx' := ho.sl.mx; have HO : Hid (Own w2 (w.heap.size + 1 + 1) (some ⟨b, 0, none⟩) _ cap' ([] ++ [77])) := ho; have z0 := X1.out.z0; have z1 := X1.out.z1; have y0 := X2.out.z0; have y1 := X2.out.z1; have f0 := X2.out.f0; have f1 := X2.out.f1; clear hown hgrow hb2 ho h1 h2 h3))
    go_wp2_with fail
    have X1 : Hid (Box w2.drew w.heap.size (.bool s) (.slice none 0 0)) := X1.out.below (Below.refl _ _).drew X1.out.lt
    have X2 : Hid (Box w2.drew (w.heap.size + 1) (.bool false) (.slice none 0 0)) := X2.out.below (Below.refl _ _).drew X2.out.lt
    have hq1 : (0 : Int) ≤ (cap' : Int) := by omega
    have kS : w2.drew.cell? ⟨w.heap.size, 0, none⟩ = some (.bool s) ∧ w2.drew.cell? ⟨w.heap.size, 1, none⟩ = some (.slice none 0 0) := ⟨X1.out.z0, X1.out.z1⟩
    have y0' := X2.out.z0
    have y1' := X2.out.z1
    have f0' := X2.out.f0
    have f1' := X2.out.f1
    go_region_held3 (fun w' => w'.cell? ⟨w.heap.size, 0, none⟩ = some (.bool s) ∧ w'.cell? ⟨w.heap.size, 1, none⟩ = some (.slice none 0 0))
      (first | exact kS | exact And.intro ((set2_other (ne_boxes1 _)).trans kS.1) ((set2_other (ne_boxes1 _)).trans kS.2))
      (fail)
    go_wp2_with fail
    have ho2 := (HO.out.setCell (a := ⟨w.heap.size + 1, 0, none⟩) (by show w.heap.size + 1 < w.heap.size + 1 + 1; omega) (.bool s)).setCell (a := ⟨w.heap.size + 1, 1, none⟩) (by show w.heap.size + 1 < w.heap.size + 1 + 1; omega) (.slice (some ⟨b, 0, none⟩) 0 cap')
    refine bodyPost_ret (v := .agg #[.bool s, .slice (some ⟨b, 0, none⟩) 0 cap']) (by simp [results, Tryd.results11, go_sem, y0, y1]) rfl ⟨b, cap', rfl, ?_, ?_⟩
    · exact (ho2.mono (by omega)).below (Below.refl _ _).drew (Nat.le_refl _)
    · exact ((HB.out.setCell (p := ⟨w.heap.size + 1, 0, none⟩) (by show w.heap.size ≤ w.heap.size + 1; omega) _).setCell (p := ⟨w.heap.size + 1, 1, none⟩) (by show w.heap.size ≤ w.heap.size + 1; omega) _).drew
  | some ad =>
    go_enter Tryd.func11, Tryd.ntmps11
    go_wp2_with (first | (at_builtin; refine wpList_append_own _ rfl _ _ 22 rfl (w.heap.size + 1 + 1) 47 i0 (.int .u32 0) 1 4 Tryd.underlying22 hi hz0 hz1 hz2 rfl (by decide) _ _ _ rfl (World.ownsRow_nil _ (w.heap.size + 1 + 1) 47 1) ad n cap (l.map eU) rfl (by rw [List.length_map, HL.out.len, Nat.mul_one]) ((HL.out.below (boxes2 w _ _ _ _ _ _ 0 rfl).2.2.1 (Nat.le_refl _)).news) eU_one (by unfold maxLen; omega) (by omega) (by simp) ?_; intro v1 w1 hown hgrow _; obtain ⟨x1, x2, hb, hs⟩ := boxes2 w (.bool s) (.slice (some ad) n cap) (.bool false) (.slice none 0 0) 24 24 0 rfl; have hb1 := (Below.refl (w.heap.size + 1 + 1) _).grown hgrow (by rw [← hs]; exact Nat.le_refl _) (fun k hk => by cases hk); have X1 : Hid (Box w1 w.heap.size (.bool s) (.slice (some ad) n cap)) := x1.below hb1 (by omega); have X2 : Hid (Box w1 (w.heap.size + 1) (.bool false) (.slice none 0 0)) := x2.below hb1 (by omega); have HB : Hid (Below w.heap.size w w1) := hb.trans (hb1.mono (by omega)); have hsz : w.heap.size + 1 + 1 ≤ w1.heap.size := (by have := hb1.size; rw [← hs]; exact this); have HR : Hid (w1.ownsRow (w.heap.size + 1 + 1) 47 1 v1 (0 + n) ([] ++ l.map eU)) := hown; clear hown hgrow x1 x2 hb hs hb1) | (at_builtin; refine wpList_append_own _ rfl _ _ 22 rfl (w.heap.size + 1 + 1) 47 i0 (.int .u32 0) 1 4 Tryd.underlying22 hi hz0 hz1 hz2 rfl (by decide) _ _ _ rfl (HR.out.alloc _) ⟨w1.heap.size, 0, none⟩ 1 1 [_] rfl rfl (news1 _ _ _) (one1 _) (by unfold maxLen; omega) (by omega) (by simp; omega) ?_; intro v2 w2 hown hgrow _; have hb2 : Below (w.heap.size + 1 + 1) w1 w2 := (((Below.refl _ w1).alloc hsz _).grown hgrow (by simp; omega) (fun k hk => (HR.out.lt k hk).1)); have X1 : Hid (Box w2 w.heap.size (.bool s) (.slice (some ad) n cap)) := X1.out.below hb2 (by omega); have X2 : Hid (Box w2 (w.heap.size + 1) (.bool false) (.slice none 0 0)) := X2.out.below hb2 (by omega); have HB : Hid (Below w.heap.size w w2) := HB.out.trans (hb2.mono (by omega)); obtain ⟨ao', cap', rfl, ho⟩ := Own.of_row (row_put (r := l) (by simpa using hown) (t := 77) rfl) (Wd.append.2 ⟨HWD.out, (by simp [Wd])⟩); obtain ⟨b, rfl, h1, h2, h3⟩ := ho.own (by omega); have hcap' := ho.sl.lec; have hmx' := ho.sl.mx; have HO : Hid (Own w2 (w.heap.size + 1 + 1) (some ⟨b, 0, none⟩) _ cap' (l ++ [77])) := ho; have z0 := X1.out.z0; have z1 := X1.out.z1; have y0 := X2.out.z0; have y1 := X2.out.z1; have f0 := X2.out.f0; have f1 := X2.out.f1; clear hown hgrow hb2 ho h1 h2 h3))
    go_wp2_with fail
    have X1 : Hid (Box w2.drew w.heap.size (.bool s) (.slice (some ad) n cap)) := X1.out.below (Below.refl _ _).drew X1.out.lt
    have X2 : Hid (Box w2.drew (w.heap.size + 1) (.bool false) (.slice none 0 0)) := X2.out.below (Below.refl _ _).drew X2.out.lt
    have hq1 : (0 : Int) ≤ (n : Int) := by omega
    have hq2 : (n : Int) ≤ (cap' : Int) := by omega
    have hq3 : ((n + 1 : Nat) : Int) ≤ (cap' : Int) := by omega
    have kS : w2.drew.cell? ⟨w.heap.size, 0, none⟩ = some (.bool s) ∧ w2.drew.cell? ⟨w.heap.size, 1, none⟩ = some (.slice (some ad) n cap) := ⟨X1.out.z0, X1.out.z1⟩
    have y0' := X2.out.z0
    have y1' := X2.out.z1
    have f0' := X2.out.f0
    have f1' := X2.out.f1
    go_region_held3 (fun w' => w'.cell? ⟨w.heap.size, 0, none⟩ = some (.bool s) ∧ w'.cell? ⟨w.heap.size, 1, none⟩ = some (.slice (some ad) n cap))
      (first | exact kS | exact And.intro ((set2_other (ne_boxes1 _)).trans kS.1) ((set2_other (ne_boxes1 _)).trans kS.2))
      (fail)
    go_wp2_with fail
    have ho2 := (HO.out.setCell (a := ⟨w.heap.size + 1, 0, none⟩) (by show w.heap.size + 1 < w.heap.size + 1 + 1; omega) (.bool s)).setCell (a := ⟨w.heap.size + 1, 1, none⟩) (by show w.heap.size + 1 < w.heap.size + 1 + 1; omega) (.slice (some ⟨b, 0, none⟩) n cap')
    refine bodyPost_ret (v := .agg #[.bool s, .slice (some ⟨b, 0, none⟩) n cap']) (by simp [results, Tryd.results11, go_sem, y0, y1]) rfl ⟨b, cap', rfl, ?_, ?_⟩
    · exact (ho2.mono (by omega)).below (Below.refl _ _).drew (Nat.le_refl _)
    · exact ((HB.out.setCell (p := ⟨w.heap.size + 1, 0, none⟩) (by show w.heap.size ≤ w.heap.size + 1; omega) _).setCell (p := ⟨w.heap.size + 1, 1, none⟩) (by show w.heap.size ≤ w.heap.size + 1; omega) _).drew
set_option maxHeartbeats 2000000 in
theorem back_any (s : Bool) (b cap' : Nat) (ao : Option Addr) (n cap : Nat) (l : List Nat) (base : Nat) (w : World) (ho : Own w base (some ⟨b, 0, none⟩) (n + 1) cap' (l ++ [77])) (hl : Sl w ao n cap l) (hn : n ≤ 1000) :
    Calls Tryd.prog 21 #[.agg #[.bool s, .slice (some ⟨b, 0, none⟩) n cap'], .agg #[.bool s, .slice ao n cap]] w fun e w' => e = .returned (.bool true) ∧ Below w.heap.size w w' := by
  have hcap := ho.sl.lec
  have hmx := ho.sl.mx
  have HX : Hid (Sl w (some ⟨b, 0, none⟩) n cap' l) := by
    have h := ho.sl.take n (by omega)
    rw [List.take_append_of_le_length (by rw [hl.len]; exact Nat.le_refl _), List.take_of_length_le (by rw [hl.len]; exact Nat.le_refl _)] at h
    exact h
  have HC : Hid (b < w.heap.size ∧ w.cell? ⟨b, 0 + n, none⟩ = some (.int .u32 77)) := by
    obtain ⟨b', o', e, hb, hc⟩ := ho.sl.at_ (by omega)
    cases e
    refine ⟨hb, ?_⟩
    rw [hc n (by omega), List.getD_eq_getElem?_getD, List.getElem?_append_right (by rw [hl.len]; exact Nat.le_refl _), hl.len]
    simp
  have HL : Hid (Sl w ao n cap l) := hl
  clear ho hl
  have hq1 : (0 : Int) ≤ (n : Int) := by omega
  have hq2 : (n : Int) + 1 ≤ (cap' : Int) := by omega
  have hq3 : (n : Int) < (n : Int) + 1 := by omega
  have hq4 : (0 : Int) ≤ (n : Int) + 1 := by omega
  go_enter Tryd.func21, Tryd.ntmps21
  go_wp2_with fail
  obtain ⟨x1, x2, hbW, hzW⟩ := boxes2 w (.bool s) (.slice (some ⟨b, 0, none⟩) n cap') (.bool s) (.slice ao n cap) 24 24 0 rfl
  have X1 : Hid (Box _ _ _ _) := x1
  have X2 : Hid (Box _ _ _ _) := x2
  have HBW : Hid (Below w.heap.size w _) := hbW
  clear x1 x2 hbW hzW
  generalize hW : World.alloc _ _ = W at *
  have X1 : Hid (Box W.drew w.heap.size (.bool s) (.slice (some ⟨b, 0, none⟩) n cap')) := X1.out.below (Below.refl _ _).drew X1.out.lt
  have X2 : Hid (Box W.drew (w.heap.size + 1) (.bool s) (.slice ao n cap)) := X2.out.below (Below.refl _ _).drew X2.out.lt
  have HB : Hid (Below w.heap.size w W.drew) := HBW.out.drew
  have HC7 : Hid (W.drew.cell? ⟨b, n, none⟩ = some (.int .u32 77)) := by
    have h := (HB.out.cell (p := ⟨b, 0 + n, none⟩) HC.out.1).trans HC.out.2
    rw [Nat.zero_add] at h
    exact h
  clear HBW hW
  have kS : W.drew.cell? ⟨w.heap.size, 0, none⟩ = some (.bool s) ∧ W.drew.cell? ⟨w.heap.size, 1, none⟩ = some (.slice (some ⟨b, 0, none⟩) n cap') ∧ W.drew.cell? ⟨w.heap.size + 1, 0, none⟩ = some (.bool s) ∧ W.drew.cell? ⟨w.heap.size + 1, 1, none⟩ = some (.slice ao n cap) ∧ W.drew.cell? ⟨b, n, none⟩ = some (.int .u32 77) := ⟨X1.out.z0, X1.out.z1, X2.out.z0, X2.out.z1, HC7.out⟩
  have hwr : IntKind.i64.wrap ((n : Int) + 1) = (n : Int) + 1 := by simp [IntKind.wrap, IntKind.bits, IntKind.signed]; omega
  go_region_held3 (fun w' => w'.cell? ⟨w.heap.size, 0, none⟩ = some (.bool s) ∧ w'.cell? ⟨w.heap.size, 1, none⟩ = some (.slice (some ⟨b, 0, none⟩) n cap') ∧ w'.cell? ⟨w.heap.size + 1, 0, none⟩ = some (.bool s) ∧ w'.cell? ⟨w.heap.size + 1, 1, none⟩ = some (.slice ao n cap) ∧ w'.cell? ⟨b, n, none⟩ = some (.int .u32 77))
    (exact kS)
    (first | (go_at_call 16; refine (whole_same s _ n cap' l ao cap _ (HX.out.below HB.out (Nat.le_refl _)) (HL.out.below HB.out (Nat.le_refl _))).mono ?_; rintro e V ⟨rfl, hb⟩; have X1 : Hid (Box V w.heap.size (.bool s) (.slice (some ⟨b, 0, none⟩) n cap')) := X1.out.below hb X1.out.lt; have X2 : Hid (Box V (w.heap.size + 1) (.bool s) (.slice ao n cap)) := X2.out.below hb X2.out.lt; have HC7 : Hid (V.cell? ⟨b, n, none⟩ = some (.int .u32 77)) := ((hb.cell (p := ⟨b, n, none⟩) (Nat.lt_of_lt_of_le HC.out.1 HB.out.size)).trans HC7.out); have HB : Hid (Below w.heap.size w V) := HB.out.trans (hb.mono HB.out.size); clear kS hb; have kS : V.cell? ⟨w.heap.size, 0, none⟩ = some (.bool s) ∧ V.cell? ⟨w.heap.size, 1, none⟩ = some (.slice (some ⟨b, 0, none⟩) n cap') ∧ V.cell? ⟨w.heap.size + 1, 0, none⟩ = some (.bool s) ∧ V.cell? ⟨w.heap.size + 1, 1, none⟩ = some (.slice ao n cap) ∧ V.cell? ⟨b, n, none⟩ = some (.int .u32 77) := ⟨X1.out.z0, X1.out.z1, X2.out.z0, X2.out.z1, HC7.out⟩))
  all_goals
    go_wp2_with fail
    go_ret
    exact ⟨rfl, HB.out⟩
end Go.Proofs.YtimjafgaadafdaaDoor
