/-
  The contract of exact.Parse at every text.
-/
import Derived.Test.YtimjafgaadafdaaDoorReadC
namespace Go.Proofs.YtimjafgaadafdaaDoor
open Go.RowKit
attribute [local go_sem ↓] Go.wp_at_zero Go.wp_at_succ
/-- what Parse answers at a number's text -/
structure ParC (S : ByteArray) (w : World) (e : Ending) (w' : World) : Prop where
  ex : ∃ v, e = .returned (.tuple #[v, .int .i64 (eBig (vl 10 (dl S)))]) ∧ IntR w' w.heap.size v false (cutN (vl 10 (dl S)))
  below : Below w.heap.size w w'
theorem sgB_f (N : Nat) : sgB false N = false := rfl
set_option maxHeartbeats 2000000 in
theorem parse_no (S : ByteArray) (w : World) (hs : S.size ≤ 1000000) (hN : ¬ NumP S) :
    Calls Tryd.prog 26 #[.string S] w fun e w' => e = .returned (.tuple #[.agg #[.bool false, .slice none 0 0], .int .i64 3]) ∧ Below w.heap.size w w' := by
  have HN : Hid (¬ NumP S) := hN
  clear hN
  go_enter Tryd.func26, Tryd.ntmps26
  go_wp2_with fail
  generalize hW : (World.alloc _ _) = W
  obtain ⟨x1, hb0, hs0⟩ := boxes1 w (.bool false) (.slice none 0 0) 24 hW
  have X1 : Hid (Box W w.heap.size (.bool false) (.slice none 0 0)) := x1
  have HB : Hid (Below w.heap.size w W) := hb0
  clear hW x1 hb0 hs0
  refine (numeral_any S _ hs).mono ?_
  rintro e V ⟨b, rfl, hi, hb⟩
  obtain rfl : b = false := by
    cases b
    · rfl
    · exact absurd (hi.1 rfl) HN.out
  have X1 : Hid (Box V w.heap.size (.bool false) (.slice none 0 0)) := X1.out.below hb X1.out.lt
  have HB : Hid (Below w.heap.size w V) := HB.out.trans (hb.mono HB.out.size)
  clear hb hi
  have z0 := X1.out.z0
  have z1 := X1.out.z1
  have f0 := X1.out.f0
  have f1 := X1.out.f1
  go_wp2_with fail
  refine bodyPost_ret (v := .tuple #[.agg #[.bool false, .slice none 0 0], .int .i64 3]) (by simp [results, Tryd.results26, go_sem, z0, z1]) rfl ⟨rfl, ?_⟩
  exact (HB.out.setCell (p := ⟨w.heap.size, 0, none⟩) (Nat.le_refl _) _).setCell (p := ⟨w.heap.size, 1, none⟩) (Nat.le_refl _) _
set_option maxHeartbeats 2000000 in
theorem parse_big (S : ByteArray) (w : World) (hs : S.size ≤ 1000000) (hN : NumP S) (h1 : 155 < S.size) :
    Calls Tryd.prog 26 #[.string S] w fun e w' => e = .returned (.tuple #[.agg #[.bool false, .slice none 0 0], .int .i64 2]) ∧ Below w.heap.size w w' := by
  have HN : Hid (NumP S) := hN
  clear hN
  go_enter Tryd.func26, Tryd.ntmps26
  go_wp2_with fail
  generalize hW : (World.alloc _ _) = W
  obtain ⟨x1, hb0, hs0⟩ := boxes1 w (.bool false) (.slice none 0 0) 24 hW
  have X1 : Hid (Box W w.heap.size (.bool false) (.slice none 0 0)) := x1
  have HB : Hid (Below w.heap.size w W) := hb0
  clear hW x1 hb0 hs0
  refine (numeral_any S _ hs).mono ?_
  rintro e V ⟨b, rfl, hi, hb⟩
  obtain rfl : b = true := hi.2 HN.out
  have X1 : Hid (Box V w.heap.size (.bool false) (.slice none 0 0)) := X1.out.below hb X1.out.lt
  have HB : Hid (Below w.heap.size w V) := HB.out.trans (hb.mono HB.out.size)
  clear hb hi
  have z0 := X1.out.z0
  have z1 := X1.out.z1
  have f0 := X1.out.f0
  have f1 := X1.out.f1
  go_wp2_with fail
  refine bodyPost_ret (v := .tuple #[.agg #[.bool false, .slice none 0 0], .int .i64 2]) (by simp [results, Tryd.results26, go_sem, z0, z1]) rfl ⟨rfl, ?_⟩
  exact (HB.out.setCell (p := ⟨w.heap.size, 0, none⟩) (Nat.le_refl _) _).setCell (p := ⟨w.heap.size, 1, none⟩) (Nat.le_refl _) _
set_option maxHeartbeats 4000000 in
theorem parse_small (S : ByteArray) (w : World) (hN : NumP S) (h1 : S.size ≤ 155) :
    Calls Tryd.prog 26 #[.string S] w fun e w' => ParC S w e w' := by
  have HN : Hid (NumP S) := hN
  clear hN
  go_enter Tryd.func26, Tryd.ntmps26
  go_wp2_with fail
  generalize hW : (World.alloc _ _) = W
  obtain ⟨x1, hb0, hs0⟩ := boxes1 w (.bool false) (.slice none 0 0) 24 hW
  have X1 : Hid (Box W w.heap.size (.bool false) (.slice none 0 0)) := x1
  have HB : Hid (Below w.heap.size w W) := hb0
  have HS : Hid (w.heap.size + 1 ≤ W.heap.size) := Nat.le_of_eq hs0.symm
  clear hW x1 hb0 hs0
  refine (numeral_any S _ (by omega)).mono ?_
  rintro e V ⟨b, rfl, hi, hb⟩
  obtain rfl : b = true := hi.2 HN.out
  have X1 : Hid (Box V w.heap.size (.bool false) (.slice none 0 0)) := X1.out.below hb X1.out.lt
  have HB : Hid (Below w.heap.size w V) := HB.out.trans (hb.mono HB.out.size)
  have HS : Hid (w.heap.size + 1 ≤ V.heap.size) := Nat.le_trans HS.out hb.size
  clear hb hi
  go_wp2_with fail
  refine (read_any S _ HN.out h1).mono ?_
  rintro e V2 ⟨rfl, hb⟩
  have X1 : Hid (Box V2 w.heap.size (.bool false) (.slice none 0 0)) := X1.out.below hb X1.out.lt
  have HB : Hid (Below w.heap.size w V2) := HB.out.trans (hb.mono HB.out.size)
  have HS : Hid (w.heap.size + 1 ≤ V2.heap.size) := Nat.le_trans HS.out hb.size
  clear hb
  obtain ⟨pl, hpl⟩ : ∃ pl, (List.range 18).map (pc (dl S) 0) = pl := ⟨_, rfl⟩
  have PW : Hid (Wd 1000000000 pl) := by rw [← hpl]; intro x hx; obtain ⟨g, _, rfl⟩ := List.mem_map.1 hx; exact pc_lt (dl S) HN.out.wd 0 g
  have PLn : Hid (pl.length = 18) := by rw [← hpl]; simp [Hid]
  have PV : Hid (vl 1000000000 pl = vl 10 (dl S)) := by rw [← hpl]; exact pc_vl 18 (dl S) (by rw [dl_len]; omega)
  rw [hpl]
  clear hpl
  go_wp2_with fail
  refine (words_any pl _ PLn.out PW.out).mono ?_
  rintro e V3 ⟨ao, k, cap, r, rfl, ho, hk, hv, hb⟩
  have O3 : Hid (Own V3 (w.heap.size + 1) ao k cap r) := ho.mono HS.out
  have V3V : Hid (vl 4294967296 r = vl 10 (dl S)) := hv.trans PV.out
  have X1 : Hid (Box V3 w.heap.size (.bool false) (.slice none 0 0)) := X1.out.below hb X1.out.lt
  have HB : Hid (Below w.heap.size w V3) := HB.out.trans (hb.mono HB.out.size)
  clear ho hv hb
  go_wp2_with fail
  refine (limited_any false ao k cap r _ O3.out.sl (by omega)).mono ?_
  rintro e V4 ⟨v4, rfl, hf, hb⟩
  rw [V3V.out, sgB_f] at hf
  rw [V3V.out]
  have HF : Hid (FormR ao k cap r v4 false (cutN (vl 10 (dl S)))) := hf
  obtain ⟨ao', k', cap', r', rfl, g1, g2, g3, g4⟩ := hf.ex
  clear g1 g2 g3 g4 hf
  have O4 : Hid (Own V4 (w.heap.size + 1) ao k cap r) := O3.out.below hb (Nat.le_refl _)
  have X1 : Hid (Box V4 w.heap.size (.bool false) (.slice none 0 0)) := X1.out.below hb X1.out.lt
  have HB : Hid (Below w.heap.size w V4) := HB.out.trans (hb.mono HB.out.size)
  clear hb O3
  have z0 := X1.out.z0
  have z1 := X1.out.z1
  have f0 := X1.out.f0
  have f1 := X1.out.f1
  go_wp2_with fail
  have ho2 := (O4.out.setCell (a := ⟨w.heap.size, 0, none⟩) (by show w.heap.size < w.heap.size + 1; omega) (.bool false)).setCell (a := ⟨w.heap.size, 1, none⟩) (by show w.heap.size < w.heap.size + 1; omega) (.slice ao' k' cap')
  refine bodyPost_ret (v := .tuple #[.agg #[.bool false, .slice ao' k' cap'], .int .i64 (eBig (vl 10 (dl S)))]) (by simp [results, Tryd.results26, go_sem, z0, z1]) rfl ⟨⟨_, rfl, HF.out.int ho2.sl (ho2.mono (by omega)).base⟩, ?_⟩
  exact (HB.out.setCell (p := ⟨w.heap.size, 0, none⟩) (Nat.le_refl _) _).setCell (p := ⟨w.heap.size, 1, none⟩) (Nat.le_refl _) _
theorem parse_yes (S : ByteArray) (w : World) (hs : S.size ≤ 1000000) (hN : NumP S) :
    Calls Tryd.prog 26 #[.string S] w fun e w' => ParC S w e w' := by
  by_cases h1 : S.size ≤ 155
  · exact parse_small S w hN h1
  · have hbg := hN.big (by omega)
    refine (parse_big S w hs hN (by omega)).mono fun e w' ⟨he, hb⟩ => ⟨⟨.agg #[.bool false, .slice none 0 0], ?_, ?_⟩, hb⟩
    · rw [he]; simp [eBig, hbg]
    · rw [show cutN (vl 10 (dl S)) = 0 from by simp [cutN, hbg]]; exact IntR.zero _ _
end Go.Proofs.YtimjafgaadafdaaDoor
