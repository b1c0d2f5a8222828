/-
  The law SpansSorted, of any edits.
-/
import Derived.Test.YtbgkdofjndocfaaLent
import Derived.Test.YtbgkdofjndocfaaWalkI
namespace Go.Proofs.Ytbgkdofjndocfaa
open Go.RowKit
attribute [local go_sem ↓] Go.wp_at_zero Go.wp_at_succ
theorem EdRow.arg {w w' : World} {base g : Nat} {out : List Ed} (h : EdRow w base g out) (hb : Below w.heap.size w w') : ∃ B o, some (⟨g, 0, none⟩ : Addr) = some ⟨B, o, none⟩ ∧ B < w'.heap.size ∧ EdsAt w' B o out :=
  ⟨g, 0, rfl, Nat.lt_of_lt_of_le h.hi hb.size, (cells_of_ed h.eds).below (fun _ => h.hi) hb⟩
set_option maxRecDepth 100000 in
set_option maxHeartbeats 2000000 in
theorem sortedLaw_any (v : Value) (l : List Ed) (w : World) (hn : l.length ≤ 2932031007400) (h : EdArg w v l) : Calls Try.prog 3 #[v] w fun e w' => e = .returned (.bool true) ∧ Below w.heap.size w w' := by
  have h7 := much_any v l w (by omega) h
  have HA : Hid (EdArg w v l) := h
  clear h
  go_enter Try.func3, Try.ntmps3
  go_wp2_with fail
  refine h7.mono ?_
  rintro e w1 ⟨q, rfl, b, rfl⟩
  clear h7
  have hb0 : Below w.heap.size w (w.drewN q) := below_drewN (Below.refl _ _) q
  have hA1 : EdArg (w.drewN q) v l := HA.out.below hb0
  have hz : (w.drewN q).heap.size = w.heap.size := rfl
  generalize hW : w.drewN q = W at *
  clear hW
  cases b
  · have h9 := lent_any v l W hn hA1
    go_wp2_with fail
    refine h9.mono ?_
    rintro e w1 ⟨hb1, g, cap, rfl, hcap, hown⟩
    clear h9
    have hs1 := hb1.size
    have hg1 := hown.lt g rfl
    have hA2 : EdArg w1 v l := hA1.below hb1
    have hxe : EdsAt w1 g 0 l := fun j u hu => by
      rw [Nat.zero_add, hown.cellAt j (by have := (List.getElem?_eq_some_iff.1 hu).1; rw [flatE_len] at this; omega), flatE_append, List.getElem?_append_left (List.getElem?_eq_some_iff.1 hu).1]
      exact hu
    have hxa : EdArg w1 (.slice (some ⟨g, 0, none⟩) l.length cap) l := .inr ⟨g, 0, cap, rfl, fun _ => hg1.2, hxe⟩
    have hzz : w1.cell? ⟨g, l.length * 4, none⟩ = some (.string ⟨#[122, 122]⟩) := by
      rw [hown.cellAt _ (by omega), flatE_append, List.getElem?_append_right (by rw [flatE_len]; omega), flatE_len, Nat.sub_self]
      rfl
    have h10 := sorted_sp _ l w1 (by omega) hxa
    clear hown
    go_wp2_with fail
    refine h10.mono ?_
    intro e w2 hp2
    clear h10
    have hb2 := hp2.1
    obtain ⟨a, cap', out, ec, rfl, hrow, hout⟩ := hp2.form
    have hs2 := hb2.size
    have hA3 : EdArg w2 v l := hA2.below hb2
    have h11 := rsorted_sp v l w2 (by omega) hA3
    clear hp2
    go_wp2_with fail
    refine h11.mono ?_
    intro e w3 hp3
    clear h11
    have hb3 := hp3.1
    obtain ⟨a', cap'', out', ec', rfl, hrow', hout'⟩ := hp3.form
    obtain ⟨rfl, rfl⟩ := out_same hout hout'
    have hs3 := hb3.size
    have hol := out_len hout
    have h12 := edits_shape a a' cap' cap'' out w3 (by omega) (fun h0 => by obtain ⟨g', rfl, hr⟩ := hrow h0; exact hr.arg hb3) (fun h0 => by obtain ⟨g', rfl, hr⟩ := hrow' h0; exact hr.arg (Below.refl _ _))
    clear hp3 hout hout'
    go_wp2_with fail
    refine h12.mono ?_
    rintro e w4 ⟨rfl, q4, rfl⟩
    clear h12
    have hb4 : Below w1.heap.size w1 (w3.drewN q4) := below_drewN (hb2.trans (hb3.mono hs2)) q4
    have hcl : ∀ gA, a = some ⟨gA, 0, none⟩ → ∀ o, o < out.length * 4 → (∃ u, (w3.drewN q4).cell? ⟨gA, o, none⟩ = some u) ∧ (w3.drewN q4).frozen? ⟨gA, o, none⟩ = false := fun gA ha o ho => by
      obtain ⟨g', ha', hr⟩ := hrow (by omega)
      rw [ha] at ha'
      simp at ha'
      subst ha'
      refine ⟨by simpa using cells_some (fun j hj => (hr.eds j hj).below hr.hi hb3) o ho, ?_⟩
      have := (hb3.frozen (p := ⟨gA, o, none⟩) hr.hi).trans (hr.fz o ho)
      simpa using this
    have hlo : ∀ gA, a = some ⟨gA, 0, none⟩ → 0 < out.length → w1.heap.size ≤ gA := fun gA ha h0 => by
      obtain ⟨g', ha', hr⟩ := hrow h0
      rw [ha] at ha'
      simp at ha'
      subst ha'
      exact hr.lo
    have hfm : 0 < out.length → ∃ gA, a = some ⟨gA, 0, none⟩ := fun h0 => by
      obtain ⟨g', ha', _⟩ := hrow h0
      exact ⟨g', ha'⟩
    have HCL : Hid (∀ gA, a = some ⟨gA, 0, none⟩ → ∀ o, o < out.length * 4 → (∃ u, (w3.drewN q4).cell? ⟨gA, o, none⟩ = some u) ∧ (w3.drewN q4).frozen? ⟨gA, o, none⟩ = false) := hcl
    have HLO : Hid (∀ gA, a = some ⟨gA, 0, none⟩ → 0 < out.length → w1.heap.size ≤ gA) := hlo
    have HB4 : Hid (Below w1.heap.size w1 (w3.drewN q4)) := hb4
    have HX : Hid (EdArg w1 (.slice (some ⟨g, 0, none⟩) l.length cap) l ∧ EdArg w1 v l ∧ w1.cell? ⟨g, l.length * 4, none⟩ = some (.string ⟨#[122, 122]⟩) ∧ Below w.heap.size w w1) := ⟨hxa, hA2, hzz, hb0.trans (hb1.mono (by omega))⟩
    clear hcl hlo hb4 hrow hrow' hxa hxe hA1 hA2 hA3 hzz hb2 hb3 hb0 hb1
    generalize w3.drewN q4 = W4 at *
    go_wp2_with fail
    go_loopw [9] (fun i w' => ∃ k : Nat, k ≤ out.length ∧ i = .int .i64 k ∧ Below w1.heap.size w1 w' ∧ Hid (∀ gA, a = some ⟨gA, 0, none⟩ → ∀ o, o < out.length * 4 → (∃ u, w'.cell? ⟨gA, o, none⟩ = some u) ∧ w'.frozen? ⟨gA, o, none⟩ = false)) (fun i _ => out.length - (intOf i).toNat)
    case atStart => exact ⟨0, by omega, rfl, HB4.out, HCL⟩
    case round =>
      obtain ⟨k, hk, rfl, hbk, HK⟩ := hrel
      have HBK : Hid (Below w1.heap.size w1 wr) := hbk
      by_cases hlt : k < out.length
      · obtain ⟨gA, rfl⟩ := hfm (by omega)
        have hga := HLO.out gA rfl (by omega)
        obtain ⟨⟨u, hu⟩, hf⟩ := HK.out gA rfl (k * 4 + 3) (by omega)
        have z1 : (0 : Int) ≤ (k : Int) := by omega
        have z2 : (k : Int) < (out.length : Int) := by omega
        clear hbk
        go_wp2_with fail
        go_roundw
        case rel =>
          refine ⟨k + 1, by omega, by go_num, HBK.out.setCell (p := ⟨gA, k * 4 + 3, none⟩) hga _, fun gB hB o ho => ?_⟩
          obtain ⟨⟨u2, h2⟩, h3⟩ := HK.out gB hB o ho
          exact ⟨set_some h2, by simpa using h3⟩
        case measure => simp [intOf]; omega
      · have hx1 := HX.out.1.below hbk
        have hx2 := HX.out.2.1.below hbk
        have hx3 := (hbk.cell (p := ⟨g, l.length * 4, none⟩) hg1.2).trans HX.out.2.2.1
        obtain ⟨av, cv, hv, hvs⟩ := hx2.shape
        obtain ⟨ax, cx, hx, hxs⟩ := hx1.shape
        have h12 := edits_shape ax av cx cv l wr (by omega) hxs hvs
        rw [← hx] at h12
        subst hv
        have HX3 : Hid _ := hx3
        have z1 : IntKind.i64.wrap ((l.length : Int) + 1) = (l.length : Int) + 1 := IntWalk.i64_in _ (by omega)
        clear hbk hx1 hx2 hx hxs hvs HK
        go_wp2_with fail
        refine h12.mono ?_
        rintro e w5 ⟨rfl, q5, rfl⟩
        clear h12
        have hx4 : (wr.drewN q5).cell? ⟨g, l.length * 4, none⟩ = some (.string ⟨#[122, 122]⟩) := (drewN_cell wr q5 _).trans HX3.out
        have HB5 : Hid (Below w.heap.size w (wr.drewN q5)) := HX.out.2.2.2.trans ((below_drewN HBK.out q5).mono HX.out.2.2.2.size)
        generalize hN : l.length = N at *
        have z2 : (0 : Int) ≤ (N : Int) := by omega
        have z3 : (N : Int) < (N : Int) + 1 := by omega
        have z4 : (N : Int) + 1 ≤ (cap : Int) := by omega
        have z5 : (0 : Int) ≤ (N : Int) + 1 := by omega
        have z6 : ((N : Int) + 1).toNat = N + 1 := by omega
        clear HX HX3 HBK hN
        generalize wr.drewN q5 = W5 at *
        go_wp2_with fail
        refine (awake_any _).mono ?_
        rintro e w6 ⟨rfl, hb6⟩
        go_wp2
        go_ret
        exact ⟨rfl, HB5.out.trans (hb6.mono HB5.out.size)⟩
  · go_wp2_with fail
    refine (awake_any _).mono ?_
    rintro e w2 ⟨rfl, hb2⟩
    go_wp2
    go_ret
    exact ⟨rfl, hb0.trans (hb2.mono (by omega))⟩
end Go.Proofs.Ytbgkdofjndocfaa
