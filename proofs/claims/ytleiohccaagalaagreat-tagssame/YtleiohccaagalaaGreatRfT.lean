/-
  The document's Sets, walked.
-/
import Derived.Test.YtleiohccaagalaaGreatRfS
namespace Go.Proofs.YtleiohccaagalaaGreat
open Go.RowKit Go.Sort
attribute [local go_sem ↓] Go.wp_at_zero Go.wp_at_succ
/-- where the outer loop stands -/
structure RsO (w wr : World) (T : List Bs) (a1 : Option Addr) (c1 m : Nat) (u4 : Value) : Prop where
  bl : Below w.heap.size w wr
  row : SRow wr w.heap.size (.slice a1 T.length c1) T
  out : Rw2 wr w.heap.size u4 (fst T m)
set_option maxRecDepth 100000 in
set_option maxHeartbeats 4000000 in
theorem rsets_any {w : World} {a : Option Addr} {n c : Nat} {l : List Bs} (h : TxV w a n c l) (hn : n ≤ 8796093021952) : Calls Tryz.prog 21 #[.slice a n c] w (SetQ w (sets (eo l))) := by
  have h1 := rsorted_any h hn
  have hlen : (eo l).length ≤ n := by rw [h.len]; exact eo_le l
  clear h
  unfold sets
  generalize eo l = T at *
  by_cases h10 : T.length ≤ 10
  · rw [if_pos h10]
    have k1 : ¬ (10 : Int) < (T.length : Int) := by omega
    have hpow : 2 ^ T.length ≤ 1024 := Nat.pow_le_pow_right (by omega) h10 (n := 2)
    obtain ⟨P, hP⟩ : ∃ P, P = 2 ^ T.length := ⟨_, rfl⟩
    have hw : wrap64 (2 ^ T.length) = (P : Int) := by
      have e : ((2 : Int) ^ T.length) = (P : Int) := by rw [hP]; simp
      rw [e]; rw [← hP] at hpow; unfold wrap64; omega
    rw [← hP] at hpow ⊢
    clear hP
    go_enter Tryz.func21, Tryz.ntmps21
    go_wp2_with (go_at_call 20; refine h1.mono ?_; intro e w1 hq; obtain ⟨a1, c1, rfl, hr1⟩ := hq.ex; have HR1 : Hid (SRow w1 w.heap.size (.slice a1 T.length c1) T) := hr1; have HB1 : Hid (Below w.heap.size w w1) := hq.bl; clear hq hr1 h1)
    go_loopg [4, 5, 6, 7] P (fun g u4 u5 u6 u7 wr => ∃ (m : Nat) (b : Option Addr) (d : Nat), m ≤ P ∧ P - m ≤ g ∧ u5 = .int .i64 m ∧ u4 = .slice b m d ∧ Hid (RsO w wr T a1 c1 m (.slice b m d)))
    case atStart => exact ⟨0, none, 0, Nat.zero_le _, Nat.le_refl _, rfl, rfl, HB1.out, HR1.out, Rw2.nil _ _⟩
    case round =>
      obtain ⟨m, b, d, hm, hg, rfl, rfl, HX⟩ := hrel
      by_cases hlt : m < P
      · have z1 : (m : Int) < (P : Int) := by omega
        have hsz := HX.out.bl.size
        obtain ⟨W1, hW1⟩ : ∃ W1, W1 = wr := ⟨_, rfl⟩
        have HW1 : Hid (RsO w W1 T a1 c1 m (.slice b m d)) := by rw [hW1]; exact HX.out
        have hsz1 : w.heap.size ≤ W1.heap.size := by rw [hW1]; exact hsz
        have HE1 : Hid (Below W1.heap.size W1 wr) := by rw [hW1]; exact Below.refl _ _
        clear HX hW1 hsz
        go_wp2_with fail
        rw [hw]
        go_loopg [6, 7] T.length (fun g u6 u7 wr => ∃ (i : Nat) (b2 : Option Addr) (d2 : Nat), i ≤ T.length ∧ T.length - i ≤ g ∧ u7 = .int .i64 i ∧ u6 = .slice b2 (chs T m i).length d2 ∧ Hid (SRow wr W1.heap.size (.slice b2 (chs T m i).length d2) (chs T m i) ∧ Below W1.heap.size W1 wr))
        case atStart => exact ⟨0, none, 0, Nat.zero_le _, by omega, rfl, rfl, SRow.nil _ _, HE1.out⟩
        case round =>
          obtain ⟨i, b2, d2, hi, hgi, rfl, rfl, HY⟩ := hrel
          by_cases hil : i < T.length
          · have y1 : (i : Int) < (T.length : Int) := by omega
            have y0 : (0 : Int) ≤ (i : Int) := by omega
            have hTr : TxV wr a1 T.length c1 T := SRow.txv (own_whole HW1.out.row HY.out.2)
            obtain ⟨g1, o1, rfl, ht⟩ := hTr.cell hil
            have hsl := HY.out.2.size
            have hbd := bit_dig m (T.length - 1 - i) (by omega)
            have HS : Hid (chs T m (i + 1) = chs T m i ++ if dig m (T.length - 1 - i) then [T[i]] else []) := by
              show _ = _
              rw [chs_succ, show T.getD i [] = T[i] by simp [List.getD, List.getElem?_eq_getElem hil]]
            have hle := chs_le T m i
            clear hTr
            cases hd : dig m (T.length - 1 - i) with
            | true =>
              rw [hd] at hbd HS
              clear hd
              have HS1 : Hid (chs T m (i + 1) = chs T m i ++ [T[i]]) := by have := HS.out; show _ = _; simpa using this
              clear HS
              generalize chs T m i = C at *
              go_wp2_with (at_builtin; refine wp_app1 (by rfl) _ _ (by rfl) W1.heap.size (.slice b2 C.length d2) C T[i] wr.heap.size (by rfl) (HY.out.1.alloc _) (by rfl) (cell_new _ _ _) (by omega) (by simp; omega) ?_; intro gg cap w9 hown1 hgrow hlt9; have HO9 : Hid (SRow w9 W1.heap.size (.slice (some ⟨gg, 0, none⟩) (C.length + 1) cap) (C ++ [T[i]])) := hown1; have HB9 : Hid (Below W1.heap.size W1 w9) := (HY.out.2.alloc (by omega) _).grown hgrow (by simp; omega) (fun b hb => (HY.out.1.blk hb).1); clear hown1 hgrow)
              go_roundg (T.length - (i + 1))
              case measure => omega
              case rel =>
                refine ⟨i + 1, some ⟨gg, 0, none⟩, cap, by omega, by omega, by go_num, ?_, ?_⟩
                · rw [HS1.out, List.length_append]; rfl
                · rw [HS1.out, List.length_append]; exact ⟨HO9.out, HB9.out⟩
            | false =>
              rw [hd] at hbd HS
              clear hd
              go_wp2_with fail
              go_roundg (T.length - (i + 1))
              case measure => omega
              case rel =>
                have e : chs T m (i + 1) = chs T m i := by have := HS.out; simpa using this
                refine ⟨i + 1, b2, d2, by omega, by omega, by go_num, ?_, ?_⟩
                · rw [e]
                · rw [e]; exact HY.out
          · have y1 : ¬ (i : Int) < (T.length : Int) := by omega
            have e : i = T.length := by omega
            have HY2 : Hid (SRow wr W1.heap.size (.slice b2 (chs T m T.length).length d2) (chs T m T.length) ∧ Below W1.heap.size W1 wr) := by rw [← e]; exact HY.out
            rw [e]
            have HS : Hid (fst T (m + 1) = fst T m ++ [chs T m T.length]) := fst_succ T m
            have hfl := fst_len T m
            have hz2 := HY2.out.2.size
            clear HY
            generalize chs T m T.length = C at *
            go_wp2_with (at_builtin; refine wp_app2 (by rfl) _ _ (by rfl) w.heap.size (.slice b m d) (fst T m) C b2 d2 wr.heap.size (by rfl) (HW1.out.out.whole (HY2.out.2.alloc hz2 _)) (by rfl) (cell_new _ _ _) ((SRow.base HY2.out.1 hsz1).alloc _) (by omega) (by simp; omega) ?_; intro gg cap w9 hrw9 hkt9 hgrow hlt9; rw [hfl] at hrw9; have HRW9 : Hid (Rw2 w9 w.heap.size (.slice (some ⟨gg, 0, none⟩) (m + 1) cap) (fst T m ++ [C])) := hrw9; have HK9 : Hid (Kt w.heap.size (wr.alloc (.cells #[.slice b2 C.length d2] 22)) w9) := hkt9; clear hrw9 hkt9 hgrow)
            go_roundg (P - (m + 1))
            case measure => omega
            case rel =>
              have hb2 : Below w.heap.size W1 (wr.alloc (.cells #[.slice b2 C.length d2] 22)) := (HY2.out.2.mono hsz1).alloc (by omega) _
              refine ⟨m + 1, some ⟨gg, 0, none⟩, cap, by omega, Nat.le_refl _, by go_num, rfl, ⟨(HW1.out.bl.trans hb2).trans HK9.out.below, ?_, ?_⟩⟩
              · exact SRow.kt (own_whole HW1.out.row (HY2.out.2.alloc hz2 _)) HK9.out
              · rw [HS.out]; exact HRW9.out
      · have z1 : ¬ (m : Int) < (P : Int) := by omega
        go_wp2_with fail
        go_ret
        have e : m = P := by omega
        subst e
        exact ⟨HX.out.bl, b, d, by rw [fst_len]; rfl, by rw [fst_len]; exact HX.out.out⟩
  · rw [if_neg h10]
    have k1 : (10 : Int) < (T.length : Int) := by omega
    go_enter Tryz.func21, Tryz.ntmps21
    go_wp2_with (go_at_call 20; refine h1.mono ?_; intro e w1 hq; obtain ⟨a1, c1, rfl, hr1⟩ := hq.ex; have HB1 : Hid (Below w.heap.size w w1) := hq.bl; clear hq hr1 h1)
    go_ret
    exact ⟨HB1.out, none, 0, rfl, Rw2.nil _ _⟩
end Go.Proofs.YtleiohccaagalaaGreat
