/-
  recastalike.Texts and awake, walked.
-/
import Derived.Test.YtleiohccaagalaaGreatSam
namespace Go.Proofs.YtleiohccaagalaaGreat
open Go.RowKit Go.Sort
attribute [local go_sem ↓] Go.wp_at_zero Go.wp_at_succ
theorem TxV.cell {w : World} {a : Option Addr} {n c : Nat} {l : List Bs} (h : TxV w a n c l) {i : Nat} (hi : i < l.length) : ∃ g o, a = some ⟨g, o, none⟩ ∧ w.cell? ⟨g, o + i, none⟩ = some (.string (bs l[i])) := by
  rcases h.at_ with ⟨_, rfl⟩ | ⟨g, o, e, hc⟩
  · simp at hi
  · exact ⟨g, o, e, hc i _ (List.getElem?_eq_getElem hi)⟩
theorem TxV.len_le {w : World} {a : Option Addr} {n c : Nat} {l : List Bs} (h : TxV w a n c l) : l.length = n := h.len.symm
theorem take_eq {l l' : List Bs} (hl : l.length = l'.length) (h : ∀ i (h1 : i < l.length) (h2 : i < l'.length), l[i] = l'[i]) : l = l' := List.ext_getElem hl h
set_option maxRecDepth 100000 in
set_option maxHeartbeats 2000000 in
theorem texts_any {w : World} {a a' : Option Addr} {n n' c c' : Nat} {l l' : List Bs} (h : TxV w a n c l) (h' : TxV w a' n' c' l') (hn : n ≤ 9223372036854775807) : Calls Tryz.prog 11 #[.slice a n c, .slice a' n' c'] w fun e w' => e = .returned (.bool (decide (l = l'))) ∧ ∃ q, w' = w.drewN q := by
  have hl := h.len
  have hl' := h'.len
  by_cases hne : n = n'
  · subst hne
    have k0 : ((n : Int) == (n : Int)) = true := by simp
    have HT : Hid (TxV w a n c l) := h
    have HT' : Hid (TxV w a' n c' l') := h'
    have HL : Hid (n = l.length ∧ n = l'.length) := ⟨hl, hl'⟩
    clear h h' hl hl'
    go_enter Tryz.func11, Tryz.ntmps11
    go_wp2_with fail
    go_loopg [5] n (fun g u5 wr => ∃ i q : Nat, i ≤ n ∧ n - i ≤ g ∧ u5 = .int .i64 i ∧ wr = w.drewN q ∧ Hid (∀ j (h1 : j < l.length) (h2 : j < l'.length), j < i → l[j] = l'[j]))
    case atStart => exact ⟨0, 0, Nat.zero_le _, Nat.le_refl _, rfl, rfl, fun j _ _ hj => by omega⟩
    case round =>
      obtain ⟨i, q, hi, hg, rfl, rfl, HX⟩ := hrel
      by_cases hlt : i < n
      · have z1 : (i : Int) < (n : Int) := by omega
        have z0 : (0 : Int) ≤ (i : Int) := by omega
        have b1 : i < l.length := by rw [← HL.out.1]; exact hlt
        have b2 : i < l'.length := by rw [← HL.out.2]; exact hlt
        obtain ⟨g1, o1, rfl, ht1⟩ := HT.out.cell b1
        obtain ⟨g2, o2, rfl, ht2⟩ := HT'.out.cell b2
        generalize hx : l[i] = x at *
        generalize hy : l'[i] = y at *
        have HXY : Hid (l[i] = x ∧ l'[i] = y) := ⟨hx, hy⟩
        clear hx hy
        by_cases he : x = y
        · have k2 := str_eq he
          go_wp2_with fail
          go_quiet (fail)
          go_wp2_with fail
          go_roundg (n - (i + 1))
          case measure => omega
          case rel => exact ⟨i + 1, _, by omega, Nat.le_refl _, by go_num, rfl, fun j h1 h2 hj => by
            rcases Nat.lt_or_ge j i with h | h
            · exact HX.out j h1 h2 h
            · have e : j = i := by omega
              subst e
              rw [HXY.out.1, HXY.out.2, he]⟩
        · have k2 := str_ne he
          go_wp2_with fail
          go_quiet (fail)
          go_wp2_with fail
          go_ret
          exact ⟨ret_bool (decide_eq_false fun e => he (by rw [← HXY.out.1, ← HXY.out.2]; simp [e])).symm, _, World.drewN_drewN _ _ _⟩
      · have z1 : ¬ (i : Int) < (n : Int) := by omega
        go_wp2_with fail
        go_ret
        refine ⟨ret_bool (decide_eq_true ?_).symm, q, rfl⟩
        have e1 := HL.out.1
        have e2 := HL.out.2
        exact take_eq (by omega) fun j h1 h2 => HX.out j h1 h2 (by omega)
  · have k0 : ((n : Int) == (n' : Int)) = false := nat_bne hne
    have HNE : Hid (l ≠ l') := fun e => hne (by rw [hl, hl', e])
    clear h h' hl hl'
    go_enter Tryz.func11, Tryz.ntmps11
    go_wp2_with fail
    go_ret
    exact ⟨ret_bool (decide_eq_false HNE.out).symm, 0, rfl⟩
/-- the sample -/
def smp : Pt := .both (.tag [97]) (.not (.tag [98]))
theorem smp_read : readR [47, 47, 98, 117, 105, 108, 100, 32, 97, 32, 38, 38, 32, 33, 98, 10] = some smp := by
  have e : eol [97, 32, 38, 38, 32, 33, 98, 10] = [97, 32, 38, 38, 32, 33, 98] := by decide
  have p : pcs [97, 32, 38, 38, 32, 33, 98] = some [[97], [38, 38], [33], [98]] := by
    rw [pcs_some (by decide) (by decide), show ([97, 32, 38, 38, 32, 33, 98] : Bs).drop (sgA [97, 32, 38, 38, 32, 33, 98]) = [32, 38, 38, 32, 33, 98] by decide, pcs_blank,
      pcs_some (by decide) (by decide), show ([38, 38, 32, 33, 98] : Bs).drop (sgA [38, 38, 32, 33, 98]) = [32, 33, 98] by decide, pcs_blank,
      pcs_some (by decide) (by decide), show ([33, 98] : Bs).drop (sgA [33, 98]) = [98] by decide,
      pcs_some (by decide) (by decide), show ([98] : Bs).drop (sgA [98]) = [] by decide, pcs_nil]
    rfl
  unfold readR
  rw [if_pos (by decide)]
  show lineR (eol [97, 32, 38, 38, 32, 33, 98, 10]) = _
  rw [e]
  unfold lineR
  rw [p]
  simp only [Option.bind_some]
  rw [if_pos (by decide)]
  rfl
theorem smp_eo : eo smp.names = [[97], [98]] := by
  unfold eo
  rw [show srt smp.names = [[97], [98]] from List.mergeSort_of_pairwise (by decide)]
  decide +kernel
theorem txv1 (w : World) (s : Bs) : TxV (w.alloc (.cells #[.string (bs s)] 9)) (some ⟨w.heap.size, 0, none⟩) 1 1 [s] :=
  ⟨rfl, Nat.le_refl _, .inr ⟨_, _, rfl, fun i t ht => by
    cases i with
    | zero => simp at ht; subst ht; exact cell_new _ _ _
    | succ i => simp at ht⟩⟩
theorem txv2 (w : World) (s r : Bs) : TxV (w.alloc (.cells #[.string (bs s), .string (bs r)] 9)) (some ⟨w.heap.size, 0, none⟩) 2 2 [s, r] :=
  ⟨rfl, Nat.le_refl _, .inr ⟨_, _, rfl, fun i t ht => by
    match i, ht with
    | 0, ht => simp at ht; subst ht; exact cell_new21 _ _ _ _
    | 1, ht => simp at ht; subst ht; exact cell_new2 _ _ _ _
    | i + 2, ht => simp at ht⟩⟩
set_option maxRecDepth 100000 in
set_option maxHeartbeats 4000000 in
theorem awake_any (w : World) (hM : Mx w) : Calls Tryz.prog 5 #[] w fun e w' => e = .returned (.bool true) ∧ Below w.heap.size w w' := by
  have h1 := Read_any ⟨#[47, 47, 98, 117, 105, 108, 100, 32, 97, 32, 38, 38, 32, 33, 98, 10]⟩ w (by decide) hM
  rw [show (⟨#[47, 47, 98, 117, 105, 108, 100, 32, 97, 32, 38, 38, 32, 33, 98, 10]⟩ : ByteArray).data.toList = [47, 47, 98, 117, 105, 108, 100, 32, 97, 32, 38, 38, 32, 33, 98, 10] from rfl, smp_read] at h1
  have hA : smp.holds [[97]] = true := by decide
  have hB : smp.holds [[97], [98]] = false := by decide
  clear hM
  go_enter Tryz.func5, Tryz.ntmps5
  go_wp2_with (first
    | (go_at_call 6; refine h1.mono ?_; intro e w1 hq; obtain ⟨b, rfl, hbz, hru⟩ := hq.yes _ rfl; have HB1 : Hid (Below w.heap.size w w1) := hq.bl; have hz1 := hq.bl.size; have hru : RuleV w1 (.pointer (some ⟨b, 0, none⟩)) smp := .inr ⟨b, rfl, hru⟩; have hb2 : Below w1.heap.size w1 (w1.alloc (.cells #[.string (bs [97])] 9)) := (Below.refl _ _).alloc (Nat.le_refl _) _; have h2 := Holds_any (hru.whole hb2) (txv1 w1 [97]) (by omega); rw [hA, show bs [97] = ⟨#[97]⟩ from rfl] at h2; rw [show bs [97] = ⟨#[97]⟩ from rfl] at hb2; have HB2 : Hid (Below w.heap.size w (w1.alloc (.cells #[.string ⟨#[97]⟩] 9))) := HB1.out.trans (hb2.mono hz1); have HU : Hid _ := hru.whole hb2; clear hq h1 hb2 hru)
    | (go_at_call 10; refine h2.mono ?_; rintro e w3 ⟨rfl, hb3⟩; have hru := RuleV.whole (p := smp) HU.out hb3; have HB3 : Hid (Below w.heap.size w w3) := HB2.out.trans (hb3.mono (by simp; omega)); have hz3 := HB3.out.size; have hb4 : Below w3.heap.size w3 (w3.alloc (.cells #[.string (bs [97]), .string (bs [98])] 9)) := (Below.refl _ _).alloc (Nat.le_refl _) _; have h3 := Holds_any (hru.whole hb4) (txv2 w3 [97] [98]) (by omega); rw [hB] at h3; have HB4 : Hid (Below w.heap.size w (w3.alloc (.cells #[.string (bs [97]), .string (bs [98])] 9))) := HB3.out.trans (hb4.mono hz3); have HU4 : Hid _ := hru.whole hb4; rw [show bs [97] = ⟨#[97]⟩ from rfl, show bs [98] = ⟨#[98]⟩ from rfl] at h3 HB4 HU4; clear h2 hb3 hb4 hru)
    | (go_at_call 10; refine h3.mono ?_; rintro e w5 ⟨rfl, hb5⟩; have hru := RuleV.whole (p := smp) HU4.out hb5; have HB5 : Hid (Below w.heap.size w w5) := HB4.out.trans (hb5.mono (by simp; omega)); have hz5 := HB5.out.size; have h4 := Tags_any hru (by decide); rw [smp_eo] at h4; clear h3 hb5 hru)
    | (go_at_call 12; refine h4.mono ?_; intro e w6 hq; obtain ⟨a6, c6, rfl, hr6⟩ := hq.ex; have HB6 : Hid (Below w.heap.size w w6) := HB5.out.trans (hq.bl.mono hz5); have hz6 := HB6.out.size; have hb7 : Below w6.heap.size w6 (w6.alloc (.cells #[.string (bs [97]), .string (bs [98])] 9)) := (Below.refl _ _).alloc (Nat.le_refl _) _; have h5 := texts_any (hr6.txv.whole hb7) (txv2 w6 [97] [98]) (by simp); have HB7 : Hid (Below w.heap.size w (w6.alloc (.cells #[.string (bs [97]), .string (bs [98])] 9))) := HB6.out.trans (hb7.mono hz6); rw [decide_eq_true rfl, show bs [97] = ⟨#[97]⟩ from rfl, show bs [98] = ⟨#[98]⟩ from rfl] at h5; rw [show bs [97] = ⟨#[97]⟩ from rfl, show bs [98] = ⟨#[98]⟩ from rfl] at HB7; clear hq h4 hr6 hb7)
    | (go_at_call 11; refine h5.mono ?_; rintro e w8 ⟨rfl, q, hw8⟩; have HB8 : Hid (Below w.heap.size w w8) := by (show Below _ _ _); (rw [hw8]; exact HB7.out.trans (below_draws _ _ _))
       clear h5 hw8))
  go_ret
  exact ⟨rfl, HB8.out⟩
end Go.Proofs.YtleiohccaagalaaGreat
