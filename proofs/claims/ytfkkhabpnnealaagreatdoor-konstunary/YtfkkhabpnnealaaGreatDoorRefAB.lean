/-
  The contracts of the document's own trim, form, large, end at every argument.
-/
import Derived.Test.YtfkkhabpnnealaaGreatDoorWlkP
import Derived.Test.YtfkkhabpnnealaaGreatDoorMath
import Derived.Laws.AppendOwnNone
namespace Go.Proofs.YtfkkhabpnnealaaGreatDoor
open Go.RowKit
attribute [local go_sem ↓] Go.wp_at_zero Go.wp_at_succ
open Go.Sort (Holds putRow holds_putRow putRow_self putRow_set cell?_putRow_other)
theorem boxes1 (w : World) (c0 c1 : Value) (t : TypeId) {W : World} (hW : w.alloc (.cells #[c0, c1] t) = W) : Box W w.heap.size c0 c1 ∧ Below w.heap.size w W ∧ W.heap.size = w.heap.size + 1 := by
  subst hW
  exact ⟨Box.new w c0 c1 t, (Below.refl _ _).alloc (Nat.le_refl _) _, by simp⟩
theorem Sl.news {w : World} {ad : Addr} {n cap : Nat} {l : List Nat} (h : Sl w (some ad) n cap l) : ∀ j u, (l.map eU)[j]? = some u → w.cell? (ad.add j) = some u := fun j u hj => by
  have hjn : j < l.length := by
    rcases Nat.lt_or_ge j l.length with h | h
    · exact h
    · rw [List.getElem?_eq_none (by simpa using h)] at hj; cases hj
  obtain ⟨b, off, e, hb, hc⟩ := h.at_ (by have := h.len; omega)
  cases e
  rw [getElem?_map_eU l j hjn] at hj
  rw [Addr.add_lit, ← hj]
  exact hc j (by have := h.len; omega)
theorem Own.of_row2 {w : World} {base : Nat} {v : Value} {n : Nat} {l : List Nat} (h : w.ownsRow base 70 1 v n (l.map eU)) (hw : Wd 4294967296 l) : ∃ ao cap, v = .slice ao n cap ∧ Own w base ao n cap l ∧ (ao = none → cap = 0) := by
  obtain ⟨ao, cap, rfl, ho⟩ := Own.of_row h hw
  refine ⟨ao, cap, rfl, ho, fun hn => ?_⟩
  subst hn
  rcases h.2 with ⟨e, _⟩ | ⟨g, cap', cur, e, _⟩
  · cases e; rfl
  · cases e
set_option maxRecDepth 100000 in
set_option maxHeartbeats 2000000 in
theorem rtrim_some (ad : Addr) (n cap : Nat) (l : List Nat) (w : World) (hm : Sl w (some ad) n cap l) (hn : n ≤ 1000000) :
    Calls Tryz.prog 60 #[.slice (some ad) n cap] w fun e w' => ∃ ao' cap', e = .returned (.slice ao' (tk l) cap') ∧ Own w' w.heap.size ao' (tk l) cap' (l.take (tk l)) ∧ (ao' = none → cap' = 0) ∧ Below w.heap.size w w' := by
  have hcap := hm.lec
  have hmx := hm.mx
  have HL : Hid (l.length = n) := hm.len
  have HM : Hid (Sl w (some ad) n cap l) := hm
  clear hm
  obtain ⟨i0, hi, hz0, hz1, hz2⟩ := info_parts Tryz.info70
  go_enter Tryz.func60, Tryz.ntmps60
  go_wp2
  go_loop [3] (fun t => ∃ k : Nat, k ≤ n ∧ t = .int .i64 k ∧ (∀ j, k ≤ j → j < n → l.getD j 0 = 0)) (fun t => (intOf t).toNat)
  case atStart => exact ⟨n, Nat.le_refl _, rfl, fun j h1 h2 => by omega⟩
  case round =>
    obtain ⟨k, hk, rfl, hz⟩ := hrel
    have HZ : Hid (∀ j, k ≤ j → j < n → l.getD j 0 = 0) := hz
    clear hz
    by_cases h0 : 0 < k ∧ l.getD (k - 1) 0 = 0
    · obtain ⟨hk0, hx0⟩ := h0
      obtain ⟨b, off, e, hb, hcl⟩ := HM.out.at_ (by omega)
      cases e
      have hck := hcl (k - 1) (by omega)
      rw [hx0] at hck
      have HX : Hid (l.getD (k - 1) 0 = 0) := hx0
      have hk1 : 1 ≤ k := by omega
      clear hx0 hcl
      go_wp2
      go_round
      case rel =>
        exact ⟨k - 1, by omega, by go_num, fun j h1 h2 => by
          by_cases hj : j = k - 1
          · rw [hj]; exact HX.out
          · exact HZ.out j (by omega) h2⟩
      case measure => simp [intOf]; omega
    · have ht : tk l = k := (tk_trim l).uniq ⟨by rw [HL.out]; exact hk, fun j h1 h2 => HZ.out j h1 (by rw [← HL.out]; exact h2), fun h h2 => h0 ⟨h, h2⟩⟩
      have HT : Hid (tk l = k) := ht
      have HS : Hid (Sl w (some ad) k cap (l.take k)) := HM.out.take k hk
      have hcx : 0 < k → ∃ b off x, ad = ⟨b, off, none⟩ ∧ w.cell? ⟨b, off + (k - 1), none⟩ = some (.int .u32 (x : Nat)) ∧ 1 ≤ x ∧ x ≤ 4294967295 := fun hk0 => by
        obtain ⟨b, off, e, hb, hcl⟩ := HM.out.at_ (by omega)
        cases e
        refine ⟨b, off, l.getD (k - 1) 0, rfl, hcl (k - 1) (by omega), ?_, ?_⟩
        · have : l.getD (k - 1) 0 ≠ 0 := fun h2 => h0 ⟨hk0, h2⟩
          omega
        · have := HM.out.wd.at (by omega) (k - 1)
          omega
      have HCX : Hid (0 < k → ∃ b off x, ad = ⟨b, off, none⟩ ∧ w.cell? ⟨b, off + (k - 1), none⟩ = some (.int .u32 (x : Nat)) ∧ 1 ≤ x ∧ x ≤ 4294967295) := hcx
      clear ht h0 hcx
      by_cases hk0 : 0 < k
      · obtain ⟨b, off, x, rfl, hck, hx1, hx2⟩ := HCX.out hk0
        have hk1 : 1 ≤ k := hk0
        go_wp2_with (at_builtin; refine wpList_append_own _ rfl _ _ 22 rfl w.heap.size 70 i0 (.int .u32 0) 1 4 Tryz.underlying22 hi hz0 hz1 hz2 rfl (by decide) _ _ _ rfl (World.ownsRow_nil w w.heap.size 70 1) ⟨b, off, none⟩ k cap ((l.take k).map eU) rfl (by rw [List.length_map, HS.out.len, Nat.mul_one]) (HS.out.news) eU_one (by unfold maxLen; omega) (by omega) (Nat.le_refl _) ?_)
        intro v' w1 hown hgrow _
        have hbl : Below w.heap.size w w1 := (Below.refl _ w).grown hgrow (Nat.le_refl _) (by intro k hk; cases hk)
        rw [← List.map_take] at hown
        obtain ⟨ao', cap', rfl, ho, hnc⟩ := Own.of_row2 hown HS.out.wd
        have HO : Hid (Own w1 w.heap.size ao' k cap' (l.take k)) := ho
        have HNC : Hid (ao' = none → cap' = 0) := hnc
        clear hown hgrow ho hnc
        go_wp2
        go_ret
        rw [HT.out]
        exact ⟨ao', cap', rfl, HO.out, HNC.out, hbl⟩
      · obtain rfl : k = 0 := by omega
        go_wp2_with (at_builtin; refine wpList_append_own _ rfl _ _ 22 rfl w.heap.size 70 i0 (.int .u32 0) 1 4 Tryz.underlying22 hi hz0 hz1 hz2 rfl (by decide) _ _ _ rfl (World.ownsRow_nil w w.heap.size 70 1) ad 0 cap [] rfl rfl (fun j u hj => by simp at hj) (fun u hu => by simp at hu) (by unfold maxLen; omega) (by omega) (Nat.le_refl _) ?_)
        intro v' w1 hown hgrow _
        have hbl : Below w.heap.size w w1 := (Below.refl _ w).grown hgrow (Nat.le_refl _) (by intro k hk; cases hk)
        obtain ⟨ao', cap', rfl, ho, hnc⟩ := Own.of_row2 (l := []) hown (by simp [Wd])
        have HO : Hid (Own w1 w.heap.size ao' 0 cap' []) := ho
        have HNC : Hid (ao' = none → cap' = 0) := hnc
        clear hown hgrow ho hnc
        go_wp2
        go_ret
        rw [HT.out]
        exact ⟨_, _, rfl, HO.out, fun _ => rfl, hbl⟩
set_option maxRecDepth 100000 in
set_option maxHeartbeats 1000000 in
theorem rtrim_none (w : World) :
    Calls Tryz.prog 60 #[.slice none 0 0] w fun e w' => e = .returned (.slice none 0 0) ∧ w' = w := by
  obtain ⟨i0, hi, hz0, hz1, hz2⟩ := info_parts Tryz.info70
  go_enter Tryz.func60, Tryz.ntmps60
  go_wp2
  go_loop [3] (fun t => t = .int .i64 0) (fun _ => 0)
  case atStart => rfl
  case round =>
    subst hrel
    go_wp2_with (at_builtin; refine wpList_append_own_none rfl _ _ 22 rfl w.heap.size 70 i0 1 Tryz.underlying22 hi _ _ _ rfl (World.ownsRow_nil w w.heap.size 70 1) rfl ?_)
    go_ret
    exact ⟨rfl, rfl⟩
theorem rtrim_any (ao : Option Addr) (n cap : Nat) (l : List Nat) (w : World) (hm : Sl w ao n cap l) (hz : ao = none → cap = 0) (hn : n ≤ 1000000) :
    Calls Tryz.prog 60 #[.slice ao n cap] w fun e w' => ∃ ao' cap', e = .returned (.slice ao' (tk l) cap') ∧ Own w' w.heap.size ao' (tk l) cap' (l.take (tk l)) ∧ (ao' = none → cap' = 0) ∧ Below w.heap.size w w' := by
  cases ao with
  | none =>
    obtain rfl := hz rfl
    obtain rfl : n = 0 := by have := hm.lec; omega
    obtain rfl : l = [] := List.eq_nil_of_length_eq_zero hm.len
    exact (rtrim_none w).mono fun e w' ⟨he, hw⟩ => ⟨none, 0, by rw [he]; rfl, by rw [hw]; exact ⟨Sl.nil w, fun h => by simp [tk] at h⟩, fun _ => rfl, by rw [hw]; exact Below.refl _ _⟩
  | some ad => exact rtrim_some ad n cap l w hm hn
set_option maxRecDepth 100000 in
set_option maxHeartbeats 1000000 in
theorem rform_any (neg : Bool) (ao : Option Addr) (n cap : Nat) (l : List Nat) (w : World) (hl : Sl w ao n cap l) (hz : ao = none → cap = 0) (hn : n ≤ 1000000) :
    Calls Tryz.prog 49 #[.bool neg, .slice ao n cap] w fun e w' => ∃ (ao' : Option Addr) (cap' : Nat), e = .returned (.agg #[.bool (sgB neg (vl 4294967296 l)), .slice ao' (tk l) cap']) ∧ Own w' (w.heap.size + 1) ao' (tk l) cap' (l.take (tk l)) ∧ (ao' = none → cap' = 0) ∧ Below w.heap.size w w' := by
  have HL : Hid (Sl w ao n cap l) := hl
  have HZ : Hid (ao = none → cap = 0) := hz
  have K1 := tk_le hl
  clear hl hz
  go_enter Tryz.func49, Tryz.ntmps49
  go_wp2_with fail
  obtain ⟨x1, hb0, hz0⟩ := boxes1 w (.bool false) (.slice none 0 0) 24 rfl
  have X1 : Hid (Box _ _ _ _) := x1
  have HB0 : Hid (Below _ _ _) := hb0
  have HZ0 : Hid (_ = _) := hz0
  clear x1 hb0 hz0
  refine (rtrim_any ao n cap l _ (HL.out.below HB0.out (Nat.le_refl _)) HZ.out hn).mono ?_
  rintro e w2 ⟨ao', cap', rfl, ho, hnc, hb⟩
  rw [HZ0.out] at ho
  have HO : Hid (Own w2 (w.heap.size + 1) ao' (tk l) cap' (l.take (tk l))) := ho
  have HNC : Hid (ao' = none → cap' = 0) := hnc
  have x1 := X1.out.below hb X1.out.lt
  have z0 := x1.z0
  have z1 := x1.z1
  have f0 := x1.f0
  have f1 := x1.f1
  have HB : Hid (Below w.heap.size w w2) := HB0.out.trans (hb.mono (by rw [HZ0.out]; omega))
  have hsg : (neg && decide ((0 : Int) < (tk l : Int))) = sgB neg (vl 4294967296 l) := by
    unfold sgB
    congr 1
    rw [decide_eq_decide]
    constructor
    · intro h h0
      have := tk_zero HL.out.wd h0
      omega
    · intro h
      obtain ⟨k, hk⟩ := tk_pos h
      omega
  have HSG : Hid (_ = _) := hsg
  clear ho hnc hb x1 hsg X1 HB0
  cases neg
  · go_wp2_with fail
    refine bodyPost_ret (v := .agg #[.bool false, .slice ao' (tk l) cap']) (by simp [results, Tryz.results49, go_sem, z0, z1]) rfl ⟨ao', cap', ?_, ?_, HNC.out, ?_⟩
    · rw [← HSG.out]; rfl
    · exact (HO.out.setCell (a := ⟨w.heap.size, 0, none⟩) (by show w.heap.size < w.heap.size + 1; omega) _).setCell (a := ⟨w.heap.size, 1, none⟩) (by show w.heap.size < w.heap.size + 1; omega) _
    · exact (HB.out.setCell (p := ⟨w.heap.size, 0, none⟩) (Nat.le_refl _) _).setCell (p := ⟨w.heap.size, 1, none⟩) (Nat.le_refl _) _
  · by_cases h0 : 0 < tk l
    · go_wp2_with fail
      refine bodyPost_ret (v := .agg #[.bool true, .slice ao' (tk l) cap']) (by simp [results, Tryz.results49, go_sem, z0, z1]) rfl ⟨ao', cap', ?_, ?_, HNC.out, ?_⟩
      · rw [← HSG.out, decide_eq_true (show (0 : Int) < (tk l : Int) by omega)]; rfl
      · exact (HO.out.setCell (a := ⟨w.heap.size, 0, none⟩) (by show w.heap.size < w.heap.size + 1; omega) _).setCell (a := ⟨w.heap.size, 1, none⟩) (by show w.heap.size < w.heap.size + 1; omega) _
      · exact (HB.out.setCell (p := ⟨w.heap.size, 0, none⟩) (Nat.le_refl _) _).setCell (p := ⟨w.heap.size, 1, none⟩) (Nat.le_refl _) _
    · go_wp2_with fail
      refine bodyPost_ret (v := .agg #[.bool false, .slice ao' (tk l) cap']) (by simp [results, Tryz.results49, go_sem, z0, z1]) rfl ⟨ao', cap', ?_, ?_, HNC.out, ?_⟩
      · rw [← HSG.out, decide_eq_false (show ¬ (0 : Int) < (tk l : Int) by omega)]; rfl
      · exact (HO.out.setCell (a := ⟨w.heap.size, 0, none⟩) (by show w.heap.size < w.heap.size + 1; omega) _).setCell (a := ⟨w.heap.size, 1, none⟩) (by show w.heap.size < w.heap.size + 1; omega) _
      · exact (HB.out.setCell (p := ⟨w.heap.size, 0, none⟩) (Nat.le_refl _) _).setCell (p := ⟨w.heap.size, 1, none⟩) (Nat.le_refl _) _
end Go.Proofs.YtfkkhabpnnealaaGreatDoor

/-
  The contracts of the document's own large, end, times at every argument.
-/
namespace Go.Proofs.YtfkkhabpnnealaaGreatDoor
open Go.RowKit
attribute [local go_sem ↓] Go.wp_at_zero Go.wp_at_succ
open Go.Sort (Holds putRow holds_putRow putRow_self putRow_set cell?_putRow_other)
/-- large by the number of words -/
theorem big_tk {l : List Nat} (hw : Wd 4294967296 l) : decide ((16 : Int) < (tk l : Int)) = bigN (vl 4294967296 l) := by
  have hf := trim_form hw
  have hv := trim_val l
  have hlen : (l.take (tk l)).length = tk l := by have := (tk_trim l).le; simp; omega
  unfold bigN
  rw [decide_eq_decide]
  constructor
  · intro h
    have h1 := hf.low (by intro h0; rw [h0] at hlen; simp at hlen; omega)
    rw [hlen, hv] at h1
    exact Nat.le_trans (Nat.pow_le_pow_right (by omega) (by omega)) h1
  · intro h
    have h1 := vl_lt 4294967296 _ hf.wd
    rw [hlen, hv] at h1
    rcases Nat.lt_or_ge 16 (tk l) with h2 | h2
    · omega
    · have := Nat.pow_le_pow_right (n := 4294967296) (by omega) h2
      omega
end Go.Proofs.YtfkkhabpnnealaaGreatDoor

