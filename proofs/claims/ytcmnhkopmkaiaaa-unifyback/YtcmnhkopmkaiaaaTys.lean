/-
  recastalike.Texts, Bools and Types, walked.
-/
import Derived.Test.YtcmnhkopmkaiaaaTsz
namespace Go.Proofs.Ytcmnhkopmkaiaaa
open Go.RowKit
attribute [local go_sem ↓] Go.wp_at_zero Go.wp_at_succ
theorem str_eq {a b : ByteArray} (h : a = b) : (a.toList == b.toList) = true := by subst h; simp
theorem str_ne {a b : ByteArray} (h : a ≠ b) : (a.toList == b.toList) = false := by
  rw [beq_eq_false_iff_ne]
  intro e
  apply h
  rw [Lib.toList_data, Lib.toList_data] at e
  exact ByteArray.ext (Array.ext' e)
theorem RowV.len {α : Type} {f : α → Value} {B : BQ} {W : World} {a : Option Addr} {n c : Nat} {l : List α} (h : RowV f B W (.slice a n c) l) : n = l.length := by
  obtain ⟨_, _, e, _⟩ := h.slice
  simp at e
  exact e.2.1
theorem RowV.max {α : Type} {f : α → Value} {B : BQ} {W : World} {a : Option Addr} {n c : Nat} {l : List α} (h : RowV f B W (.slice a n c) l) : (n : Int) ≤ 9223372036854775807 := by
  obtain ⟨_, _, _, hm⟩ := h.slice
  rw [h.len]; exact hm
theorem ret_bool {a b : Bool} (h : a = b) : Ending.returned (.bool a) = .returned (.bool b) := by rw [h]
theorem take_eq {α : Type} {l l' : List α} (hl : l.length = l'.length) (h : ∀ i (h1 : i < l.length) (h2 : i < l'.length), l[i] = l'[i]) : l = l' := List.ext_getElem hl h
set_option maxRecDepth 100000 in
set_option maxHeartbeats 2000000 in
theorem texts_any {B B' : BQ} {w : World} {a a' : Option Addr} {n n' c c' : Nat} {l l' : List ByteArray} (h : StrV B w (.slice a n c) l) (h' : StrV B' w (.slice a' n' c') l') : Calls Try.prog 30 #[.slice a n c, .slice a' n' c'] w fun e w' => e = .returned (.bool (decide (l = l'))) ∧ Below w.heap.size w w' := by
  have hl := h.len
  have hl' := h'.len
  have hm := h.max
  by_cases hne : n = n'
  · subst hne
    have k0 : ((n : Int) == (n : Int)) = true := by simp
    have HT : Hid (StrV B w (.slice a n c) l) := h
    have HT' : Hid (StrV B' w (.slice a' n c') l') := h'
    have HL : Hid (n = l.length ∧ n = l'.length) := ⟨hl, hl'⟩
    clear h h' hl hl'
    go_enter Try.func30, Try.ntmps30
    go_wp2_with fail
    go_loopg [5] n (fun g u5 wr => ∃ i q : Nat, i ≤ n ∧ n - i ≤ g ∧ u5 = .int .i64 i ∧ wr = w.drewN q ∧ Hid (∀ j (h1 : j < l.length) (h2 : j < l'.length), j < i → l[j] = l'[j]))
    case atStart => exact ⟨0, 0, Nat.zero_le _, Nat.le_refl _, rfl, rfl, fun j _ _ hj => by omega⟩
    case round =>
      obtain ⟨i, q, hi, hg, rfl, rfl, HX⟩ := hrel
      by_cases hlt : i < n
      · have z1 : (i : Int) < (n : Int) := by omega
        have z0 : (0 : Int) ≤ (i : Int) := by omega
        have b1 : i < l.length := by rw [← HL.out.1]; exact hlt
        have b2 : i < l'.length := by rw [← HL.out.2]; exact hlt
        obtain ⟨g1, o1, rfl, ht1⟩ := HT.out.get b1
        obtain ⟨g2, o2, rfl, ht2⟩ := HT'.out.get b2
        generalize hx : l[i] = x at *
        generalize hy : l'[i] = y at *
        have HXY : Hid (l[i] = x ∧ l'[i] = y) := ⟨hx, hy⟩
        clear hx hy
        by_cases he : x = y
        · have k2 := str_eq he
          go_wp2_with fail
          go_quiet (fail)
          go_wp2_with fail
          go_roundg (n - (i + 1))
          case measure => omega
          case rel => exact ⟨i + 1, _, by omega, Nat.le_refl _, by go_num, rfl, fun j h1 h2 hj => by
            rcases Nat.lt_or_ge j i with h | h
            · exact HX.out j h1 h2 h
            · have e : j = i := by omega
              subst e
              rw [HXY.out.1, HXY.out.2, he]⟩
        · have k2 := str_ne he
          go_wp2_with fail
          go_quiet (fail)
          go_wp2_with fail
          go_ret
          exact ⟨ret_bool (decide_eq_false fun e => he (by rw [← HXY.out.1, ← HXY.out.2]; simp [e])).symm, bthen (below_dn _ _) (below_dn _ _)⟩
      · have z1 : ¬ (i : Int) < (n : Int) := by omega
        go_wp2_with fail
        go_ret
        refine ⟨ret_bool (decide_eq_true ?_).symm, below_dn _ _⟩
        have e1 := HL.out.1
        have e2 := HL.out.2
        exact take_eq (by omega) fun j h1 h2 => HX.out j h1 h2 (by omega)
  · have k0 : ((n : Int) == (n' : Int)) = false := nat_bne hne
    have HNE : Hid (l ≠ l') := fun e => hne (by rw [hl, hl', e])
    clear h h' hl hl'
    go_enter Try.func30, Try.ntmps30
    go_wp2_with fail
    go_ret
    exact ⟨ret_bool (decide_eq_false HNE.out).symm, Below.refl _ _⟩
theorem bool_eq {a b : Bool} (h : a = b) : (a == b) = true := by subst h; simp
theorem bool_ne {a b : Bool} (h : a ≠ b) : (a == b) = false := by simpa using h
set_option maxRecDepth 100000 in
set_option maxHeartbeats 2000000 in
theorem bools_any {B B' : BQ} {w : World} {a a' : Option Addr} {n n' c c' : Nat} {l l' : List Bool} (h : BooV B w (.slice a n c) l) (h' : BooV B' w (.slice a' n' c') l') : Calls Try.prog 31 #[.slice a n c, .slice a' n' c'] w fun e w' => e = .returned (.bool (decide (l = l'))) ∧ Below w.heap.size w w' := by
  have hl := h.len
  have hl' := h'.len
  have hm := h.max
  by_cases hne : n = n'
  · subst hne
    have k0 : ((n : Int) == (n : Int)) = true := by simp
    have HT : Hid (BooV B w (.slice a n c) l) := h
    have HT' : Hid (BooV B' w (.slice a' n c') l') := h'
    have HL : Hid (n = l.length ∧ n = l'.length) := ⟨hl, hl'⟩
    clear h h' hl hl'
    go_enter Try.func31, Try.ntmps31
    go_wp2_with fail
    go_loopg [5] n (fun g u5 wr => ∃ i q : Nat, i ≤ n ∧ n - i ≤ g ∧ u5 = .int .i64 i ∧ wr = w.drewN q ∧ Hid (∀ j (h1 : j < l.length) (h2 : j < l'.length), j < i → l[j] = l'[j]))
    case atStart => exact ⟨0, 0, Nat.zero_le _, Nat.le_refl _, rfl, rfl, fun j _ _ hj => by omega⟩
    case round =>
      obtain ⟨i, q, hi, hg, rfl, rfl, HX⟩ := hrel
      by_cases hlt : i < n
      · have z1 : (i : Int) < (n : Int) := by omega
        have z0 : (0 : Int) ≤ (i : Int) := by omega
        have b1 : i < l.length := by rw [← HL.out.1]; exact hlt
        have b2 : i < l'.length := by rw [← HL.out.2]; exact hlt
        obtain ⟨g1, o1, rfl, ht1⟩ := HT.out.get b1
        obtain ⟨g2, o2, rfl, ht2⟩ := HT'.out.get b2
        generalize hx : l[i] = x at *
        generalize hy : l'[i] = y at *
        have HXY : Hid (l[i] = x ∧ l'[i] = y) := ⟨hx, hy⟩
        clear hx hy
        by_cases he : x = y
        · have k2 := bool_eq he
          go_wp2_with fail
          go_quiet (fail)
          go_wp2_with fail
          go_roundg (n - (i + 1))
          case measure => omega
          case rel => exact ⟨i + 1, _, by omega, Nat.le_refl _, by go_num, rfl, fun j h1 h2 hj => by
            rcases Nat.lt_or_ge j i with h | h
            · exact HX.out j h1 h2 h
            · have e : j = i := by omega
              subst e
              rw [HXY.out.1, HXY.out.2, he]⟩
        · have k2 := bool_ne he
          go_wp2_with fail
          go_quiet (fail)
          go_wp2_with fail
          go_ret
          exact ⟨ret_bool (decide_eq_false fun e => he (by rw [← HXY.out.1, ← HXY.out.2]; simp [e])).symm, bthen (below_dn _ _) (below_dn _ _)⟩
      · have z1 : ¬ (i : Int) < (n : Int) := by omega
        go_wp2_with fail
        go_ret
        refine ⟨ret_bool (decide_eq_true ?_).symm, below_dn _ _⟩
        have e1 := HL.out.1
        have e2 := HL.out.2
        exact take_eq (by omega) fun j h1 h2 => HX.out j h1 h2 (by omega)
  · have k0 : ((n : Int) == (n' : Int)) = false := nat_bne hne
    have HNE : Hid (l ≠ l') := fun e => hne (by rw [hl, hl', e])
    clear h h' hl hl'
    go_enter Try.func31, Try.ntmps31
    go_wp2_with fail
    go_ret
    exact ⟨ret_bool (decide_eq_false HNE.out).symm, Below.refl _ _⟩
end Go.Proofs.Ytcmnhkopmkaiaaa

