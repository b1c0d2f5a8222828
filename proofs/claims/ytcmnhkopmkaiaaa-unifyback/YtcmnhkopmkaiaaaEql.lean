/-
  slices.Equal at texts and at truths, walked.
-/
import Derived.Test.YtcmnhkopmkaiaaaWlP
import Derived.Deep.QuietTactic
import Derived.Test.YtcmnhkopmkaiaaaTys
namespace Go.Proofs.Ytcmnhkopmkaiaaa
open Go.RowKit
attribute [local go_sem ↓] Go.wp_at_zero Go.wp_at_succ
theorem quiet_at {P : Program} {f : FuncId} {args : Array Value} {w : World} {n : Nat} {v : Value} (h : Calls P f args (w.drewN n) fun e w' => e = .returned v ∧ ∃ m, w' = (w.drewN n).drewN m) : Calls P f args (w.drewN n) fun e w'' => e = .returned v ∧ ∃ m, w'' = w.drewN m :=
  h.mono fun _ _ ⟨he, m, hm⟩ => ⟨he, n + m, by rw [hm, World.drewN_drewN]⟩
theorem boo_eq {a b : Bool} (h : a = b) : (a == b) = true := by subst h; simp
theorem boo_ne {a b : Bool} (h : a ≠ b) : (a == b) = false := by simpa using h
set_option maxRecDepth 100000 in
set_option maxHeartbeats 2000000 in
theorem eqlS {B B' : BQ} {w : World} {a a' : Option Addr} {n n' c c' : Nat} {l l' : List ByteArray} (h : StrV B w (.slice a n c) l) (h' : StrV B' w (.slice a' n' c') l') : Calls Try.prog 39 #[.slice a n c, .slice a' n' c'] w fun e w' => e = .returned (.bool (decide (l = l'))) ∧ ∃ m, w' = w.drewN m := by
  have hl := h.len
  have hl' := h'.len
  have hm := h.max
  by_cases hne : n = n'
  · subst hne
    have k0 : ((n : Int) == (n : Int)) = true := by simp
    have HT : Hid (StrV B w (.slice a n c) l) := h
    have HT' : Hid (StrV B' w (.slice a' n c') l') := h'
    have HL : Hid (n = l.length ∧ n = l'.length) := ⟨hl, hl'⟩
    clear h h' hl hl'
    go_enter Try.func39, Try.ntmps39
    go_wp2_with fail
    go_loopg [13] n (fun g u13 wr => ∃ i q : Nat, i ≤ n ∧ n - i ≤ g ∧ u13 = .int .i64 i ∧ wr = w.drewN q ∧ Hid (∀ j (h1 : j < l.length) (h2 : j < l'.length), j < i → l[j] = l'[j]))
    case atStart => exact ⟨0, 0, Nat.zero_le _, Nat.le_refl _, rfl, rfl, fun j _ _ hj => by omega⟩
    case round =>
      obtain ⟨i, q, hi, hg, rfl, rfl, HX⟩ := hrel
      by_cases hlt : i < n
      · have z1 : (i : Int) < (n : Int) := by omega
        have z0 : (0 : Int) ≤ (i : Int) := by omega
        have b1 : i < l.length := by rw [← HL.out.1]; exact hlt
        have b2 : i < l'.length := by rw [← HL.out.2]; exact hlt
        obtain ⟨g1, o1, rfl, ht1⟩ := HT.out.get b1
        obtain ⟨g2, o2, rfl, ht2⟩ := HT'.out.get b2
        generalize hx : l[i] = x at *
        generalize hy : l'[i] = y at *
        have HXY : Hid (l[i] = x ∧ l'[i] = y) := ⟨hx, hy⟩
        clear hx hy
        by_cases he : x = y
        · have k2 := str_eq he
          go_wp2_with fail
          go_quiet (fail)
          go_wp2_with fail
          go_roundg (n - (i + 1))
          case measure => omega
          case rel => exact ⟨i + 1, _, by omega, Nat.le_refl _, by go_num, rfl, fun j h1 h2 hj => by
            rcases Nat.lt_or_ge j i with h | h
            · exact HX.out j h1 h2 h
            · have e : j = i := by omega
              subst e
              rw [HXY.out.1, HXY.out.2, he]⟩
        · have k2 := str_ne he
          go_wp2_with fail
          go_quiet (fail)
          go_wp2_with fail
          go_ret
          exact ⟨ret_bool (decide_eq_false fun e => he (by rw [← HXY.out.1, ← HXY.out.2]; simp [e])).symm, _, by rw [World.drewN_drewN]⟩
      · have z1 : ¬ (i : Int) < (n : Int) := by omega
        go_wp2_with fail
        go_ret
        exact ⟨ret_bool (decide_eq_true (take_eq (by rw [← HL.out.1, ← HL.out.2]) fun j h1 h2 => HX.out j h1 h2 (by have := HL.out.1; omega))).symm, _, rfl⟩
  · have k0 := nat_bne hne
    clear h h' hm
    go_enter Try.func39, Try.ntmps39
    go_wp2_with fail
    go_ret
    exact ⟨ret_bool (decide_eq_false fun e => hne (by rw [hl, hl', e])).symm, 0, rfl⟩
set_option maxRecDepth 100000 in
set_option maxHeartbeats 2000000 in
theorem eqlB {B B' : BQ} {w : World} {a a' : Option Addr} {n n' c c' : Nat} {l l' : List Bool} (h : BooV B w (.slice a n c) l) (h' : BooV B' w (.slice a' n' c') l') : Calls Try.prog 40 #[.slice a n c, .slice a' n' c'] w fun e w' => e = .returned (.bool (decide (l = l'))) ∧ ∃ m, w' = w.drewN m := by
  have hl := h.len
  have hl' := h'.len
  have hm := h.max
  by_cases hne : n = n'
  · subst hne
    have k0 : ((n : Int) == (n : Int)) = true := by simp
    have HT : Hid (BooV B w (.slice a n c) l) := h
    have HT' : Hid (BooV B' w (.slice a' n c') l') := h'
    have HL : Hid (n = l.length ∧ n = l'.length) := ⟨hl, hl'⟩
    clear h h' hl hl'
    go_enter Try.func40, Try.ntmps40
    go_wp2_with fail
    go_loopg [13] n (fun g u13 wr => ∃ i q : Nat, i ≤ n ∧ n - i ≤ g ∧ u13 = .int .i64 i ∧ wr = w.drewN q ∧ Hid (∀ j (h1 : j < l.length) (h2 : j < l'.length), j < i → l[j] = l'[j]))
    case atStart => exact ⟨0, 0, Nat.zero_le _, Nat.le_refl _, rfl, rfl, fun j _ _ hj => by omega⟩
    case round =>
      obtain ⟨i, q, hi, hg, rfl, rfl, HX⟩ := hrel
      by_cases hlt : i < n
      · have z1 : (i : Int) < (n : Int) := by omega
        have z0 : (0 : Int) ≤ (i : Int) := by omega
        have b1 : i < l.length := by rw [← HL.out.1]; exact hlt
        have b2 : i < l'.length := by rw [← HL.out.2]; exact hlt
        obtain ⟨g1, o1, rfl, ht1⟩ := HT.out.get b1
        obtain ⟨g2, o2, rfl, ht2⟩ := HT'.out.get b2
        generalize hx : l[i] = x at *
        generalize hy : l'[i] = y at *
        have HXY : Hid (l[i] = x ∧ l'[i] = y) := ⟨hx, hy⟩
        clear hx hy
        by_cases he : x = y
        · have k2 := boo_eq he
          go_wp2_with fail
          go_quiet (fail)
          go_wp2_with fail
          go_roundg (n - (i + 1))
          case measure => omega
          case rel => exact ⟨i + 1, _, by omega, Nat.le_refl _, by go_num, rfl, fun j h1 h2 hj => by
            rcases Nat.lt_or_ge j i with h | h
            · exact HX.out j h1 h2 h
            · have e : j = i := by omega
              subst e
              rw [HXY.out.1, HXY.out.2, he]⟩
        · have k2 := boo_ne he
          go_wp2_with fail
          go_quiet (fail)
          go_wp2_with fail
          go_ret
          exact ⟨ret_bool (decide_eq_false fun e => he (by rw [← HXY.out.1, ← HXY.out.2]; simp [e])).symm, _, by rw [World.drewN_drewN]⟩
      · have z1 : ¬ (i : Int) < (n : Int) := by omega
        go_wp2_with fail
        go_ret
        exact ⟨ret_bool (decide_eq_true (take_eq (by rw [← HL.out.1, ← HL.out.2]) fun j h1 h2 => HX.out j h1 h2 (by have := HL.out.1; omega))).symm, _, rfl⟩
  · have k0 := nat_bne hne
    clear h h' hm
    go_enter Try.func40, Try.ntmps40
    go_wp2_with fail
    go_ret
    exact ⟨ret_bool (decide_eq_false fun e => hne (by rw [hl, hl', e])).symm, 0, rfl⟩
end Go.Proofs.Ytcmnhkopmkaiaaa

