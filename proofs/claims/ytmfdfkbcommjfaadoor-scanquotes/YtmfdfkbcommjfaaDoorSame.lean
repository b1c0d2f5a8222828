/-
  Rows of tokens and spans opened; same, of one row twice told.
-/
import Derived.Test.YtmfdfkbcommjfaaDoorSaC
import Derived.Deep.QuietTactic
import Derived.BigQuiet
namespace Go.Proofs.YtmfdfkbcommjfaaDoor
open Go.RowKit
attribute [local go_sem ↓] Go.wp_at_zero Go.wp_at_succ
theorem flT_at : ∀ (l : List Tk) (i k : Nat) (t : Tk), l[i]? = some t → k < 4 → (flT l)[i * 4 + k]? = (tkC t)[k]? := by
  intro l
  induction l with
  | nil => intro i k t h; cases h
  | cons a l ih =>
    intro i k t h hk
    show (tkC a ++ flT l)[i * 4 + k]? = _
    cases i with
    | zero =>
      obtain rfl : a = t := Option.some.inj h
      rw [Nat.zero_mul, Nat.zero_add, List.getElem?_append_left (by simp [tkC]; omega)]
    | succ i =>
      have h2 : (tkC a).length = 4 := rfl
      rw [List.getElem?_append_right (by omega), h2, show (i + 1) * 4 + k - 4 = i * 4 + k by omega]
      exact ih i k t h hk
theorem flS_at : ∀ (l : List (Nat × Nat)) (i k : Nat) (t : Nat × Nat), l[i]? = some t → k < 2 → (flS l)[i * 2 + k]? = (spC t)[k]? := by
  intro l
  induction l with
  | nil => intro i k t h; cases h
  | cons a l ih =>
    intro i k t h hk
    show (spC a ++ flS l)[i * 2 + k]? = _
    cases i with
    | zero =>
      obtain rfl : a = t := Option.some.inj h
      rw [Nat.zero_mul, Nat.zero_add, List.getElem?_append_left (by simp [spC]; omega)]
    | succ i =>
      have h2 : (spC a).length = 2 := rfl
      rw [List.getElem?_append_right (by omega), h2, show (i + 1) * 2 + k - 2 = i * 2 + k by omega]
      exact ih i k t h hk
/-- a row of tokens opened -/
theorem tok_open {w : World} {base : Nat} {tv : Value} {l : List Tk} (h : w.ownsRow base 38 4 tv l.length (flT l)) :
    (∃ a cap, tv = .slice a l.length cap) ∧ ∀ i t, l[i]? = some t → ∃ g cap, tv = .slice (some ⟨g, 0, none⟩) l.length cap ∧ l.length ≤ cap ∧ w.cell? ⟨g, i * 4, none⟩ = some (.int .i64 t.kind) ∧ w.cell? ⟨g, i * 4 + 1, none⟩ = some (.int .i64 t.lo) ∧ w.cell? ⟨g, i * 4 + 2, none⟩ = some (.int .i64 t.hi) ∧ w.cell? ⟨g, i * 4 + 3, none⟩ = some (.string (bsL t.text)) := by
  refine ⟨own_slice h, fun i t hi => ?_⟩
  have hlt : i < l.length := (List.getElem?_eq_some_iff.1 hi).1
  obtain ⟨g, cap, hv, hb, hg⟩ := h.form (by omega)
  have hc := h.cells (g := g) (by rw [hv]; rfl)
  have hcap : l.length ≤ cap := by
    rcases h.2 with ⟨h', _⟩ | ⟨g', cap', cur, hv', h1, h2, h3, _⟩
    · rw [hv] at h'; cases h'
    · rw [hv] at hv'
      injection hv' with _ _ h6
      rw [h6]; simpa using h3
  have hf := fun k hk => flT_at l i k t hi hk
  refine ⟨g, cap, hv, hcap, ?_, ?_, ?_, ?_⟩
  · have := hc (i * 4 + 0) _ (hf 0 (by omega)); rw [Go.WideShapes.add_plain] at this; simpa using this
  · have := hc (i * 4 + 1) _ (hf 1 (by omega)); rw [Go.WideShapes.add_plain] at this; simpa using this
  · have := hc (i * 4 + 2) _ (hf 2 (by omega)); rw [Go.WideShapes.add_plain] at this; simpa using this
  · have := hc (i * 4 + 3) _ (hf 3 (by omega)); rw [Go.WideShapes.add_plain] at this; simpa using this
/-- a row of spans opened -/
theorem span_open {w : World} {base : Nat} {tv : Value} {l : List (Nat × Nat)} (h : w.ownsRow base 33 2 tv l.length (flS l)) :
    (∃ a cap, tv = .slice a l.length cap) ∧ ∀ i t, l[i]? = some t → ∃ g cap, tv = .slice (some ⟨g, 0, none⟩) l.length cap ∧ l.length ≤ cap ∧ w.cell? ⟨g, i * 2, none⟩ = some (.int .i64 t.1) ∧ w.cell? ⟨g, i * 2 + 1, none⟩ = some (.int .i64 t.2) := by
  refine ⟨own_slice h, fun i t hi => ?_⟩
  have hlt : i < l.length := (List.getElem?_eq_some_iff.1 hi).1
  obtain ⟨g, cap, hv, hb, hg⟩ := h.form (by omega)
  have hc := h.cells (g := g) (by rw [hv]; rfl)
  have hcap : l.length ≤ cap := by
    rcases h.2 with ⟨h', _⟩ | ⟨g', cap', cur, hv', h1, h2, h3, _⟩
    · rw [hv] at h'; cases h'
    · rw [hv] at hv'
      injection hv' with _ _ h6
      rw [h6]; simpa using h3
  have hf := fun k hk => flS_at l i k t hi hk
  refine ⟨g, cap, hv, hcap, ?_, ?_⟩
  · have := hc (i * 2 + 0) _ (hf 0 (by omega)); rw [Go.WideShapes.add_plain] at this; simpa using this
  · have := hc (i * 2 + 1) _ (hf 1 (by omega)); rw [Go.WideShapes.add_plain] at this; simpa using this
set_option maxRecDepth 100000 in
set_option maxHeartbeats 2000000 in
/-- same, of one row twice told -/
theorem same_any (w : World) (b1 b2 : Nat) (av bv : Value) (l : List Tk) (ha : w.ownsRow b1 38 4 av l.length (flT l)) (hb : w.ownsRow b2 38 4 bv l.length (flT l)) (hl : l.length ≤ 1000000) :
    Calls Tryd.prog 12 #[av, bv] w fun e w' => e = .returned (.bool true) ∧ Below w.heap.size w w' := by
  obtain ⟨⟨a1, ca, rfl⟩, ha2⟩ := tok_open ha
  obtain ⟨⟨a2, cb, rfl⟩, hb2⟩ := tok_open hb
  have HA : Hid _ := ha2
  have HB : Hid _ := hb2
  clear ha hb ha2 hb2
  generalize hN : l.length = N at *
  have k0 : (((N : Int)) != (N : Int)) = false := by simp
  go_enter Tryd.func12, Tryd.ntmps12
  go_wp2_with fail
  go_loopw [5] (fun u wr => ∃ i n : Nat, i ≤ N ∧ u = .int .i64 i ∧ wr = w.drewN n) (fun u _ => N - (intOf u).toNat)
  case atStart => exact ⟨0, 0, Nat.zero_le _, rfl, rfl⟩
  case round =>
    obtain ⟨i, n, hi, rfl, rfl⟩ := hrel
    by_cases hil : i < N
    · have z1 : (i : Int) < (N : Int) := by omega
      have z2 : (0 : Int) ≤ (i : Int) := by omega
      obtain ⟨t, ht⟩ : ∃ t, l[i]? = some t := ⟨_, List.getElem?_eq_getElem (by omega)⟩
      obtain ⟨g1, c1, e1, hc1, x0, x1, x2, x3⟩ := HA.out i t ht
      obtain ⟨g2, c2, e2, hc2, y0, y1, y2, y3⟩ := HB.out i t ht
      rw [Value.slice.injEq] at e1 e2
      obtain ⟨rfl, _, rfl⟩ := e1
      obtain ⟨rfl, _, rfl⟩ := e2
      have z3 : ¬ (ca : Int) < (N : Int) := by omega
      go_wp2_with fail
      go_quiet (fail)
      go_wp2_with fail
      go_roundw
      case rel => exact ⟨i + 1, _, by omega, by go_num, by first | rfl | (rw [World.drewN_drewN])⟩
      case measure => simp [intOf]; omega
    · have z1 : ¬ (i : Int) < (N : Int) := by omega
      go_wp2_with fail
      go_ret
      exact ⟨rfl, ⟨rfl, rfl, rfl, Nat.le_refl _, fun _ _ => rfl⟩⟩
end Go.Proofs.YtmfdfkbcommjfaaDoor
