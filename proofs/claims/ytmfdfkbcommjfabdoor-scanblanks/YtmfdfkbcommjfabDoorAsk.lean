/-
  What Tokens and Comments answer, opened; how many tokens there are.
-/
import Derived.Test.YtmfdfkbcommjfabDoorWalkU
import Derived.Test.YtmfdfkbcommjfabDoorValB
import Derived.Deep.QuietTactic
import Derived.BigQuiet
namespace Go.Proofs.YtmfdfkbcommjfabDoor
open Go.RowKit
attribute [local go_sem ↓] Go.wp_at_zero Go.wp_at_succ
theorem bl_drewN (B : Nat) (w : World) (n : Nat) : Below B w (w.drewN n) := ⟨rfl, rfl, rfl, Nat.le_refl _, fun _ _ => rfl⟩
theorem cell_of {w : World} {k : Nat} {cs : Array Value} {T : TypeId} {fz : Nat × Nat} (h : w.heap[k]? = some (.cells cs T fz)) (i : Nat) : w.cell? ⟨k, i, none⟩ = cs[i]? := by simp [World.cell?, h]
/-- what an answer says -/
def roT : RO → List Tk
  | .ok s => s.toks
  | .bad _ _ => []
def roR : RO → List (Nat × Nat)
  | .ok s => s.rems
  | .bad _ _ => []
def roC : RO → Nat
  | .ok _ => 0
  | .bad c _ => c
def roA : RO → Nat
  | .ok _ => 0
  | .bad _ a => a
/-- what Tokens answers, the code's and the document's -/
def TokQ (w : World) (r : RO) (e : Ending) (w' : World) : Prop :=
  Below w.heap.size w w' ∧ ∃ a cap, e = .returned (.tuple #[.slice a (roT r).length cap, fltV (roC r) (roA r)]) ∧ w'.ownsRow w.heap.size 29 4 (.slice a (roT r).length cap) (roT r).length (flT (roT r))
def RemQ (w : World) (r : RO) (e : Ending) (w' : World) : Prop :=
  Below w.heap.size w w' ∧ ∃ a cap, e = .returned (.slice a (roR r).length cap) ∧ w'.ownsRow w.heap.size 33 2 (.slice a (roR r).length cap) (roR r).length (flS (roR r))
theorem tokens_q (S : ByteArray) (w : World) (hM : Mem w) : Calls Tryd.prog 7 #[.string S] w (TokQ w (readOf S)) := by
  refine (tokens_any S w hM).mono ?_
  rintro e w' ⟨hb, h⟩
  refine ⟨hb, ?_⟩
  cases hr : readOf S with
  | ok s =>
    rw [hr] at h
    obtain ⟨tv, rfl, ho⟩ := h
    obtain ⟨a, cap, rfl⟩ := own_slice ho
    exact ⟨a, cap, rfl, ho⟩
  | bad c o =>
    rw [hr] at h
    exact ⟨none, 0, h, World.ownsRow_nil _ _ _ _⟩
theorem comments_q (S : ByteArray) (w : World) (hM : Mem w) : Calls Tryd.prog 8 #[.string S] w (RemQ w (readOf S)) := by
  refine (comments_any S w hM).mono ?_
  rintro e w' ⟨hb, h⟩
  refine ⟨hb, ?_⟩
  cases hr : readOf S with
  | ok s =>
    rw [hr] at h
    obtain ⟨tv, rfl, ho⟩ := h
    obtain ⟨a, cap, rfl⟩ := own_slice ho
    exact ⟨a, cap, rfl, ho⟩
  | bad c o =>
    rw [hr] at h
    exact ⟨none, 0, h, World.ownsRow_nil _ _ _ _⟩
theorem flT_at : ∀ (l : List Tk) (i k : Nat) (t : Tk), l[i]? = some t → k < 4 → (flT l)[i * 4 + k]? = (tkC t)[k]? := by
  intro l
  induction l with
  | nil => intro i k t h; cases h
  | cons a l ih =>
    intro i k t h hk
    show (tkC a ++ flT l)[i * 4 + k]? = _
    cases i with
    | zero =>
      obtain rfl : a = t := Option.some.inj h
      rw [Nat.zero_mul, Nat.zero_add, List.getElem?_append_left (by simp [tkC]; omega)]
    | succ i =>
      have h2 : (tkC a).length = 4 := rfl
      rw [List.getElem?_append_right (by omega), h2, show (i + 1) * 4 + k - 4 = i * 4 + k by omega]
      exact ih i k t h hk
theorem flS_at : ∀ (l : List (Nat × Nat)) (i k : Nat) (t : Nat × Nat), l[i]? = some t → k < 2 → (flS l)[i * 2 + k]? = (spC t)[k]? := by
  intro l
  induction l with
  | nil => intro i k t h; cases h
  | cons a l ih =>
    intro i k t h hk
    show (spC a ++ flS l)[i * 2 + k]? = _
    cases i with
    | zero =>
      obtain rfl : a = t := Option.some.inj h
      rw [Nat.zero_mul, Nat.zero_add, List.getElem?_append_left (by simp [spC]; omega)]
    | succ i =>
      have h2 : (spC a).length = 2 := rfl
      rw [List.getElem?_append_right (by omega), h2, show (i + 1) * 2 + k - 2 = i * 2 + k by omega]
      exact ih i k t h hk
/-- a row of tokens opened -/
theorem tok_open {w : World} {base : Nat} {tv : Value} {l : List Tk} (h : w.ownsRow base 29 4 tv l.length (flT l)) :
    (∃ a cap, tv = .slice a l.length cap) ∧ ∀ i t, l[i]? = some t → ∃ g cap, tv = .slice (some ⟨g, 0, none⟩) l.length cap ∧ l.length ≤ cap ∧ w.cell? ⟨g, i * 4, none⟩ = some (.int .i64 t.kind) ∧ w.cell? ⟨g, i * 4 + 1, none⟩ = some (.int .i64 t.lo) ∧ w.cell? ⟨g, i * 4 + 2, none⟩ = some (.int .i64 t.hi) ∧ w.cell? ⟨g, i * 4 + 3, none⟩ = some (.string (bsL t.text)) := by
  refine ⟨own_slice h, fun i t hi => ?_⟩
  have hlt : i < l.length := (List.getElem?_eq_some_iff.1 hi).1
  obtain ⟨g, cap, hv, hb, hg⟩ := h.form (by omega)
  have hc := h.cells (g := g) (by rw [hv]; rfl)
  have hcap : l.length ≤ cap := by
    rcases h.2 with ⟨h', _⟩ | ⟨g', cap', cur, hv', h1, h2, h3, _⟩
    · rw [hv] at h'; cases h'
    · rw [hv] at hv'
      injection hv' with _ _ h6
      rw [h6]; simpa using h3
  have hf := fun k hk => flT_at l i k t hi hk
  refine ⟨g, cap, hv, hcap, ?_, ?_, ?_, ?_⟩
  · have := hc (i * 4 + 0) _ (hf 0 (by omega)); rw [Go.WideShapes.add_plain] at this; simpa using this
  · have := hc (i * 4 + 1) _ (hf 1 (by omega)); rw [Go.WideShapes.add_plain] at this; simpa using this
  · have := hc (i * 4 + 2) _ (hf 2 (by omega)); rw [Go.WideShapes.add_plain] at this; simpa using this
  · have := hc (i * 4 + 3) _ (hf 3 (by omega)); rw [Go.WideShapes.add_plain] at this; simpa using this
/-- a row of spans opened -/
theorem span_open {w : World} {base : Nat} {tv : Value} {l : List (Nat × Nat)} (h : w.ownsRow base 33 2 tv l.length (flS l)) :
    (∃ a cap, tv = .slice a l.length cap) ∧ ∀ i t, l[i]? = some t → ∃ g cap, tv = .slice (some ⟨g, 0, none⟩) l.length cap ∧ l.length ≤ cap ∧ w.cell? ⟨g, i * 2, none⟩ = some (.int .i64 t.1) ∧ w.cell? ⟨g, i * 2 + 1, none⟩ = some (.int .i64 t.2) := by
  refine ⟨own_slice h, fun i t hi => ?_⟩
  have hlt : i < l.length := (List.getElem?_eq_some_iff.1 hi).1
  obtain ⟨g, cap, hv, hb, hg⟩ := h.form (by omega)
  have hc := h.cells (g := g) (by rw [hv]; rfl)
  have hcap : l.length ≤ cap := by
    rcases h.2 with ⟨h', _⟩ | ⟨g', cap', cur, hv', h1, h2, h3, _⟩
    · rw [hv] at h'; cases h'
    · rw [hv] at hv'
      injection hv' with _ _ h6
      rw [h6]; simpa using h3
  have hf := fun k hk => flS_at l i k t hi hk
  refine ⟨g, cap, hv, hcap, ?_, ?_⟩
  · have := hc (i * 2 + 0) _ (hf 0 (by omega)); rw [Go.WideShapes.add_plain] at this; simpa using this
  · have := hc (i * 2 + 1) _ (hf 1 (by omega)); rw [Go.WideShapes.add_plain] at this; simpa using this
def ro : Except Nat St → RO
  | .ok s => .ok s
  | .error o => .bad 3 o
theorem readOf_eq (S : ByteArray) : readOf S = if 65536 < S.size then .bad 2 0 else if okT S = false then .bad 2 0 else ro (scn S.data.toList 0 0 ⟨[], []⟩) := by
  unfold readOf
  cases scn S.data.toList 0 0 ⟨[], []⟩ with
  | ok s => rfl
  | error o => rfl
theorem scn_len (r : List UInt8) : ∀ (k p : Nat) (s st : St), scn r k p s = .ok st → st.toks.length ≤ s.toks.length + r.length + 2 ∧ st.rems.length ≤ s.rems.length + r.length := by
  induction r with
  | nil =>
    intro k p s st h
    have e : scn [] k p s = .ok ⟨eol p s.toks ++ [⟨7, p, p, []⟩], s.rems⟩ := by cases k <;> rfl
    rw [e] at h
    obtain rfl := Except.ok.inj h
    have := eol_len p s.toks
    exact ⟨by simp; omega, by simp⟩
  | cons b t ih =>
    intro k p s st h
    cases k with
    | succ k => rw [scn] at h; have := ih _ _ _ _ h; simp only [List.length_cons]; omega
    | zero =>
      rw [scn_ok (scn_not_bad (by simp) h)] at h
      have := ih _ _ _ _ h
      have := stp_len p s (pcOf (b :: t))
      simp only [List.length_cons]; omega
theorem readOf_len (S : ByteArray) : (roT (readOf S)).length ≤ 70000 ∧ (roR (readOf S)).length ≤ 70000 := by
  rw [readOf_eq]
  split
  · exact ⟨by simp [roT], by simp [roR]⟩
  · rename_i hS
    split
    · exact ⟨by simp [roT], by simp [roR]⟩
    · cases h : scn S.data.toList 0 0 ⟨[], []⟩ with
      | error o => exact ⟨by simp [ro, roT], by simp [ro, roR]⟩
      | ok st =>
        have := scn_len _ _ _ _ _ h
        rw [bal] at this
        simp only [ro, roT, roR]
        simp at this
        omega
end Go.Proofs.YtmfdfkbcommjfabDoor
