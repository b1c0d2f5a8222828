/-
  The document's own scanner in memory: its source, its place, its tokens, its remarks, its fault.
-/
import Derived.Test.YtmfdfkbcommjfaaDoorWalkC
namespace Go.Proofs.YtmfdfkbcommjfaaDoor
open Go.RowKit
attribute [local go_sem ↓] Go.wp_at_zero Go.wp_at_succ
/-- the cells of a scanner -/
def scC (S : ByteArray) (i : Nat) (tv rv : Value) (c a : Nat) : Array Value := #[.string S, .int .i64 i, tv, rv, .int .i64 c, .string ⟨#[]⟩, .int .i64 a]
/-- a scanner in block R -/
structure Sc (w : World) (base R : Nat) (S : ByteArray) (i : Nat) (s : St) (c a : Nat) : Prop where
  le : base ≤ R
  ex : ∃ tv rv, w.heap[R]? = some (.cells #[.string S, .int .i64 i, tv, rv, .int .i64 c, .string ⟨#[]⟩, .int .i64 a] 45 (0, 0)) ∧ w.ownsRow base 38 4 tv s.toks.length (flT s.toks) ∧ w.ownsRow base 33 2 rv s.rems.length (flS s.rems)
/-- what a call of the scanner leaves -/
structure ScP (w : World) (base R : Nat) (S : ByteArray) (i : Nat) (s : St) (c a : Nat) (e : Ending) (w' : World) : Prop where
  ret : e = .returned (.tuple #[])
  sc : Sc w' base R S i s c a
  bl : Below base w w'
theorem Sc.lt {w : World} {base R : Nat} {S : ByteArray} {i : Nat} {s : St} {c a : Nat} (h : Sc w base R S i s c a) : R < w.heap.size := by
  obtain ⟨_, tv, rv, hR, _⟩ := h; exact (Array.getElem?_eq_some_iff.1 hR).1
theorem Sc.cell0 {w : World} {base R : Nat} {S : ByteArray} {i : Nat} {s : St} {c a : Nat} (h : Sc w base R S i s c a) : w.cell? ⟨R, 0, none⟩ = some (.string S) := by
  obtain ⟨_, tv, rv, hR, _⟩ := h; simp [World.cell?, hR]
theorem Sc.cell1 {w : World} {base R : Nat} {S : ByteArray} {i : Nat} {s : St} {c a : Nat} (h : Sc w base R S i s c a) : w.cell? ⟨R, 1, none⟩ = some (.int .i64 i) := by
  obtain ⟨_, tv, rv, hR, _⟩ := h; simp [World.cell?, hR]
theorem Sc.cell4 {w : World} {base R : Nat} {S : ByteArray} {i : Nat} {s : St} {c a : Nat} (h : Sc w base R S i s c a) : w.cell? ⟨R, 4, none⟩ = some (.int .i64 c) := by
  obtain ⟨_, tv, rv, hR, _⟩ := h; simp [World.cell?, hR]
theorem Sc.cell5 {w : World} {base R : Nat} {S : ByteArray} {i : Nat} {s : St} {c a : Nat} (h : Sc w base R S i s c a) : w.cell? ⟨R, 5, none⟩ = some (.string ⟨#[]⟩) := by
  obtain ⟨_, tv, rv, hR, _⟩ := h; simp [World.cell?, hR]
theorem Sc.cell6 {w : World} {base R : Nat} {S : ByteArray} {i : Nat} {s : St} {c a : Nat} (h : Sc w base R S i s c a) : w.cell? ⟨R, 6, none⟩ = some (.int .i64 a) := by
  obtain ⟨_, tv, rv, hR, _⟩ := h; simp [World.cell?, hR]
theorem Sc.frz {w : World} {base R : Nat} {S : ByteArray} {i : Nat} {s : St} {c a : Nat} (h : Sc w base R S i s c a) (j : Nat) : w.frozen? ⟨R, j, none⟩ = false := by
  obtain ⟨_, tv, rv, hR, _⟩ := h; simp [World.frozen?, hR]
theorem Sc.below {w w' : World} {base R : Nat} {S : ByteArray} {i : Nat} {s : St} {c a : Nat} (h : Sc w base R S i s c a) (hb : Below w.heap.size w w') : Sc w' base R S i s c a := by
  obtain ⟨hle, tv, rv, hR, ht, hr⟩ := h
  have hlt : ∀ {k : Nat} {o : Obj}, w.heap[k]? = some o → w'.heap[k]? = w.heap[k]? := fun hk => hb.block _ (Array.getElem?_eq_some_iff.1 hk).1
  exact ⟨hle, tv, rv, (hlt hR).trans hR, own_far ht (fun k hk => hlt (own_blk ht hk).2.choose_spec), own_far hr (fun k hk => hlt (own_blk hr hk).2.choose_spec)⟩
theorem ScP.after {w w1 : World} {base R : Nat} {S : ByteArray} {i : Nat} {s : St} {c a : Nat} {e : Ending} {w' : World} (h : ScP w1 base R S i s c a e w') (hb : Below base w w1) : ScP w base R S i s c a e w' :=
  ⟨h.ret, h.sc, hb.trans h.bl⟩
/-- a row at the scanner's side, when a cell of the scanner is written -/
theorem own_setR {w : World} {base n size R j : Nat} {e : TypeId} {v u : Value} {xs : List Value} {cs : Array Value} {T : TypeId} {fz : Nat × Nat} (h : w.ownsRow base e size v n xs) (hR : w.heap[R]? = some (.cells cs T fz)) (hT : T ≠ e) : (w.setCell ⟨R, j, none⟩ u).ownsRow base e size v n xs :=
  own_far h fun k hk => Below.heap_setCell _ _ _ _ (fun h2 => own_ne h hR hT (by rw [hk, h2]))
/-- the place moved -/
theorem Sc.put1 {w : World} {base R : Nat} {S : ByteArray} {i : Nat} {s : St} {c a : Nat} (h : Sc w base R S i s c a) (j : Nat) : Sc (w.setCell ⟨R, 1, none⟩ (.int .i64 j)) base R S j s c a := by
  obtain ⟨hle, tv, rv, hR, ht, hr⟩ := h
  exact ⟨hle, tv, rv, heap_set hR _, own_setR ht hR (by decide), own_setR hr hR (by decide)⟩
theorem Sc.bl1 {w : World} {base R : Nat} {S : ByteArray} {i : Nat} {s : St} {c a : Nat} (h : Sc w base R S i s c a) (j : Nat) (v : Value) : Below base w (w.setCell ⟨R, j, none⟩ v) := (Below.refl base w).setCell h.le v
/-- the fault written -/
theorem Sc.putF {w : World} {base R : Nat} {S : ByteArray} {i : Nat} {s : St} {c a : Nat} (h : Sc w base R S i s c a) (c' a' : Nat) : Sc (((w.setCell ⟨R, 4, none⟩ (.int .i64 c')).setCell ⟨R, 5, none⟩ (.string ⟨#[]⟩)).setCell ⟨R, 6, none⟩ (.int .i64 a')) base R S i s c' a' := by
  obtain ⟨hle, tv, rv, hR, ht, hr⟩ := h
  have h1 := heap_set (i := 4) hR (.int .i64 c')
  have h2 := heap_set (i := 5) h1 (.string ⟨#[]⟩)
  exact ⟨hle, tv, rv, heap_set h2 _, own_setR (own_setR (own_setR ht hR (by decide)) h1 (by decide)) h2 (by decide), own_setR (own_setR (own_setR hr hR (by decide)) h1 (by decide)) h2 (by decide)⟩
/-- a token more -/
theorem sc_tok {w W w1 : World} {base R g cap : Nat} {S : ByteArray} {i : Nat} {s : St} {c a : Nat} {tv rv : Value} {t : Tk} (hle : base ≤ R) (hR : w.heap[R]? = some (.cells #[.string S, .int .i64 i, tv, rv, .int .i64 c, .string ⟨#[]⟩, .int .i64 a] 45 (0, 0)))
    (ht : w.ownsRow base 38 4 tv s.toks.length (flT s.toks)) (hr : w.ownsRow base 33 2 rv s.rems.length (flS s.rems)) (hb : Below w.heap.size w W) (hg : W.grownBy w1 tv.ownBlock)
    (ho : w1.ownsRow base 38 4 (.slice (some ⟨g, 0, none⟩) (s.toks.length + 1) cap) (s.toks.length + 1) (flT s.toks ++ tkC t)) :
    Sc (w1.setCell ⟨R, 2, none⟩ (.slice (some ⟨g, 0, none⟩) (s.toks.length + 1) cap)) base R S i ⟨s.toks ++ [t], s.rems⟩ c a ∧ Below base w (w1.setCell ⟨R, 2, none⟩ (.slice (some ⟨g, 0, none⟩) (s.toks.length + 1) cap)) := by
  have hlt := (Array.getElem?_eq_some_iff.1 hR).1
  have hR1 : w1.heap[R]? = some (.cells #[.string S, .int .i64 i, tv, rv, .int .i64 c, .string ⟨#[]⟩, .int .i64 a] 45 (0, 0)) := grown_old ht hb hg hR (fun c fz h => by injection h with _ h2 _; exact absurd h2 (by decide))
  refine ⟨⟨hle, _, rv, heap_set hR1 _, ?_, ?_⟩, ?_⟩
  · show World.ownsRow _ base 38 4 _ (s.toks ++ [t]).length (flT (s.toks ++ [t]))
    rw [flT_snoc, List.length_append]
    exact own_setR ho hR1 (by decide)
  · have hr1 : w1.ownsRow base 33 2 rv s.rems.length (flS s.rems) := own_far hr (fun k hk => by
      obtain ⟨_, c, hc⟩ := own_blk hr hk
      rw [grown_old ht hb hg hc (fun c fz h => by injection h with _ h2 _; exact absurd h2 (by decide)), hc])
    exact own_setR hr1 hR1 (by decide)
  · exact ((Below.refl base w).trans (Below.mono hb (by omega))).grown hg (by have := hb.size; omega) (fun k hk => (own_blk ht hk).1) |>.setCell hle _
/-- a remark more -/
theorem sc_rem {w W w1 : World} {base R g cap : Nat} {S : ByteArray} {i : Nat} {s : St} {c a : Nat} {tv rv : Value} {t : Nat × Nat} (hle : base ≤ R) (hR : w.heap[R]? = some (.cells #[.string S, .int .i64 i, tv, rv, .int .i64 c, .string ⟨#[]⟩, .int .i64 a] 45 (0, 0)))
    (ht : w.ownsRow base 38 4 tv s.toks.length (flT s.toks)) (hr : w.ownsRow base 33 2 rv s.rems.length (flS s.rems)) (hb : Below w.heap.size w W) (hg : W.grownBy w1 rv.ownBlock)
    (ho : w1.ownsRow base 33 2 (.slice (some ⟨g, 0, none⟩) (s.rems.length + 1) cap) (s.rems.length + 1) (flS s.rems ++ spC t)) :
    Sc (w1.setCell ⟨R, 3, none⟩ (.slice (some ⟨g, 0, none⟩) (s.rems.length + 1) cap)) base R S i ⟨s.toks, s.rems ++ [t]⟩ c a ∧ Below base w (w1.setCell ⟨R, 3, none⟩ (.slice (some ⟨g, 0, none⟩) (s.rems.length + 1) cap)) := by
  have hlt := (Array.getElem?_eq_some_iff.1 hR).1
  have hR1 : w1.heap[R]? = some (.cells #[.string S, .int .i64 i, tv, rv, .int .i64 c, .string ⟨#[]⟩, .int .i64 a] 45 (0, 0)) := grown_old hr hb hg hR (fun c fz h => by injection h with _ h2 _; exact absurd h2 (by decide))
  refine ⟨⟨hle, tv, _, heap_set hR1 _, ?_, ?_⟩, ?_⟩
  · have ht1 : w1.ownsRow base 38 4 tv s.toks.length (flT s.toks) := own_far ht (fun k hk => by
      obtain ⟨_, c, hc⟩ := own_blk ht hk
      rw [grown_old hr hb hg hc (fun c fz h => by injection h with _ h2 _; exact absurd h2 (by decide)), hc])
    exact own_setR ht1 hR1 (by decide)
  · show World.ownsRow _ base 33 2 _ (s.rems ++ [t]).length (flS (s.rems ++ [t]))
    rw [flS_snoc, List.length_append]
    exact own_setR ho hR1 (by decide)
  · exact ((Below.refl base w).trans (Below.mono hb (by omega))).grown hg (by have := hb.size; omega) (fun k hk => (own_blk hr hk).1) |>.setCell hle _
theorem Sc.open2 {w : World} {base R : Nat} {S : ByteArray} {i : Nat} {s : St} {c a : Nat} (h : Sc w base R S i s c a) : ∃ tv, w.cell? ⟨R, 2, none⟩ = some tv ∧ tv.ownBlock ≠ some R ∧ w.ownsRow base 38 4 tv s.toks.length (flT s.toks) ∧
    (∀ {W w1 : World} {g cap : Nat} {t : Tk}, Below w.heap.size w W → W.grownBy w1 tv.ownBlock → w1.ownsRow base 38 4 (.slice (some ⟨g, 0, none⟩) (s.toks.length + 1) cap) (s.toks.length + 1) (flT s.toks ++ tkC t) →
      Sc (w1.setCell ⟨R, 2, none⟩ (.slice (some ⟨g, 0, none⟩) (s.toks.length + 1) cap)) base R S i ⟨s.toks ++ [t], s.rems⟩ c a ∧ Below base w (w1.setCell ⟨R, 2, none⟩ (.slice (some ⟨g, 0, none⟩) (s.toks.length + 1) cap))) := by
  obtain ⟨hle, tv, rv, hR, ht, hr⟩ := h
  exact ⟨tv, by simp [World.cell?, hR], own_ne ht hR (by decide), ht, fun hb hg ho => sc_tok hle hR ht hr hb hg ho⟩
theorem Sc.open3 {w : World} {base R : Nat} {S : ByteArray} {i : Nat} {s : St} {c a : Nat} (h : Sc w base R S i s c a) : ∃ rv, w.cell? ⟨R, 3, none⟩ = some rv ∧ rv.ownBlock ≠ some R ∧ w.ownsRow base 33 2 rv s.rems.length (flS s.rems) ∧
    (∀ {W w1 : World} {g cap : Nat} {t : Nat × Nat}, Below w.heap.size w W → W.grownBy w1 rv.ownBlock → w1.ownsRow base 33 2 (.slice (some ⟨g, 0, none⟩) (s.rems.length + 1) cap) (s.rems.length + 1) (flS s.rems ++ spC t) →
      Sc (w1.setCell ⟨R, 3, none⟩ (.slice (some ⟨g, 0, none⟩) (s.rems.length + 1) cap)) base R S i ⟨s.toks, s.rems ++ [t]⟩ c a ∧ Below base w (w1.setCell ⟨R, 3, none⟩ (.slice (some ⟨g, 0, none⟩) (s.rems.length + 1) cap))) := by
  obtain ⟨hle, tv, rv, hR, ht, hr⟩ := h
  exact ⟨rv, by simp [World.cell?, hR], own_ne hr hR (by decide), hr, fun hb hg ho => sc_rem hle hR ht hr hb hg ho⟩
end Go.Proofs.YtmfdfkbcommjfaaDoor
