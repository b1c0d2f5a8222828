/-
  The reader in memory: its source, its tokens, its remarks; and what add does.
-/
import Derived.Test.YtmfdfkbcommjfaaDoorSaA
import Derived.Deep.RegionHeld3
import Derived.Deep.AppendLies
import Derived.Deep.RegionLaw
import Derived.Laws.IdiomStrings
import Derived.Lib.OthersKept
namespace Go.Proofs.YtmfdfkbcommjfaaDoor
open Go.RowKit
attribute [local go_sem ↓] Go.wp_at_zero Go.wp_at_succ
def bsL (l : List UInt8) : ByteArray := ⟨l.toArray⟩
/-- the cells of a token, of a row of tokens, of a row of spans -/
def tkC (t : Tk) : List Value := [.int .i64 t.kind, .int .i64 t.lo, .int .i64 t.hi, .string (bsL t.text)]
def flT (l : List Tk) : List Value := l.flatMap tkC
def spC (x : Nat × Nat) : List Value := [.int .i64 x.1, .int .i64 x.2]
def flS (l : List (Nat × Nat)) : List Value := l.flatMap spC
theorem flT_snoc (l : List Tk) (t : Tk) : flT (l ++ [t]) = flT l ++ tkC t := by simp [flT]
theorem flS_snoc (l : List (Nat × Nat)) (t : Nat × Nat) : flS (l ++ [t]) = flS l ++ spC t := by simp [flS]
/-- a reader in block R -/
structure Rd (w : World) (base R : Nat) (S : ByteArray) (s : St) : Prop where
  le : base ≤ R
  ex : ∃ tv rv, w.heap[R]? = some (.cells #[.string S, tv, rv] 60 (0, 0)) ∧ w.ownsRow base 38 4 tv s.toks.length (flT s.toks) ∧ w.ownsRow base 33 2 rv s.rems.length (flS s.rems)
/-- what is neither the reader nor a row of tokens, spans or bytes stands as it stood -/
def Oth (R : Nat) (w w' : World) : Prop := ∀ k o, w.heap[k]? = some o → k ≠ R → (∀ c e fz, o = .cells c e fz → e ≠ 38 ∧ e ≠ 33 ∧ e ≠ 5) → w'.heap[k]? = some o
theorem Oth.refl (R : Nat) (w : World) : Oth R w w := fun _ _ h _ _ => h
theorem Oth.trans {R : Nat} {a b c : World} (h : Oth R a b) (k : Oth R b c) : Oth R a c := fun i o hi hR ho => k i o (h i o hi hR ho) hR ho
theorem Oth.below {R : Nat} {w w' : World} (h : Below w.heap.size w w') : Oth R w w' := fun k _ hk _ _ => (h.block k (Array.getElem?_eq_some_iff.1 hk).1).trans hk
theorem own_far {w w' : World} {base n size : Nat} {e : TypeId} {v : Value} {xs : List Value} (h : w.ownsRow base e size v n xs) (hk : ∀ k, v.ownBlock = some k → w'.heap[k]? = w.heap[k]?) : w'.ownsRow base e size v n xs := by
  refine ⟨h.1, ?_⟩
  rcases h.2 with h' | ⟨g, cap, cur, hv, h1, h2, h3⟩
  · exact .inl h'
  · exact .inr ⟨g, cap, cur, hv, h1, (hk g (by rw [hv]; rfl)).trans h2, h3⟩
theorem own_blk {w : World} {base n size k : Nat} {e : TypeId} {v : Value} {xs : List Value} (h : w.ownsRow base e size v n xs) (hk : v.ownBlock = some k) : base ≤ k ∧ ∃ c, w.heap[k]? = some (.cells c e (0, 0)) := by
  rcases h.2 with ⟨h', _⟩ | ⟨g, cap, cur, hv, h1, h2, h3⟩
  · rw [h'] at hk; cases hk
  · rw [hv] at hk
    have : g = k := Option.some.inj hk
    subst this
    exact ⟨h1, cur, h2⟩
theorem own_ne {w : World} {base n size R : Nat} {e T : TypeId} {v : Value} {xs : List Value} {cs : Array Value} {fz : Nat × Nat} (h : w.ownsRow base e size v n xs) (hR : w.heap[R]? = some (.cells cs T fz)) (hT : T ≠ e) : v.ownBlock ≠ some R := fun hk => by
  obtain ⟨_, c, hc⟩ := own_blk h hk
  rw [hc] at hR
  have := Option.some.inj hR
  injection this with _ h2 _
  exact hT h2.symm
/-- what an append to a row leaves as it was -/
theorem grown_old {w W w1 : World} {base n size : Nat} {e : TypeId} {tv : Value} {xs : List Value} (ho : w.ownsRow base e size tv n xs) (hb : Below w.heap.size w W) (hg : W.grownBy w1 tv.ownBlock) {k : Nat} {o : Obj} (hk : w.heap[k]? = some o) (hne : ∀ c fz, o ≠ .cells c e fz) : w1.heap[k]? = some o := by
  have hlt := (Array.getElem?_eq_some_iff.1 hk).1
  have hlt2 : k < W.heap.size := Nat.lt_of_lt_of_le hlt hb.size
  rw [hg.block k hlt2 ?_, hb.block k hlt, hk]
  intro h
  obtain ⟨_, c, hc⟩ := own_blk ho h.symm
  rw [hk] at hc
  exact hne c _ (Option.some.inj hc)
theorem heap_set {w : World} {R i : Nat} {cs : Array Value} {T : TypeId} (h : w.heap[R]? = some (.cells cs T (0, 0))) (v : Value) : (w.setCell ⟨R, i, none⟩ v).heap[R]? = some (.cells (cs.setIfInBounds i v) T (0, 0)) := heap_setCell_same w R i cs T v h
/-- a token more -/
theorem rd_tok {w W w1 : World} {base R g cap : Nat} {S : ByteArray} {s : St} {tv rv : Value} {t : Tk} (hle : base ≤ R) (hR : w.heap[R]? = some (.cells #[.string S, tv, rv] 60 (0, 0)))
    (ht : w.ownsRow base 38 4 tv s.toks.length (flT s.toks)) (hr : w.ownsRow base 33 2 rv s.rems.length (flS s.rems)) (hb : Below w.heap.size w W) (hg : W.grownBy w1 tv.ownBlock)
    (ho : w1.ownsRow base 38 4 (.slice (some ⟨g, 0, none⟩) (s.toks.length + 1) cap) (s.toks.length + 1) (flT s.toks ++ tkC t)) :
    Rd (w1.setCell ⟨R, 1, none⟩ (.slice (some ⟨g, 0, none⟩) (s.toks.length + 1) cap)) base R S ⟨s.toks ++ [t], s.rems⟩ ∧ Below base w (w1.setCell ⟨R, 1, none⟩ (.slice (some ⟨g, 0, none⟩) (s.toks.length + 1) cap)) ∧ Oth R w (w1.setCell ⟨R, 1, none⟩ (.slice (some ⟨g, 0, none⟩) (s.toks.length + 1) cap)) := by
  have hlt := (Array.getElem?_eq_some_iff.1 hR).1
  have hR1 : w1.heap[R]? = some (.cells #[.string S, tv, rv] 60 (0, 0)) := grown_old ht hb hg hR (fun c fz h => by injection h with _ h2 _; exact absurd h2 (by decide))
  have hne : g ≠ R := fun h => own_ne ho hR1 (by decide) (by rw [h]; rfl)
  refine ⟨⟨hle, _, rv, heap_set hR1 _, ?_, ?_⟩, ?_, ?_⟩
  · show World.ownsRow _ base 38 4 _ (s.toks ++ [t]).length (flT (s.toks ++ [t]))
    rw [flT_snoc, List.length_append]
    exact own_far ho (fun k hk => Below.heap_setCell _ _ _ _ (fun h => by
      have h1 : g = k := Option.some.inj hk
      exact hne (h1.trans h)))
  · refine own_far hr (fun k hk => ?_)
    obtain ⟨_, c, hc⟩ := own_blk hr hk
    rw [Below.heap_setCell _ _ _ _ (fun h => own_ne hr hR (by decide) (by rw [hk, h]))]
    rw [grown_old ht hb hg hc (fun c fz h => by injection h with _ h2 _; exact absurd h2 (by decide)), hc]
  · refine ((Below.refl base w).trans (Below.mono hb (by omega))).grown hg (by have := hb.size; omega) (fun k hk => (own_blk ht hk).1) |>.setCell hle _
  · intro k o hk hkR hoo
    rw [Below.heap_setCell _ _ _ _ hkR]
    exact grown_old ht hb hg hk (fun c fz h => (hoo c 38 fz h).1 rfl)
/-- a remark more -/
theorem rd_rem {w W w1 : World} {base R g cap : Nat} {S : ByteArray} {s : St} {tv rv : Value} {t : Nat × Nat} (hle : base ≤ R) (hR : w.heap[R]? = some (.cells #[.string S, tv, rv] 60 (0, 0)))
    (ht : w.ownsRow base 38 4 tv s.toks.length (flT s.toks)) (hr : w.ownsRow base 33 2 rv s.rems.length (flS s.rems)) (hb : Below w.heap.size w W) (hg : W.grownBy w1 rv.ownBlock)
    (ho : w1.ownsRow base 33 2 (.slice (some ⟨g, 0, none⟩) (s.rems.length + 1) cap) (s.rems.length + 1) (flS s.rems ++ spC t)) :
    Rd (w1.setCell ⟨R, 2, none⟩ (.slice (some ⟨g, 0, none⟩) (s.rems.length + 1) cap)) base R S ⟨s.toks, s.rems ++ [t]⟩ ∧ Below base w (w1.setCell ⟨R, 2, none⟩ (.slice (some ⟨g, 0, none⟩) (s.rems.length + 1) cap)) ∧ Oth R w (w1.setCell ⟨R, 2, none⟩ (.slice (some ⟨g, 0, none⟩) (s.rems.length + 1) cap)) := by
  have hlt := (Array.getElem?_eq_some_iff.1 hR).1
  have hR1 : w1.heap[R]? = some (.cells #[.string S, tv, rv] 60 (0, 0)) := grown_old hr hb hg hR (fun c fz h => by injection h with _ h2 _; exact absurd h2 (by decide))
  have hne : g ≠ R := fun h => own_ne ho hR1 (by decide) (by rw [h]; rfl)
  refine ⟨⟨hle, tv, _, heap_set hR1 _, ?_, ?_⟩, ?_, ?_⟩
  · refine own_far ht (fun k hk => ?_)
    obtain ⟨_, c, hc⟩ := own_blk ht hk
    rw [Below.heap_setCell _ _ _ _ (fun h => own_ne ht hR (by decide) (by rw [hk, h]))]
    rw [grown_old hr hb hg hc (fun c fz h => by injection h with _ h2 _; exact absurd h2 (by decide)), hc]
  · show World.ownsRow _ base 33 2 _ (s.rems ++ [t]).length (flS (s.rems ++ [t]))
    rw [flS_snoc, List.length_append]
    exact own_far ho (fun k hk => Below.heap_setCell _ _ _ _ (fun h => by
      have h1 : g = k := Option.some.inj hk
      exact hne (h1.trans h)))
  · refine ((Below.refl base w).trans (Below.mono hb (by omega))).grown hg (by have := hb.size; omega) (fun k hk => (own_blk hr hk).1) |>.setCell hle _
  · intro k o hk hkR hoo
    rw [Below.heap_setCell _ _ _ _ hkR]
    exact grown_old hr hb hg hk (fun c fz h => (hoo c 33 fz h).2.1 rfl)
theorem Rd.below {w w' : World} {base R : Nat} {S : ByteArray} {s : St} (h : Rd w base R S s) (hb : Below w.heap.size w w') : Rd w' base R S s := by
  obtain ⟨hle, tv, rv, hR, ht, hr⟩ := h
  have hlt : ∀ {k : Nat} {o : Obj}, w.heap[k]? = some o → w'.heap[k]? = w.heap[k]? := fun hk => hb.block _ (Array.getElem?_eq_some_iff.1 hk).1
  exact ⟨hle, tv, rv, (hlt hR).trans hR, own_far ht (fun k hk => hlt (own_blk ht hk).2.choose_spec), own_far hr (fun k hk => hlt (own_blk hr hk).2.choose_spec)⟩
theorem info38_ex : ∃ i0, Tryd.prog.info? 38 = some i0 ∧ i0.zero = some (.agg #[.int .i64 0, .int .i64 0, .int .i64 0, .string ⟨#[]⟩]) ∧ i0.size = 4 ∧ i0.bytes = 40 := ⟨_, rfl, rfl, rfl, rfl⟩
theorem info33_ex : ∃ i0, Tryd.prog.info? 33 = some i0 ∧ i0.zero = some (.agg #[.int .i64 0, .int .i64 0]) ∧ i0.size = 2 ∧ i0.bytes = 16 := ⟨_, rfl, rfl, rfl, rfl⟩
end Go.Proofs.YtmfdfkbcommjfaaDoor
