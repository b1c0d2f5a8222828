/-
  Texts, and rows of texts of one's own.
-/
import Derived.Test.YtifcikhgbafegabTyr
import Derived.Test.YtifcikhgbafegabTys
namespace Go.Proofs.Ytifcikhgbafegab
open Go.RowKit
abbrev Bs := List UInt8
def bs (l : Bs) : ByteArray := ⟨l.toArray⟩
theorem bs_size (l : Bs) : (bs l).size = l.length := by simp [bs, ByteArray.size]
theorem bs_list (l : Bs) : (bs l).data.toList = l := by simp [bs]
theorem bs_app (a b : Bs) : bs a ++ bs b = bs (a ++ b) := ByteArray.mk_append_mk a b
/-- a text's bytes -/
def LB (b : ByteArray) : Bs := b.data.toList
theorem bs_LB (b : ByteArray) : bs (LB b) = b := rfl
theorem LB_len (b : ByteArray) : (LB b).length = b.size := Array.length_toList
theorem own_far {w w' : World} {base n size : Nat} {e : TypeId} {v : Value} {xs : List Value} (h : w.ownsRow base e size v n xs) (hk : ∀ k, v.ownBlock = some k → w'.heap[k]? = w.heap[k]?) : w'.ownsRow base e size v n xs := by
  refine ⟨h.1, ?_⟩
  rcases h.2 with h' | ⟨g, cap, cur, hv, h1, h2, h3⟩
  · exact .inl h'
  · exact .inr ⟨g, cap, cur, hv, h1, (hk g (by rw [hv]; rfl)).trans h2, h3⟩
theorem own_blk {w : World} {base n size k : Nat} {e : TypeId} {v : Value} {xs : List Value} (h : w.ownsRow base e size v n xs) (hk : v.ownBlock = some k) : base ≤ k ∧ ∃ c, w.heap[k]? = some (.cells c e (0, 0)) := by
  rcases h.2 with ⟨h', _⟩ | ⟨g, cap, cur, hv, h1, h2, h3⟩
  · rw [h'] at hk; cases hk
  · rw [hv] at hk
    have : g = k := Option.some.inj hk
    subst this
    exact ⟨h1, cur, h2⟩
theorem own_slice {w : World} {base n size : Nat} {e : TypeId} {v : Value} {xs : List Value} (h : w.ownsRow base e size v n xs) : ∃ a c, v = .slice a n c := by
  rcases h.2 with ⟨h', rfl⟩ | ⟨g, cap, cur, hv, _⟩
  · exact ⟨none, 0, h'⟩
  · exact ⟨_, cap, hv⟩
theorem own_whole {w w' : World} {base n size : Nat} {e : TypeId} {v : Value} {xs : List Value} (h : w.ownsRow base e size v n xs) (hb : Below w.heap.size w w') : w'.ownsRow base e size v n xs :=
  own_far h fun k hk => hb.block k (h.lt k hk).2
/-- texts as values -/
def sv (l : List Bs) : List Value := l.map fun t => .string (bs t)
theorem sv_len (l : List Bs) : (sv l).length = l.length := by simp [sv]
theorem sv_get {l : List Bs} {i : Nat} {t : Bs} (h : l[i]? = some t) : (sv l)[i]? = some (.string (bs t)) := by simp [sv, h]
set_option maxRecDepth 100000 in
theorem info9_ex : ∃ i0, Try.prog.info? 9 = some i0 ∧ i0.zero = some (.string ⟨#[]⟩) ∧ i0.size = 1 ∧ i0.bytes = 16 := ⟨_, rfl, rfl, rfl, rfl⟩
/-- a row of texts of one's own -/
abbrev SRow (w : World) (base : Nat) (v : Value) (l : List Bs) : Prop := w.ownsRow base 9 1 v l.length (sv l)
theorem SRow.nil (w : World) (base : Nat) : SRow w base (.slice none 0 0) [] := World.ownsRow_nil _ _ _ _
theorem SRow.blk {w : World} {base : Nat} {v : Value} {l : List Bs} (h : SRow w base v l) {k : Nat} (hk : v.ownBlock = some k) : base ≤ k ∧ k < w.heap.size := h.lt k hk
theorem cell_new (w : World) (v : Value) (T : TypeId) : (w.alloc (.cells #[v] T)).cell? ⟨w.heap.size, 0, none⟩ = some v := by
  have h : (w.alloc (.cells #[v] T)).heap[w.heap.size]? = some (.cells #[v] T) := by show (w.heap.push _)[w.heap.size]? = _; simp
  simp only [World.cell?, h]; rfl
set_option maxRecDepth 100000 in
/-- one text more -/
theorem wp_app1 {w : World} {ops : Array Oper} {rest : List Oper} {o : Oper} {a : Act} {Q : Exit → Act → World → Prop} (hgd : o.guard = none) (s x : Operand)
    (ho : o.op = .call { callee := .builtin .append, args := #[s, x], argTypes := #[22, 22] }) (base : Nat) (v : Value) (l : List Bs) (t : Bs) (b0 : Nat)
    (hs : a.eval s = v) (hown : SRow w base v l) (hx : a.eval x = .slice (some ⟨b0, 0, none⟩) 1 1) (hb0 : w.cell? ⟨b0, 0, none⟩ = some (.string (bs t))) (hl : l.length ≤ 1000000) (hbase : base ≤ w.heap.size)
    (h : ∀ g cap w', SRow w' base (.slice (some ⟨g, 0, none⟩) (l.length + 1) cap) (l ++ [t]) → w.grownBy w' v.ownBlock → g < w'.heap.size → wpList Try.prog ops Q rest (a.put o.dst (.slice (some ⟨g, 0, none⟩) (l.length + 1) cap)) w') : wpList Try.prog ops Q (o :: rest) a w := by
  obtain ⟨i0, i1, i2, i3, i4⟩ := info9_ex
  refine wpList_append_lies w hgd s x 22 ho base 9 i0 _ 1 16 Try.underlying22 i1 i2 i3 i4 rfl (by omega) v l.length (sv l) hs hown ⟨b0, 0, none⟩ 1 1 [.string (bs t)] hx rfl ?_ (by simp [Value.oneCell']) (by omega) (by unfold maxLen; omega) (by omega) hbase w.heap.size rfl ?_
  · intro j u hj
    cases j with
    | zero => simp at hj; subst hj; simpa [Addr.add] using hb0
    | succ j => simp at hj
  · intro g cap w' hown' hgrow _ hlt
    refine h g cap w' ?_ hgrow hlt
    have e : sv (l ++ [t]) = sv l ++ [.string (bs t)] := by simp [sv]
    simp only [SRow, e, List.length_append, List.length_cons, List.length_nil]
    exact hown'
theorem SRow.stored {w : World} {base g cap : Nat} {l : List Bs} (h : SRow w base (.slice (some ⟨g, 0, none⟩) l.length cap) l) (j : Nat) (t : Bs) : SRow (w.setCell ⟨g, j, none⟩ (.string (bs t))) base (.slice (some ⟨g, 0, none⟩) l.length cap) (l.set j t) := by
  have := (World.ownsRow.stored h j (.string (bs t))).1
  have e : sv (l.set j t) = (sv l).set j (.string (bs t)) := by simp [sv, List.map_set]
  simp only [SRow, e, List.length_set]
  exact this
theorem SRow.get {w : World} {base g cap : Nat} {l : List Bs} (h : SRow w base (.slice (some ⟨g, 0, none⟩) l.length cap) l) {j : Nat} (hj : j < l.length) : w.cell? ⟨g, j, none⟩ = some (.string (bs l[j])) ∧ w.frozen? ⟨g, j, none⟩ = false := by
  constructor
  · rw [World.ownsRow.cellAt h j (by omega)]
    simp [sv, hj]
  · exact World.ownsRow.frozenAt h j
/-- a slice reads as these texts -/
abbrev TxB := RowV (fun l : Bs => Value.string (bs l))
theorem SRow.txb {w : World} {base : Nat} {v : Value} {l : List Bs} (h : SRow w base v l) : TxB (fun b => base ≤ b) w v l := by
  rcases h.2 with ⟨h', h0⟩ | ⟨g, cap, cur, hv, h1, h3, h4, h5, _⟩
  · exact .inl ⟨_, _, h', List.eq_nil_of_length_eq_zero h0⟩
  · refine .inr ⟨g, 0, cap, hv, ?_, (Array.getElem?_eq_some_iff.1 h3).1, h1, fun i t ht => ?_⟩
    · unfold maxLen at h5; omega
    · have := h.cells (g := g) (by rw [hv]; rfl) i _ (sv_get ht)
      rw [Addr.add_lit] at this
      exact this
theorem SRow.base {w : World} {b b' : Nat} {v : Value} {l : List Bs} (h : SRow w b v l) (hb : b' ≤ b) : SRow w b' v l := by
  refine ⟨h.1, ?_⟩
  rcases h.2 with h' | ⟨g, cap, cur, hv, h1, h2⟩
  · exact .inl h'
  · exact .inr ⟨g, cap, cur, hv, by omega, h2⟩
theorem strB {B : BQ} {w : World} {v : Value} {l : List ByteArray} (h : StrV B w v l) : TxB B w v (l.map LB) := by
  rcases h with ⟨a, c, e, rfl⟩ | ⟨b, o, c, e, hl, hb, h1, h2⟩
  · exact .inl ⟨a, c, e, rfl⟩
  · refine .inr ⟨b, o, c, by simpa using e, by simpa using hl, hb, h1, fun i x hx => ?_⟩
    rw [List.getElem?_map, Option.map_eq_some_iff] at hx
    obtain ⟨s, hs, rfl⟩ := hx
    exact h2 i s hs
/-- texts with something between -/
def joinF (sep : Bs) : Bool → List Bs → Bs
  | _, [] => []
  | f, x :: r => (if f then [] else sep) ++ x ++ joinF sep false r
end Go.Proofs.Ytifcikhgbafegab

