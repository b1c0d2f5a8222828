/-
  The document's Name, Basic, Default and Make, walked.
-/
import Derived.Test.YtcmnhkopmkaiaaaTyr
import Derived.Test.YtcmnhkopmkaiaaaTys
namespace Go.Proofs.Ytcmnhkopmkaiaaa
open Go.RowKit
attribute [local go_sem ↓] Go.wp_at_zero Go.wp_at_succ
/-- a type is answered -/
structure TyQ (w : World) (K : BQ) (t : Ty) (e : Ending) (w' : World) : Prop where
  bl : Below w.heap.size w w'
  ex : ∃ vn vm vk, e = .returned (agT t vn vm vk) ∧ Prt K w' t vn vm vk
theorem results_cell {P : Program} {f : Func} {tmps : Array Value} {W : World} {a t : Nat} {ad : Addr} {v : Value} (hf : f.results = #[.cell a t]) (ha : tmps.getD a undef = .pointer (some ad)) (hl : (loadVar t ad).run P W = .ok v W) : (results f tmps).run P W = .ok v W := by
  unfold results
  rw [hf]
  have ha2 : tmps[a]?.getD undef = .pointer (some ad) := by rw [← ha]; simp
  simp [ha2, asAddr, hl]
set_option maxRecDepth 100000 in
theorem resT {w : World} {g : Nat} {a b c d x y z : Value} (hg : w.heap[g]? = some (.cells #[a, b, c, d, x, y, z] 26 (0, 0))) : (loadVar 26 ⟨g, 0, none⟩).run Try.prog w = .ok (.agg #[a, b, c, d, x, y, z]) w :=
  run_loadVar_row w g _ _ _ _ _ hg Try.underlying26 rfl rfl
theorem prt_nil {K : BQ} {W : World} (k : Int) (nm : ByteArray) (n : Int) (f : Bool) : Prt K W (.mk k nm n f [] [] []) (.slice none 0 0) (.slice none 0 0) (.slice none 0 0) :=
  ⟨.inl ⟨_, _, rfl, rfl⟩, .inl ⟨_, _, rfl, rfl⟩, .inl ⟨_, _, rfl, rfl⟩⟩
abbrev NIL : Value := .slice none 0 0
theorem bx7f {w : World} {B : Nat} {a b c d e f g : Value} {T : TypeId} (h : w.heap[B]? = some (.cells #[a, b, c, d, e, f, g] T (0, 0))) : w.frozen? ⟨B, 0, none⟩ = false ∧ w.frozen? ⟨B, 1, none⟩ = false ∧ w.frozen? ⟨B, 2, none⟩ = false ∧ w.frozen? ⟨B, 3, none⟩ = false ∧ w.frozen? ⟨B, 4, none⟩ = false ∧ w.frozen? ⟨B, 5, none⟩ = false ∧ w.frozen? ⟨B, 6, none⟩ = false := by
  simp [World.frozen?, h]
/-- what a constant's type becomes -/
def Ty.dfl (t : Ty) : Ty := if t.kind = 4 then .mk 1 ⟨#[]⟩ 0 false [] [] [] else if t.kind = 5 then .mk 2 ⟨#[]⟩ 0 false [] [] [] else if t.kind = 6 then .mk 3 ⟨#[]⟩ 0 false [] [] [] else t
theorem bx7_set {w : World} {g : Nat} {a b c d x y z a' b' c' d' x' y' z' : Value} {T : TypeId} (h : w.heap[g]? = some (.cells #[a, b, c, d, x, y, z] T (0, 0))) : (((((((w.setCell ⟨g, 0, none⟩ a').setCell ⟨g, 1, none⟩ b').setCell ⟨g, 2, none⟩ c').setCell ⟨g, 3, none⟩ d').setCell ⟨g, 4, none⟩ x').setCell ⟨g, 5, none⟩ y').setCell ⟨g, 6, none⟩ z').heap[g]? = some (.cells #[a', b', c', d', x', y', z'] T (0, 0)) := by
  simp [World.setCell, Array.getElem?_modify, h]
theorem kx_set {w : World} {B o : Nat} {v : Value} : Kx (· = B) w (w.setCell ⟨B, o, none⟩ v) :=
  ⟨rfl, rfl, rfl, by simp [World.setCell], fun b _ h hb => (Below.heap_setCell w ⟨B, o, none⟩ v b hb).trans h⟩
theorem kx_set7 {w : World} {g : Nat} {a b c d x y z : Value} : Kx (· = g) w (((((((w.setCell ⟨g, 0, none⟩ a).setCell ⟨g, 1, none⟩ b).setCell ⟨g, 2, none⟩ c).setCell ⟨g, 3, none⟩ d).setCell ⟨g, 4, none⟩ x).setCell ⟨g, 5, none⟩ y).setCell ⟨g, 6, none⟩ z) :=
  (((((kx_set.trans kx_set).trans kx_set).trans kx_set).trans kx_set).trans kx_set).trans kx_set
theorem below_kx1 {w W W' : World} {X : Nat} (h : Below w.heap.size w W) (k : Kx (· = X) W W') (hX : w.heap.size ≤ X) : Below w.heap.size w W' :=
  ⟨k.os.trans h.os, k.tape.trans h.tape, k.output.trans h.output, Nat.le_trans h.size k.size, fun b hb => by
    have h1 := h.block b hb
    rw [Array.getElem?_eq_getElem hb] at h1 ⊢
    exact k.keep b _ h1 (by omega)⟩
end Go.Proofs.Ytcmnhkopmkaiaaa

