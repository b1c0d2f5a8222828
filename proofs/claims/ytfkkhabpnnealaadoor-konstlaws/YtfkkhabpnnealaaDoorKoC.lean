/-
  The document's Unary, walked.
-/
import Derived.Test.YtfkkhabpnnealaaDoorKoB
namespace Go.Proofs.YtfkkhabpnnealaaDoor
open Go.RowKit
attribute [local go_sem ↓] Go.wp_at_zero Go.wp_at_succ
theorem res_ct {P : Program} {f : Func} {tmps : Array Value} {W : World} {a t b : Nat} {ad : Addr} {v u : Value} (hf : f.results = #[.cell a t, .tmp b]) (ha : tmps.getD a undef = .pointer (some ad)) (hb : tmps.getD b undef = u) (hl : (loadVar t ad).run P W = .ok v W) : (results f tmps).run P W = .ok (.tuple #[v, u]) W := by
  unfold results
  rw [hf]
  have ha2 : tmps[a]?.getD undef = .pointer (some ad) := by rw [← ha]; simp
  have hb2 : tmps[b]?.getD undef = u := by rw [← hb]; simp
  simp [ha2, hb2, asAddr, hl]
/-- what a sign gives: kind, sign, number, text, truth, error -/
structure Ans where
  k : Int
  s : Bool
  N : Nat
  t : ByteArray
  b : Bool
  e : Int
/-- it is answered -/
structure AnsQ (w : World) (r : Ans) (e : Ending) (w' : World) : Prop where
  ex : ∃ v, e = .returned (.tuple #[v, .int .i64 r.e]) ∧ CnR w' w.heap.size v r.k r.s r.N r.t r.b
  bl : Below w.heap.size w w'
def noA (e : Int) : Ans := ⟨0, false, 0, ⟨#[]⟩, false, e⟩
def unR (op : ByteArray) (k : Int) (s : Bool) (N : Nat) (b : Bool) : Ans :=
  if op.toList = [45] ∧ k = 1 then ⟨1, sgB (!s) N, N, ⟨#[]⟩, false, 0⟩ else if op.toList = [33] ∧ k = 3 then ⟨3, false, 0, ⟨#[]⟩, !b, 0⟩ else noA 6
end Go.Proofs.YtfkkhabpnnealaaDoor

