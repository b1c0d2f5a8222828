/-
  The document's Join, row and texts, walked.
-/
import Derived.Test.YtifcikhgbafegabStr
namespace Go.Proofs.Ytifcikhgbafegab
open Go.RowKit
attribute [local go_sem ↓] Go.wp_at_zero Go.wp_at_succ
theorem joinF_drop (sep : Bs) (l : List Bs) (i : Nat) (hi : i < l.length) (f : Bool) : joinF sep f (l.drop i) = (if f then [] else sep) ++ l[i] ++ joinF sep false (l.drop (i + 1)) := by
  rw [List.drop_eq_getElem_cons hi]; simp only [joinF]
/-- texts answered in new memory -/
structure TsQ (w : World) (l : List Bs) (e : Ending) (w' : World) : Prop where
  bl : Below w.heap.size w w'
  ex : ∃ a c, e = .returned (.slice a l.length c) ∧ SRow w' w.heap.size (.slice a l.length c) l
/-- parts within braces -/
def rowB (word : Bs) (l : List Bs) : Bs := if l = [] then word ++ [32, 123, 125] else word ++ [32, 123, 32] ++ joinF [59, 32] true l ++ [32, 125]
end Go.Proofs.Ytifcikhgbafegab

